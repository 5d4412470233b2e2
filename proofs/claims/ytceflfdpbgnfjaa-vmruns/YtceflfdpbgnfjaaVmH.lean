/- Package vm: do: what comes in; jumps that lead nowhere. -/
import Derived.Test.YtceflfdpbgnfjaaVmF
import Derived.StillTailTactics
set_option linter.unusedVariables false
namespace Go.Proofs.Ytceflfdpbgnfjaa
open Go.RowKit
open Go.Shelf Go.Sort
open SpanM hiding good
open SpanC IntsC
open RowsO hiding Em
namespace VmC
open VmP
open NumC (Row)
variable {w0 W : World} {x : Inp} {bx g cap : Nat} {s : St} {took : Nat} {ov : Value} {out : List Em}
set_option maxRecDepth 20000 in
set_option maxHeartbeats 1600000 in
theorem do_in (hx : x.At w0) (h : Mc w0 W x bx g cap s took ov out) (a : Nat) (b : Int) (ha : a < 8) (ht : took < x.i.length) :
    Calls Try.prog 38 #[pM bx, vIn 9 a b] W fun e W' => e = .returned (.tuple #[]) ∧ Mc w0 W' x bx g cap { s with regs := s.regs.set a (x.i.getD took 0) } (took + 1) ov out := by
  have r1 := h.reg ha
  have hn := h.ne
  have hg := h.ge.2
  have hl := h.lt
  have i1 : (a : Int) < 8 := by omega
  have i2 : (took : Int) < (x.i.length : Int) := by omega
  have i3 : (took : Int) < 5000 := by have := hx.il; omega
  obtain ⟨p, off, hpi, hpl, e0⟩ := Row.at (Row.below hx.i h.bel (Nat.le_refl _)) took ht
  have hpb : p ≠ bx ∧ p ≠ g := by
    obtain ⟨p', off', e, hlt, _⟩ := Row.at hx.i took ht
    rw [hpi] at e
    simp only [Option.some.injEq, Addr.mk.injEq, and_true] at e
    obtain ⟨rfl, _⟩ := e
    have := h.cb
    have := h.ge.1
    exact ⟨by omega, by omega⟩
  have HM := hid h
  have HM1 := hid (h.alloc (.cells #[.int .i64 9, .int .i64 a, .int .i64 b] 45))
  have HS := hid (fun v => (h.alloc (.cells #[.int .i64 9, .int .i64 a, .int .i64 b] 45)).drew.setReg a v)
  have bb := box_new W #[.int .i64 9, .int .i64 a, .int .i64 b] 45
  have b1 : (W.alloc (.cells #[.int .i64 9, .int .i64 a, .int .i64 b] 45)).cell? ⟨W.heap.size, 1, none⟩ = some (.int .i64 a) := box_cell bb 1
  have b2 : (W.alloc (.cells #[.int .i64 9, .int .i64 a, .int .i64 b] 45)).cell? ⟨W.heap.size, 2, none⟩ = some (.int .i64 b) := box_cell bb 2
  have q1 := Lib.cell?_alloc_some (.cells #[.int .i64 9, .int .i64 a, .int .i64 b] 45) r1
  have q3 := Lib.cell?_alloc_some (.cells #[.int .i64 9, .int .i64 a, .int .i64 b] 45) e0
  clear h hx ht
  generalize s.regs.getD a 0 = ra at *
  generalize x.i.getD took 0 = xi at *
  go_enter Try.func38, Try.ntmps38
  go_wp2_with fail
  have d1 := HM1.out.c 1
  have d5 := HM1.out.c 5
  have d6 := HM1.out.c 6
  have f2 := HM1.out.fro a
  rw [show mcC x g cap s took ov = #[.int .i64 s.pc, vS g 8 cap, .bool s.halts, .bool s.fault, .slice x.pa x.p.length x.pc, .slice (some ⟨p, off, none⟩) x.i.length x.ic, .int .i64 took, ov] by rw [← hpi]] at d1 d5 d6
  simp at d1 d5 d6
  clear r1 e0 hpi bb
  generalize W.alloc (.cells #[.int .i64 9, .int .i64 a, .int .i64 b] 45) = W1 at *
  generalize W.heap.size = bn at *
  refine wp_region_still_tail 17 mixd (by kernel_rfl) ?_
  simp only [List.take_succ_cons, List.take_zero, List.drop_succ_cons, List.drop_zero]
  have hdr : ({ W1 with drawn := W1.drawn + 1 } : World) = W1.drew := rfl
  rw [hdr]
  clear hdr
  repeat still_step
  refine wpStill_nil ?_
  have HX := hid (HS.out xi)
  have y7 := froz_box HM1.out.box 6
  go_wp2_with fail
  go_end0
  refine ⟨rfl, ?_⟩
  exact HX.out.setBox 6 (.int .i64 ((took + 1 : Nat) : Int)) _ _ _ rfl HX.out.out (by simp)
set_option maxRecDepth 20000 in
set_option maxHeartbeats 400000 in
theorem do_jump (h : Mc w0 W x bx g cap s took ov out) (c a b : Int) (hc : c = 7 ∨ c = 8) :
    Calls Try.prog 38 #[pM bx, vIn c a b] W fun e W' => e = .returned (.tuple #[]) ∧ Mc w0 W' x bx g cap s took ov out := by
  have HM1 := hid (h.alloc (.cells #[.int .i64 c, .int .i64 a, .int .i64 b] 45))
  clear h
  rcases hc with rfl | rfl
  all_goals
    go_enter Try.func38, Try.ntmps38
    go_wp2_with fail
    go_end0
    exact ⟨rfl, HM1.out⟩
end VmC
end Go.Proofs.Ytceflfdpbgnfjaa
