/- Package vm: do: add (gen_vmf.py writes this text). -/
import Derived.Test.YtceflfdpbgnfjaaVmF
import Derived.StillTailTactics
set_option linter.unusedVariables false
namespace Go.Proofs.Ytceflfdpbgnfjaa
open Go.RowKit
open Go.Shelf Go.Sort
open SpanM hiding good
open SpanC IntsC
open RowsO hiding Em
namespace VmC
open VmP
open NumC (Row)
variable {w0 W : World} {x : Inp} {bx g cap : Nat} {s : St} {took : Nat} {ov : Value} {out : List Em}
set_option maxRecDepth 20000 in
set_option maxHeartbeats 1600000 in
theorem do_add (hs : Ok x.p s) (h : Mc w0 W x bx g cap s took ov out) (a b : Nat) (ha : a < 8) (hb : b < 8) :
    Calls Try.prog 38 #[pM bx, vIn 3 a b] W fun e W' => e = .returned (.tuple #[]) ∧ Mc w0 W' x bx g cap { s with regs := s.regs.set a (ar (s.regs.getD a 0 + s.regs.getD b 0)) } took ov out := by
  have c1 := h.c 1
  simp at c1
  have r1 := h.reg ha
  have r2 := h.reg hb
  have f1 := h.fro a
  have hg := h.ge.2
  have hl := h.lt
  have hn := h.ne
  have i1 : (a : Int) < 8 := by omega
  have i2 : (b : Int) < 8 := by omega
  have na := n32_iff.1 (reg_n hs a)
  have nb := n32_iff.1 (reg_n hs b)
  have era : VmP.reg s a = s.regs.getD a 0 := rfl
  have erb : VmP.reg s b = s.regs.getD b 0 := rfl
  rw [era] at na
  rw [erb] at nb
  have HM := hid h
  clear h era erb hs
  generalize s.regs.getD a 0 = ra at *
  generalize s.regs.getD b 0 = rb at *
  have hw : IntKind.i64.wrap (ra + rb) = ra + rb := sum_add na nb
  have hw2 : wrap64 (ra + rb) = ra + rb := by rw [← IntWalk.i64_left]; exact hw
  have HA := hid (fun w => around_any (ra + rb) w)
  clear na nb
  go_enter Try.func38, Try.ntmps38
  go_wp2_with fail
  have HM1 := hid (HM.out.alloc (.cells #[.int .i64 3, .int .i64 a, .int .i64 b] 45))
  have bb := box_new W #[.int .i64 3, .int .i64 a, .int .i64 b] 45
  have b1 : (W.alloc (.cells #[.int .i64 3, .int .i64 a, .int .i64 b] 45)).cell? ⟨W.heap.size, 1, none⟩ = some (.int .i64 a) := box_cell bb 1
  have b2 : (W.alloc (.cells #[.int .i64 3, .int .i64 a, .int .i64 b] 45)).cell? ⟨W.heap.size, 2, none⟩ = some (.int .i64 b) := box_cell bb 2
  have d1 := HM1.out.c 1
  have q1 := Lib.cell?_alloc_some (.cells #[.int .i64 3, .int .i64 a, .int .i64 b] 45) r1
  have q2 := Lib.cell?_alloc_some (.cells #[.int .i64 3, .int .i64 a, .int .i64 b] 45) r2
  have f2 := HM1.out.fro a
  simp at d1
  clear c1 r1 r2 f1 bb hg hl
  generalize W.alloc (.cells #[.int .i64 3, .int .i64 a, .int .i64 b] 45) = W1 at *
  generalize W.heap.size = bn at *
  refine wp_region_still_tail 27 mixd (by kernel_rfl) ?_
  simp only [List.take_succ_cons, List.take_zero, List.drop_succ_cons, List.drop_zero]
  have hdr : ({ W1 with drawn := W1.drawn + 1 } : World) = W1.drew := rfl
  rw [hdr]
  clear hdr
  repeat still_step
  still_call (HA.out _)
  refine wpStill_nil ?_
  all_goals go_wp2_with fail
  all_goals go_end0
  exact ⟨rfl, (HM1.out.setReg a _).drew⟩
end VmC
end Go.Proofs.Ytceflfdpbgnfjaa
