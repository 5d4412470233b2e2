/- Package vm: jumps, do. -/
import Derived.Test.YtceflfdpbgnfjaaVmE
set_option linter.unusedVariables false
namespace Go.Proofs.Ytceflfdpbgnfjaa
open Go.RowKit
open Go.Shelf Go.Sort
open SpanM hiding good
open SpanC IntsC
open RowsO hiding Em
namespace VmC
open VmP
open NumC (Row)
variable {w0 W : World} {x : Inp} {bx g cap : Nat} {s : St} {took : Nat} {ov : Value} {out : List Em}
theorem Mc.below {W' : World} {C : Nat} (h : Mc w0 W x bx g cap s took ov out) (hb : Below C W W') (hC : W.heap.size ≤ C) : Mc w0 W' x bx g cap s took ov out :=
  ⟨h.bel.trans (hb.mono (by have := h.bel.size; omega)), box_below h.box hb hC, OwnI.below h.regs hb hC, OwnEm.below h.out hb hC, h.cb⟩
theorem Mc.alloc (h : Mc w0 W x bx g cap s took ov out) (o : Obj) : Mc w0 (W.alloc o) x bx g cap s took ov out := h.below ((Below.refl _ W).alloc (Nat.le_refl _) o) (Nat.le_refl _)
theorem Mc.drew (h : Mc w0 W x bx g cap s took ov out) : Mc w0 W.drew x bx g cap s took ov out := h.below (Below.refl _ W).drew (Nat.le_refl _)
theorem Mc.ge (h : Mc w0 W x bx g cap s took ov out) : w0.heap.size ≤ g ∧ g < W.heap.size := by
  rcases h.regs.form with ⟨e, _⟩ | ⟨g', c', e, h1, h2, _⟩
  · simp [vS] at e
  · simp only [vS, Value.slice.injEq, Option.some.injEq, Addr.mk.injEq, and_true] at e
    obtain ⟨rfl, _⟩ := e
    exact ⟨h1, h2⟩
theorem Mc.len (h : Mc w0 W x bx g cap s took ov out) : s.regs.length = 8 := by
  rcases h.regs.form with ⟨e, _⟩ | ⟨g', c', e, h1, h2, _⟩
  · simp [vS] at e
  · simp only [vS, Value.slice.injEq, Option.some.injEq, Addr.mk.injEq, and_true] at e
    exact e.2.1.symm
theorem Mc.ne (h : Mc w0 W x bx g cap s took ov out) : bx ≠ g := fun e => row_ne_box h.regs h.box (by decide) (by rw [e]; rfl)
theorem Mc.reg (h : Mc w0 W x bx g cap s took ov out) {a : Nat} (ha : a < 8) : W.cell? ⟨g, a, none⟩ = some (.int .i64 (s.regs.getD a 0)) := OwnI.cell h.regs a (by rw [h.len]; exact ha)
theorem Mc.fro (h : Mc w0 W x bx g cap s took ov out) (a : Nat) : W.frozen? ⟨g, a, none⟩ = false := OwnI.frozen h.regs h.len.symm a
theorem Mc.setReg (h : Mc w0 W x bx g cap s took ov out) (a : Nat) (v : Int) : Mc w0 (W.setCell ⟨g, a, none⟩ (.int .i64 v)) x bx g cap { s with regs := s.regs.set a v } took ov out := by
  obtain ⟨h1, h2⟩ := OwnI.set h.regs h.len.symm a v
  refine ⟨h.bel.setCell (p := ⟨g, a, none⟩) h.ge.1 _, ?_, h1, ?_, h.cb⟩
  · rw [heap_setCell_other _ _ _ _ h.ne]; exact h.box
  · exact World.ownsRow.kept h.out h2 (rows_ne h.out h.regs (by decide))
/-- a cell of the machine's own is turned -/
theorem Mc.setBox (h : Mc w0 W x bx g cap s took ov out) (j : Nat) (v : Value) (s' : St) (took' : Nat) (ov' : Value) (hr : s'.regs = s.regs) (ho : OwnEm W w0.heap.size ov' out) (he : (mcC x g cap s took ov).setIfInBounds j v = mcC x g cap s' took' ov') : Mc w0 (W.setCell ⟨bx, j, none⟩ v) x bx g cap s' took' ov' out := by
  refine ⟨h.bel.setCell (p := ⟨bx, j, none⟩) h.cb _, ?_, ?_, ?_, h.cb⟩
  · rw [heap_setCell_same _ _ _ _ _ _ h.box, he]
  · rw [hr]; exact ownsRow_setCell_other h.regs (fun e => h.ne (by simpa [Value.ownBlock] using e.symm)) _
  · exact ownsRow_setCell_other ho (row_ne_box ho h.box (by decide)) _
abbrev vIn (c a b : Int) : Value := .agg #[.int .i64 c, .int .i64 a, .int .i64 b]
abbrev pM (bx : Nat) : Value := .pointer (some ⟨bx, 0, none⟩)
set_option maxRecDepth 20000 in
set_option maxHeartbeats 800000 in
theorem do_set (h : Mc w0 W x bx g cap s took ov out) (a : Nat) (b : Int) (ha : a < 8) :
    Calls Try.prog 38 #[pM bx, vIn 1 a b] W fun e W' => e = .returned (.tuple #[]) ∧ Mc w0 W' x bx g cap { s with regs := s.regs.set a b } took ov out := by
  have c1 := h.c 1
  simp at c1
  have r1 := h.reg ha
  have f1 := h.fro a
  have hg := h.ge.2
  have hl := h.lt
  have hn := h.ne
  have i1 : (a : Int) < 8 := by omega
  have HM := hid h
  clear h
  go_enter Try.func38, Try.ntmps38
  go_wp2_with fail
  go_region
  all_goals go_wp2
  all_goals go_end0
  exact ⟨rfl, ((HM.out.setReg a b).alloc _).drew⟩
set_option maxRecDepth 20000 in
set_option maxHeartbeats 800000 in
theorem do_copy (h : Mc w0 W x bx g cap s took ov out) (a b : Nat) (ha : a < 8) (hb : b < 8) :
    Calls Try.prog 38 #[pM bx, vIn 2 a b] W fun e W' => e = .returned (.tuple #[]) ∧ Mc w0 W' x bx g cap { s with regs := s.regs.set a (s.regs.getD b 0) } took ov out := by
  have c1 := h.c 1
  simp at c1
  have r1 := h.reg ha
  have r2 := h.reg hb
  have f1 := h.fro a
  have hg := h.ge.2
  have hl := h.lt
  have hn := h.ne
  have i1 : (a : Int) < 8 := by omega
  have i2 : (b : Int) < 8 := by omega
  have HM := hid h
  clear h
  have HE := hid (fun v => HM.out.setReg a v)
  generalize hra : s.regs.getD a 0 = ra at *
  generalize hrb : s.regs.getD b 0 = rb at *
  have HRB := hid hrb
  clear hra hrb
  go_enter Try.func38, Try.ntmps38
  go_wp2_with fail
  go_region
  all_goals go_wp2
  all_goals go_end0
  exact ⟨rfl, ((HM.out.setReg a _).alloc _).drew⟩
theorem around_any (n : Int) (w : World) :
    Calls Try.prog 41 #[.int .i64 n] w fun e w' => e = .returned (.int .i64 (ar n)) ∧ w' = w := by
  go_enter Try.func41, Try.ntmps41
  go_wp2
  go_ret
  exact ⟨ret_int (by unfold wrap64 wrap32 ar; omega), rfl⟩
theorem sum_add {a b : Int} (ha : -2147483648 ≤ a ∧ a ≤ 2147483647) (hb : -2147483648 ≤ b ∧ b ≤ 2147483647) : IntKind.i64.wrap (a + b) = a + b := by
  rw [IntKind.wrap_i64]; omega
theorem sum_sub {a b : Int} (ha : -2147483648 ≤ a ∧ a ≤ 2147483647) (hb : -2147483648 ≤ b ∧ b ≤ 2147483647) : IntKind.i64.wrap (a - b) = a - b := by
  rw [IntKind.wrap_i64]; omega
theorem sum_mul {a b : Int} (ha : -2147483648 ≤ a ∧ a ≤ 2147483647) (hb : -2147483648 ≤ b ∧ b ≤ 2147483647) : IntKind.i64.wrap (a * b) = a * b := by
  have h1 : (a * b).natAbs ≤ 2147483648 * 2147483648 := by
    rw [Int.natAbs_mul]
    exact Nat.mul_le_mul (by omega) (by omega)
  rw [IntKind.wrap_i64]; omega
end VmC
end Go.Proofs.Ytceflfdpbgnfjaa
