/- Package vm: jumps. -/
import Derived.Test.YtceflfdpbgnfjaaVmF
set_option linter.unusedVariables false
namespace Go.Proofs.Ytceflfdpbgnfjaa
open Go.RowKit
open Go.Shelf Go.Sort
open SpanM hiding good
open SpanC IntsC
open RowsO hiding Em
namespace VmC
open VmP
open NumC (Row)
variable {w0 W : World} {x : Inp} {bx g cap : Nat} {s : St} {took : Nat} {ov : Value} {out : List Em}
set_option maxRecDepth 20000 in
set_option maxHeartbeats 800000 in
theorem jumps_any (h : Mc w0 W x bx g cap s took ov out) (c : Int) (a : Nat) (b : Int) (ha : a < 8) :
    Calls Try.prog 37 #[pM bx, vIn c a b] W fun e W' => e = .returned (.bool (jmp s (c, (a : Int), b))) ∧ Below W.heap.size W W' := by
  have r1 := h.reg ha
  have hgl := h.ge.2
  have hlt := h.lt
  have i1 : (a : Int) < 8 := by omega
  have d1 := h.c 1
  simp at d1
  have hreg : VmP.reg s (a : Int) = s.regs.getD a 0 := rfl
  clear h
  by_cases h6 : c = 6
  · have hj : jmp s (c, (a : Int), b) = true := by simp [jmp, h6]
    rw [hj]
    subst h6
    clear hj hreg
    go_enter Try.func37, Try.ntmps37
    go_wp2_with fail
    go_ret
    exact ⟨rfl, by go_grown⟩
  · by_cases h7 : c = 7
    · have hj : jmp s (c, (a : Int), b) = (s.regs.getD a 0 == 0) := by simp [jmp, h7, hreg]; exact (Bool.beq_eq_decide_eq _ _).symm
      rw [hj]
      subst h7
      clear hj hreg
      generalize s.regs.getD a 0 = ra at *
      go_enter Try.func37, Try.ntmps37
      go_wp2_with fail
      go_quiet (fail)
      go_wp2_with fail
      go_ret
      exact ⟨rfl, below_drewN ((Below.refl _ _).alloc (Nat.le_refl _) _) _⟩
    · by_cases h8 : c = 8
      · have hj : jmp s (c, (a : Int), b) = decide (s.regs.getD a 0 < 0) := by simp [jmp, h8, hreg]
        rw [hj]
        subst h8
        clear hj hreg
        generalize s.regs.getD a 0 = ra at *
        go_enter Try.func37, Try.ntmps37
        go_wp2_with fail
        go_quiet (fail)
        go_wp2_with fail
        go_ret
        exact ⟨rfl, below_drewN ((Below.refl _ _).alloc (Nat.le_refl _) _) _⟩
      · have hj : jmp s (c, (a : Int), b) = false := by simp [jmp, h6, h7, h8]
        rw [hj]
        have n6 : (c == 6) = false := by simp; exact h6
        have n7 : (c == 7) = false := by simp; exact h7
        have n8 : (c == 8) = false := by simp; exact h8
        clear hj hreg h6 h7 h8
        go_enter Try.func37, Try.ntmps37
        go_wp2_with fail
        go_ret
        exact ⟨rfl, by go_grown⟩
end VmC
end Go.Proofs.Ytceflfdpbgnfjaa
