/- The document's own answers about locks: what a work takes nobody has (slices.ContainsFunc at a closure of PlayedWorks). -/
import Derived.Test.YtllfpbngfkimlaaLokB
set_option linter.unusedVariables false
namespace Go.Proofs.Ytllfpbngfkimlaa
open Go.RowKit
open Go.Shelf Go.Sort
open SpanM SpanC IntsC
open RowsO hiding Wk
namespace LockC
open LockM
open NumC (Row)
theorem clCl_any (k : Int) (M : List Int) (X : Nat) (a : Option Addr) (c : Nat) (w : World) (hX : w.cell? ⟨X, 0, none⟩ = some (.slice a M.length c)) (hr : Row w a M) (hl : M.length ≤ 100000) :
    Calls Try.prog 38 #[.int .i64 k, .pointer (some ⟨X, 0, none⟩)] w fun e w' => e = .returned (.bool (decide (k ∈ M))) ∧ Below w.heap.size w w' := by
  have HC := hid (icontains_any a c M k w hr hl)
  clear hr
  generalize decide (k ∈ M) = D at *
  generalize M.length = m at *
  go_enter Try.func38, Try.ntmps38
  go_wp2_with (go_at_call 39; refine HC.out.mono ?_; rintro e w1 ⟨rfl, hb1⟩; have HB := hid hb1; clear hb1)
  go_ret
  exact ⟨rfl, HB.out⟩
set_option maxRecDepth 20000 in
set_option maxHeartbeats 1600000 in
theorem clIdx_any (l M : List Int) (hno : ∀ k ∈ l, k ∉ M) (X : Nat) (a' : Option Addr) (c' : Nat) (a : Option Addr) (c : Nat) (w : World) (hX : w.cell? ⟨X, 0, none⟩ = some (.slice a' M.length c')) (hm : Row w a' M) (hM : M.length ≤ 100000) (hr : Row w a l) (hl : l.length ≤ 100000) :
    Calls Try.prog 56 #[.slice a l.length c, .func (.func 38) #[] #[.pointer (some ⟨X, 0, none⟩)]] w fun e w' => e = .returned (.int .i64 (-1)) ∧ Below w.heap.size w w' := by
  have HR := hid hr
  have hXb := World.block_lt_of_cell? w _ hX
  have HCL := hid (fun (W : World) (h : Below w.heap.size w W) (k : Nat) (hk : k < l.length) => (by
    have q := clCl_any (l.getD k 0) M X a' c' W ((h.cell hXb).trans hX) (Row.below hm h (Nat.le_refl _)) hM
    rw [decide_eq_false (hno _ (by simp [List.getD, hk]))] at q
    exact q : Calls Try.prog 38 #[.int .i64 (l.getD k 0), .pointer (some ⟨X, 0, none⟩)] W fun e w' => e = .returned (.bool false) ∧ Below W.heap.size W w'))
  clear hr hX hm hXb hno
  go_enter Try.func56, Try.ntmps56
  go_wp2_with fail
  go_loopw [8] (fun v8 wr => ∃ (k : Nat), k ≤ l.length ∧ v8 = .int .i64 k ∧ Below w.heap.size w wr) (fun v8 _ => l.length - (intOf v8).toNat)
  case atStart => exact ⟨0, by omega, rfl, Below.refl _ _⟩
  case round =>
    obtain ⟨k, hk, rfl, hb⟩ := hrel
    have HB := hid hb
    by_cases hlt : k < l.length
    · obtain ⟨b, off, rfl, _, d1⟩ := Row.at (Row.below HR.out hb (Nat.le_refl _)) k hlt
      have i1 : (k : Int) < (l.length : Int) := by omega
      have HC := hid (HCL.out wr hb k hlt)
      clear hb
      generalize l.getD k 0 = x at *
      go_wp2_with fail
      refine HC.out.mono ?_
      rintro e w1 ⟨rfl, b1⟩
      have HB1 := hid (HB.out.trans (b1.mono HB.out.size))
      clear b1
      go_wp2_with fail
      go_roundw
      case rel => exact ⟨k + 1, by omega, by go_num, HB1.out⟩
      case measure => simp [intOf]; omega
    · obtain rfl : k = l.length := by omega
      clear hb
      go_wp2_with fail
      go_ret
      exact ⟨rfl, HB.out⟩
theorem clHas_any (l M : List Int) (hno : ∀ k ∈ l, k ∉ M) (X : Nat) (a' : Option Addr) (c' : Nat) (a : Option Addr) (c : Nat) (w : World) (hX : w.cell? ⟨X, 0, none⟩ = some (.slice a' M.length c')) (hm : Row w a' M) (hM : M.length ≤ 100000) (hr : Row w a l) (hl : l.length ≤ 100000) :
    Calls Try.prog 37 #[.slice a l.length c, .func (.func 38) #[] #[.pointer (some ⟨X, 0, none⟩)]] w fun e w' => e = .returned (.bool false) ∧ Below w.heap.size w w' := by
  have HI := hid (clIdx_any l M hno X a' c' a c w hX hm hM hr hl)
  clear hr hX hm hno
  go_enter Try.func37, Try.ntmps37
  go_wp2_with (go_at_call 56; refine HI.out.mono ?_; rintro e w1 ⟨rfl, hb1⟩; have HB := hid hb1; clear hb1)
  go_ret
  exact ⟨rfl, HB.out⟩
end LockC
end Go.Proofs.Ytllfpbngfkimlaa
