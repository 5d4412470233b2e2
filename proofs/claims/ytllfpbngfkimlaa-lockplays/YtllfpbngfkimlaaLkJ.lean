/- Package lock: ceilingsOf. -/
import Derived.Test.YtllfpbngfkimlaaLkI
set_option linter.unusedVariables false
namespace Go.Proofs.Ytllfpbngfkimlaa
open Go.RowKit
open Go.Shelf Go.Sort
open SpanM SpanC IntsC
open RowsO hiding Wk
namespace LockC
open LockM
open NumC (Row)
theorem ceil_snoc (L : List LockM.Wk) (w : LockM.Wk) (k : Int) : ceil (L ++ [w]) k = if ceil L k < L.length then ceil L k else if ((2 : Int), k) ∈ w.2 then L.length else L.length + 1 := by
  unfold ceil
  rw [List.findIdx_append]
  split
  · rfl
  · rename_i h
    simp only [List.findIdx_cons, List.findIdx_nil]
    by_cases hw : ((2 : Int), k) ∈ w.2
    · simp [hw]
    · simp [hw]; omega
theorem ceilI_snoc (L : List LockM.Wk) (w : LockM.Wk) (k : Int) : ceilI (L ++ [w]) k = if ceil L k < L.length then (ceil L k : Int) else if ((2 : Int), k) ∈ w.2 then (L.length : Int) else -1 := by
  unfold ceilI
  rw [ceil_snoc, List.length_append, List.length_singleton]
  by_cases h : ceil L k < L.length
  · rw [if_pos h, if_pos (by omega), if_pos h]
  · rw [if_neg h]
    by_cases hw : ((2 : Int), k) ∈ w.2
    · rw [if_pos hw, if_pos (by omega), if_neg h, if_pos hw]
    · rw [if_neg hw, if_neg (by omega), if_neg h, if_neg hw]
theorem ceils_ext {L R : List LockM.Wk} (h : ∀ k : Nat, k < 8 → ceilI L k = ceilI R k) : ceils L = ceils R := by
  unfold ceils
  apply List.map_congr_left
  intro k hk
  exact h k (List.mem_range.1 hk)
/-- the ceilings by all works ahead of one, and some of its acts -/
def cK (l : List LockM.Wk) (k j : Nat) : List Int := ceils (l.take k ++ [(0, (acts l k).take j)])
theorem cK_len (l : List LockM.Wk) (k j : Nat) : (cK l k j).length = 8 := ceils_len _
theorem cK_start (l : List LockM.Wk) (k : Nat) : cK l k 0 = ceils (l.take k) := ceils_ext fun n _ => by
  rw [ceilI_snoc, List.take_zero]
  unfold ceilI
  split
  · rfl
  · rw [if_neg (by simp)]
theorem cK_end {l : List LockM.Wk} {k : Nat} (h : k < l.length) : cK l k (acts l k).length = ceils (l.take (k + 1)) := ceils_ext fun n _ => by
  rw [List.take_succ_eq_append_getElem h, ceilI_snoc, ceilI_snoc, List.take_length]
  have e : acts l k = l[k].2 := by unfold acts; simp [List.getD, h]
  rw [e]
theorem cK_zero (l : List LockM.Wk) : ceils (l.take 0) = [-1, -1, -1, -1, -1, -1, -1, -1] := by
  simp [ceils, ceilI, ceil, List.range_succ]
theorem cK_other {l : List LockM.Wk} {k j : Nat} (hj : j < (acts l k).length) (h : ∀ n : Nat, n < 8 → (acts l k)[j] = (2, (n : Int)) → (cK l k j).getD n 0 ≠ -1) : cK l k (j + 1) = cK l k j := ceils_ext fun n hn => by
  rw [ceilI_snoc, ceilI_snoc]
  split
  · rfl
  · rename_i h1
    rw [List.take_succ_eq_append_getElem hj]
    by_cases e : (acts l k)[j] = (2, (n : Int))
    · have := h n hn e
      rw [cK, ceils_at _ hn, ceilI_snoc, if_neg h1] at this
      by_cases e2 : ((2 : Int), (n : Int)) ∈ (acts l k).take j
      · rw [if_pos e2, if_pos (List.mem_append_left _ e2)]
      · rw [if_neg e2] at this; exact absurd rfl this
    · have : ((2 : Int), (n : Int)) ∈ (acts l k).take j ++ [(acts l k)[j]] ↔ ((2 : Int), (n : Int)) ∈ (acts l k).take j := by
        rw [List.mem_append, List.mem_singleton]
        exact ⟨fun q => q.resolve_right (fun c => e c.symm), Or.inl⟩
      simp only [this]
theorem ext_getD {a b : List Int} (hl : a.length = b.length) (h : ∀ m, m < a.length → a.getD m 0 = b.getD m 0) : a = b := by
  apply List.ext_getElem hl
  intro m h1 h2
  have := h m h1
  rw [List.getD_eq_getElem?_getD, List.getD_eq_getElem?_getD, List.getElem?_eq_getElem h1, List.getElem?_eq_getElem h2] at this
  exact this
theorem cK_set {l : List LockM.Wk} {k j n : Nat} (hk : k < l.length) (hj : j < (acts l k).length) (hn : n < 8) (e : (acts l k)[j] = (2, (n : Int))) (h : (cK l k j).getD n 0 = -1) : cK l k (j + 1) = (cK l k j).set n (k : Int) := by
  refine ext_getD (by rw [List.length_set, cK_len, cK_len]) fun m h1 => ?_
  rw [cK_len] at h1
  have hlt : (l.take k).length = k := by rw [List.length_take]; omega
  rw [getD_set _ _ _ _ (by rw [cK_len]; exact h1)]
  rw [cK, ceils_at _ hn, ceilI_snoc] at h
  split at h
  · omega
  · rename_i h4
    by_cases em : n = m
    · subst em
      rw [if_pos rfl, cK, ceils_at _ hn, ceilI_snoc, List.take_succ_eq_append_getElem hj, if_neg h4, if_pos (by rw [e]; simp), hlt]
    · rw [if_neg em, cK, ceils_at _ h1, ceilI_snoc, List.take_succ_eq_append_getElem hj, cK, ceils_at _ h1, ceilI_snoc]
      have : ((2 : Int), (m : Int)) ∈ (acts l k).take j ++ [(acts l k)[j]] ↔ ((2 : Int), (m : Int)) ∈ (acts l k).take j := by
        rw [List.mem_append, List.mem_singleton, e]
        refine ⟨fun q => q.resolve_right (fun c => ?_), Or.inl⟩
        simp only [Prod.mk.injEq, true_and] at c
        omega
      simp only [this]
def intC (l : List Int) : Array Value := (l.map (Value.int .i64)).toArray
theorem intC_at (l : List Int) {k : Nat} (h : k < l.length) : (intC l)[k]? = some (.int .i64 (l.getD k 0)) := by simp [intC, h, List.getD]
theorem intC_set (l : List Int) (k : Nat) (v : Int) : (intC l).setIfInBounds k (.int .i64 v) = intC (l.set k v) := by
  simp [intC, List.setIfInBounds_toArray, List.map_set]
end LockC
end Go.Proofs.Ytllfpbngfkimlaa
