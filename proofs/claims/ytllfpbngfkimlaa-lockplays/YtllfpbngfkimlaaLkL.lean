/- Package lock: which acts are in form (inForm), the mathematics. -/
import Derived.Test.YtllfpbngfkimlaaLkK
set_option linter.unusedVariables false
namespace Go.Proofs.Ytllfpbngfkimlaa
open Go.RowKit
open Go.Shelf Go.Sort
open SpanM SpanC IntsC
open RowsO hiding Wk
namespace LockC
open LockM
open NumC (Row)
/-- it has run, and taken nothing since -/
def ranF (l : List LockM.Ac) : Bool := l.foldl (fun r a => if a.1 = 1 then true else if a.1 = 2 then false else r) false
theorem ranF_snoc (l : List LockM.Ac) (a : LockM.Ac) : ranF (l ++ [a]) = if a.1 = 1 then true else if a.1 = 2 then false else ranF l := by
  unfold ranF; rw [List.foldl_append]; rfl
theorem ranF_next {l : List LockM.Ac} {j : Nat} (h : j < l.length) : ranF (l.take (j + 1)) = if l[j].1 = 1 then true else if l[j].1 = 2 then false else ranF (l.take j) := by
  rw [List.take_succ_eq_append_getElem h, ranF_snoc]
theorem ranF_iff (l : List LockM.Ac) : ranF l = true ↔ ∃ j, ∃ h : j < l.length, l[j].1 = 1 ∧ ∀ i (hi : i < l.length), j ≤ i → l[i].1 ≠ 2 := by
  have key : ∀ j, j ≤ l.length → (ranF (l.take j) = true ↔ ∃ i, ∃ h : i < l.length, i < j ∧ l[i].1 = 1 ∧ ∀ m (hm : m < l.length), i ≤ m → m < j → l[m].1 ≠ 2) := by
    intro j
    induction j with
    | zero => intro _; simp [ranF]
    | succ j ih =>
      intro hj
      have hlt : j < l.length := by omega
      rw [ranF_next hlt]
      by_cases c1 : l[j].1 = 1
      · rw [if_pos c1]
        refine ⟨fun _ => ⟨j, hlt, by omega, c1, fun m hm h1 h2 => ?_⟩, fun _ => rfl⟩
        have : m = j := by omega
        subst this; rw [c1]; decide
      · rw [if_neg c1]
        by_cases c2 : l[j].1 = 2
        · rw [if_pos c2]
          refine ⟨fun h => (by cases h), ?_⟩
          rintro ⟨i, h, h1, h2, h3⟩
          exact absurd c2 (h3 j hlt (by omega) (by omega))
        · rw [if_neg c2, ih (by omega)]
          constructor
          · rintro ⟨i, h, h1, h2, h3⟩
            refine ⟨i, h, by omega, h2, fun m hm q1 q2 => ?_⟩
            rcases Nat.lt_or_ge m j with q | q
            · exact h3 m hm q1 q
            · have : m = j := by omega
              subst this; exact c2
          · rintro ⟨i, h, h1, h2, h3⟩
            rcases Nat.lt_or_ge i j with q | q
            · exact ⟨i, h, q, h2, fun m hm q1 q2 => h3 m hm q1 (by omega)⟩
            · have : i = j := by omega
              subst this; exact absurd h2 c1
  have := key l.length (Nat.le_refl _)
  rw [List.take_length] at this
  rw [this]
  constructor
  · rintro ⟨i, h, h1, h2, h3⟩; exact ⟨i, h, h2, fun m hm q => h3 m hm q hm⟩
  · rintro ⟨i, h, h2, h3⟩; exact ⟨i, h, h, h2, fun m hm q _ => h3 m hm q⟩
/-- acts in form -/
def Form (l : List LockM.Ac) : Prop := hasAt l l.length = some [] ∧ ranF l = true
instance (l : List LockM.Ac) : Decidable (Form l) := by unfold Form; exact instDecidableAnd
theorem Form.runs {l : List LockM.Ac} (h : Form l) : ∃ a ∈ l, a.1 = 1 := by
  obtain ⟨j, hj, e, _⟩ := (ranF_iff l).1 h.2
  exact ⟨l[j], List.getElem_mem hj, e⟩
theorem Form.behind {l : List LockM.Ac} (h : Form l) : ∀ j (hj : j < l.length), l[j].1 = 1 → (∀ i (hi : i < l.length), l[i].1 = 1 → i ≤ j) → ∀ a ∈ l.drop j, a.1 ≠ 2 := by
  intro j hj e hm a ha
  obtain ⟨i, hi, e2, h3⟩ := (ranF_iff l).1 h.2
  obtain ⟨d, hd, rfl⟩ := List.getElem_of_mem ha
  rw [List.length_drop] at hd
  rw [List.getElem_drop]
  exact h3 (j + d) (by omega) (by have := hm i hi e2; omega)
theorem Form.of {l : List LockM.Ac} (h1 : hasAt l l.length = some []) (h2 : ∃ a ∈ l, a.1 = 1) (h3 : ∀ j (hj : j < l.length), l[j].1 = 1 → (∀ i (hi : i < l.length), l[i].1 = 1 → i ≤ j) → ∀ a ∈ l.drop j, a.1 ≠ 2) : Form l := by
  refine ⟨h1, (ranF_iff l).2 ?_⟩
  -- the last one that runs
  have last : ∀ m, m ≤ l.length → (∃ i, ∃ h : i < l.length, i < m ∧ l[i].1 = 1) → ∃ j, ∃ h : j < l.length, l[j].1 = 1 ∧ ∀ i (hi : i < l.length), i < m → l[i].1 = 1 → i ≤ j := by
    intro m
    induction m with
    | zero => rintro _ ⟨i, _, h, _⟩; omega
    | succ m ih =>
      rintro hm ⟨i, hi, hlt, e⟩
      by_cases c : l[m].1 = 1
      · exact ⟨m, by omega, c, fun i _ h _ => by omega⟩
      · have hne : i ≠ m := by rintro rfl; exact c e
        obtain ⟨j, hj, e2, h4⟩ := ih (by omega) ⟨i, hi, by omega, e⟩
        refine ⟨j, hj, e2, fun q hq h5 h6 => ?_⟩
        rcases Nat.lt_or_ge q m with g | g
        · exact h4 q hq g h6
        · have : q = m := by omega
          subst this; exact absurd h6 c
  obtain ⟨a, ha, e⟩ := h2
  obtain ⟨i, hi, rfl⟩ := List.getElem_of_mem ha
  obtain ⟨j, hj, e2, h4⟩ := last l.length (Nat.le_refl _) ⟨i, hi, hi, e⟩
  refine ⟨j, hj, e2, fun m hm hjm => ?_⟩
  refine h3 j hj e2 (fun q hq h6 => h4 q hq hq h6) l[m] ?_
  rw [List.mem_iff_getElem]
  refine ⟨m - j, by rw [List.length_drop]; omega, ?_⟩
  rw [List.getElem_drop]; congr 1; omega
/-- once an act may not be there, none of it is in form -/
theorem none_after {l : List LockM.Ac} {j : Nat} (hj : j < l.length) (h : hasAt l (j + 1) = none) : ¬ Form l := by
  intro hf
  have := hasAt_all hf.1 (j := j + 1) (by omega)
  rw [h] at this; cases this
/-! which locks it has, as eight Booleans -/
def hasB (h : List Int) : Array Value := ((List.range 8).map fun (k : Nat) => Value.bool (decide ((k : Int) ∈ h))).toArray
theorem hasB_at (h : List Int) {k : Nat} (hk : k < 8) : (hasB h)[k]? = some (.bool (decide ((k : Int) ∈ h))) := by simp [hasB, hk]
theorem hasB_put (h : List Int) (k : Nat) : (hasB h).setIfInBounds k (.bool true) = hasB (h ++ [(k : Int)]) := by
  unfold hasB
  rw [List.setIfInBounds_toArray]
  congr 1
  apply List.ext_getElem
  · simp
  · intro m h1 h2
    rw [List.getElem_set]
    simp only [List.getElem_map, List.getElem_range, List.mem_append, List.mem_singleton]
    split
    · subst_vars; simp
    · rename_i e
      have : ¬ (m : Int) = (k : Int) := by omega
      simp [this]
theorem hasB_del {h : List Int} {k : Nat} (hl : h.getLast? = some (k : Int)) (hn : h.Nodup) : (hasB h).setIfInBounds k (.bool false) = hasB h.dropLast := by
  obtain ⟨ys, rfl⟩ := List.getLast?_eq_some_iff.1 hl
  rw [List.dropLast_concat]
  have hne : (k : Int) ∉ ys := by
    have := (List.nodup_append.1 hn).2.2
    intro q; exact this _ q _ (by simp) rfl
  unfold hasB
  rw [List.setIfInBounds_toArray]
  congr 1
  apply List.ext_getElem
  · simp
  · intro m h1 h2
    rw [List.getElem_set]
    simp only [List.getElem_map, List.getElem_range, List.mem_append, List.mem_singleton]
    split
    · subst_vars; simp [hne]
    · rename_i e
      have : ¬ (m : Int) = (k : Int) := by omega
      simp [this]
theorem hasB_nil : hasB [] = #[.bool false, .bool false, .bool false, .bool false, .bool false, .bool false, .bool false, .bool false] := by
  simp [hasB, List.range_succ]
end LockC
end Go.Proofs.Ytllfpbngfkimlaa
