/- Plain mathematics of locks: what a work's acts say. -/
import Derived.Test.YtllfpbngfkimlaaLockM
set_option linter.unusedVariables false
namespace Go.Proofs.Ytllfpbngfkimlaa
namespace LockM
abbrev Ac := Int × Int
/-- what it has behind an act; none: the act may not be there -/
def stp (o : Option (List Int)) (a : Ac) : Option (List Int) :=
  match o with
  | none => none
  | some h =>
    if a.1 = 1 then (if 1 ≤ a.2 ∧ a.2 ≤ 100 then some h else none)
    else if a.1 = 2 then (if 0 ≤ a.2 ∧ a.2 ≤ 7 ∧ a.2 ∉ h then some (h ++ [a.2]) else none)
    else if a.1 = 3 then (if h.getLast? = some a.2 then some h.dropLast else none)
    else none
/-- what it has ahead of an act -/
def hasAt (l : List Ac) (j : Nat) : Option (List Int) := (l.take j).foldl stp (some [])
theorem hasAt_zero (l : List Ac) : hasAt l 0 = some [] := rfl
theorem hasAt_succ {l : List Ac} {j : Nat} (h : j < l.length) : hasAt l (j + 1) = stp (hasAt l j) l[j] := by
  unfold hasAt
  rw [List.take_succ_eq_append_getElem h, List.foldl_append]; rfl
theorem stp_none (a : Ac) : stp none a = none := rfl
theorem hasAt_some {l : List Ac} {j : Nat} (h : j < l.length) (hs : (hasAt l (j + 1)).isSome) : (hasAt l j).isSome := by
  rw [hasAt_succ h] at hs
  cases e : hasAt l j with
  | none => rw [e, stp_none] at hs; cases hs
  | some _ => rfl
theorem hasAt_all {l : List Ac} {h : List Int} (he : hasAt l l.length = some h) {j : Nat} (hj : j ≤ l.length) : (hasAt l j).isSome := by
  have key : ∀ d, d ≤ l.length → (hasAt l (l.length - d)).isSome := by
    intro d
    induction d with
    | zero => intro _; rw [Nat.sub_zero, he]; rfl
    | succ d ih =>
      intro hd
      have a := ih (by omega)
      have e : l.length - d = l.length - (d + 1) + 1 := by omega
      rw [e] at a
      exact hasAt_some (by omega) a
  have := key (l.length - j) (by omega)
  rwa [show l.length - (l.length - j) = j by omega] at this
/-- of what kind each act is -/
theorem kind_of {l : List Ac} {h : List Int} (he : hasAt l l.length = some h) {j : Nat} (hj : j < l.length) : l[j].1 = 1 ∧ 1 ≤ l[j].2 ∧ l[j].2 ≤ 100 ∨ l[j].1 = 2 ∧ 0 ≤ l[j].2 ∧ l[j].2 ≤ 7 ∨ l[j].1 = 3 := by
  have a := hasAt_all he (j := j + 1) (by omega)
  rw [hasAt_succ hj] at a
  cases e : hasAt l j with
  | none => rw [e, stp_none] at a; cases a
  | some q =>
    rw [e] at a
    simp only [stp] at a
    split at a
    · split at a
      · left; exact ⟨by assumption, by assumption⟩
      · cases a
    · split at a
      · split at a
        · right; left; rename_i h1 h2 h3; exact ⟨h2, h3.1, h3.2.1⟩
        · cases a
      · split at a
        · right; right; assumption
        · cases a
/-- what it has it took -/
theorem took {l : List Ac} {j : Nat} {h : List Int} (e : hasAt l j = some h) {k : Int} (hk : k ∈ h) : ((2 : Int), k) ∈ l := by
  have key : ∀ (m : List Ac) (g h : List Int), m.foldl stp (some g) = some h → ∀ k ∈ h, k ∈ g ∨ ((2 : Int), k) ∈ m := by
    intro m
    induction m with
    | nil => intro g h e k hk; simp at e; subst e; exact Or.inl hk
    | cons a r ih =>
      intro g h e k hk
      simp only [List.foldl_cons] at e
      have none : ∀ r : List Ac, r.foldl stp none = none := by
        intro r
        induction r with
        | nil => rfl
        | cons a r ih => simp only [List.foldl_cons, stp_none]; exact ih
      cases q : stp (some g) a with
      | none => rw [q, none] at e; cases e
      | some g' =>
        rw [q] at e
        rcases ih g' h e k hk with c | c
        · simp only [stp] at q
          split at q
          · split at q
            · cases q; exact Or.inl c
            · cases q
          · split at q
            · split at q
              · cases q
                rename_i h1 h2 h3
                rcases List.mem_append.1 c with c | c
                · exact Or.inl c
                · right; simp at c; subst c; rw [← h2]; simp
              · cases q
            · split at q
              · split at q
                · cases q; exact Or.inl (List.dropLast_subset g c)
                · cases q
              · cases q
        · exact Or.inr (by simp [c])
  rcases key _ _ _ e k hk with c | c
  · cases c
  · exact List.mem_of_mem_take c
/-- of each time that it runs the act that it is of -/
def units : Nat → List Ac → List Nat
  | _, [] => []
  | j, a :: r => (if a.1 = 1 then List.replicate a.2.toNat j else []) ++ units (j + 1) r
theorem units_mem {l : List Ac} : ∀ {b x : Nat}, x ∈ units b l → b ≤ x ∧ ∃ h : x - b < l.length, l[x - b].1 = 1 := by
  induction l with
  | nil => intro b x h; cases h
  | cons a r ih =>
    intro b x h
    simp only [units, List.mem_append] at h
    rcases h with h | h
    · split at h
      · have : x = b := List.eq_of_mem_replicate h
        subst this
        exact ⟨Nat.le_refl _, by simp, by simpa⟩
      · cases h
    · obtain ⟨h1, h2, h3⟩ := ih h
      refine ⟨by omega, by simp; omega, ?_⟩
      have e : x - b = (x - (b + 1)) + 1 := by omega
      simp only [e, List.getElem_cons_succ]
      exact h3
theorem mem_units {l : List Ac} (hr : ∀ a ∈ l, a.1 = 1 → 1 ≤ a.2) : ∀ {b j : Nat} (h : j < l.length), l[j].1 = 1 → b + j ∈ units b l := by
  induction l with
  | nil => intro b j h; simp at h
  | cons a r ih =>
    intro b j h e
    simp only [units, List.mem_append]
    cases j with
    | zero =>
      left
      have e' : a.1 = 1 := by simpa using e
      rw [if_pos e']
      have := hr a (by simp) e'
      rw [List.mem_replicate]; omega
    | succ j =>
      right
      have := ih (fun a ha => hr a (by simp [ha])) (b := b + 1) (j := j) (by simpa using h) (by simpa using e)
      rwa [show b + (j + 1) = b + 1 + j by omega]
theorem units_sorted {l : List Ac} : ∀ {b : Nat}, (units b l).Pairwise (· ≤ ·) := by
  induction l with
  | nil => intro b; exact List.Pairwise.nil
  | cons a r ih =>
    intro b
    simp only [units]
    rw [List.pairwise_append]
    refine ⟨?_, ih, ?_⟩
    · split
      · exact List.pairwise_replicate.2 (Or.inr (Nat.le_refl _))
      · exact List.Pairwise.nil
    · intro x hx y hy
      split at hx
      · have : x = b := List.eq_of_mem_replicate hx
        have := (units_mem hy).1; omega
      · cases hx
/-- the drops from an act on are done -/
def past (l : List Ac) (j : Nat) : Nat := j + ((l.drop j).takeWhile fun a => decide (a.1 = 3)).length
theorem past_le {l : List Ac} {j : Nat} (h : j ≤ l.length) : past l j ≤ l.length := by
  unfold past
  have := (List.takeWhile_sublist (fun a : Ac => decide (a.1 = 3)) (l := l.drop j)).length_le
  simp only [List.length_drop] at this
  omega
theorem past_end {l : List Ac} {j : Nat} (h : j ≤ l.length) (ha : ∀ a ∈ l.drop j, a.1 = 3) : past l j = l.length := by
  unfold past
  have e : (l.drop j).takeWhile (fun a => decide (a.1 = 3)) = l.drop j := by
    have key : ∀ m : List Ac, (∀ a ∈ m, a.1 = 3) → m.takeWhile (fun a => decide (a.1 = 3)) = m := by
      intro m
      induction m with
      | nil => intro _; rfl
      | cons a r ih => intro h; rw [List.takeWhile_cons, if_pos (decide_eq_true (h a (by simp))), ih fun b hb => h b (by simp [hb])]
    exact key _ ha
  rw [e, List.length_drop]; omega
/-- what it has when it has run r times -/
def hasNow (l : List Ac) (r : Nat) : List Int :=
  if r = 0 then [] else
    let j := (units 0 l).getD (r - 1) 0
    if r = (units 0 l).length ∨ (units 0 l).getD r 0 ≠ j then (hasAt l (past l (j + 1))).getD [] else (hasAt l j).getD []
theorem hasNow_took {l : List Ac} {r : Nat} {k : Int} (h : k ∈ hasNow l r) : ((2 : Int), k) ∈ l := by
  have aux : ∀ j, k ∈ (hasAt l j).getD [] → ((2 : Int), k) ∈ l := by
    intro j h
    cases e : hasAt l j with
    | none => rw [e] at h; cases h
    | some q => rw [e] at h; exact took e h
  unfold hasNow at h
  split at h
  · cases h
  · simp only at h
    split at h
    · exact aux _ h
    · exact aux _ h
/-- when it has run all its times it has nothing -/
theorem hasNow_end {l : List Ac} (he : hasAt l l.length = some []) (hu : units 0 l ≠ []) (hl : ∀ j (h : j < l.length), l[j].1 = 1 → (∀ i (h : i < l.length), l[i].1 = 1 → i ≤ j) → ∀ a ∈ l.drop j, a.1 ≠ 2) : hasNow l (units 0 l).length = [] := by
  have hpos : 0 < (units 0 l).length := List.length_pos_iff.2 hu
  unfold hasNow
  rw [if_neg (by omega)]
  simp only
  rw [if_pos (Or.inl True.intro)]
  have hr : ∀ a ∈ l, a.1 = 1 → 1 ≤ a.2 := by
    intro a ha e
    obtain ⟨j, hj, rfl⟩ := List.getElem_of_mem ha
    rcases kind_of he hj with c | c | c
    · exact c.2.1
    · omega
    · omega
  have hlast : (units 0 l).getD ((units 0 l).length - 1) 0 = (units 0 l).getLast hu := by
    rw [List.getD_eq_getElem?_getD, List.getElem?_eq_getElem (by omega), Option.getD_some, List.getLast_eq_getElem]
  rw [hlast]
  obtain ⟨_, hj, k1⟩ := units_mem (List.getLast_mem hu)
  simp only [Nat.sub_zero] at hj k1
  have most : ∀ i (h : i < l.length), l[i].1 = 1 → i ≤ (units 0 l).getLast hu := by
    intro i hi e
    have m := mem_units hr (b := 0) hi e
    rw [Nat.zero_add] at m
    obtain ⟨q, hq, e2⟩ := List.getElem_of_mem m
    rw [← e2, List.getLast_eq_getElem]
    have s := units_sorted (l := l) (b := 0)
    rw [List.pairwise_iff_getElem] at s
    rcases Nat.lt_or_ge q ((units 0 l).length - 1) with c | c
    · exact s q _ hq (by omega) c
    · have : q = (units 0 l).length - 1 := by omega
      subst this; exact Nat.le_refl _
  have no2 := hl _ hj k1 most
  rw [past_end (by omega), he]
  · rfl
  · intro a ha
    obtain ⟨q, hq, rfl⟩ := List.getElem_of_mem ha
    rw [List.length_drop] at hq
    rw [List.getElem_drop]
    have hq' : (units 0 l).getLast hu + 1 + q < l.length := by omega
    rcases kind_of he hq' with c | c | c
    · exfalso; have := most _ hq' c.1; omega
    · exfalso
      refine no2 l[(units 0 l).getLast hu + 1 + q] ?_ c.1
      rw [List.mem_iff_getElem]
      refine ⟨1 + q, by rw [List.length_drop]; omega, ?_⟩
      rw [List.getElem_drop]; congr 1; omega
    · exact c
end LockM
end Go.Proofs.Ytllfpbngfkimlaa
