/- Plain mathematics of locks: right works, and their play. -/
import Derived.Test.YtllfpbngfkimlaaLockM2
set_option linter.unusedVariables false
namespace Go.Proofs.Ytllfpbngfkimlaa
namespace LockM
/-- a work: when it comes, and its acts -/
abbrev Wk := Int × List Ac
def acts (l : List Wk) (i : Nat) : List Ac := (l.getD i (0, [])).2
/-- of a lock the least number of a work that takes it; that of all works, if none does -/
def ceil (l : List Wk) (k : Int) : Nat := l.findIdx fun w => decide (((2 : Int), k) ∈ w.2)
theorem ceil_le {l : List Wk} {i : Nat} {k : Int} (h : ((2 : Int), k) ∈ acts l i) : ceil l k ≤ i := by
  unfold acts at h
  rcases Nat.lt_or_ge i l.length with q | q
  · rw [List.getD_eq_getElem?_getD, List.getElem?_eq_getElem q, Option.getD_some] at h
    rcases Nat.lt_or_ge i (ceil l k) with c | c
    · have := List.not_of_lt_findIdx (p := fun w : Wk => decide (((2 : Int), k) ∈ w.2)) c
      simp at this
      exact absurd h this
    · exact c
  · rw [List.getD_eq_getElem?_getD, List.getElem?_eq_none q] at h
    cases h
/-- one work is right -/
structure Wk.Ok (w : Wk) : Prop where
  come : 0 ≤ w.1 ∧ w.1 ≤ 1000
  many : w.2.length ≤ 30
  all : hasAt w.2 w.2.length = some []
  runs : ∃ a ∈ w.2, a.1 = 1
  behind : ∀ j (h : j < w.2.length), w.2[j].1 = 1 → (∀ i (h : i < w.2.length), w.2[i].1 = 1 → i ≤ j) → ∀ a ∈ w.2.drop j, a.1 ≠ 2
def Oks (l : List Wk) : Prop := l.length ≤ 8 ∧ ∀ w ∈ l, Wk.Ok w
theorem Wk.Ok.units_ne {w : Wk} (h : w.Ok) : units 0 w.2 ≠ [] := by
  obtain ⟨a, ha, e⟩ := h.runs
  obtain ⟨j, hj, rfl⟩ := List.getElem_of_mem ha
  have hr : ∀ a ∈ w.2, a.1 = 1 → 1 ≤ a.2 := by
    intro a ha e
    obtain ⟨j, hj, rfl⟩ := List.getElem_of_mem ha
    rcases kind_of h.all hj with c | c | c
    · exact c.2.1
    · omega
    · omega
  have := mem_units hr (b := 0) hj e
  intro q; rw [q] at this; cases this
def wks (l : List Wk) : Wks where
  n := l.length
  T := fun i => (units 0 (acts l i)).length
  came := fun i => (l.getD i (0, [])).1.toNat
  H := fun i r => hasNow (acts l i) r
  M := fun i r => (hasAt (acts l i) ((units 0 (acts l i)).getD r 0)).getD []
  C := ceil l
theorem Oks.at {l : List Wk} (h : Oks l) {i : Nat} (hi : i < l.length) : Wk.Ok (l.getD i (0, [])) := by
  rw [List.getD_eq_getElem?_getD, List.getElem?_eq_getElem hi, Option.getD_some]
  exact h.2 _ (List.getElem_mem hi)
theorem Oks.ok {l : List Wk} (h : Oks l) : (wks l).Ok where
  first := fun i _ => rfl
  last := fun i hi => hasNow_end (h.at hi).all (h.at hi).units_ne (h.at hi).behind
  has := fun i _ r _ k hk => ceil_le (hasNow_took hk)
  mine := fun i _ r _ k hk => by
    refine ceil_le (i := i) ?_
    show ((2 : Int), k) ∈ acts l i
    have hk' : k ∈ (hasAt (acts l i) ((units 0 (acts l i)).getD r 0)).getD [] := hk
    cases e : hasAt (acts l i) ((units 0 (acts l i)).getD r 0) with
    | none => rw [e] at hk'; cases hk'
    | some q => rw [e] at hk'; exact took e hk'
/-- who is chosen, of the first m: a loop that keeps the best so far -/
def pick (w : Wks) (t : Nat) (ran : Nat → Nat) : Nat → Option Nat
  | 0 => none
  | m + 1 =>
    if w.came m ≤ t ∧ ran m < w.T m then
      match pick w t ran m with
      | none => some m
      | some b => if w.u ran m ≤ w.u ran b then some m else some b
    else pick w t ran m
theorem pick_spec (w : Wks) (t : Nat) (ran : Nat → Nat) : ∀ m, m ≤ w.n → (∀ b, pick w t ran m = some b → b < m ∧ w.There t ran b ∧ ∀ j, j < m → w.There t ran j → w.u ran b ≤ w.u ran j ∧ (w.u ran b = w.u ran j → j ≤ b)) ∧ (pick w t ran m = none → ∀ j, j < m → ¬ w.There t ran j) := by
  intro m
  induction m with
  | zero => intro _; exact ⟨fun b h => (by cases h), fun _ j h => by omega⟩
  | succ m ih =>
    intro hm
    obtain ⟨i1, i2⟩ := ih (by omega)
    simp only [pick]
    by_cases c : w.came m ≤ t ∧ ran m < w.T m
    · rw [if_pos c]
      have tm : w.There t ran m := ⟨by omega, c.1, c.2⟩
      cases e : pick w t ran m with
      | none =>
        have no := i2 e
        refine ⟨fun b h => ?_, fun h => by cases h⟩
        cases h
        refine ⟨by omega, tm, fun j hj tj => ?_⟩
        have : j = m := by
          rcases Nat.lt_or_ge j m with q | q
          · exact absurd tj (no j q)
          · omega
        subst this; exact ⟨Nat.le_refl _, fun _ => Nat.le_refl _⟩
      | some a =>
        obtain ⟨a1, a2, a3⟩ := i1 a e
        simp only
        by_cases q : w.u ran m ≤ w.u ran a
        · rw [if_pos q]
          refine ⟨fun b h => ?_, fun h => by cases h⟩
          cases h
          refine ⟨by omega, tm, fun j hj tj => ?_⟩
          rcases Nat.lt_or_ge j m with g | g
          · have := a3 j g tj; exact ⟨by omega, fun _ => by omega⟩
          · have : j = m := by omega
            subst this; exact ⟨Nat.le_refl _, fun _ => Nat.le_refl _⟩
        · rw [if_neg q]
          refine ⟨fun b h => ?_, fun h => by cases h⟩
          cases h
          refine ⟨by omega, a2, fun j hj tj => ?_⟩
          rcases Nat.lt_or_ge j m with g | g
          · exact a3 j g tj
          · have : j = m := by omega
            subst this; exact ⟨by omega, fun z => by omega⟩
    · rw [if_neg c]
      refine ⟨fun b h => ?_, fun h => fun j => fun hj tj => ?_⟩
      · obtain ⟨b1, b2, b3⟩ := i1 b h
        refine ⟨by omega, b2, fun j hj tj => ?_⟩
        rcases Nat.lt_or_ge j m with g | g
        · exact b3 j g tj
        · have : j = m := by omega
          subst this; exact absurd ⟨tj.2.1, tj.2.2⟩ c
      · rcases Nat.lt_or_ge j m with g | g
        · exact i2 h j g tj
        · have : j = m := by omega
          subst this; exact c ⟨tj.2.1, tj.2.2⟩
theorem pick_best {w : Wks} {t : Nat} {ran : Nat → Nat} {b : Nat} (h : pick w t ran w.n = some b) : w.Best t ran b := by
  obtain ⟨_, h2, h3⟩ := (pick_spec w t ran w.n (Nat.le_refl _)).1 b h
  exact ⟨h2, fun j hj => h3 j hj.1 hj⟩
theorem pick_none {w : Wks} {t : Nat} {ran : Nat → Nat} (h : pick w t ran w.n = none) (i : Nat) : ¬ w.There t ran i :=
  fun hi => (pick_spec w t ran w.n (Nat.le_refl _)).2 h i hi.1 hi
/-- how often each has run by a time -/
def st (w : Wks) : Nat → Nat → Nat
  | 0 => fun _ => 0
  | t + 1 => match pick w t (st w t) w.n with
    | none => st w t
    | some b => upd (st w t) b
theorem st_plays (w : Wks) : w.Plays (st w) where
  zero := fun _ => rfl
  go := fun t => by
    cases e : pick w t (st w t) w.n with
    | none => right; exact ⟨pick_none e, by simp only [st]; rw [e]⟩
    | some b => left; exact ⟨b, pick_best e, by simp only [st]; rw [e]⟩
/-- NEVER, of works: what is taken is nobody's -/
theorem Oks.never {l : List Wk} (h : Oks l) {t b j : Nat} (hb : pick (wks l) t (st (wks l) t) l.length = some b) (hj : j < l.length) (hne : j ≠ b) {k : Int} (hk : k ∈ (wks l).M b (st (wks l) t b)) : k ∉ (wks l).H j (st (wks l) t j) :=
  ((st_plays (wks l)).inv h.ok t).never h.ok (pick_best hb) hj hne hk
end LockM
end Go.Proofs.Ytllfpbngfkimlaa
