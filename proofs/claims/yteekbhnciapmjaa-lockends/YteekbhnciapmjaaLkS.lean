/- Package lock: nobody waits longer than the bound (LockOnce), plain mathematics. -/
import Derived.Test.YteekbhnciapmjaaLkR
set_option linter.unusedVariables false
namespace Go.Proofs.Yteekbhnciapmjaa
open SpanM SpanC IntsC
namespace LockC
open LockM
/-- while it is at an act it has a lock as urgent as i -/
def Pos (L : List LockM.Wk) (i : Nat) (l : List LockM.Ac) (j : Nat) : Prop := ∃ k ∈ (hasAt l j).getD [], ceil L k ≤ i
/-- which of its locks count -/
def isC (cl : List Int) (i : Nat) (k : Int) : Bool := decide (¬ (i : Int) < cl.getD k.toNat 0)
theorem hc_eq {w : LockM.Wk} (hw : w.Ok) (cl : List Int) (i : Nat) : ∀ j, j ≤ w.2.length → (lgF cl i (w.2.take j)).2.2 = (((hasAt w.2 j).getD []).countP (isC cl i) : Nat) := by
  intro j
  induction j with
  | zero => intro _; simp [lgF, hasAt_zero]
  | succ j ih =>
    intro hj
    have hlt : j < w.2.length := by omega
    have h0 := ih (by omega)
    rw [lgF_next hlt]
    generalize lgF cl i (w.2.take j) = s at *
    obtain ⟨m, r, h⟩ := s
    simp only at h0
    by_cases c1 : w.2[j].1 = 1
    · have e : hasAt w.2 (j + 1) = hasAt w.2 j := by
        have a := hasAt_all hw.all (j := j + 1) (by omega)
        have a0 := hasAt_all hw.all (j := j) (by omega)
        obtain ⟨g, hg⟩ := Option.isSome_iff_exists.1 a0
        rw [hasAt_succ hlt, hg] at a ⊢
        simp only [stp, c1, if_true] at a ⊢
        split at a
        · rename_i c; rw [if_pos c]
        · cases a
      rw [e]
      unfold lgS
      rw [if_pos c1]
      split <;> exact h0
    · obtain ⟨hk, hb1, hb2⟩ := lock_of hw hlt c1
      rcases hk with c2 | c3
      · obtain ⟨g, g1, _, _, _, g5⟩ := hasAt_take hw hlt c2
        rw [g1] at h0
        rw [g5]
        simp only [Option.getD_some] at *
        rw [List.countP_append, List.countP_singleton]
        unfold lgS
        rw [if_neg c1]
        by_cases hi : (i : Int) < cl.getD w.2[j].2.toNat 0
        · rw [if_pos hi]
          have : isC cl i w.2[j].2 = false := decide_eq_false (fun q => q hi)
          simp only [this, h0]; simp
        · rw [if_neg hi, if_pos c2]
          have : isC cl i w.2[j].2 = true := decide_eq_true hi
          simp only [this, h0]; simp
      · obtain ⟨g, g1, g2, g3⟩ := hasAt_drop hw hlt c3
        rw [g1] at h0
        rw [g3]
        simp only [Option.getD_some] at *
        obtain ⟨ys, rfl⟩ := List.getLast?_eq_some_iff.1 g2
        rw [List.countP_append, List.countP_singleton] at h0
        rw [List.dropLast_concat]
        unfold lgS
        rw [if_neg c1]
        have c2 : ¬ w.2[j].1 = 2 := by omega
        by_cases hi : (i : Int) < cl.getD w.2[j].2.toNat 0
        · rw [if_pos hi]
          have : isC cl i w.2[j].2 = false := decide_eq_false (fun q => q hi)
          simp only [this] at h0; simp at h0; exact h0
        · rw [if_neg hi, if_neg c2]
          have : isC cl i w.2[j].2 = true := decide_eq_true hi
          simp only [this] at h0; simp at h0; simp only; omega
theorem hc_pos {L : List LockM.Wk} {x : Nat} (hL : Oks L) (hx : x < L.length) (i : Nat) {j : Nat} (hj : j ≤ (acts L x).length) : (lgF (ceils L) i ((acts L x).take j)).2.2 ≠ 0 ↔ Pos L i (acts L x) j := by
  have hw := hL.at hx
  have e : acts L x = (L.getD x (0, [])).2 := rfl
  rw [e] at hj ⊢
  rw [hc_eq hw _ _ j hj]
  have key : ∀ k ∈ (hasAt (L.getD x (0, [])).2 j).getD [], isC (ceils L) i k = true ↔ ceil L k ≤ i := by
    intro k hk
    have hh : ∃ h, hasAt (L.getD x (0, [])).2 j = some h := Option.isSome_iff_exists.1 (hasAt_all hw.all hj)
    obtain ⟨h, hh⟩ := hh
    rw [hh] at hk
    simp only [Option.getD_some] at hk
    have hb := (hasAt_keeps hh).2 k hk
    have ht := took hh hk
    have hc : ceil L k ≤ x := ceil_le (by rw [e]; exact ht)
    obtain ⟨n, rfl⟩ : ∃ n : Nat, k = n := ⟨k.toNat, by omega⟩
    simp only [isC, Int.toNat_natCast, decide_eq_true_eq]
    rw [ceils_at _ (by omega), ceilI, if_pos (by omega)]
    omega
  constructor
  · intro h
    have : 0 < ((hasAt (L.getD x (0, [])).2 j).getD []).countP (isC (ceils L) i) := by omega
    obtain ⟨k, hk, h2⟩ := List.countP_pos_iff.1 this
    exact ⟨k, hk, (key k hk).1 h2⟩
  · rintro ⟨k, hk, h2⟩
    have : 0 < ((hasAt (L.getD x (0, [])).2 j).getD []).countP (isC (ceils L) i) := List.countP_pos_iff.2 ⟨k, hk, (key k hk).2 h2⟩
    omega
section
variable {L : List LockM.Wk} {x : Nat} (hL : Oks L) (hx : x < L.length) (i : Nat)
include hL hx
theorem row_ge : ∀ j, j ≤ (acts L x).length → ∀ m : Nat, m ≤ cntU (acts L x) j → (∀ r, cntU (acts L x) j - m ≤ r → r < cntU (acts L x) j → Pos L i (acts L x) ((units 0 (acts L x)).getD r 0)) → (m : Int) ≤ (lgF (ceils L) i ((acts L x).take j)).2.1 := by
  have hw := hL.at hx
  have hbd := lgF_bd (C := ceils L) (i := i) (run_bd hw)
  intro j
  induction j with
  | zero => intro _ m hm _; rw [cntU_zero] at hm; simp [lgF]; omega
  | succ j ih =>
    intro hj m hm hp
    have hlt : j < (acts L x).length := by omega
    have ih' := ih (by omega)
    have hpos := hc_pos hL hx i (j := j) (by omega)
    have hb := hbd j (by show j ≤ (acts L x).length; omega)
    have hcu := cntU_succ hlt
    rw [lgF_next hlt]
    have hb' : 0 ≤ (lgF (ceils L) i ((acts L x).take j)).2.1 := hb.2.2.1
    generalize lgF (ceils L) i ((acts L x).take j) = s at *
    unfold lgS
    by_cases c1 : (acts L x)[j].1 = 1
    · rw [if_pos c1] at hcu ⊢
      have hN := run_bd hw _ (List.getElem_mem (show j < (L.getD x (0, [])).2.length from hlt)) c1
      have hN1 : 1 ≤ (acts L x)[j].2 := by
        rcases kind_of hw.all (show j < (L.getD x (0, [])).2.length from hlt) with c | c | c
        · exact c.2.1
        · exact absurd c.1 (by rw [show (L.getD x (0, [])).2[j] = (acts L x)[j] from rfl, c1]; decide)
        · exact absurd c (by rw [show (L.getD x (0, [])).2[j] = (acts L x)[j] from rfl, c1]; decide)
      have hun := fun q hq => getD_run (q := q) hlt c1 hq
      by_cases hh : s.2.2 = 0
      · rw [if_pos hh]
        simp only
        rcases Nat.eq_zero_or_pos m with e | e
        · omega
        · exfalso
          have h1 := hp (cntU (acts L x) (j + 1) - 1) (by omega) (by omega)
          have h2 := hun ((acts L x)[j].2.toNat - 1) (by omega)
          rw [show cntU (acts L x) (j + 1) - 1 = cntU (acts L x) j + ((acts L x)[j].2.toNat - 1) by omega, h2] at h1
          exact (hpos.2 h1) hh
      · rw [if_neg hh]
        simp only
        rcases Nat.lt_or_ge (acts L x)[j].2.toNat m with q | q
        · have := ih' (m - (acts L x)[j].2.toNat) (by omega) (fun r h1 h2 => hp r (by omega) (by omega))
          omega
        · omega
    · rw [if_neg c1] at hcu ⊢
      rw [Nat.add_zero] at hcu
      rw [hcu] at hm hp
      have := ih' m hm hp
      split
      · exact this
      · split <;> exact this
theorem most_ge : ∀ j, j ≤ (acts L x).length → ∀ s m : Nat, s + m ≤ cntU (acts L x) j → (∀ r, s ≤ r → r < s + m → Pos L i (acts L x) ((units 0 (acts L x)).getD r 0)) → (m : Int) ≤ (lgF (ceils L) i ((acts L x).take j)).1 := by
  have hw := hL.at hx
  have hbd := lgF_bd (C := ceils L) (i := i) (run_bd hw)
  intro j
  induction j with
  | zero => intro _ s m hm _; rw [cntU_zero] at hm; simp [lgF]; omega
  | succ j ih =>
    intro hj s m hm hp
    have hlt : j < (acts L x).length := by omega
    have ih' := ih (by omega)
    have hpos := hc_pos hL hx i (j := j) (by omega)
    have hb := hbd j (by show j ≤ (acts L x).length; omega)
    have hcu := cntU_succ hlt
    have hrow := row_ge hL hx i (j + 1) hj
    rw [lgF_next hlt] at hrow ⊢
    have hb' : 0 ≤ (lgF (ceils L) i ((acts L x).take j)).1 := hb.1
    generalize lgF (ceils L) i ((acts L x).take j) = S at *
    unfold lgS at hrow ⊢
    by_cases c1 : (acts L x)[j].1 = 1
    · rw [if_pos c1] at hcu hrow ⊢
      have hN := run_bd hw _ (List.getElem_mem (show j < (L.getD x (0, [])).2.length from hlt)) c1
      have hun := fun q hq => getD_run (q := q) hlt c1 hq
      rcases Nat.lt_or_ge (cntU (acts L x) j) (s + m) with q | q
      · -- it ends among this act's times
        by_cases hm0 : m = 0
        · subst hm0
          split
          · simp only; omega
          · simp only; omega
        · have h1 := hp (s + m - 1) (by omega) (by omega)
          have h2 := hun (s + m - 1 - cntU (acts L x) j) (by have := hN.1; omega)
          rw [show cntU (acts L x) j + (s + m - 1 - cntU (acts L x) j) = s + m - 1 by omega] at h2
          rw [h2] at h1
          have hh := hpos.2 h1
          rw [if_neg hh] at hrow ⊢
          simp only at hrow ⊢
          have := hrow (cntU (acts L x) (j + 1) - s) (by omega) (fun r h3 h4 => by
            rcases Nat.lt_or_ge r (s + m) with g | g
            · exact hp r (by omega) g
            · have h5 := hun (r - cntU (acts L x) j) (by omega)
              rw [show cntU (acts L x) j + (r - cntU (acts L x) j) = r by omega] at h5
              rw [h5]; exact h1)
          omega
      · have := ih' s m q hp
        split
        · exact this
        · simp only; omega
    · rw [if_neg c1] at hcu ⊢
      rw [Nat.add_zero] at hcu
      rw [hcu] at hm
      have := ih' s m hm hp
      split
      · exact this
      · split <;> exact this
end
/-- what it has when it has run r times it had at the last of these -/
theorem now_at {w : LockM.Wk} (hw : w.Ok) {r : Nat} (hrT : r ≤ (units 0 w.2).length) {k : Int} (h : k ∈ hasNow w.2 r) : 0 < r ∧ k ∈ (hasAt w.2 ((units 0 w.2).getD (r - 1) 0)).getD [] := by
  unfold hasNow at h
  split at h
  · cases h
  · rename_i hr
    refine ⟨by omega, ?_⟩
    simp only at h
    have hmem : (units 0 w.2).getD (r - 1) 0 ∈ units 0 w.2 := by
      rw [List.getD_eq_getElem?_getD, List.getElem?_eq_getElem (by omega), Option.getD_some]
      exact List.getElem_mem _
    obtain ⟨_, hj, hkind⟩ := units_mem hmem
    simp only [Nat.sub_zero] at hj hkind
    generalize (units 0 w.2).getD (r - 1) 0 = j at *
    split at h
    · -- behind drops
      have back : ∀ d p, p + d = past w.2 (j + 1) → j + 1 ≤ p → past w.2 (j + 1) ≤ w.2.length → k ∈ (hasAt w.2 (past w.2 (j + 1))).getD [] → k ∈ (hasAt w.2 p).getD [] := by
        intro d
        induction d with
        | zero => intro p e _ _ hk; rw [Nat.add_zero] at e; rw [e]; exact hk
        | succ d ih =>
          intro p e hp hle hk
          have h1 := ih (p + 1) (by omega) (by omega) hle hk
          have hlt : p < w.2.length := by omega
          obtain ⟨g, g1, g2, g3⟩ := hasAt_drop hw hlt (past_drops p hlt hp (by omega))
          rw [g3] at h1
          rw [g1]
          simp only [Option.getD_some] at *
          exact List.dropLast_subset g h1
      have hple : past w.2 (j + 1) ≤ w.2.length := past_le (by omega)
      have hpge : j + 1 ≤ past w.2 (j + 1) := by unfold past; omega
      have h1 := back (past w.2 (j + 1) - (j + 1)) (j + 1) (by omega) (Nat.le_refl _) hple h
      have a := hasAt_all hw.all (j := j + 1) (by omega)
      have a0 := hasAt_all hw.all (j := j) (by omega)
      obtain ⟨g, hg⟩ := Option.isSome_iff_exists.1 a0
      rw [hasAt_succ hj, hg] at a h1
      rw [hg]
      simp only [stp, hkind, if_true] at a h1
      split at a
      · rename_i q; rw [if_pos q] at h1; exact h1
      · cases a
    · exact h
/-- in a time between it ran so often, and was chosen -/
theorem between {w : Wks} {x c t r : Nat} (h1 : st w c x ≤ r) (h2 : r < st w t x) (hct : c ≤ t) : ∃ s, c ≤ s ∧ s < t ∧ st w s x = r ∧ who w s = some x := by
  induction t with
  | zero =>
    have : c = 0 := by omega
    subst this; omega
  | succ t ih =>
    rcases Nat.lt_or_ge t c with q | q
    · have : c = t + 1 := by omega
      subst this; omega
    · have hs := st_step (w := w) (i := x) (t := t)
      rcases Nat.lt_or_ge r (st w t x) with g | g
      · obtain ⟨s, s1, s2, s3, s4⟩ := ih g q
        exact ⟨s, s1, by omega, s3, s4⟩
      · by_cases e : who w t = some x
        · rw [if_pos e] at hs
          exact ⟨t, q, by omega, by omega, e⟩
        · rw [if_neg e] at hs; omega
/-- how many times among those from c on are a less urgent one's -/
def lessN (w : Wks) (i c : Nat) : Nat → Nat
  | 0 => 0
  | d + 1 => lessN w i c d + (if (i : Int) < whoI w (c + d) then 1 else 0)
/-- ONCE -/
theorem less_bound {L : List LockM.Wk} (hL : Oks L) {i : Nat} (hi : i < L.length) (d : Nat) (hth : ∀ s, (wks L).came i ≤ s → s < (wks L).came i + d → (wks L).There s (st (wks L) s) i) : (lessN (wks L) i ((wks L).came i) d : Int) ≤ bnd L i := by
  -- all of them are one's, and as many as it has run
  have key : ∀ d, (∀ s, (wks L).came i ≤ s → s < (wks L).came i + d → (wks L).There s (st (wks L) s) i) → lessN (wks L) i ((wks L).came i) d = 0 ∨ ∃ x, i < x ∧ x < L.length ∧ lessN (wks L) i ((wks L).came i) d = st (wks L) ((wks L).came i + d) x - st (wks L) ((wks L).came i) x ∧ 0 < lessN (wks L) i ((wks L).came i) d := by
    intro d
    induction d with
    | zero => intro _; exact .inl rfl
    | succ d ih =>
      intro hth
      have ih' := ih (fun s h1 h2 => hth s h1 (by omega))
      simp only [lessN]
      have hthd := hth ((wks L).came i + d) (by omega) (by omega)
      rcases whoI_cases (wks L) ((wks L).came i + d) with e | ⟨y, hy, e⟩
      · rw [e, if_neg (by omega), Nat.add_zero]
        rcases ih' with h0 | ⟨x, x1, x2, x3, x4⟩
        · exact .inl h0
        · refine .inr ⟨x, x1, x2, ?_, x4⟩
          have hs := st_step (w := wks L) (i := x) (t := (wks L).came i + d)
          rw [if_neg (by intro q; have := whoI_eq.2 q; omega)] at hs
          rw [← Nat.add_assoc]; omega
      · have hyw := whoI_eq.1 e
        rw [e]
        by_cases hiy : i < y
        · rw [if_pos (by omega)]
          have hs := st_step (w := wks L) (i := y) (t := (wks L).came i + d)
          rw [if_pos hyw] at hs
          have hri := st_rise (w := wks L) (i := y) (show (wks L).came i ≤ (wks L).came i + d by omega)
          rcases ih' with h0 | ⟨x, x1, x2, x3, x4⟩
          · refine .inr ⟨y, hiy, hy, ?_, by omega⟩
            -- y has not run yet since it came
            have hz : st (wks L) ((wks L).came i + d) y = st (wks L) ((wks L).came i) y := by
              rcases Nat.eq_or_lt_of_le hri with q | q
              · exact q.symm
              · exfalso
                obtain ⟨s, s1, s2, s3, s4⟩ := between (Nat.le_refl _) q (by omega)
                -- so it was counted
                have cnt : ∀ d', s < (wks L).came i + d' → 0 < lessN (wks L) i ((wks L).came i) d' := by
                  intro d'
                  induction d' with
                  | zero => intro h; omega
                  | succ d' ih2 =>
                    intro h
                    simp only [lessN]
                    rcases Nat.lt_or_ge s ((wks L).came i + d') with g | g
                    · have := ih2 g; omega
                    · have : s = (wks L).came i + d' := by omega
                      rw [← this, whoI_eq.2 s4, if_pos (by omega)]; omega
                have := cnt d s2
                omega
            rw [← Nat.add_assoc, h0]; omega
          · have hxy : x = y := by
              obtain ⟨s, s1, s2, s3, s4⟩ := between (w := wks L) (x := x) (c := (wks L).came i) (t := (wks L).came i + d) (Nat.le_refl _) (by omega) (by omega)
              exact (st_plays (wks L)).one hL.ok (Nat.le_of_lt s2) (hth s s1 (by omega)) hthd x1 hiy (pick_best s4) (pick_best hyw)
            subst hxy
            refine .inr ⟨x, x1, x2, ?_, by omega⟩
            rw [← Nat.add_assoc]; omega
        · rw [if_neg (by omega), Nat.add_zero]
          rcases ih' with h0 | ⟨x, x1, x2, x3, x4⟩
          · exact .inl h0
          · refine .inr ⟨x, x1, x2, ?_, x4⟩
            have hs := st_step (w := wks L) (i := x) (t := (wks L).came i + d)
            rw [if_neg (by rw [hyw]; simp; omega)] at hs
            rw [← Nat.add_assoc]; omega
  rcases key d hth with h0 | ⟨x, x1, x2, x3, x4⟩
  · rw [h0]
    exact (bndK_bd hL i _ (Nat.le_refl _)).1
  · have hri := st_rise (w := wks L) (i := x) (show (wks L).came i ≤ (wks L).came i + d by omega)
    have hmx := most L hL ((wks L).came i + d) x x2
    have hTx : (wks L).T x = (units 0 (acts L x)).length := rfl
    -- each of the runs ahead of these was with a lock
    have pos : ∀ r, st (wks L) ((wks L).came i) x ≤ r → r < st (wks L) ((wks L).came i + d) x → 0 < r ∧ Pos L i (acts L x) ((units 0 (acts L x)).getD (r - 1) 0) := by
      intro r h1 h2
      obtain ⟨s, s1, s2, s3, s4⟩ := between h1 h2 (by omega)
      obtain ⟨_, hb, hu⟩ := ((st_plays (wks L)).inv hL.ok s).waits hL.ok (hth s s1 s2) (pick_best s4) x1
      obtain ⟨k, hk, hck⟩ := urg_lt (C := (wks L).C) (i := x) (h := (wks L).H x (st (wks L) s x)) hu x1
      rw [s3] at hk
      have := now_at (w := L.getD x (0, [])) (hL.at x2) (r := r) (by show r ≤ (wks L).T x; omega) hk
      exact ⟨this.1, k, this.2, hck⟩
    have hr0 := (pos _ (Nat.le_refl _) (by omega)).1
    have hm := most_ge hL x2 i (acts L x).length (Nat.le_refl _) (st (wks L) ((wks L).came i) x - 1) (lessN (wks L) i ((wks L).came i) d) (by rw [cntU_all, ← hTx]; omega) (fun r h1 h2 => by
      have := (pos (r + 1) (by omega) (by omega)).2
      rwa [Nat.add_sub_cancel] at this)
    rw [List.take_length] at hm
    -- and the bound is no less
    have bd : ∀ k, x < i + 1 + k → (lgF (ceils L) i (acts L x)).1 ≤ bndK L i k := by
      intro k
      induction k with
      | zero => intro h; omega
      | succ k ih =>
        intro h
        simp only [bndK]
        rcases Nat.lt_or_ge x (i + 1 + k) with g | g
        · have := ih g; omega
        · have : x = i + 1 + k := by omega
          rw [← this]; omega
    have := bd (L.length - (i + 1)) (by omega)
    unfold bnd
    omega
end LockC
end Go.Proofs.Yteekbhnciapmjaa
