/- Plain mathematics of locks: how far a worker is by its acts, who has each lock, how urgent that makes it. -/
import Derived.Test.YtllfpbngfkimlaaLockM4
set_option linter.unusedVariables false
namespace Go.Proofs.Ytllfpbngfkimlaa
namespace LockM
theorem units_app : ∀ (l r : List Ac) (b : Nat), units b (l ++ r) = units b l ++ units (b + l.length) r
  | [], r, b => by simp [units]
  | a :: l, r, b => by
    simp only [List.cons_append, units, units_app l r (b + 1), List.append_assoc, List.length_cons]
    rw [show b + 1 + l.length = b + (l.length + 1) by omega]
/-- how many times stand ahead of an act -/
def cntU (l : List Ac) (j : Nat) : Nat := (units 0 (l.take j)).length
theorem cntU_zero (l : List Ac) : cntU l 0 = 0 := by simp [cntU, units]
theorem cntU_all (l : List Ac) : cntU l l.length = (units 0 l).length := by simp [cntU]
theorem cntU_succ {l : List Ac} {j : Nat} (h : j < l.length) : cntU l (j + 1) = cntU l j + (if l[j].1 = 1 then l[j].2.toNat else 0) := by
  unfold cntU
  rw [List.take_succ_eq_append_getElem h, units_app, List.length_append]
  congr 1
  simp only [units, List.append_nil]
  split <;> simp
theorem cntU_same {l : List Ac} {j m : Nat} (hjm : j ≤ m) (hm : m ≤ l.length) (no : ∀ i (h : i < l.length), j ≤ i → i < m → l[i].1 ≠ 1) : cntU l m = cntU l j := by
  induction m with
  | zero => have : j = 0 := by omega
            subst this; rfl
  | succ m ih =>
    rcases Nat.lt_or_ge m j with q | q
    · have : j = m + 1 := by omega
      subst this; rfl
    · rw [cntU_succ (by omega), if_neg (no m (by omega) q (by omega)), Nat.add_zero]
      exact ih q (by omega) fun i h h1 h2 => no i h h1 (by omega)
theorem units_split {l : List Ac} {m : Nat} (h : m < l.length) (e : l[m].1 = 1) : units 0 l = units 0 (l.take m) ++ (List.replicate l[m].2.toNat m ++ units (m + 1) (l.drop (m + 1))) := by
  conv => lhs; rw [← List.take_append_drop m l, List.drop_eq_getElem_cons h]
  rw [units_app]
  simp only [units, e, if_true, List.length_take, Nat.zero_add, show min m l.length = m by omega]
theorem getD_run {l : List Ac} {m q : Nat} (h : m < l.length) (e : l[m].1 = 1) (hq : q < l[m].2.toNat) : (units 0 l).getD (cntU l m + q) 0 = m := by
  rw [units_split h e, List.getD_eq_getElem?_getD, List.getElem?_append_right (by unfold cntU; omega)]
  unfold cntU
  rw [show (units 0 (l.take m)).length + q - (units 0 (l.take m)).length = q by omega, List.getElem?_append_left (by simpa using hq)]
  simp [hq]
theorem lt_all {l : List Ac} {m q : Nat} (h : m < l.length) (e : l[m].1 = 1) (hq : q < l[m].2.toNat) : cntU l m + q < (units 0 l).length := by
  rw [units_split h e]
  simp only [List.length_append, List.length_replicate]
  unfold cntU; omega
theorem next_ne {l : List Ac} {m : Nat} (h : m < l.length) (e : l[m].1 = 1) (hT : cntU l m + l[m].2.toNat < (units 0 l).length) : (units 0 l).getD (cntU l m + l[m].2.toNat) 0 ≠ m := by
  have hT' := hT
  rw [units_split h e] at hT' ⊢
  simp only [List.length_append, List.length_replicate] at hT'
  have e1 : cntU l m = (units 0 (l.take m)).length := rfl
  rw [List.getD_eq_getElem?_getD, List.getElem?_append_right (by omega), e1, show (units 0 (l.take m)).length + l[m].2.toNat - (units 0 (l.take m)).length = l[m].2.toNat by omega, List.getElem?_append_right (by simp)]
  simp only [List.length_replicate, Nat.sub_self]
  have hpos : 0 < (units (m + 1) (l.drop (m + 1))).length := by omega
  rw [List.getElem?_eq_getElem hpos, Option.getD_some]
  have := (units_mem (List.getElem_mem hpos)).1
  omega
theorem past_eq {l : List Ac} {j p : Nat} (hjp : j ≤ p) (hp : p ≤ l.length) (all : ∀ i (h : i < l.length), j ≤ i → i < p → l[i].1 = 3) (stop : ∀ h : p < l.length, l[p].1 ≠ 3) : past l j = p := by
  have key : ∀ d j, j + d = p → (∀ i (h : i < l.length), j ≤ i → i < p → l[i].1 = 3) → past l j = p := by
    intro d
    induction d with
    | zero =>
      intro j e _
      have : j = p := by omega
      subst this
      unfold past
      rcases Nat.lt_or_ge j l.length with q | q
      · rw [List.drop_eq_getElem_cons q, List.takeWhile_cons, if_neg (by simpa using stop q)]; rfl
      · rw [List.drop_of_length_le q]; rfl
    | succ d ih =>
      intro j e all
      have hj : j < l.length := by omega
      have h1 := ih (j + 1) (by omega) fun i h h1 h2 => all i h (by omega) h2
      unfold past at *
      rw [List.drop_eq_getElem_cons hj, List.takeWhile_cons, if_pos (by simpa using all j hj (Nat.le_refl _) (by omega)), List.length_cons]
      omega
  exact key (p - j) j (by omega) all
theorem past_drops {l : List Ac} {j : Nat} : ∀ i (h : i < l.length), j ≤ i → i < past l j → l[i].1 = 3 := by
  intro i h h1 h2
  unfold past at h2
  have hlen : i - j < ((l.drop j).takeWhile fun a => decide (a.1 = 3)).length := by omega
  have hm := List.getElem_mem hlen
  have key : ∀ (m : List Ac) (a : Ac), a ∈ m.takeWhile (fun a => decide (a.1 = 3)) → a.1 = 3 := by
    intro m
    induction m with
    | nil => intro a h; cases h
    | cons x r ih =>
      intro a h
      rw [List.takeWhile_cons] at h
      split at h
      · rename_i hx
        rcases List.mem_cons.1 h with rfl | h
        · simpa using hx
        · exact ih a h
      · cases h
  have e : ((l.drop j).takeWhile fun a => decide (a.1 = 3))[i - j] = l[i] := by
    have pf := (List.takeWhile_prefix (fun a : Ac => decide (a.1 = 3)) (l := l.drop j))
    rw [List.IsPrefix.getElem pf hlen, List.getElem_drop]
    congr 1; omega
  rw [e] at hm
  exact key _ _ hm
/-- how far a work is that has run r times: at which act, and how many times of that one -/
structure At (l : List Ac) (r j q : Nat) : Prop where
  le : j ≤ l.length
  mid : q = 0 ∨ ∃ h : j < l.length, l[j].1 = 1 ∧ (q : Int) < l[j].2
  cnt : cntU l j + q = r
  now : hasNow l r = (hasAt l j).getD []
  over : r = (units 0 l).length → j = l.length
theorem At.zero {w : Wk} (hw : w.Ok) : At w.2 0 0 0 where
  le := Nat.zero_le _
  mid := .inl rfl
  cnt := by rw [cntU_zero]
  now := by rw [hasAt_zero]; rfl
  over := fun h => absurd (List.length_eq_zero_iff.1 h.symm) hw.units_ne
theorem At.isOver {l : List Ac} {r j q : Nat} (a : At l r j q) : j = l.length ↔ r = (units 0 l).length := by
  refine ⟨fun h => ?_, a.over⟩
  have hq : q = 0 := by
    rcases a.mid with h0 | ⟨h1, _⟩
    · exact h0
    · omega
  have := a.cnt
  rw [h, cntU_all] at this
  omega
/-- there is a time left: an act that runs stands ahead -/
theorem At.ahead {l : List Ac} {r j q m : Nat} (a : At l r j q) (hr : r < (units 0 l).length) (hjm : j ≤ m) (hm : m ≤ l.length) (no : ∀ i (h : i < l.length), j ≤ i → i < m → l[i].1 ≠ 1) : m < l.length := by
  rcases Nat.lt_or_ge m l.length with h | h
  · exact h
  · exfalso
    have e : m = l.length := by omega
    subst e
    have := cntU_same hjm (Nat.le_refl _) no
    rw [cntU_all] at this
    have := a.cnt
    omega
theorem At.q_lt {w : Wk} (hw : w.Ok) {r j q m : Nat} (a : At w.2 r j q) (hjm : j ≤ m) (hm : m < w.2.length) (e : w.2[m].1 = 1) (no : ∀ i (h : i < w.2.length), j ≤ i → i < m → w.2[i].1 ≠ 1) : q < w.2[m].2.toNat ∧ cntU w.2 m + q = r := by
  have hk := kind_of hw.all hm
  have hc := cntU_same hjm (Nat.le_of_lt hm) no
  refine ⟨?_, by have := a.cnt; omega⟩
  rcases a.mid with h0 | ⟨h1, h2, h3⟩
  · subst h0
    rcases hk with c | c | c <;> omega
  · have : j = m := by
      rcases Nat.lt_or_ge j m with g | g
      · exact absurd h2 (no j h1 (Nat.le_refl _) g)
      · omega
    subst this; omega
theorem At.more {w : Wk} (hw : w.Ok) {r j q m : Nat} (a : At w.2 r j q) (hjm : j ≤ m) (hm : m < w.2.length) (e : w.2[m].1 = 1) (no : ∀ i (h : i < w.2.length), j ≤ i → i < m → w.2[i].1 ≠ 1) (hq : (q : Int) + 1 < w.2[m].2) : At w.2 (r + 1) m (q + 1) := by
  obtain ⟨h1, h2⟩ := a.q_lt hw hjm hm e no
  have g1 := getD_run hm e h1
  have g2 := getD_run (q := q + 1) hm e (by omega)
  have g3 := lt_all (q := q + 1) hm e (by omega)
  refine ⟨Nat.le_of_lt hm, .inr ⟨hm, e, by omega⟩, by omega, ?_, fun h => by omega⟩
  unfold hasNow
  rw [if_neg (by omega)]
  simp only [Nat.add_sub_cancel]
  rw [← h2, g1, Nat.add_assoc, g2, if_neg]
  rintro (c | c)
  · omega
  · exact c rfl
theorem At.last {w : Wk} (hw : w.Ok) {r j q m : Nat} (a : At w.2 r j q) (hjm : j ≤ m) (hm : m < w.2.length) (e : w.2[m].1 = 1) (no : ∀ i (h : i < w.2.length), j ≤ i → i < m → w.2[i].1 ≠ 1) (hq : ¬ (q : Int) + 1 < w.2[m].2) : At w.2 (r + 1) (past w.2 (m + 1)) 0 := by
  obtain ⟨h1, h2⟩ := a.q_lt hw hjm hm e no
  have hq1 : q + 1 = w.2[m].2.toNat := by omega
  have g1 := getD_run hm e h1
  have hp : past w.2 (m + 1) ≤ w.2.length := past_le (by omega)
  have hp1 : m + 1 ≤ past w.2 (m + 1) := by unfold past; omega
  have hc : cntU w.2 (past w.2 (m + 1)) = cntU w.2 (m + 1) := cntU_same hp1 hp fun i h h1 h2 => by rw [past_drops i h h1 h2]; decide
  have hc2 := cntU_succ hm
  rw [if_pos e] at hc2
  refine ⟨hp, .inl rfl, by omega, ?_, fun h => ?_⟩
  · unfold hasNow
    rw [if_neg (by omega)]
    simp only [Nat.add_sub_cancel]
    rw [← h2, g1, if_pos]
    rcases Nat.lt_or_ge (cntU w.2 m + w.2[m].2.toNat) (units 0 w.2).length with c | c
    · right
      have := next_ne hm e c
      rwa [show cntU w.2 m + q + 1 = cntU w.2 m + w.2[m].2.toNat by omega]
    · left
      have := lt_all hm e h1
      omega
  · -- it was the last one: only drops are behind it
    refine past_end (by omega) fun b hb => ?_
    obtain ⟨d, hd, rfl⟩ := List.getElem_of_mem hb
    rw [List.length_drop] at hd
    rw [List.getElem_drop]
    have hd' : m + 1 + d < w.2.length := by omega
    have norun : ∀ i (hi : i < w.2.length), w.2[i].1 = 1 → i ≤ m := by
      intro i hi ei
      rcases Nat.lt_or_ge m i with g | g
      · exfalso
        have l1 : cntU w.2 i + 0 < (units 0 w.2).length := by
          refine lt_all hi ei ?_
          rcases kind_of hw.all hi with c | c | c
          · omega
          · omega
          · omega
        have mono : cntU w.2 (m + 1) ≤ cntU w.2 i := by
          have : ∀ d, m + 1 + d ≤ w.2.length → cntU w.2 (m + 1) ≤ cntU w.2 (m + 1 + d) := by
            intro d
            induction d with
            | zero => intro _; exact Nat.le_refl _
            | succ d ih =>
              intro hd
              have e1 := cntU_succ (l := w.2) (j := m + 1 + d) (by omega)
              have e2 := ih (by omega)
              have e3 : m + 1 + (d + 1) = m + 1 + d + 1 := by omega
              rw [e3, e1]
              exact Nat.le_trans e2 (Nat.le_add_right _ _)
          have := this (i - (m + 1)) (by omega)
          rwa [show m + 1 + (i - (m + 1)) = i by omega] at this
        omega
      · exact g
    have nb := hw.behind m hm e norun
    rcases kind_of hw.all hd' with c | c | c
    · exfalso; have := norun _ hd' c.1; omega
    · exfalso
      refine nb w.2[m + 1 + d] ?_ c.1
      rw [List.mem_iff_getElem]
      refine ⟨1 + d, by rw [List.length_drop]; omega, ?_⟩
      rw [List.getElem_drop]; congr 1; omega
    · exact c
/-! what it has: each once, and each a lock -/
theorem stp_keeps {l : List Ac} : ∀ {g h : List Int}, l.foldl stp (some g) = some h → (g.Nodup ∧ ∀ k ∈ g, 0 ≤ k ∧ k ≤ 7) → (h.Nodup ∧ ∀ k ∈ h, 0 ≤ k ∧ k ≤ 7) := by
  have none : ∀ r : List Ac, r.foldl stp none = none := by
    intro r
    induction r with
    | nil => rfl
    | cons a r ih => simp only [List.foldl_cons, stp_none]; exact ih
  induction l with
  | nil => intro g h e hg; simp at e; subst e; exact hg
  | cons a r ih =>
    intro g h e hg
    simp only [List.foldl_cons] at e
    cases q : stp (some g) a with
    | none => rw [q, none] at e; cases e
    | some g' =>
      rw [q] at e
      refine ih e ?_
      simp only [stp] at q
      split at q
      · split at q
        · cases q; exact hg
        · cases q
      · split at q
        · split at q
          · cases q
            rename_i h1 h2 h3
            refine ⟨List.nodup_append.2 ⟨hg.1, by simp, fun x hx y hy => by simp at hy; subst hy; rintro rfl; exact h3.2.2 hx⟩, fun k hk => ?_⟩
            rcases List.mem_append.1 hk with c | c
            · exact hg.2 k c
            · simp at c; subst c; omega
          · cases q
        · split at q
          · split at q
            · cases q
              exact ⟨List.Nodup.sublist (List.dropLast_sublist g) hg.1, fun k hk => hg.2 k (List.dropLast_subset g hk)⟩
            · cases q
          · cases q
theorem hasAt_keeps {l : List Ac} {j : Nat} {h : List Int} (e : hasAt l j = some h) : h.Nodup ∧ ∀ k ∈ h, 0 ≤ k ∧ k ≤ 7 := stp_keeps e ⟨List.nodup_nil, by simp⟩
/-- what each act does -/
theorem hasAt_take {w : Wk} (hw : w.Ok) {m : Nat} (hm : m < w.2.length) (e : w.2[m].1 = 2) : ∃ h, hasAt w.2 m = some h ∧ 0 ≤ w.2[m].2 ∧ w.2[m].2 ≤ 7 ∧ w.2[m].2 ∉ h ∧ hasAt w.2 (m + 1) = some (h ++ [w.2[m].2]) := by
  have a := hasAt_all hw.all (j := m + 1) (by omega)
  have b := hasAt_all hw.all (j := m) (by omega)
  obtain ⟨h, hh⟩ := Option.isSome_iff_exists.1 b
  rw [hasAt_succ hm, hh] at a ⊢
  simp only [stp, e, show ¬ ((2 : Int) = 1) by decide, if_false, if_true] at a ⊢
  split at a
  · rename_i c
    exact ⟨h, rfl, c.1, c.2.1, c.2.2, by rw [if_pos c]⟩
  · cases a
theorem hasAt_drop {w : Wk} (hw : w.Ok) {m : Nat} (hm : m < w.2.length) (e : w.2[m].1 = 3) : ∃ h, hasAt w.2 m = some h ∧ h.getLast? = some w.2[m].2 ∧ hasAt w.2 (m + 1) = some h.dropLast := by
  have a := hasAt_all hw.all (j := m + 1) (by omega)
  have b := hasAt_all hw.all (j := m) (by omega)
  obtain ⟨h, hh⟩ := Option.isSome_iff_exists.1 b
  rw [hasAt_succ hm, hh] at a ⊢
  simp only [stp, e, show ¬ ((3 : Int) = 1) by decide, show ¬ ((3 : Int) = 2) by decide, if_false, if_true] at a ⊢
  split at a
  · rename_i c
    exact ⟨h, rfl, c, by rw [if_pos c]⟩
  · cases a
/-! who has each lock -/
structure Ow (n : Nat) (S : Nat → List Int) (own : List Int) : Prop where
  len : own.length = 8
  isIt : ∀ k : Nat, k < 8 → ∀ i, i < n → (own.getD k 0 = (i : Int) ↔ (k : Int) ∈ S i)
  some : ∀ k : Nat, k < 8 → own.getD k 0 = -1 ∨ ∃ i, i < n ∧ own.getD k 0 = (i : Int)
/-- one has other locks now -/
def setS (S : Nat → List Int) (b : Nat) (h : List Int) : Nat → List Int := fun i => if i = b then h else S i
theorem setS_self (S : Nat → List Int) (b : Nat) (h : List Int) : setS S b h b = h := by simp [setS]
theorem setS_other {S : Nat → List Int} {b i : Nat} {h : List Int} (e : i ≠ b) : setS S b h i = S i := by simp [setS, e]
theorem setS_set (S : Nat → List Int) (b : Nat) (h g : List Int) : setS (setS S b h) b g = setS S b g := by
  funext i; unfold setS; split <;> rfl
theorem setS_same (S : Nat → List Int) (b : Nat) : setS S b (S b) = S := by
  funext i; unfold setS; split
  · rename_i e; rw [e]
  · rfl
theorem getD_set (l : List Int) (k j : Nat) (v : Int) (hj : j < l.length) : (l.set k v).getD j 0 = if k = j then v else l.getD j 0 := by
  simp only [List.getD_eq_getElem?_getD, List.getElem?_set]
  split
  · rename_i e; subst e; simp [hj]
  · rfl
theorem Ow.free {n : Nat} {S : Nat → List Int} {own : List Int} (o : Ow n S own) {k : Nat} (hk : k < 8) (hf : ∀ i, i < n → (k : Int) ∉ S i) : own.getD k 0 = -1 := by
  rcases o.some k hk with h | ⟨i, h1, h2⟩
  · exact h
  · exact absurd ((o.isIt k hk i h1).1 h2) (hf i h1)
theorem Ow.take {n : Nat} {S : Nat → List Int} {own : List Int} (o : Ow n S own) {k b : Nat} (hk : k < 8) (hb : b < n) (hf : ∀ i, i < n → (k : Int) ∉ S i) : Ow n (setS S b (S b ++ [(k : Int)])) (own.set k b) := by
  refine ⟨by simp [o.len], fun j hj i hi => ?_, fun j hj => ?_⟩
  · rw [getD_set _ _ _ _ (by rw [o.len]; exact hj)]
    by_cases e : k = j
    · subst e
      rw [if_pos rfl]
      by_cases eb : i = b
      · subst eb; rw [setS_self]; simp
      · rw [setS_other eb]
        refine ⟨fun h => absurd (by omega) eb, fun h => absurd h (hf i hi)⟩
    · rw [if_neg e, o.isIt j hj i hi]
      by_cases eb : i = b
      · subst eb; rw [setS_self]; simp; omega
      · rw [setS_other eb]
  · rw [getD_set _ _ _ _ (by rw [o.len]; exact hj)]
    by_cases e : k = j
    · rw [if_pos e]; exact .inr ⟨b, hb, rfl⟩
    · rw [if_neg e]; exact o.some j hj
theorem Ow.drop {n : Nat} {S : Nat → List Int} {own : List Int} (o : Ow n S own) {k b : Nat} (hk : k < 8) (hb : b < n) (hl : (S b).getLast? = .some (k : Int)) (hn : (S b).Nodup) (ha : ∀ i, i < n → i ≠ b → (k : Int) ∉ S i) : Ow n (setS S b (S b).dropLast) (own.set k (-1)) := by
  have hs : S b = (S b).dropLast ++ [(k : Int)] := by
    obtain ⟨ys, e⟩ := List.getLast?_eq_some_iff.1 hl
    rw [e, List.dropLast_concat]
  have hne : (k : Int) ∉ (S b).dropLast := by
    rw [hs] at hn
    have := (List.nodup_append.1 hn).2.2
    intro h; exact this _ h _ (by simp) rfl
  refine ⟨by simp [o.len], fun j hj i hi => ?_, fun j hj => ?_⟩
  · rw [getD_set _ _ _ _ (by rw [o.len]; exact hj)]
    by_cases e : k = j
    · subst e
      rw [if_pos rfl]
      refine ⟨fun h => by omega, fun h => ?_⟩
      by_cases eb : i = b
      · subst eb; rw [setS_self] at h; exact absurd h hne
      · rw [setS_other eb] at h; exact absurd h (ha i hi eb)
    · rw [if_neg e, o.isIt j hj i hi]
      by_cases eb : i = b
      · subst eb
        rw [setS_self]
        conv => lhs; rw [hs]
        simp; omega
      · rw [setS_other eb]
  · rw [getD_set _ _ _ _ (by rw [o.len]; exact hj)]
    by_cases e : k = j
    · rw [if_pos e]; exact .inl rfl
    · rw [if_neg e]; exact o.some j hj
theorem Ow.start (n : Nat) {S : Nat → List Int} (h : ∀ i, i < n → S i = []) : Ow n S (List.replicate 8 (-1)) := by
  refine ⟨by simp, fun k hk i hi => ?_, fun k hk => .inl (by rw [List.getD_eq_getElem?_getD, List.getElem?_replicate, if_pos hk]; rfl)⟩
  rw [h i hi, List.getD_eq_getElem?_getD, List.getElem?_replicate, if_pos hk]
  simp only [Option.getD_some, List.not_mem_nil, iff_false]
  omega
theorem Ow.congr {n : Nat} {S R : Nat → List Int} {own : List Int} (o : Ow n S own) (h : ∀ i, i < n → S i = R i) : Ow n R own :=
  ⟨o.len, fun k hk i hi => by rw [o.isIt k hk i hi, h i hi], o.some⟩
/-! how urgent it is, as a loop over all locks finds it -/
theorem urg_eq {C : Int → Nat} {i u : Nat} {h : List Int} (h1 : u ≤ i) (h2 : ∀ k ∈ h, u ≤ C k) (h3 : u = i ∨ ∃ k ∈ h, u = C k) : urg C i h = u := by
  apply Nat.le_antisymm
  · rcases h3 with rfl | ⟨k, hk, rfl⟩
    · exact urg_le _ _ _
    · exact urg_mem hk
  · induction h with
    | nil => exact h1
    | cons x r ih =>
      simp only [urg]
      have a := h2 x (by simp)
      have : ∀ r : List Int, (∀ k ∈ r, u ≤ C k) → u ≤ urg C i r := by
        intro r
        induction r with
        | nil => intro _; exact h1
        | cons y s ih => intro hs; simp only [urg]; exact Nat.le_min.2 ⟨hs y (by simp), ih fun k hk => hs k (by simp [hk])⟩
      exact Nat.le_min.2 ⟨a, this r fun k hk => h2 k (by simp [hk])⟩
/-- its ceiling, as it is told: -1, if none takes it -/
def ceilI (l : List Wk) (k : Int) : Int := if ceil l k < l.length then (ceil l k : Int) else -1
def ceils (l : List Wk) : List Int := (List.range 8).map fun (k : Nat) => ceilI l (k : Int)
theorem ceils_len (l : List Wk) : (ceils l).length = 8 := by simp [ceils]
theorem ceils_at (l : List Wk) {k : Nat} (h : k < 8) : (ceils l).getD k 0 = ceilI l (k : Int) := by simp [ceils, List.getD, h]
/-- what the chosen one may take nobody else has -/
theorem Wks.Inv.noclash {w : Wks} (hw : w.Ok) {t : Nat} {ran : Nat → Nat} (h : w.Inv t ran) {i j : Nat} (hc : w.Best t ran i) (hj : j < w.n) (hne : j ≠ i) {k : Int} (hk : w.C k ≤ i) : k ∉ w.H j (ran j) := by
  intro hh
  have hb := Wks.begun_of hw hj (h.most j hj) hh
  rcases Nat.lt_or_ge j i with q | q
  · exact h.none hw hc q hb
  · have h2 := h.over hw hc (by omega) hb
    have h3 : w.u ran j ≤ w.C k := urg_mem hh
    omega
/-- .. in a play: a lock that the chosen one takes, anywhere -/
theorem Oks.free {l : List Wk} (h : Oks l) {t b j : Nat} (hb : who (wks l) t = some b) (hj : j < l.length) (hne : j ≠ b) {k : Int} (hk : ((2 : Int), k) ∈ acts l b) : k ∉ hasNow (acts l j) (st (wks l) t j) :=
  ((st_plays (wks l)).inv h.ok t).noclash h.ok (pick_best hb) hj hne (ceil_le hk)
end LockM
end Go.Proofs.Ytllfpbngfkimlaa
