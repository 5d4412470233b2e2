/- Plain mathematics of locks: what is told of a play, and what holds of it (LockEnds, LockFirst, LockOn). -/
import Derived.Test.YtllfpbngfkimlaaLockM3
set_option linter.unusedVariables false
namespace Go.Proofs.Ytllfpbngfkimlaa
namespace LockM
/-- who runs at a time -/
def who (w : Wks) (t : Nat) : Option Nat := pick w t (st w t) w.n
/-- .. as it is told -/
def whoI (w : Wks) (t : Nat) : Int := match who w t with
  | some b => (b : Int)
  | none => -1
theorem st_who {w : Wks} {t b : Nat} (h : who w t = some b) : st w (t + 1) = upd (st w t) b := by
  unfold who at h
  simp only [st]; rw [h]
theorem st_none {w : Wks} {t : Nat} (h : who w t = none) : st w (t + 1) = st w t := by
  unfold who at h
  simp only [st]; rw [h]
theorem who_there {w : Wks} {t b : Nat} (h : who w t = some b) : w.There t (st w t) b := (pick_best h).1
theorem who_none {w : Wks} {t : Nat} (h : who w t = none) (i : Nat) : ¬ w.There t (st w t) i := pick_none h i
theorem whoI_eq {w : Wks} {t i : Nat} : whoI w t = (i : Int) ↔ who w t = some i := by
  unfold whoI
  cases who w t with
  | none => simp
  | some b => simp; omega
theorem whoI_neg {w : Wks} {t : Nat} : whoI w t < 0 ↔ who w t = none := by
  unfold whoI
  cases who w t with
  | none => simp
  | some b => simp
theorem whoI_cases (w : Wks) (t : Nat) : whoI w t = -1 ∨ ∃ b, b < w.n ∧ whoI w t = (b : Int) := by
  unfold whoI
  cases h : who w t with
  | none => left; rfl
  | some b => right; exact ⟨b, (who_there h).1, rfl⟩
theorem st_rise {w : Wks} {i t s : Nat} (h : t ≤ s) : st w t i ≤ st w s i := (st_plays w).rise h
theorem st_step {w : Wks} {i t : Nat} : st w (t + 1) i = st w t i + (if who w t = some i then 1 else 0) := by
  cases h : who w t with
  | none => rw [st_none h]; simp
  | some b =>
    rw [st_who h]
    by_cases e : i = b
    · subst e; rw [upd_self]; simp
    · rw [upd_other e, if_neg (by simpa using fun q => e q.symm)]; rfl
/-- how often it has run is how often it stands there -/
theorem st_count {w : Wks} {i : Nat} (t : Nat) : ((List.range t).countP fun s => decide (whoI w s = (i : Int))) = st w t i := by
  induction t with
  | zero => rfl
  | succ t ih =>
    rw [List.range_succ, List.countP_append, ih, st_step]
    by_cases h : who w t = some i
    · rw [if_pos h]; simp [whoI_eq.2 h]
    · rw [if_neg h]
      have : ¬ whoI w t = (i : Int) := fun q => h (whoI_eq.1 q)
      simp [this]
/-- what is told of its end by a time: one more than the time of its last run; 0: it isn't done -/
def EndP (w : Wks) (T i : Nat) (n : Nat) : Prop := (n = 0 ∧ st w T i ≠ w.T i) ∨ (0 < n ∧ n ≤ T ∧ st w n i = w.T i ∧ st w (n - 1) i ≠ w.T i)
theorem most (l : List Wk) (h : Oks l) (t i : Nat) (hi : i < l.length) : st (wks l) t i ≤ (wks l).T i := ((st_plays (wks l)).inv h.ok t).most i hi
theorem T_pos {l : List Wk} (h : Oks l) {i : Nat} (hi : i < l.length) : 0 < (wks l).T i := by
  have := (h.at hi).units_ne
  show 0 < (units 0 (acts l i)).length
  unfold acts
  exact List.length_pos_iff.2 this
theorem EndP.exists {l : List Wk} (h : Oks l) {i : Nat} (hi : i < l.length) (T : Nat) : ∃ n, EndP (wks l) T i n := by
  induction T with
  | zero => exact ⟨0, .inl ⟨rfl, by have := T_pos h hi; simp only [st]; omega⟩⟩
  | succ T ih =>
    obtain ⟨n, hn | ⟨n1, n2, n3, n4⟩⟩ := ih
    · by_cases e : st (wks l) (T + 1) i = (wks l).T i
      · exact ⟨T + 1, .inr ⟨by omega, Nat.le_refl _, e, hn.2⟩⟩
      · exact ⟨0, .inl ⟨rfl, e⟩⟩
    · exact ⟨n, .inr ⟨n1, by omega, n3, n4⟩⟩
theorem EndP.one {l : List Wk} (h : Oks l) {i : Nat} (hi : i < l.length) {T n m : Nat} (a : EndP (wks l) T i n) (b : EndP (wks l) T i m) : n = m := by
  have mo := fun t => most l h t i hi
  rcases a with ⟨a1, a2⟩ | ⟨a1, a2, a3, a4⟩ <;> rcases b with ⟨b1, b2⟩ | ⟨b1, b2, b3, b4⟩
  · omega
  · have := st_rise (w := wks l) (i := i) b2; have := mo T; omega
  · have := st_rise (w := wks l) (i := i) a2; have := mo T; omega
  · rcases Nat.lt_trichotomy n m with q | q | q
    · have := st_rise (w := wks l) (i := i) (show n ≤ m - 1 by omega); have := mo (m - 1); omega
    · exact q
    · have := st_rise (w := wks l) (i := i) (show m ≤ n - 1 by omega); have := mo (n - 1); omega
/-- by a later time: what was told stays, what was not was done later -/
theorem EndP.later {l : List Wk} (h : Oks l) {i : Nat} (hi : i < l.length) {T S n m : Nat} (hT : T ≤ S) (a : EndP (wks l) T i n) (b : EndP (wks l) S i m) : (0 < n → m = n) ∧ (n = 0 → 0 < m → T < m) := by
  refine ⟨fun hn => ?_, fun hn hm => ?_⟩
  · rcases a with ⟨a1, _⟩ | ⟨a1, a2, a3, a4⟩
    · omega
    · exact EndP.one h hi b (.inr ⟨a1, by omega, a3, a4⟩)
  · rcases a with ⟨_, a2⟩ | ⟨a1, _⟩
    · rcases b with ⟨b1, _⟩ | ⟨b1, b2, b3, b4⟩
      · omega
      · rcases Nat.lt_or_ge T m with q | q
        · exact q
        · have := st_rise (w := wks l) (i := i) q; have := most l h T i hi; omega
    · omega
/-- as a step goes on -/
theorem EndP.step {l : List Wk} (h : Oks l) {i : Nat} (hi : i < l.length) {t n : Nat} (a : EndP (wks l) t i n) : EndP (wks l) (t + 1) i (if who (wks l) t = some i ∧ st (wks l) t i + 1 = (wks l).T i then t + 1 else n) := by
  have hs := st_step (w := wks l) (i := i) (t := t)
  by_cases c : who (wks l) t = some i ∧ st (wks l) t i + 1 = (wks l).T i
  · rw [if_pos c]
    rw [if_pos c.1] at hs
    exact .inr ⟨by omega, Nat.le_refl _, by omega, by rw [Nat.add_sub_cancel]; omega⟩
  · rw [if_neg c]
    rcases a with ⟨a1, a2⟩ | ⟨a1, a2, a3, a4⟩
    · refine .inl ⟨a1, ?_⟩
      by_cases d : who (wks l) t = some i
      · rw [if_pos d] at hs; intro e; exact c ⟨d, by omega⟩
      · rw [if_neg d] at hs; omega
    · exact .inr ⟨a1, by omega, a3, a4⟩
/-! LockEnds -/
theorem run_come {w : Wks} {t i : Nat} (h : who w t = some i) : w.came i ≤ t := (who_there h).2.1
theorem run_end {w : Wks} {T t i n : Nat} (h : who w t = some i) (e : EndP w T i n) (hn : 0 < n) : t < n := by
  rcases e with ⟨e1, _⟩ | ⟨e1, e2, e3, e4⟩
  · omega
  · rcases Nat.lt_or_ge t n with q | q
    · exact q
    · have := st_rise (w := w) (i := i) q; have := (who_there h).2.2; omega
theorem idle {l : List Wk} (hk : Oks l) {T t i n : Nat} (hi : i < l.length) (ht : t < T) (h : who (wks l) t = none) (e : EndP (wks l) T i n) : ¬ ((wks l).came i ≤ t ∧ (n = 0 ∨ t < n)) := by
  rintro ⟨h1, h2⟩
  refine who_none h i ⟨hi, h1, ?_⟩
  have mo := fun t => most l hk t i hi
  have rise := fun {s r : Nat} (q : s ≤ r) => st_rise (w := wks l) (i := i) q
  rcases e with ⟨e1, e2⟩ | ⟨e1, e2, e3, e4⟩
  · have := rise (show t ≤ T by omega); have := mo T; omega
  · rcases h2 with h2 | h2
    · omega
    · have := rise (show t ≤ n - 1 by omega); have := mo (n - 1); omega
theorem end_all {l : List Wk} {T i n : Nat} (h : Oks l) (hi : i < l.length) (e : EndP (wks l) T i n) (hn : 0 < n) : st (wks l) T i = (wks l).T i := by
  rcases e with ⟨e1, _⟩ | ⟨e1, e2, e3, e4⟩
  · omega
  · have := st_rise (w := wks l) (i := i) e2; have := most l h T i hi; omega
theorem end_last {w : Wks} {T i n : Nat} (e : EndP w T i n) (hn : 0 < n) : who w (n - 1) = some i := by
  rcases e with ⟨e1, _⟩ | ⟨e1, e2, e3, e4⟩
  · omega
  · have hs := st_step (w := w) (i := i) (t := n - 1)
    rw [show n - 1 + 1 = n by omega] at hs
    by_cases c : who w (n - 1) = some i
    · exact c
    · rw [if_neg c] at hs; omega
theorem end_done {l : List Wk} {T i n last : Nat} (h : Oks l) (hi : i < l.length) (hl : ∀ j, j < l.length → (wks l).came j ≤ last) (hT : last + sum (wks l).T l.length ≤ T) (e : EndP (wks l) T i n) : 0 < n := by
  have := (st_plays (wks l)).done h.ok hl hT hi
  rcases e with ⟨e1, e2⟩ | ⟨e1, _⟩
  · exact absurd this e2
  · exact e1
/-! LockFirst: without locks -/
theorem stp_free {l : List Ac} (h : ∀ a ∈ l, a.1 = 1) : ∀ (o : List Int), (l.foldl stp (some o)) = some o ∨ (l.foldl stp (some o)) = none := by
  induction l with
  | nil => intro o; left; rfl
  | cons a r ih =>
    intro o
    have e := h a (by simp)
    simp only [List.foldl_cons, stp, e, if_true]
    split
    · exact ih (fun b hb => h b (by simp [hb])) o
    · right
      have : ∀ r : List Ac, r.foldl stp none = none := by
        intro r
        induction r with
        | nil => rfl
        | cons b s ih => exact ih
      exact this r
theorem has_free {l : List Ac} (h : ∀ a ∈ l, a.1 = 1) (j : Nat) : (hasAt l j).getD [] = [] := by
  unfold hasAt
  rcases stp_free (l := l.take j) (fun a ha => h a (List.mem_of_mem_take ha)) [] with e | e <;> rw [e] <;> rfl
theorem now_free {l : List Ac} (h : ∀ a ∈ l, a.1 = 1) (r : Nat) : hasNow l r = [] := by
  unfold hasNow
  split
  · rfl
  · simp only
    split <;> exact has_free h _
theorem u_free {l : List Wk} (h : ∀ w ∈ l, ∀ a ∈ w.2, a.1 = 1) (ran : Nat → Nat) {i : Nat} (hi : i < l.length) : (wks l).u ran i = i := by
  have : (wks l).H i (ran i) = [] := by
    show hasNow (acts l i) (ran i) = []
    refine now_free ?_ _
    unfold acts
    rw [List.getD_eq_getElem?_getD, List.getElem?_eq_getElem hi, Option.getD_some]
    exact h _ (List.getElem_mem hi)
  unfold Wks.u
  rw [this]; rfl
/-- each time is the most urgent one's that is there -/
theorem first_there {l : List Wk} (hk : Oks l) (h : ∀ w ∈ l, ∀ a ∈ w.2, a.1 = 1) {T t i n : Nat} (hi : i < l.length) (ht : t < T) (e : EndP (wks l) T i n) (hc : (wks l).came i ≤ t) (hn : n = 0 ∨ t < n) : ∃ b, who (wks l) t = some b ∧ b ≤ i := by
  cases hw : who (wks l) t with
  | none => exact absurd ⟨hc, hn⟩ (idle hk hi ht hw e)
  | some b =>
    refine ⟨b, rfl, ?_⟩
    have hb := (who_there hw).1
    have mo := fun t => most l hk t i hi
    have rise := fun {s r : Nat} (q : s ≤ r) => st_rise (w := wks l) (i := i) q
    have th : (wks l).There t (st (wks l) t) i := by
      refine ⟨hi, hc, ?_⟩
      rcases e with ⟨e1, e2⟩ | ⟨e1, e2, e3, e4⟩
      · have := rise (show t ≤ T by omega); have := mo T; omega
      · rcases hn with hn | hn
        · omega
        · have := rise (show t ≤ n - 1 by omega); have := mo (n - 1); omega
    have := ((pick_best hw).2 i th).1
    rw [u_free h _ hb, u_free h _ hi] at this
    exact this
/-! what is told in whole -/
def ranL (w : Wks) (T : Nat) : List Int := (List.range T).map (whoI w)
theorem ranL_len (w : Wks) (T : Nat) : (ranL w T).length = T := by simp [ranL]
theorem ranL_succ (w : Wks) (T : Nat) : ranL w (T + 1) = ranL w T ++ [whoI w T] := by simp [ranL, List.range_succ]
theorem ranL_at (w : Wks) {T t : Nat} (h : t < T) : (ranL w T).getD t 0 = whoI w t := by simp [ranL, List.getD, h]
noncomputable def endV (w : Wks) (T i : Nat) : Nat := Classical.epsilon (EndP w T i)
theorem endV_spec {l : List Wk} (h : Oks l) {i : Nat} (hi : i < l.length) (T : Nat) : EndP (wks l) T i (endV (wks l) T i) := Classical.epsilon_spec (EndP.exists h hi T)
theorem endV_eq {l : List Wk} (h : Oks l) {i : Nat} (hi : i < l.length) {T n : Nat} (e : EndP (wks l) T i n) : endV (wks l) T i = n := EndP.one h hi (endV_spec h hi T) e
noncomputable def endL (l : List Wk) (T : Nat) : List Int := (List.range l.length).map fun i => (endV (wks l) T i : Int)
theorem endL_len (l : List Wk) (T : Nat) : (endL l T).length = l.length := by simp [endL]
theorem endL_at (l : List Wk) (T : Nat) {i : Nat} (h : i < l.length) : (endL l T).getD i 0 = (endV (wks l) T i : Int) := by simp [endL, List.getD, h]
theorem endL_zero {l : List Wk} (h : Oks l) : endL l 0 = List.replicate l.length 0 := by
  apply List.ext_getElem
  · simp [endL]
  · intro i h1 h2
    have hi : i < l.length := by simpa [endL] using h1
    have : endV (wks l) 0 i = 0 := endV_eq h hi (.inl ⟨rfl, by have := T_pos h hi; simp only [st]; omega⟩)
    simp [endL, this]
/-- a time more: the one that runs its last time ends -/
theorem endL_step {l : List Wk} (h : Oks l) (t : Nat) : endL l (t + 1) = match who (wks l) t with
    | some b => if st (wks l) t b + 1 = (wks l).T b then (endL l t).set b ((t : Int) + 1) else endL l t
    | none => endL l t := by
  have key : ∀ i, i < l.length → endV (wks l) (t + 1) i = if who (wks l) t = some i ∧ st (wks l) t i + 1 = (wks l).T i then t + 1 else endV (wks l) t i := fun i hi => endV_eq h hi ((endV_spec h hi t).step h hi)
  cases hw : who (wks l) t with
  | none =>
    simp only
    apply List.ext_getElem
    · simp [endL]
    · intro i h1 h2
      have hi : i < l.length := by simpa [endL] using h1
      have := key i hi
      rw [hw, if_neg (by simp)] at this
      simp [endL, this]
  | some b =>
    simp only
    have hb : b < l.length := (who_there hw).1
    by_cases c : st (wks l) t b + 1 = (wks l).T b
    · rw [if_pos c]
      apply List.ext_getElem
      · simp [endL]
      · intro i h1 h2
        have hi : i < l.length := by simpa [endL] using h1
        have k := key i hi
        rw [List.getElem_set]
        by_cases e : b = i
        · subst e
          rw [if_pos ⟨hw, c⟩] at k
          rw [if_pos rfl]
          simp [endL, k]
        · rw [hw, if_neg (by rintro ⟨q, _⟩; exact e (by simpa using q))] at k
          rw [if_neg e]
          simp [endL, k]
    · rw [if_neg c]
      apply List.ext_getElem
      · simp [endL]
      · intro i h1 h2
        have hi : i < l.length := by simpa [endL] using h1
        have k := key i hi
        rw [hw, if_neg (by rintro ⟨q, r⟩; simp only [Option.some.injEq] at q; subst q; exact c r)] at k
        simp [endL, k]
end LockM
end Go.Proofs.Ytllfpbngfkimlaa
