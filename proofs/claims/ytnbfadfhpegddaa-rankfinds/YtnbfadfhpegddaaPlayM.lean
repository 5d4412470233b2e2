/- Plain mathematics of plays: jobs that come and are due, and one of them worked at a time. -/
set_option linter.unusedVariables false
namespace Go.Proofs.Ytnbfadfhpegddaa
namespace PlayM
/-- the sum of f over those below n of which P says so -/
def sumP (P : Nat → Bool) (f : Nat → Int) : Nat → Int
  | 0 => 0
  | n + 1 => sumP P f n + (if P n = true then f n else 0)
theorem sumP_le {P : Nat → Bool} {f g : Nat → Int} {n : Nat} (h : ∀ i, i < n → P i = true → f i ≤ g i) : sumP P f n ≤ sumP P g n := by
  induction n with
  | zero => simp [sumP]
  | succ n ih =>
    have a := ih fun i hi => h i (by omega)
    simp only [sumP]
    split
    · have := h n (by omega) ‹_›; omega
    · omega
theorem sumP_eq {P : Nat → Bool} {f g : Nat → Int} {n : Nat} (h : ∀ i, i < n → P i = true → f i = g i) : sumP P f n = sumP P g n := by
  have a := sumP_le (P := P) (f := f) (g := g) (n := n) fun i hi hp => by rw [h i hi hp]; exact Int.le_refl _
  have b := sumP_le (P := P) (f := g) (g := f) (n := n) fun i hi hp => by rw [h i hi hp]; exact Int.le_refl _
  omega
theorem sumP_nonneg {P : Nat → Bool} {f : Nat → Int} {n : Nat} (h : ∀ i, i < n → P i = true → 0 ≤ f i) : 0 ≤ sumP P f n := by
  induction n with
  | zero => simp [sumP]
  | succ n ih =>
    have a := ih fun i hi => h i (by omega)
    simp only [sumP]
    split
    · have := h n (by omega) ‹_›; omega
    · omega
/-- each is no more than all -/
theorem sumP_each {P : Nat → Bool} {f : Nat → Int} {n : Nat} (h : ∀ i, i < n → P i = true → 0 ≤ f i) {j : Nat} (hj : j < n) (hp : P j = true) : f j ≤ sumP P f n := by
  induction n with
  | zero => omega
  | succ n ih =>
    have a := sumP_nonneg (P := P) (f := f) (n := n) fun i hi => h i (by omega)
    simp only [sumP]
    by_cases c : j = n
    · subst c
      rw [if_pos hp]; omega
    · have := ih (fun i hi => h i (by omega)) (by omega)
      split
      · have := h n (by omega) ‹_›; omega
      · omega
/-- one of them has one less -/
theorem sumP_dec {P : Nat → Bool} {f g : Nat → Int} {n b : Nat} (hb : b < n) (hg : g b = f b - 1) (ho : ∀ i, i ≠ b → g i = f i) : sumP P g n = sumP P f n - (if P b = true then 1 else 0) := by
  induction n with
  | zero => omega
  | succ n ih =>
    simp only [sumP]
    by_cases c : b = n
    · subst c
      rw [sumP_eq (f := g) (g := f) fun i hi _ => ho i (by omega), hg]
      split <;> omega
    · rw [ih (by omega), ho n (by omega)]; omega
theorem sumP_pos {P : Nat → Bool} {f : Nat → Int} {n : Nat} (h : 0 < sumP P f n) : ∃ i, i < n ∧ P i = true ∧ 0 < f i := by
  induction n with
  | zero => simp [sumP] at h
  | succ n ih =>
    simp only [sumP] at h
    by_cases c : 0 < sumP P f n
    · obtain ⟨i, h1, h2⟩ := ih c
      exact ⟨i, by omega, h2⟩
    · split at h
      · exact ⟨n, by omega, ‹_›, by omega⟩
      · omega
/-- how many of the times below n there are -/
def av (a : Nat → Bool) : Nat → Int
  | 0 => 0
  | n + 1 => av a n + (if a n = true then 1 else 0)

/-- jobs: when they come, when they are due, how long they take -/
structure Jobs where
  n : Nat
  came : Nat → Nat
  due : Nat → Nat
  long : Nat → Int
/-- may be worked at -/
def Pend (J : Jobs) (L : Nat → Int) (t i : Nat) : Prop := i < J.n ∧ J.came i ≤ t ∧ 0 < L i
/-- what is left of each, time by time, below T; c: at which is worked -/
structure Run (J : Jobs) (a : Nat → Bool) (T : Nat) (L : Nat → Nat → Int) (c : Nat → Option Nat) : Prop where
  start : ∀ i, i < J.n → L 0 i = J.long i
  off : ∀ t, t < T → a t = false → L (t + 1) = L t
  idle : ∀ t, t < T → a t = true → c t = none → L (t + 1) = L t ∧ ∀ i, ¬ Pend J (L t) t i
  work : ∀ t b, t < T → a t = true → c t = some b → Pend J (L t) t b ∧ L (t + 1) b = L t b - 1 ∧ ∀ i, i ≠ b → L (t + 1) i = L t i
/-- that goes first which is due first -/
def Edf (J : Jobs) (a : Nat → Bool) (T : Nat) (L : Nat → Nat → Int) (c : Nat → Option Nat) : Prop := ∀ t b, t < T → a t = true → c t = some b → ∀ i, Pend J (L t) t i → J.due b ≤ J.due i
variable {J : Jobs} {a : Nat → Bool} {T : Nat} {L : Nat → Nat → Int} {c : Nat → Option Nat}
/-- one step: it is as it was, or one has one less -/
theorem Run.step (h : Run J a T L c) {t : Nat} (ht : t < T) : (L (t + 1) = L t ∧ (a t = true → c t = none ∧ ∀ i, ¬ Pend J (L t) t i)) ∨ ∃ b, a t = true ∧ c t = some b ∧ Pend J (L t) t b ∧ L (t + 1) b = L t b - 1 ∧ ∀ i, i ≠ b → L (t + 1) i = L t i := by
  cases ha : a t with
  | false => exact .inl ⟨h.off t ht ha, fun e => by simp at e⟩
  | true =>
    cases hc : c t with
    | none => obtain ⟨h1, h2⟩ := h.idle t ht ha hc; exact .inl ⟨h1, fun _ => ⟨rfl, h2⟩⟩
    | some b => obtain ⟨h1, h2, h3⟩ := h.work t b ht ha hc; exact .inr ⟨b, rfl, rfl, h1, h2, h3⟩
theorem Run.down (h : Run J a T L c) {t : Nat} (ht : t < T) (i : Nat) : L (t + 1) i ≤ L t i := by
  rcases h.step ht with ⟨e, _⟩ | ⟨b, _, _, _, h2, h3⟩
  · rw [e]; exact Int.le_refl _
  · by_cases c : i = b
    · subst c; omega
    · rw [h3 i c]; exact Int.le_refl _
theorem Run.anti (h : Run J a T L c) {s t : Nat} (hs : s ≤ t) (ht : t ≤ T) (i : Nat) : L t i ≤ L s i := by
  obtain ⟨k, rfl⟩ : ∃ k, t = s + k := ⟨t - s, by omega⟩
  induction k with
  | zero => exact Int.le_refl _
  | succ k ih =>
    have a := ih (by omega) (by omega)
    have b := h.down (t := s + k) (by omega) i
    rw [show s + (k + 1) = s + k + 1 by omega]; omega
theorem Run.nonneg (h : Run J a T L c) (hl : ∀ i, i < J.n → 0 ≤ J.long i) {t : Nat} (ht : t ≤ T) {i : Nat} (hi : i < J.n) : 0 ≤ L t i := by
  induction t with
  | zero => rw [h.start i hi]; exact hl i hi
  | succ t ih =>
    have a := ih (by omega)
    rcases h.step (t := t) (by omega) with ⟨e, _⟩ | ⟨b, _, _, h1, h2, h3⟩
    · rw [e]; exact a
    · by_cases c : i = b
      · subst c; have := h1.2.2; omega
      · rw [h3 i c]; exact a
/-- ahead of when it comes nothing is done of it -/
theorem Run.fresh (h : Run J a T L c) {t : Nat} (ht : t ≤ T) {i : Nat} (hi : i < J.n) (hc : t ≤ J.came i) : L t i = J.long i := by
  induction t with
  | zero => exact h.start i hi
  | succ t ih =>
    have e0 := ih (by omega) (by omega)
    rcases h.step (t := t) (by omega) with ⟨e, _⟩ | ⟨b, _, _, h1, h2, h3⟩
    · rw [e]; exact e0
    · by_cases c : i = b
      · subst c; have := h1.2.1; omega
      · rw [h3 i c]; exact e0
/-- of any jobs no more is done than there are times -/
theorem Run.most (h : Run J a T L c) (P : Nat → Bool) {s t : Nat} (hs : s ≤ t) (ht : t ≤ T) : sumP P (L s) J.n - sumP P (L t) J.n ≤ av a t - av a s := by
  obtain ⟨k, rfl⟩ : ∃ k, t = s + k := ⟨t - s, by omega⟩
  induction k with
  | zero => simp
  | succ k ih =>
    have e0 := ih (by omega) (by omega)
    rw [show s + (k + 1) = s + k + 1 by omega]
    simp only [av]
    rcases h.step (t := s + k) (by omega) with ⟨e, _⟩ | ⟨b, ha, _, h1, h2, h3⟩
    · rw [e]; split <;> omega
    · rw [sumP_dec h1.1 h2 h3, ha]
      simp only [if_true]
      split <;> omega
/-- the jobs that come from s on and are due by d -/
def within (J : Jobs) (s d : Nat) (i : Nat) : Bool := decide (s ≤ J.came i) && decide (J.due i ≤ d)
theorem within_iff {s d i : Nat} : within J s d i = true ↔ s ≤ J.came i ∧ J.due i ≤ d := by simp [within]
/-- where all that are due by d are done by then, they need no more than there is -/
theorem Run.enough (h : Run J a T L c) {s d : Nat} (hs : s ≤ d) (hd : d ≤ T) (hl : ∀ i, i < J.n → 0 ≤ J.long i) (hdone : ∀ i, i < J.n → J.due i ≤ d → L (J.due i) i = 0) :
    sumP (within J s d) J.long J.n ≤ av a d - av a s := by
  have m := h.most (within J s d) hs hd
  have e1 : sumP (within J s d) (L s) J.n = sumP (within J s d) J.long J.n := sumP_eq fun i hi hp => h.fresh (by omega) hi (within_iff.1 hp).1
  have e2 : sumP (within J s d) (L d) J.n ≤ sumP (within J s d) (fun _ => 0) J.n := sumP_le fun i hi hp => by
    have := h.anti (within_iff.1 hp).2 hd i
    rw [hdone i hi (within_iff.1 hp).2] at this
    exact this
  have e3 : ∀ n, sumP (within J s d) (fun _ => 0) n = 0 := by
    intro n
    induction n with
    | zero => rfl
    | succ n ih => simp only [sumP, ih]; split <;> rfl
  rw [e1] at m
  rw [e3] at e2
  omega
/-- where there is too little some job is late -/
theorem Run.misses (h : Run J a T L c) {s d : Nat} (hs : s ≤ d) (hd : d ≤ T) (hlt : av a d - av a s < sumP (within J s d) J.long J.n) :
    ∃ i, i < J.n ∧ s ≤ J.came i ∧ J.due i ≤ d ∧ 0 < L (J.due i) i := by
  have m := h.most (within J s d) hs hd
  have e1 : sumP (within J s d) (L s) J.n = sumP (within J s d) J.long J.n := sumP_eq fun i hi hp => h.fresh (by omega) hi (within_iff.1 hp).1
  rw [e1] at m
  obtain ⟨i, hi, hp, hpos⟩ := sumP_pos (P := within J s d) (f := L d) (n := J.n) (by omega)
  have := h.anti (within_iff.1 hp).2 hd i
  exact ⟨i, hi, (within_iff.1 hp).1, (within_iff.1 hp).2, by omega⟩
/-- the last time ahead of d at which Q did not hold -/
theorem last_not (Q : Nat → Prop) (d : Nat) : ∃ s, s ≤ d ∧ (∀ t, s ≤ t → t < d → Q t) ∧ (s = 0 ∨ ∃ u, s = u + 1 ∧ ¬ Q u) := by
  induction d with
  | zero => exact ⟨0, Nat.le_refl _, fun t h1 h2 => by omega, .inl rfl⟩
  | succ d ih =>
    by_cases hq : Q d
    · obtain ⟨s, h1, h2, h3⟩ := ih
      refine ⟨s, by omega, fun t t1 t2 => ?_, h3⟩
      by_cases e : t = d
      · subst e; exact hq
      · exact h2 t t1 (by omega)
    · exact ⟨d + 1, Nat.le_refl _, fun t h1 h2 => by omega, .inr ⟨d, rfl, hq⟩⟩
/-- BARUAH: where there is enough from every time on, no job is late, if that goes first which is due first -/
theorem Run.edf (h : Run J a T L c) (he : Edf J a T L c) (hl : ∀ i, i < J.n → 0 ≤ J.long i) {d : Nat} (hd : d ≤ T)
    (hs : ∀ s, s ≤ d → sumP (within J s d) J.long J.n ≤ av a d - av a s) {j : Nat} (hj : j < J.n) (hdj : J.due j ≤ d) : L d j = 0 := by
  obtain ⟨s, s1, s2, s3⟩ := last_not (fun t => a t = true → ∃ b, c t = some b ∧ J.due b ≤ d) d
  -- behind s no job that came ahead of it and is due by d has anything left
  have old : ∀ i, i < J.n → J.due i ≤ d → s ≤ J.came i ∨ L s i = 0 := by
    intro i hi hdi
    rcases s3 with rfl | ⟨u, rfl, hu⟩
    · exact .inl (Nat.zero_le _)
    · by_cases hc : u + 1 ≤ J.came i
      · exact .inl hc
      · right
        have hut : u < T := by omega
        have hau : a u = true := by
          cases ha : a u with
          | true => rfl
          | false => exact absurd (fun e => by rw [ha] at e; cases e) hu
        have hnp : ¬ Pend J (L u) u i := by
          intro hp
          cases hcu : c u with
          | none => exact (h.idle u hut hau hcu).2 i hp
          | some b =>
            have := he u b hut hau hcu i hp
            exact hu fun _ => ⟨b, hcu, by omega⟩
        have h0 := h.nonneg hl (show u ≤ T by omega) hi
        have hz : L u i = 0 := by
          by_cases hz : L u i = 0
          · exact hz
          · exact absurd ⟨hi, by omega, by omega⟩ hnp
        have a1 := h.down hut i
        have a2 := h.nonneg hl (show u + 1 ≤ T by omega) hi
        omega
  -- from s on each time there is takes one of what is left of these
  have fall : ∀ k, s + k ≤ d → sumP (within J s d) (L (s + k)) J.n = sumP (within J s d) (L s) J.n - (av a (s + k) - av a s) := by
    intro k
    induction k with
    | zero => intro _; simp
    | succ k ih =>
      intro hk
      have e0 := ih (by omega)
      rw [show s + (k + 1) = s + k + 1 by omega]
      simp only [av]
      cases ha : a (s + k) with
      | false =>
        rw [h.off (s + k) (by omega) ha, e0]
        simp
      | true =>
        obtain ⟨b, hb, hdb⟩ := s2 (s + k) (by omega) (by omega) ha
        obtain ⟨h1, h2, h3⟩ := h.work (s + k) b (by omega) ha hb
        have hw : within J s d b = true := by
          rcases old b h1.1 hdb with hc | hz
          · exact within_iff.2 ⟨hc, hdb⟩
          · have := h.anti (show s ≤ s + k by omega) (by omega) b
            have := h1.2.2
            omega
        rw [sumP_dec h1.1 h2 h3, e0, hw]
        simp only [if_true]
        omega
  have f := fall (d - s) (by omega)
  rw [show s + (d - s) = d by omega] at f
  have e1 : sumP (within J s d) (L s) J.n = sumP (within J s d) J.long J.n := sumP_eq fun i hi hp => h.fresh (by omega) hi (within_iff.1 hp).1
  have g := hs s s1
  have nn : ∀ i, i < J.n → within J s d i = true → 0 ≤ L d i := fun i hi _ => h.nonneg hl hd hi
  have h0 := h.nonneg hl hd hj
  rcases old j hj hdj with hc | hz
  · have := sumP_each nn hj (within_iff.2 ⟨hc, hdj⟩)
    omega
  · have := h.anti s1 hd j
    omega
/-- DERTOUZOS: what some order keeps, the earliest due keeps -/
theorem Run.best {L' : Nat → Nat → Int} {c' : Nat → Option Nat} (h : Run J a T L c) (he : Edf J a T L c) (h' : Run J a T L' c') (hl : ∀ i, i < J.n → 0 ≤ J.long i)
    (hdone : ∀ i, i < J.n → J.due i ≤ T → L' (J.due i) i = 0) {j : Nat} (hj : j < J.n) (hdj : J.due j ≤ T) : L (J.due j) j = 0 :=
  h.edf he hl hdj (fun s hs => h'.enough hs hdj hl fun i hi hd => hdone i hi (by omega)) hj (Nat.le_refl _)
end PlayM
end Go.Proofs.Ytnbfadfhpegddaa
