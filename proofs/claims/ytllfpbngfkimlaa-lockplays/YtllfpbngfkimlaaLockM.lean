/- Plain mathematics of locks (stage 9): of two begun works the more urgent one is ahead of all that the other has. -/
set_option linter.unusedVariables false
namespace Go.Proofs.Ytllfpbngfkimlaa
namespace LockM
/-- how urgent: its own number, or the least ceiling of what it has -/
def urg (C : Int → Nat) (i : Nat) : List Int → Nat
  | [] => i
  | k :: r => min (C k) (urg C i r)
theorem urg_le (C : Int → Nat) (i : Nat) (h : List Int) : urg C i h ≤ i := by
  induction h with
  | nil => exact Nat.le_refl _
  | cons k r ih => exact Nat.le_trans (Nat.min_le_right _ _) ih
theorem urg_mem {C : Int → Nat} {i : Nat} {h : List Int} {k : Int} (hk : k ∈ h) : urg C i h ≤ C k := by
  induction h with
  | nil => cases hk
  | cons x r ih =>
    rcases List.mem_cons.1 hk with rfl | e
    · exact Nat.min_le_left _ _
    · exact Nat.le_trans (Nat.min_le_right _ _) (ih e)
theorem urg_lt {C : Int → Nat} {i : Nat} {h : List Int} {m : Nat} (hu : urg C i h ≤ m) (hm : m < i) : ∃ k ∈ h, C k ≤ m := by
  induction h with
  | nil => simp [urg] at hu; omega
  | cons x r ih =>
    simp only [urg] at hu
    by_cases hx : C x ≤ m
    · exact ⟨x, by simp, hx⟩
    · obtain ⟨k, k1, k2⟩ := ih (by omega)
      exact ⟨k, by simp [k1], k2⟩
/-- works: how often each runs, when it comes, what it has when it has run so often, and what it has while it runs then -/
structure Wks where
  n : Nat
  T : Nat → Nat
  came : Nat → Nat
  H : Nat → Nat → List Int
  M : Nat → Nat → List Int
  C : Int → Nat
/-- they are right: none has anything ahead of its first time or behind its last; what it has or takes has a ceiling no less urgent -/
structure Wks.Ok (w : Wks) : Prop where
  first : ∀ i, i < w.n → w.H i 0 = []
  last : ∀ i, i < w.n → w.H i (w.T i) = []
  has : ∀ i, i < w.n → ∀ r, r ≤ w.T i → ∀ k ∈ w.H i r, w.C k ≤ i
  mine : ∀ i, i < w.n → ∀ r, r < w.T i → ∀ k ∈ w.M i r, w.C k ≤ i
def Wks.u (w : Wks) (ran : Nat → Nat) (i : Nat) : Nat := urg w.C i (w.H i (ran i))
/-- it is there -/
def Wks.There (w : Wks) (t : Nat) (ran : Nat → Nat) (i : Nat) : Prop := i < w.n ∧ w.came i ≤ t ∧ ran i < w.T i
/-- it is chosen -/
def Wks.Best (w : Wks) (t : Nat) (ran : Nat → Nat) (i : Nat) : Prop :=
  w.There t ran i ∧ ∀ j, w.There t ran j → w.u ran i ≤ w.u ran j ∧ (w.u ran i = w.u ran j → j ≤ i)
theorem Wks.Best.one {w : Wks} {t : Nat} {ran : Nat → Nat} {i j : Nat} (hi : w.Best t ran i) (hj : w.Best t ran j) : i = j := by
  obtain ⟨a1, a2⟩ := hi.2 j hj.1
  obtain ⟨b1, b2⟩ := hj.2 i hi.1
  have e : w.u ran i = w.u ran j := by omega
  have := a2 e
  have := b2 e.symm
  omega
/-- it has begun and isn't done -/
def Wks.Begun (w : Wks) (ran : Nat → Nat) (i : Nat) : Prop := i < w.n ∧ 0 < ran i ∧ ran i < w.T i
/-- what holds at all times: who has run has come, none ran more than it may, and of two begun the lesser is ahead of all that the other has -/
structure Wks.Inv (w : Wks) (t : Nat) (ran : Nat → Nat) : Prop where
  come : ∀ i, i < w.n → 0 < ran i → w.came i ≤ t
  most : ∀ i, i < w.n → ran i ≤ w.T i
  apart : ∀ a b, a < b → w.Begun ran a → w.Begun ran b → a < w.u ran b
theorem Wks.begun_of {w : Wks} (hw : w.Ok) {ran : Nat → Nat} {i : Nat} {k : Int} (hi : i < w.n) (hm : ran i ≤ w.T i) (hk : k ∈ w.H i (ran i)) : w.Begun ran i := by
  refine ⟨hi, ?_, ?_⟩
  · rcases Nat.eq_zero_or_pos (ran i) with e | e
    · rw [e, hw.first i hi] at hk; cases hk
    · exact e
  · rcases Nat.lt_or_ge (ran i) (w.T i) with e | e
    · exact e
    · have e2 : ran i = w.T i := by omega
      rw [e2, hw.last i hi] at hk; cases hk
theorem Wks.Inv.there {w : Wks} {t : Nat} {ran : Nat → Nat} (h : w.Inv t ran) {i : Nat} (hb : w.Begun ran i) : w.There t ran i :=
  ⟨hb.1, h.come i hb.1 hb.2.1, hb.2.2⟩
/-- who is chosen and not begun is its own number -/
theorem Wks.u_new {w : Wks} (hw : w.Ok) {ran : Nat → Nat} {i : Nat} (hi : i < w.n) (hr : ran i = 0) : w.u ran i = i := by
  unfold Wks.u; rw [hr, hw.first i hi]; rfl
/-- the chosen one is ahead of all that the greater begun ones have -/
theorem Wks.Inv.over {w : Wks} (hw : w.Ok) {t : Nat} {ran : Nat → Nat} (h : w.Inv t ran) {i j : Nat} (hc : w.Best t ran i) (hij : i < j) (hj : w.Begun ran j) : i < w.u ran j := by
  obtain ⟨c1, c2⟩ := hc.2 j (h.there hj)
  rcases Nat.eq_zero_or_pos (ran i) with e | e
  · have := Wks.u_new hw hc.1.1 e
    rcases Nat.lt_or_ge i (w.u ran j) with q | q
    · exact q
    · have := c2 (by omega); omega
  · exact h.apart i j hij ⟨hc.1.1, e, hc.1.2.2⟩ hj
/-- and no lesser one has begun -/
theorem Wks.Inv.none {w : Wks} (hw : w.Ok) {t : Nat} {ran : Nat → Nat} (h : w.Inv t ran) {i j : Nat} (hc : w.Best t ran i) (hij : j < i) : ¬ w.Begun ran j := by
  intro hj
  have c1 := (hc.2 j (h.there hj)).1
  have hu : w.u ran j ≤ j := urg_le _ _ _
  rcases Nat.eq_zero_or_pos (ran i) with e | e
  · have := Wks.u_new hw hc.1.1 e; omega
  · have := h.apart j i hij hj ⟨hc.1.1, e, hc.1.2.2⟩; omega
/-- NEVER: what the chosen one takes nobody else has -/
theorem Wks.Inv.never {w : Wks} (hw : w.Ok) {t : Nat} {ran : Nat → Nat} (h : w.Inv t ran) {i j : Nat} (hc : w.Best t ran i) (hj : j < w.n) (hne : j ≠ i) {k : Int} (hk : k ∈ w.M i (ran i)) : k ∉ w.H j (ran j) := by
  intro hh
  have hb := Wks.begun_of hw hj (h.most j hj) hh
  have h1 := hw.mine i hc.1.1 (ran i) hc.1.2.2 k hk
  rcases Nat.lt_or_ge j i with q | q
  · exact h.none hw hc q hb
  · have h2 := h.over hw hc (by omega) hb
    have h3 : w.u ran j ≤ w.C k := urg_mem hh
    omega
/-- it has run once more -/
def upd (ran : Nat → Nat) (i : Nat) : Nat → Nat := fun j => if j = i then ran j + 1 else ran j
theorem upd_self (ran : Nat → Nat) (i : Nat) : upd ran i i = ran i + 1 := by simp [upd]
theorem upd_other {ran : Nat → Nat} {i j : Nat} (h : j ≠ i) : upd ran i j = ran j := by simp [upd, h]
theorem Wks.Inv.later {w : Wks} {t s : Nat} {ran : Nat → Nat} (h : w.Inv t ran) (hs : t ≤ s) : w.Inv s ran :=
  ⟨fun i hi hr => Nat.le_trans (h.come i hi hr) hs, h.most, h.apart⟩
theorem Wks.Inv.step {w : Wks} (hw : w.Ok) {t : Nat} {ran : Nat → Nat} (h : w.Inv t ran) {i : Nat} (hc : w.Best t ran i) : w.Inv (t + 1) (upd ran i) := by
  refine ⟨?_, ?_, ?_⟩
  · intro j hj hr
    by_cases e : j = i
    · subst e; have := hc.1.2.1; omega
    · rw [upd_other e] at hr; have := h.come j hj hr; omega
  · intro j hj
    by_cases e : j = i
    · subst e; rw [upd_self]; have := hc.1.2.2; omega
    · rw [upd_other e]; exact h.most j hj
  · intro a b hab ha hb
    by_cases ea : a = i
    · subst ea
      have eb : b ≠ a := by omega
      have hb' : w.Begun ran b := ⟨hb.1, by have := hb.2.1; rwa [upd_other eb] at this, by have := hb.2.2; rwa [upd_other eb] at this⟩
      have := h.over hw hc hab hb'
      unfold Wks.u at *
      rwa [upd_other eb]
    · have ha' : w.Begun ran a := ⟨ha.1, by have := ha.2.1; rwa [upd_other ea] at this, by have := ha.2.2; rwa [upd_other ea] at this⟩
      by_cases eb : b = i
      · subst eb; exact absurd ha' (h.none hw hc hab)
      · have hb' : w.Begun ran b := ⟨hb.1, by have := hb.2.1; rwa [upd_other eb] at this, by have := hb.2.2; rwa [upd_other eb] at this⟩
        have := h.apart a b hab ha' hb'
        unfold Wks.u at *
        rwa [upd_other eb]
/-- a play: each time's work, if one is there -/
structure Wks.Plays (w : Wks) (st : Nat → Nat → Nat) : Prop where
  zero : ∀ i, st 0 i = 0
  go : ∀ t, (∃ i, w.Best t (st t) i ∧ st (t + 1) = upd (st t) i) ∨ ((∀ i, ¬ w.There t (st t) i) ∧ st (t + 1) = st t)
theorem Wks.Plays.inv {w : Wks} (hw : w.Ok) {st : Nat → Nat → Nat} (h : w.Plays st) (t : Nat) : w.Inv t (st t) := by
  induction t with
  | zero =>
    refine ⟨fun i _ hr => ?_, fun i _ => ?_, fun a b _ ha _ => ?_⟩
    · rw [h.zero] at hr; omega
    · rw [h.zero]; omega
    · have := ha.2.1; rw [h.zero] at this; omega
  | succ t ih =>
    rcases h.go t with ⟨i, hc, e⟩ | ⟨_, e⟩
    · rw [e]; exact ih.step hw hc
    · rw [e]; exact ih.later (by omega)
theorem Wks.Plays.rise {w : Wks} {st : Nat → Nat → Nat} (h : w.Plays st) {i t s : Nat} (hs : t ≤ s) : st t i ≤ st s i := by
  induction s with
  | zero => have : t = 0 := by omega
            subst this; exact Nat.le_refl _
  | succ s ih =>
    rcases Nat.lt_or_ge s t with q | q
    · have : t = s + 1 := by omega
      subst this; exact Nat.le_refl _
    · have a := ih q
      rcases h.go s with ⟨j, _, e⟩ | ⟨_, e⟩
      · rw [e]; by_cases ej : i = j
        · subst ej; rw [upd_self]; omega
        · rw [upd_other ej]; exact a
      · rw [e]; exact a
/-- ONCE: while i is there a less urgent one runs only ahead of i's begin, by what it has, and has begun -/
theorem Wks.Inv.waits {w : Wks} (hw : w.Ok) {t : Nat} {ran : Nat → Nat} (h : w.Inv t ran) {i x : Nat} (hi : w.There t ran i) (hc : w.Best t ran x) (hx : i < x) : ran i = 0 ∧ w.Begun ran x ∧ w.u ran x ≤ i := by
  have c1 := (hc.2 i hi).1
  have hu : w.u ran i ≤ i := urg_le _ _ _
  have hb : 0 < ran x := by
    rcases Nat.eq_zero_or_pos (ran x) with e | e
    · have := Wks.u_new hw hc.1.1 e; omega
    · exact e
  have hbx : w.Begun ran x := ⟨hc.1.1, hb, hc.1.2.2⟩
  refine ⟨?_, hbx, by omega⟩
  rcases Nat.eq_zero_or_pos (ran i) with e | e
  · exact e
  · have := h.apart i x hx ⟨hi.1, e, hi.2.2⟩ hbx; omega
/-- and only one of them has what is as urgent -/
theorem Wks.Inv.who {w : Wks} {t : Nat} {ran : Nat → Nat} (h : w.Inv t ran) {i x y : Nat} (hx : i < x) (hy : i < y) (bx : w.Begun ran x) (bY : w.Begun ran y) (ux : w.u ran x ≤ i) (uy : w.u ran y ≤ i) : x = y := by
  rcases Nat.lt_trichotomy x y with q | q | q
  · have := h.apart x y q bx bY; omega
  · exact q
  · have := h.apart y x q bY bx; omega
/-- while i is there and not begun: who of the less urgent ones runs, ran at no other's side -/
theorem Wks.Plays.one {w : Wks} (hw : w.Ok) {st : Nat → Nat → Nat} (h : w.Plays st) {i x y t s : Nat} (hts : t ≤ s) (ht : w.There t (st t) i) (hs : w.There s (st s) i) (hx : i < x) (hy : i < y) (cx : w.Best t (st t) x) (cy : w.Best s (st s) y) : x = y := by
  obtain ⟨_, bx, ux⟩ := (h.inv hw t).waits hw ht cx hx
  obtain ⟨zi, bY, uy⟩ := (h.inv hw s).waits hw hs cy hy
  -- y stands at t as at s, or it ran between: by whom it was ahead of i then
  by_cases e : st t y = st s y
  · refine (h.inv hw t).who hx hy bx ⟨bY.1, by rw [e]; exact bY.2.1, by rw [e]; exact bY.2.2⟩ ux ?_
    unfold Wks.u at *; rw [e]; exact uy
  · -- the first time at which it ran
    have key : ∀ d, ∀ s', s' ≤ s → s' = t + d → st t y = st s' y ∨ ∃ q, t ≤ q ∧ q < s' ∧ st t y = st q y ∧ w.Best q (st q) y := by
      intro d
      induction d with
      | zero => intro s' _ e; left; rw [e]; rfl
      | succ d ih =>
        intro s' hs' e'
        rcases ih (t + d) (by omega) rfl with a | ⟨q, q1, q2, q3, q4⟩
        · rcases h.go (t + d) with ⟨j, hc, ej⟩ | ⟨_, ej⟩
          · by_cases jy : j = y
            · subst jy; right; exact ⟨t + d, by omega, by omega, a, hc⟩
            · left; rw [e', ← Nat.add_assoc, ej, upd_other (Ne.symm jy)]; exact a
          · left; rw [e', ← Nat.add_assoc, ej]; exact a
        · right; exact ⟨q, q1, by omega, q3, q4⟩
    rcases key (s - t) s (Nat.le_refl _) (by omega) with a | ⟨q, q1, q2, q3, q4⟩
    · exact absurd a e
    · have hq : w.There q (st q) i := by
        refine ⟨ht.1, Nat.le_trans ht.2.1 q1, ?_⟩
        have := h.rise (i := i) (t := q) (s := s) (by omega)
        have := hs.2.2; omega
      obtain ⟨_, b2, u2⟩ := (h.inv hw q).waits hw hq q4 hy
      refine (h.inv hw t).who hx hy bx ⟨b2.1, by rw [q3]; exact b2.2.1, by rw [q3]; exact b2.2.2⟩ ux ?_
      unfold Wks.u at *; rw [q3]; exact u2
/-- how often all have run -/
def sum (ran : Nat → Nat) : Nat → Nat
  | 0 => 0
  | n + 1 => sum ran n + ran n
theorem sum_upd {ran : Nat → Nat} {i : Nat} {n : Nat} (h : i < n) : sum (upd ran i) n = sum ran n + 1 := by
  induction n with
  | zero => omega
  | succ n ih =>
    simp only [sum]
    by_cases e : i = n
    · subst e
      rw [upd_self]
      have : ∀ m, m ≤ i → sum (upd ran i) m = sum ran m := by
        intro m
        induction m with
        | zero => intro _; rfl
        | succ m ih2 => intro hm; simp only [sum]; rw [ih2 (by omega), upd_other (by omega)]
      rw [this i (Nat.le_refl _)]; omega
    · rw [ih (by omega), upd_other (fun q => e q.symm)]; omega
theorem sum_le {f g : Nat → Nat} {n : Nat} (h : ∀ i, i < n → f i ≤ g i) : sum f n ≤ sum g n := by
  induction n with
  | zero => exact Nat.le_refl _
  | succ n ih => simp only [sum]; have := ih fun i hi => h i (by omega); have := h n (by omega); omega
theorem sum_eq {f g : Nat → Nat} {n : Nat} (h : ∀ i, i < n → f i ≤ g i) (e : sum g n ≤ sum f n) : ∀ i, i < n → f i = g i := by
  induction n with
  | zero => intro i hi; omega
  | succ n ih =>
    simp only [sum] at e
    have a := sum_le (f := f) (g := g) (n := n) fun i hi => h i (by omega)
    have b := h n (by omega)
    intro i hi
    rcases Nat.lt_or_ge i n with q | q
    · exact ih (fun i hi => h i (by omega)) (by omega) i q
    · have : i = n := by omega
      subst this; omega
/-- ENDS: when all have come, and as many times are over as they need, all are done -/
theorem Wks.Plays.done {w : Wks} (hw : w.Ok) {st : Nat → Nat → Nat} (h : w.Plays st) {last t : Nat} (hl : ∀ i, i < w.n → w.came i ≤ last) (ht : last + sum w.T w.n ≤ t) {i : Nat} (hi : i < w.n) : st t i = w.T i := by
  have key : ∀ d, sum w.T w.n ≤ sum (st (last + d)) w.n ∨ d ≤ sum (st (last + d)) w.n := by
    intro d
    induction d with
    | zero => right; omega
    | succ d ih =>
      rcases h.go (last + d) with ⟨j, hc, e⟩ | ⟨hn, e⟩
      · rw [← Nat.add_assoc, e, sum_upd hc.1.1]; omega
      · left
        rw [← Nat.add_assoc, e]
        refine sum_le fun j hj => ?_
        rcases Nat.lt_or_ge (st (last + d) j) (w.T j) with q | q
        · exact absurd ⟨hj, Nat.le_trans (hl j hj) (by omega), q⟩ (hn j)
        · exact q
  have k := key (t - last)
  have e : last + (t - last) = t := by omega
  rw [e] at k
  exact sum_eq (fun j hj => (h.inv hw t).most j hj) (by omega) i hi
end LockM
end Go.Proofs.Ytllfpbngfkimlaa
