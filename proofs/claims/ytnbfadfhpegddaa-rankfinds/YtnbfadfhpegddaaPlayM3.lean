/- Plain mathematics of plays by the order of tasks: how long it takes. -/
import Derived.Test.YtnbfadfhpegddaaPlayM2
set_option linter.unusedVariables false
namespace Go.Proofs.Ytnbfadfhpegddaa
open SpanM SupM TaskM
namespace PlayM
variable {J : Jobs} {a : Nat → Bool} {T : Nat} {L : Nat → Nat → Int} {c : Nat → Option Nat}
/-- that of the task with the least number goes first -/
def Fix (J : Jobs) (a : Nat → Bool) (T : Nat) (L : Nat → Nat → Int) (c : Nat → Option Nat) (prio : Nat → Nat) : Prop := ∀ t b, t < T → a t = true → c t = some b → ∀ i, Pend J (L t) t i → prio b ≤ prio i
/-- those up to p that come from s on, below e -/
def comes (J : Jobs) (prio : Nat → Nat) (p s e : Nat) (i : Nat) : Bool := decide (prio i ≤ p) && decide (s ≤ J.came i) && decide (J.came i < e)
theorem comes_iff {prio : Nat → Nat} {p s e i : Nat} : comes J prio p s e i = true ↔ prio i ≤ p ∧ s ≤ J.came i ∧ J.came i < e := by simp [comes, and_assoc]
/-- the greatest below or at t of which Z holds, if it holds of 0 -/
theorem greatest (Z : Nat → Prop) (h0 : Z 0) (t : Nat) : ∃ s, s ≤ t ∧ Z s ∧ ∀ u, s < u → u ≤ t → ¬ Z u := by
  induction t with
  | zero => exact ⟨0, Nat.le_refl _, h0, fun u h1 h2 => by omega⟩
  | succ t ih =>
    by_cases hz : Z (t + 1)
    · exact ⟨t + 1, Nat.le_refl _, hz, fun u h1 h2 => by omega⟩
    · obtain ⟨s, h1, h2, h3⟩ := ih
      refine ⟨s, by omega, h2, fun u u1 u2 => ?_⟩
      by_cases e : u = t + 1
      · subst e; exact hz
      · exact h3 u u1 (by omega)
/-- while some of those up to p may be worked at, each time there is takes one of what is left of them -/
theorem Run.busy (h : Run J a T L c) {prio : Nat → Nat} (hf : Fix J a T L c prio) {p s : Nat} (n : Nat) (hT : s + n ≤ T)
    (hz : ∀ i, i < J.n → prio i ≤ p → J.came i < s → L s i = 0) (hb : ∀ u, s ≤ u → u < s + n → ∃ i, Pend J (L u) u i ∧ prio i ≤ p) :
    ∀ k, k ≤ n → sumP (comes J prio p s (s + n)) (L (s + k)) J.n = sumP (comes J prio p s (s + n)) (L s) J.n - (av a (s + k) - av a s) := by
  intro k
  induction k with
  | zero => intro _; simp
  | succ k ih =>
    intro hk
    have e0 := ih (by omega)
    rw [show s + (k + 1) = s + k + 1 by omega]
    simp only [av]
    cases ha : a (s + k) with
    | false =>
      rw [h.off (s + k) (by omega) ha, e0]
      simp
    | true =>
      obtain ⟨i, hi, hip⟩ := hb (s + k) (by omega) (by omega)
      cases hc : c (s + k) with
      | none => exact absurd hi ((h.idle (s + k) (by omega) ha hc).2 i)
      | some b =>
        obtain ⟨h1, h2, h3⟩ := h.work (s + k) b (by omega) ha hc
        have hpb := hf (s + k) b (by omega) ha hc i hi
        have hcb : s ≤ J.came b := by
          by_cases cc : s ≤ J.came b
          · exact cc
          · have x := hz b h1.1 (by omega) (by omega)
            have y := h.anti (show s ≤ s + k by omega) (by omega) b
            have := h1.2.2
            omega
        have hw : comes J prio p s (s + n) b = true := comes_iff.2 ⟨by omega, hcb, by have := h1.2.1; omega⟩
        rw [sumP_dec h1.1 h2 h3, e0, hw]
        simp only [if_true]
        omega
/-- LEHOCZKY, SHA, DING: where n times are enough for whatever comes in n times, up to p, each job up to p is done within n -/
theorem Run.reply (h : Run J a T L c) {prio : Nat → Nat} (hf : Fix J a T L c prio) (hl : ∀ i, i < J.n → 0 ≤ J.long i) {p n : Nat} (hn : 1 ≤ n)
    (hneed : ∀ s, s + n ≤ T → sumP (comes J prio p s (s + n)) J.long J.n ≤ av a (s + n) - av a s) {j : Nat} (hj : j < J.n) (hp : prio j ≤ p) (hT : J.came j + n ≤ T) : L (J.came j + n) j = 0 := by
  have h0 := h.nonneg hl hT hj
  by_cases hd : L (J.came j + n) j = 0
  · exact hd
  exfalso
  obtain ⟨s, s1, s2, s3⟩ := greatest (fun s => ∀ i, i < J.n → prio i ≤ p → J.came i < s → L s i = 0) (fun i _ _ hc => by omega) (J.came j)
  have pend : ∀ u, s ≤ u → u < J.came j + n → ∃ i, Pend J (L u) u i ∧ prio i ≤ p := by
    intro u u1 u2
    by_cases cu : u < J.came j
    · have hz := s3 (u + 1) (by omega) (by omega)
      -- some job up to p came by u and isn't done behind it
      have : ∃ i, i < J.n ∧ prio i ≤ p ∧ J.came i < u + 1 ∧ L (u + 1) i ≠ 0 := by
        apply Classical.byContradiction
        intro hno
        apply hz
        intro i hi hpi hci
        apply Classical.byContradiction
        intro hne
        exact hno ⟨i, hi, hpi, hci, hne⟩
      obtain ⟨i, hi, hpi, hci, hne⟩ := this
      have x := h.nonneg hl (show u + 1 ≤ T by omega) hi
      have y := h.down (show u < T by omega) i
      exact ⟨i, ⟨hi, by omega, by omega⟩, hpi⟩
    · have y := h.anti (show u ≤ J.came j + n by omega) hT j
      exact ⟨j, ⟨hj, by omega, by omega⟩, hp⟩
  have fall := h.busy hf n (by omega) s2 (fun u u1 u2 => pend u u1 (by omega)) n (Nat.le_refl _)
  have e1 : sumP (comes J prio p s (s + n)) (L s) J.n = sumP (comes J prio p s (s + n)) J.long J.n := sumP_eq fun i hi hp => h.fresh (by omega) hi (comes_iff.1 hp).2.1
  have g := hneed s (by omega)
  have nn : ∀ i, i < J.n → comes J prio p s (s + n) i = true → 0 ≤ L (s + n) i := fun i hi _ => h.nonneg hl (by omega) hi
  have zero : ∀ i, i < J.n → comes J prio p s (s + n) i = true → L (s + n) i = 0 := fun i hi hc => by
    have x := sumP_each nn hi hc
    have y := nn i hi hc
    omega
  by_cases cs : s + n ≤ J.came j
  · refine s3 (s + n) (by omega) cs fun i hi hpi hci => ?_
    by_cases cc : J.came i < s
    · have x := s2 i hi hpi cc
      have y := h.anti (show s ≤ s + n by omega) (by omega) i
      have z := h.nonneg hl (show s + n ≤ T by omega) hi
      omega
    · exact zero i hi (comes_iff.2 ⟨hpi, by omega, hci⟩)
  · have x := zero j hj (comes_iff.2 ⟨hp, by omega, by omega⟩)
    have y := h.anti (show s + n ≤ J.came j + n by omega) hT j
    omega
/-- how many come -/
def inC (s e : Nat) (x : Jb) : Bool := decide (s ≤ x.1) && decide (x.1 < e)
/-- n by e, rounded up -/
def up (n e : Int) : Int := -((-n) / e)
theorem up_one {n e : Int} (h1 : 1 ≤ n) (h2 : n ≤ e) : up n e = 1 := by
  unfold up
  have : (-n) / e = -1 := (Int.ediv_eq_iff_of_pos (by omega)).2 (by omega)
  omega
theorem up_pos {n e : Int} (h1 : 1 ≤ n) (he : 1 ≤ e) : 1 ≤ up n e := by
  unfold up
  have : (-n) / e < 0 := Int.ediv_neg_of_neg_of_pos (by omega) (by omega)
  omega
theorem up_mono {n m e : Int} (he : 1 ≤ e) (h : n ≤ m) : up n e ≤ up m e := by
  unfold up
  have := Int.ediv_le_ediv (show 0 < e by omega) (show -m ≤ -n by omega)
  omega
/-- of one task no more than n by Every, rounded up, come in n times -/
theorem come_count {x : Tk} (h : tok x) (f s n m : Nat) : lsum (inC s (s + n)) (perTask x f m) ≤ x.1 * up n x.2.1 := by
  obtain ⟨e1, e2, d1, d2, g1, g2⟩ := h
  have key : ∀ m : Nat, ∃ c : Int, lsum (inC s (s + n)) (perTask x f m) = x.1 * c ∧ 0 ≤ c ∧ (c = 0 ∨ c ≤ min ((s : Int) + n - 1 - f) ((m - 1) * x.2.1) / x.2.1 + ((f : Int) - s) / x.2.1 + 1) := by
    intro m
    induction m with
    | zero => exact ⟨0, by simp [perTask, lsum], Int.le_refl _, .inl rfl⟩
    | succ m ih =>
      obtain ⟨c, c1, c2, c3⟩ := ih
      have et : ((x.2.1.toNat : Nat) : Int) = x.2.1 := by omega
      have em : ((m * x.2.1.toNat : Nat) : Int) = (m : Int) * x.2.1 := by rw [Int.natCast_mul, et]
      have up' : min ((s : Int) + n - 1 - f) ((m - 1 : Int) * x.2.1) / x.2.1 ≤ min ((s : Int) + n - 1 - f) (((m + 1 : Nat) - 1 : Int) * x.2.1) / x.2.1 := by
        refine Int.ediv_le_ediv (by omega) ?_
        have : (m - 1 : Int) * x.2.1 ≤ ((m + 1 : Nat) - 1 : Int) * x.2.1 := Int.mul_le_mul_of_nonneg_right (by omega) (by omega)
        omega
      simp only [perTask]
      rw [lsum_snoc, c1]
      by_cases hp : inC s (s + n) (f + m * x.2.1.toNat, f + m * x.2.1.toNat + x.2.2.toNat, x.1) = true
      · rw [if_pos hp]
        refine ⟨c + 1, by rw [Int.mul_add]; simp, by omega, .inr ?_⟩
        simp [inC] at hp
        obtain ⟨p1, p2⟩ := hp
        have p1' : (s : Int) ≤ f + (m : Int) * x.2.1 := by rw [← em]; omega
        have p2' : (f : Int) + (m : Int) * x.2.1 ≤ s + n - 1 := by rw [← em]; omega
        have q1 : min ((s : Int) + n - 1 - f) (((m + 1 : Nat) - 1 : Int) * x.2.1) = (m : Int) * x.2.1 := by
          rw [show ((m + 1 : Nat) - 1 : Int) = (m : Int) by omega]; omega
        have q2 : (m : Int) * x.2.1 / x.2.1 = m := Int.mul_ediv_cancel _ (by omega)
        have q3 : -(m : Int) ≤ ((f : Int) - s) / x.2.1 := (Int.le_ediv_iff_mul_le (by omega)).2 (by rw [Int.neg_mul]; omega)
        rw [q1, q2]
        rcases c3 with c3 | c3
        · omega
        · have q4 : min ((s : Int) + n - 1 - f) ((m - 1 : Int) * x.2.1) / x.2.1 ≤ m - 1 := by
            have a : min ((s : Int) + n - 1 - f) ((m - 1 : Int) * x.2.1) ≤ (m - 1 : Int) * x.2.1 := by omega
            have b := Int.ediv_le_ediv (show 0 < x.2.1 by omega) a
            rw [Int.mul_ediv_cancel _ (by omega)] at b
            exact b
          omega
      · rw [if_neg hp]
        refine ⟨c, by simp, c2, ?_⟩
        rcases c3 with c3 | c3
        · exact .inl c3
        · exact .inr (by omega)
  obtain ⟨c, c1, c2, c3⟩ := key m
  rw [c1]
  refine Int.mul_le_mul_of_nonneg_left ?_ (by omega)
  have hu : (-(n : Int)) / x.2.1 * x.2.1 ≤ -(n : Int) := Int.ediv_mul_le _ (by omega)
  have hu2 : -(n : Int) < ((-(n : Int)) / x.2.1 + 1) * x.2.1 := Int.lt_ediv_add_one_mul_self _ (by omega)
  have hup : 0 ≤ up n x.2.1 := by
    unfold up
    have : (-(n : Int)) / x.2.1 ≤ 0 := by
      have := Int.ediv_le_ediv (show 0 < x.2.1 by omega) (show -(n : Int) ≤ 0 by omega)
      simpa using this
    omega
  rcases c3 with c3 | c3
  · omega
  · have a : min ((s : Int) + n - 1 - f) ((m - 1 : Int) * x.2.1) / x.2.1 ≤ ((s : Int) + n - 1 - f) / x.2.1 := Int.ediv_le_ediv (by omega) (by omega)
    have b := ediv_add_le ((s : Int) + n - 1 - f) ((f : Int) - s) x.2.1 (by omega)
    rw [show (s : Int) + n - 1 - f + (f - s) = n - 1 by omega] at b
    have d : ((n : Int) - 1) / x.2.1 + 1 ≤ up n x.2.1 := by
      have : ((n : Int) - 1) / x.2.1 < up n x.2.1 := by
        refine (Int.ediv_lt_iff_lt_mul (by omega)).2 ?_
        unfold up
        rw [Int.neg_mul]
        omega
      omega
    omega
end PlayM
end Go.Proofs.Ytnbfadfhpegddaa
