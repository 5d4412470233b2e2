/- Plain mathematics of tasks: what they demand, and where it fits. -/
import Derived.Test.YtnbfadfhpegddaaSupM2
import Derived.Test.YtnbfadfhpegddaaNumM3
set_option linter.unusedVariables false
namespace Go.Proofs.Ytnbfadfhpegddaa
open SpanM SupM
namespace TaskM
/-- long, every, due -/
abbrev Tk := Int × Int × Int
def tok (x : Tk) : Prop := 1 ≤ x.2.1 ∧ x.2.1 ≤ 10000 ∧ 1 ≤ x.2.2 ∧ x.2.2 ≤ x.2.1 ∧ 1 ≤ x.1 ∧ x.1 ≤ x.2.2
/-- how many jobs of a task are due within n -/
def jobs (x : Tk) (n : Int) : Int := (n - x.2.2) / x.2.1 + 1
def dem : List Tk → Int → Int
  | [], _ => 0
  | x :: r, n => x.1 * jobs x n + dem r n
/-- what is needed in a round -/
def use (R : Int) : List Tk → Int
  | [] => 0
  | x :: r => R / x.2.1 * x.1 + use R r
theorem jobs_zero {x : Tk} (h : tok x) {n : Int} (h0 : 0 ≤ n) (h1 : n < x.2.2) : jobs x n = 0 := by
  obtain ⟨e1, _, d1, d2, _⟩ := h
  unfold jobs
  have : (n - x.2.2) / x.2.1 = -1 := by
    refine (Int.ediv_eq_iff_of_pos (by omega)).2 ?_
    omega
  omega
theorem jobs_pos {x : Tk} (h : tok x) {n : Int} (h0 : 0 ≤ n) : 0 ≤ jobs x n := by
  by_cases c : n < x.2.2
  · rw [jobs_zero h h0 c]; omega
  · unfold jobs
    have := Int.ediv_nonneg (show 0 ≤ n - x.2.2 by omega) (show 0 ≤ x.2.1 by have := h.1; omega)
    omega
theorem jobs_mono {x : Tk} (h : tok x) {n m : Int} (hm : n ≤ m) : jobs x n ≤ jobs x m := by
  unfold jobs
  have := Int.ediv_le_ediv (show 0 < x.2.1 by have := h.1; omega) (show n - x.2.2 ≤ m - x.2.2 by omega)
  omega
theorem jobs_round {x : Tk} (h : tok x) {n R : Int} (hd : x.2.1 ∣ R) : jobs x (n + R) = jobs x n + R / x.2.1 := by
  obtain ⟨k, rfl⟩ := hd
  have := h.1
  unfold jobs
  rw [show n + x.2.1 * k - x.2.2 = n - x.2.2 + x.2.1 * k by omega, Int.add_mul_ediv_left _ _ (by omega), Int.mul_ediv_cancel_left _ (by omega)]
  omega
theorem jobs_most {x : Tk} (h : tok x) {n : Int} (h0 : 0 ≤ n) : jobs x n ≤ n / x.2.1 + 1 := by
  unfold jobs
  have := Int.ediv_le_ediv (show 0 < x.2.1 by have := h.1; omega) (show n - x.2.2 ≤ n by have := h.2.2.1; omega)
  omega
/-- .. as the document counts them -/
theorem jobs_iff {x : Tk} (h : tok x) {n : Int} (h0 : 0 ≤ n) (k : Int) (hk : 0 ≤ k) : k * x.2.1 + x.2.2 ≤ n ↔ k < jobs x n := by
  have e1 := h.1
  unfold jobs
  constructor
  · intro hh
    have : k ≤ (n - x.2.2) / x.2.1 := (Int.le_ediv_iff_mul_le (by omega)).2 (by omega)
    omega
  · intro hh
    have := (Int.le_ediv_iff_mul_le (show 0 < x.2.1 by omega)).1 (show k ≤ (n - x.2.2) / x.2.1 by omega)
    omega
theorem dem_append (l m : List Tk) (n : Int) : dem (l ++ m) n = dem l n + dem m n := by
  induction l with
  | nil => simp [dem]
  | cons x r ih => simp only [List.cons_append, dem, ih]; omega
theorem dem_reverse (l : List Tk) (n : Int) : dem l.reverse n = dem l n := by
  induction l with
  | nil => rfl
  | cons x r ih => rw [List.reverse_cons, dem_append, ih]; simp only [dem]; omega
theorem dem_nonneg {l : List Tk} (h : ∀ x ∈ l, tok x) {n : Int} (h0 : 0 ≤ n) : 0 ≤ dem l n := by
  induction l with
  | nil => simp [dem]
  | cons x r ih =>
    have a := ih fun y hy => h y (by simp [hy])
    have o := h x (by simp)
    have b := Int.mul_nonneg (show 0 ≤ x.1 by have := o.2.2.2.2.1; omega) (jobs_pos o h0)
    simp only [dem]; omega
theorem dem_mono {l : List Tk} (h : ∀ x ∈ l, tok x) {n m : Int} (hm : n ≤ m) : dem l n ≤ dem l m := by
  induction l with
  | nil => simp [dem]
  | cons x r ih =>
    have a := ih fun y hy => h y (by simp [hy])
    have o := h x (by simp)
    have b := Int.mul_le_mul_of_nonneg_left (jobs_mono o hm) (show 0 ≤ x.1 by have := o.2.2.2.2.1; omega)
    simp only [dem]; omega
theorem dem_zero {l : List Tk} (h : ∀ x ∈ l, tok x) : dem l 0 = 0 := by
  induction l with
  | nil => rfl
  | cons x r ih =>
    have o := h x (by simp)
    simp only [dem]
    rw [ih fun y hy => h y (by simp [hy]), jobs_zero o (Int.le_refl _) (by have := o.2.2.1; omega)]; omega
theorem dem_round {l : List Tk} (h : ∀ x ∈ l, tok x) {R : Int} (hR : ∀ x ∈ l, x.2.1 ∣ R) (n : Int) : dem l (n + R) = dem l n + use R l := by
  induction l with
  | nil => simp [dem, use]
  | cons x r ih =>
    have a := ih (fun y hy => h y (by simp [hy])) (fun y hy => hR y (by simp [hy]))
    have o := h x (by simp)
    simp only [dem, use]
    rw [a, jobs_round o (hR x (by simp)), Int.mul_add, Int.mul_comm (R / x.2.1)]; omega
/-- what all of them need of so much time, each for one job more -/
def most (n : Int) : List Tk → Int
  | [] => 0
  | x :: r => x.1 * (n / x.2.1 + 1) + most n r
theorem dem_most {l : List Tk} (h : ∀ x ∈ l, tok x) {n : Int} (h0 : 0 ≤ n) : dem l n ≤ most n l := by
  induction l with
  | nil => simp [dem, most]
  | cons x r ih =>
    have a := ih fun y hy => h y (by simp [hy])
    have o := h x (by simp)
    have b := Int.mul_le_mul_of_nonneg_left (jobs_most o h0) (show 0 ≤ x.1 by have := o.2.2.2.2.1; omega)
    simp only [dem, most]; omega
/-- no more than what there is at all, and a job each -/
theorem dem_le {l : List Tk} (h : ∀ x ∈ l, tok x) {n : Int} (h0 : 0 ≤ n) : dem l n ≤ l.length * (n + 10000) := by
  induction l with
  | nil => simp [dem]
  | cons x r ih =>
    have a := ih fun y hy => h y (by simp [hy])
    obtain ⟨e1, e2, d1, d2, g1, g2⟩ := h x (by simp)
    have b := jobs_most (h x (by simp)) h0
    have c := Int.mul_le_mul_of_nonneg_left b (show 0 ≤ x.1 by omega)
    have d : x.1 * (n / x.2.1 + 1) ≤ x.2.1 * (n / x.2.1 + 1) := Int.mul_le_mul_of_nonneg_right (by omega) (by have := Int.ediv_nonneg h0 (show 0 ≤ x.2.1 by omega); omega)
    have m3 := Int.emod_add_mul_ediv n x.2.1
    have m1 := Int.emod_nonneg n (show x.2.1 ≠ 0 by omega)
    have d2 : x.2.1 * (n / x.2.1 + 1) = x.2.1 * (n / x.2.1) + x.2.1 := by rw [Int.mul_add, Int.mul_one]
    simp only [dem, List.length_cons]
    rw [show ((r.length + 1 : Nat) : Int) * (n + 10000) = (r.length : Int) * (n + 10000) + (n + 10000) by rw [show ((r.length + 1 : Nat) : Int) = (r.length : Int) + 1 by omega, Int.add_mul]; omega]
    omega

/-! where it fits -/
theorem D_rounds {size : Int} {sl : List Sp} (hs : 1 ≤ size) (n t k : Int) : D size sl (n + size * k) t = D size sl n t + k * cnt sl size := by
  unfold D
  rw [show t + (n + size * k) = t + n + size * k by omega, cb_shiftk hs]; omega
theorem least_rounds {size n k a b : Int} {sl : List Sp} (hs : 1 ≤ size) (h1 : LeastP size sl n a) (h2 : LeastP size sl (n + size * k) b) : b = a + k * cnt sl size := by
  obtain ⟨a1, t, ht, a2⟩ := h1
  obtain ⟨b1, u, hu, b2⟩ := h2
  have c1 := a1 u hu
  have c2 := b1 t ht
  rw [D_rounds hs] at b2 c2
  omega
theorem lst_rounds {size n k : Int} {sl : List Sp} (hs : 1 ≤ size) (hg : good size (-1) sl = true) (hn : 0 ≤ n) (hk : 0 ≤ k) : lst size sl (n + size * k) = lst size sl n + k * cnt sl size :=
  least_rounds hs (lst_P hs hg hn) (lst_P hs hg (by have := Int.mul_nonneg (show 0 ≤ size by omega) hk; omega))
theorem lst_zero {size : Int} {sl : List Sp} (hs : 1 ≤ size) (hg : good size (-1) sl = true) : lst size sl 0 = 0 := by
  have := (lst_P hs hg (Int.le_refl 0)).bd hs hg (Int.le_refl 0)
  omega
/-- there is too little for n -/
def Bad (size : Int) (sl : List Sp) (l : List Tk) (n : Int) : Prop := lst size sl n < dem l n
theorem bad_down {size : Int} {sl : List Sp} {l : List Tk} (hs : 1 ≤ size) (hg : good size (-1) sl = true) (h : ∀ x ∈ l, tok x) {M : Int} (hM : 1 ≤ M) (hR : ∀ x ∈ l, x.2.1 ∣ M) (hS : size ∣ M) (k : Nat) :
    ∀ n : Int, n.toNat = k → 0 ≤ n → Bad size sl l n → ∃ m, 0 ≤ m ∧ m ≤ M ∧ m ≤ n ∧ Bad size sl l m := by
  induction k using Nat.strongRecOn with
  | ind k ih =>
    intro n hk h0 hb
    by_cases c : n ≤ M
    · exact ⟨n, h0, c, Int.le_refl _, hb⟩
    · obtain ⟨q, hq⟩ := hS
      have hq1 : 1 ≤ q := by
        by_cases c2 : 1 ≤ q
        · exact c2
        · have : size * q ≤ size * 0 := Int.mul_le_mul_of_nonneg_left (by omega) (by omega)
          omega
      have e1 := dem_round h hR (n - M)
      have e2 := lst_rounds (sl := sl) (n := n - M) (k := q) hs hg (by omega) (by omega)
      have e3 := dem_round h hR 0
      have e4 := lst_rounds (sl := sl) (n := 0) (k := q) hs hg (by omega) (by omega)
      rw [← hq] at e2 e4
      rw [show n - M + M = n by omega] at e1 e2
      rw [dem_zero h] at e3
      rw [lst_zero hs hg] at e4
      rw [show (0 : Int) + M = M by omega] at e3 e4
      by_cases c3 : q * cnt sl size < use M l
      · exact ⟨M, by omega, Int.le_refl _, by omega, by unfold Bad; omega⟩
      · obtain ⟨m, m1, m2, m3, m4⟩ := ih (n - M).toNat (by omega) (n - M) rfl (by omega) (by unfold Bad at hb ⊢; omega)
        exact ⟨m, m1, m2, by omega, m4⟩
/-- it fits just if there is enough up to a round of both -/
theorem fits_round {size : Int} {sl : List Sp} {l : List Tk} (hs : 1 ≤ size) (hg : good size (-1) sl = true) (h : ∀ x ∈ l, tok x) {M : Int} (hM : 1 ≤ M) (hR : ∀ x ∈ l, x.2.1 ∣ M) (hS : size ∣ M)
    (hf : ∀ m, 0 ≤ m → m ≤ M → ¬ Bad size sl l m) : ∀ n, 0 ≤ n → ¬ Bad size sl l n := fun n h0 hb => by
  obtain ⟨m, m1, m2, _, m4⟩ := bad_down hs hg h hM hR hS _ n rfl h0 hb
  exact hf m m1 m2 m4
/-- what wants no more fits where the other one does -/
theorem fits_less {size : Int} {sl : List Sp} {l m : List Tk} (hd : ∀ n, 0 ≤ n → dem m n ≤ dem l n) (hf : ∀ n, 0 ≤ n → ¬ Bad size sl l n) : ∀ n, 0 ≤ n → ¬ Bad size sl m n := fun n h0 hb => by
  have := hd n h0
  have := hf n h0
  unfold Bad at *
  omega
theorem all_D {size n t : Int} (hs : 1 ≤ size) (hn : 0 ≤ n) (ht : 0 ≤ t) : D size [(0, size)] n t = n := by
  have key : ∀ t, 0 ≤ t → cb size [(0, size)] t = t := by
    intro t ht
    have m1 := Int.emod_nonneg t (show size ≠ 0 by omega)
    have m2 := Int.emod_lt_of_pos t (show 0 < size by omega)
    have m3 := Int.emod_add_mul_ediv t size
    unfold cb
    simp only [cnt]
    rw [show max 0 (min size size - 0) + 0 = size by omega, Int.mul_comm]
    omega
  unfold D
  rw [key _ (by omega), key _ ht]; omega
theorem all_good {size : Int} (hs : 1 ≤ size) : good size (-1) [(0, size)] = true := good_cons.2 ⟨by simp, by simp; omega, by simp, rfl⟩
theorem all_lst {size n : Int} (hs : 1 ≤ size) (hn : 0 ≤ n) : lst size [(0, size)] n = n := by
  obtain ⟨_, t, ht, e⟩ := lst_P hs (all_good hs) hn
  rw [e, all_D hs hn ht]
/-- with all times it fits wherever it does -/
theorem fits_all {size : Int} {sl : List Sp} {l : List Tk} (hs : 1 ≤ size) (hg : good size (-1) sl = true) (hf : ∀ n, 0 ≤ n → ¬ Bad size sl l n) : ∀ n, 0 ≤ n → ¬ Bad size [(0, size)] l n := fun n h0 hb => by
  have a := hf n h0
  have b := ((lst_P hs hg h0).bd hs hg h0).2
  unfold Bad at *
  rw [all_lst hs h0] at hb
  omega
/-- a job that is due when the next one may come -/
theorem jobs_whole {x : Tk} (h : tok x) (hd : x.2.2 = x.2.1) (n : Int) : jobs x n = n / x.2.1 := by
  unfold jobs
  rw [hd, Int.sub_ediv_of_dvd n (Int.dvd_refl _), Int.ediv_self (by have := h.1; omega)]
  omega
theorem dem_whole {l : List Tk} (h : ∀ x ∈ l, tok x) (hd : ∀ x ∈ l, x.2.2 = x.2.1) {R n : Int} (hR : ∀ x ∈ l, x.2.1 ∣ R) (h1 : 0 ≤ R) (h0 : 0 ≤ n) : dem l n * R ≤ n * use R l := by
  induction l with
  | nil => simp [dem, use]
  | cons x r ih =>
    have a := ih (fun y hy => h y (by simp [hy])) (fun y hy => hd y (by simp [hy])) (fun y hy => hR y (by simp [hy]))
    have o := h x (by simp)
    obtain ⟨k, hk⟩ := hR x (by simp)
    have e1 := o.1
    have ek : R / x.2.1 = k := by rw [hk]; exact Int.mul_ediv_cancel_left _ (by omega)
    have hk0 : 0 ≤ k := by rw [← ek]; exact Int.ediv_nonneg h1 (by omega)
    have b : n / x.2.1 * x.2.1 ≤ n := Int.ediv_mul_le n (by omega)
    have hx : 0 ≤ x.1 := by have := o.2.2.2.2.1; omega
    simp only [dem, use]
    rw [jobs_whole o (hd x (by simp)), ek, Int.add_mul, Int.mul_add]
    have c : n / x.2.1 * x.2.1 * (k * x.1) ≤ n * (k * x.1) := Int.mul_le_mul_of_nonneg_right b (Int.mul_nonneg hk0 hx)
    have e : x.1 * (n / x.2.1) * R = n / x.2.1 * x.2.1 * (k * x.1) := by
      rw [hk]
      simp only [Int.mul_comm, Int.mul_left_comm]
    omega
/-- LIU, LAYLAND -/
theorem whole_iff {size : Int} {l : List Tk} (hs : 1 ≤ size) (h : ∀ x ∈ l, tok x) (hd : ∀ x ∈ l, x.2.2 = x.2.1) {R : Int} (hR : ∀ x ∈ l, x.2.1 ∣ R) (h1 : 1 ≤ R) :
    (∀ n, 0 ≤ n → ¬ Bad size [(0, size)] l n) ↔ use R l ≤ R := by
  constructor
  · intro hf
    have a := hf R (by omega)
    unfold Bad at a
    have e := dem_round h hR 0
    rw [dem_zero h, show (0 : Int) + R = R by omega] at e
    rw [all_lst hs (by omega), e] at a
    omega
  · intro hu n h0 hb
    unfold Bad at hb
    rw [all_lst hs h0] at hb
    have a := dem_whole h hd hR (by omega) h0
    have b : n * use R l ≤ n * R := Int.mul_le_mul_of_nonneg_left hu h0
    have c : n * R < dem l n * R := Int.mul_lt_mul_of_pos_right hb (by omega)
    omega
/-- a round of fewer numbers divides that of all -/
theorem round_dvd {zs ys : List Int} (hz : ∀ x ∈ zs, 1 ≤ x) (h : ∀ x ∈ ys, x ∈ zs) : NumM.lc 1 ys ∣ NumM.lc 1 zs :=
  (NumM.lc_dvd ys _ 1 (by omega) fun x hx => hz x (h x hx)).2 ⟨Int.one_dvd _, fun x hx => ((NumM.lc_dvd zs _ 1 (by omega) hz).1 (Int.dvd_refl _)).2 x (h x hx)⟩
theorem round_le {zs ys : List Int} (hz : ∀ x ∈ zs, 1 ≤ x) (h : ∀ x ∈ ys, x ∈ zs) : NumM.lc 1 ys ≤ NumM.lc 1 zs :=
  Int.le_of_dvd (by have := NumM.lc_pos zs 1 (by omega) hz; omega) (round_dvd hz h)
theorem both_dvd {p q s : Int} (hp : 1 ≤ p) (hq : 1 ≤ q) (hs : 1 ≤ s) (h : p ∣ q) : NumM.lc 1 [p, s] ∣ NumM.lc 1 [q, s] := by
  have k := (NumM.lc_dvd [q, s] (NumM.lc 1 [q, s]) 1 (by omega) (by simp; omega)).1 (Int.dvd_refl _)
  refine (NumM.lc_dvd [p, s] _ 1 (by omega) (by simp; omega)).2 ⟨Int.one_dvd _, ?_⟩
  intro x hx
  simp at hx
  rcases hx with rfl | rfl
  · exact Int.dvd_trans h (k.2 q (by simp))
  · exact k.2 x (by simp)
/-- one that needs no more, and has no less time -/
theorem jobs_less {x y : Tk} (hx : tok x) (hy : tok y) (he : y.2.1 = x.2.1) (hd : x.2.2 ≤ y.2.2) (n : Int) : jobs y n ≤ jobs x n := by
  unfold jobs
  rw [he]
  have := Int.ediv_le_ediv (show 0 < x.2.1 by have := hx.1; omega) (show n - y.2.2 ≤ n - x.2.2 by omega)
  omega
theorem dem_set {p r : List Tk} {x y : Tk} (hx : tok x) (hy : tok y) (he : y.2.1 = x.2.1) (hd : x.2.2 ≤ y.2.2) (hl : y.1 ≤ x.1) {n : Int} (h0 : 0 ≤ n) : dem (p ++ y :: r) n ≤ dem (p ++ x :: r) n := by
  rw [dem_append, dem_append]
  simp only [dem]
  have a := jobs_less hx hy he hd n
  have b := jobs_pos hy h0
  have c := Int.mul_le_mul_of_nonneg_right hl b
  have d := Int.mul_le_mul_of_nonneg_left a (show 0 ≤ x.1 by have := hx.2.2.2.2.1; omega)
  omega
theorem dem_del {p r : List Tk} {x : Tk} (hx : tok x) {n : Int} (h0 : 0 ≤ n) : dem (p ++ r) n ≤ dem (p ++ x :: r) n := by
  rw [dem_append, dem_append]
  simp only [dem]
  have := Int.mul_nonneg (show 0 ≤ x.1 by have := hx.2.2.2.2.1; omega) (jobs_pos hx h0)
  omega
end TaskM
end Go.Proofs.Ytnbfadfhpegddaa
