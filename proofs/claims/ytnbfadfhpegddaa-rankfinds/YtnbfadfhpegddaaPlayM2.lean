/- Plain mathematics of plays: jobs of tasks that come again; what they demand from a time on; the times of a set. -/
import Derived.Test.YtnbfadfhpegddaaPlayM
import Derived.Test.YtnbfadfhpegddaaTaskM
set_option linter.unusedVariables false
namespace Go.Proofs.Ytnbfadfhpegddaa
open SpanM SupM TaskM
namespace PlayM
/-- came, due, long -/
abbrev Jb := Nat × Nat × Int
def ofList (js : List Jb) : Jobs where
  n := js.length
  came i := (js.getD i (0, 0, 0)).1
  due i := (js.getD i (0, 0, 0)).2.1
  long i := (js.getD i (0, 0, 0)).2.2
def lsum (P : Jb → Bool) : List Jb → Int
  | [] => 0
  | x :: r => (if P x = true then x.2.2 else 0) + lsum P r
theorem lsum_append (P : Jb → Bool) (l r : List Jb) : lsum P (l ++ r) = lsum P l + lsum P r := by
  induction l with
  | nil => simp [lsum]
  | cons x s ih => simp only [List.cons_append, lsum, ih]; omega
theorem lsum_snoc (P : Jb → Bool) (l : List Jb) (x : Jb) : lsum P (l ++ [x]) = lsum P l + (if P x = true then x.2.2 else 0) := by
  rw [lsum_append]; simp [lsum]
def inJ (s d : Nat) (x : Jb) : Bool := decide (s ≤ x.1) && decide (x.2.1 ≤ d)
theorem take_snocJ (l : List Jb) (k : Nat) (h : k < l.length) : l.take (k + 1) = l.take k ++ [l.getD k (0, 0, 0)] := by
  rw [List.take_succ_eq_append_getElem h]; simp [List.getD, h]
theorem sum_list (js : List Jb) (s d : Nat) : sumP (within (ofList js) s d) (ofList js).long (ofList js).n = lsum (inJ s d) js := by
  have : ∀ k, k ≤ js.length → sumP (within (ofList js) s d) (ofList js).long k = lsum (inJ s d) (js.take k) := by
    intro k
    induction k with
    | zero => intro _; simp [sumP, lsum]
    | succ k ih =>
      intro hk
      simp only [sumP]
      rw [ih (by omega), take_snocJ js k (by omega), lsum_snoc]
      rfl
  have h := this js.length (Nat.le_refl _)
  rw [List.take_length] at h
  exact h
/-- jobs of one task: the first m -/
def perTask (x : Tk) (f : Nat) : Nat → List Jb
  | 0 => []
  | m + 1 => perTask x f m ++ [(f + m * x.2.1.toNat, f + m * x.2.1.toNat + x.2.2.toNat, x.1)]
theorem ediv_add_le (p q e : Int) (he : 0 < e) : p / e + q / e ≤ (p + q) / e := by
  refine (Int.le_ediv_iff_mul_le he).2 ?_
  have a := Int.ediv_mul_le p (show e ≠ 0 by omega)
  have b := Int.ediv_mul_le q (show e ≠ 0 by omega)
  rw [Int.add_mul]; omega
/-- of one task no more jobs come from s on and are due by d than its share of so much time -/
theorem per_count {x : Tk} (h : tok x) (f s d : Nat) (hs : s ≤ d) (m : Nat) : lsum (inJ s d) (perTask x f m) ≤ x.1 * jobs x ((d : Int) - s) := by
  obtain ⟨e1, e2, d1, d2, g1, g2⟩ := h
  -- between A and B
  have key : ∀ m : Nat, ∃ c : Int, lsum (inJ s d) (perTask x f m) = x.1 * c ∧ 0 ≤ c ∧ (c = 0 ∨ c ≤ min ((d : Int) - x.2.2 - f) ((m - 1) * x.2.1) / x.2.1 + ((f : Int) - s) / x.2.1 + 1) := by
    intro m
    induction m with
    | zero => exact ⟨0, by simp [perTask, lsum], Int.le_refl _, .inl rfl⟩
    | succ m ih =>
      obtain ⟨c, c1, c2, c3⟩ := ih
      have et : ((x.2.1.toNat : Nat) : Int) = x.2.1 := by omega
      have dt : ((x.2.2.toNat : Nat) : Int) = x.2.2 := by omega
      have em : ((m * x.2.1.toNat : Nat) : Int) = (m : Int) * x.2.1 := by rw [Int.natCast_mul, et]
      have up : min ((d : Int) - x.2.2 - f) ((m - 1 : Int) * x.2.1) / x.2.1 ≤ min ((d : Int) - x.2.2 - f) (((m + 1 : Nat) - 1 : Int) * x.2.1) / x.2.1 := by
        refine Int.ediv_le_ediv (by omega) ?_
        have : (m - 1 : Int) * x.2.1 ≤ ((m + 1 : Nat) - 1 : Int) * x.2.1 := Int.mul_le_mul_of_nonneg_right (by omega) (by omega)
        omega
      simp only [perTask]
      rw [lsum_snoc, c1]
      by_cases hp : inJ s d (f + m * x.2.1.toNat, f + m * x.2.1.toNat + x.2.2.toNat, x.1) = true
      · rw [if_pos hp]
        refine ⟨c + 1, by rw [Int.mul_add]; simp, by omega, .inr ?_⟩
        simp [inJ] at hp
        obtain ⟨p1, p2⟩ := hp
        have p1' : (s : Int) ≤ f + (m : Int) * x.2.1 := by rw [← em]; omega
        have p2' : (f : Int) + (m : Int) * x.2.1 + x.2.2 ≤ d := by rw [← em, ← dt]; omega
        have q1 : min ((d : Int) - x.2.2 - f) (((m + 1 : Nat) - 1 : Int) * x.2.1) = (m : Int) * x.2.1 := by
          rw [show ((m + 1 : Nat) - 1 : Int) = (m : Int) by omega]; omega
        have q2 : (m : Int) * x.2.1 / x.2.1 = m := Int.mul_ediv_cancel _ (by omega)
        have q3 : -(m : Int) ≤ ((f : Int) - s) / x.2.1 := (Int.le_ediv_iff_mul_le (by omega)).2 (by rw [Int.neg_mul]; omega)
        rw [q1, q2]
        rcases c3 with c3 | c3
        · omega
        · have q4 : min ((d : Int) - x.2.2 - f) ((m - 1 : Int) * x.2.1) / x.2.1 ≤ m - 1 := by
            have a : min ((d : Int) - x.2.2 - f) ((m - 1 : Int) * x.2.1) ≤ (m - 1 : Int) * x.2.1 := by omega
            have b := Int.ediv_le_ediv (show 0 < x.2.1 by omega) a
            rw [Int.mul_ediv_cancel _ (by omega)] at b
            exact b
          omega
      · rw [if_neg hp]
        refine ⟨c, by simp, c2, ?_⟩
        rcases c3 with c3 | c3
        · exact .inl c3
        · exact .inr (by omega)
  obtain ⟨c, c1, c2, c3⟩ := key m
  rw [c1]
  have jp := jobs_pos (x := x) ⟨e1, e2, d1, d2, g1, g2⟩ (show 0 ≤ (d : Int) - s by omega)
  refine Int.mul_le_mul_of_nonneg_left ?_ (by omega)
  rcases c3 with c3 | c3
  · omega
  · have a : min ((d : Int) - x.2.2 - f) ((m - 1 : Int) * x.2.1) / x.2.1 ≤ ((d : Int) - x.2.2 - f) / x.2.1 := Int.ediv_le_ediv (by omega) (by omega)
    have b := ediv_add_le ((d : Int) - x.2.2 - f) ((f : Int) - s) x.2.1 (by omega)
    rw [show (d : Int) - x.2.2 - f + (f - s) = d - s - x.2.2 by omega] at b
    unfold jobs
    omega
/-- jobs of tasks, each with when it begins to come and how many of its jobs there are -/
def allJobs : List (Tk × Nat × Nat) → List Jb
  | [] => []
  | y :: r => perTask y.1 y.2.1 y.2.2 ++ allJobs r
theorem all_count {ys : List (Tk × Nat × Nat)} (h : ∀ y ∈ ys, tok y.1) {s d : Nat} (hs : s ≤ d) : lsum (inJ s d) (allJobs ys) ≤ dem (ys.map (·.1)) ((d : Int) - s) := by
  induction ys with
  | nil => simp [allJobs, lsum, dem]
  | cons y r ih =>
    have a := ih fun z hz => h z (by simp [hz])
    have b := per_count (h y (by simp)) y.2.1 s d hs y.2.2
    simp only [allJobs, List.map_cons, dem]
    rw [lsum_append]; omega
/-- where all come at once, and all that are due by then are there, it is just that -/
theorem per_exact {x : Tk} (h : tok x) (f d m : Nat) (hd : f ≤ d) (hm : jobs x ((d : Int) - f) ≤ m) : lsum (inJ f d) (perTask x f m) = x.1 * jobs x ((d : Int) - f) := by
  have key : ∀ m : Nat, lsum (inJ f d) (perTask x f m) = x.1 * min (jobs x ((d : Int) - f)) m := by
    intro m
    have jp := jobs_pos h (show 0 ≤ (d : Int) - f by omega)
    obtain ⟨e1, e2, d1, d2, g1, g2⟩ := h
    induction m with
    | zero => rw [show min (jobs x ((d : Int) - f)) ((0 : Nat) : Int) = 0 by omega]; simp [perTask, lsum]
    | succ m ih =>
      have et : ((x.2.1.toNat : Nat) : Int) = x.2.1 := by omega
      have dt : ((x.2.2.toNat : Nat) : Int) = x.2.2 := by omega
      have em : ((m * x.2.1.toNat : Nat) : Int) = (m : Int) * x.2.1 := by rw [Int.natCast_mul, et]
      simp only [perTask]
      rw [lsum_snoc, ih]
      have hi := jobs_iff (x := x) ⟨e1, e2, d1, d2, g1, g2⟩ (show 0 ≤ (d : Int) - f by omega) (m : Int) (by omega)
      by_cases c : (m : Int) < jobs x ((d : Int) - f)
      · have hle := hi.2 c
        have hp : inJ f d (f + m * x.2.1.toNat, f + m * x.2.1.toNat + x.2.2.toNat, x.1) = true := by
          simp [inJ]
          omega
        rw [if_pos hp, show min (jobs x ((d : Int) - f)) (m : Int) = m by omega, show min (jobs x ((d : Int) - f)) ((m + 1 : Nat) : Int) = (m : Int) + 1 by omega, Int.mul_add]
        simp
      · have hnle : ¬ (m : Int) * x.2.1 + x.2.2 ≤ (d : Int) - f := fun hh => c (hi.1 hh)
        have hp : ¬ inJ f d (f + m * x.2.1.toNat, f + m * x.2.1.toNat + x.2.2.toNat, x.1) = true := by
          simp [inJ]
          omega
        rw [if_neg hp, show min (jobs x ((d : Int) - f)) (m : Int) = jobs x ((d : Int) - f) by omega, show min (jobs x ((d : Int) - f)) ((m + 1 : Nat) : Int) = jobs x ((d : Int) - f) by omega]
        simp
  rw [key m, show min (jobs x ((d : Int) - f)) (m : Int) = jobs x ((d : Int) - f) by omega]
/-- the times of a set -/
def inS (size : Int) (sl : List Sp) (t : Nat) : Bool := mem sl ((t : Int) % size)
theorem av_cb {size : Int} {sl : List Sp} (hs : 1 ≤ size) (hg : good size (-1) sl = true) (n : Nat) : av (inS size sl) n = cb size sl n := by
  rw [cb_num hs hg n]
  induction n with
  | zero => rfl
  | succ n ih =>
    simp only [av, num, ih]
    rfl
theorem av_D {size : Int} {sl : List Sp} (hs : 1 ≤ size) (hg : good size (-1) sl = true) {s d : Nat} (h : s ≤ d) : av (inS size sl) d - av (inS size sl) s = D size sl ((d : Int) - s) s := by
  rw [av_cb hs hg, av_cb hs hg]
  unfold D
  rw [show (s : Int) + ((d : Int) - s) = d by omega]
/-- where it fits there is enough from every time on -/
theorem fits_enough {size : Int} {sl : List Sp} (hs : 1 ≤ size) (hg : good size (-1) sl = true) {ys : List (Tk × Nat × Nat)} (h : ∀ y ∈ ys, tok y.1) (hf : ∀ n, 0 ≤ n → ¬ Bad size sl (ys.map (·.1)) n) {s d : Nat} (hsd : s ≤ d) :
    sumP (within (ofList (allJobs ys)) s d) (ofList (allJobs ys)).long (ofList (allJobs ys)).n ≤ av (inS size sl) d - av (inS size sl) s := by
  rw [sum_list, av_D hs hg hsd]
  have a := all_count h hsd
  have b := hf ((d : Int) - s) (by omega)
  have c := (lst_P hs hg (show 0 ≤ (d : Int) - s by omega)).1 s (by omega)
  unfold Bad at b
  omega
end PlayM
end Go.Proofs.Ytnbfadfhpegddaa
