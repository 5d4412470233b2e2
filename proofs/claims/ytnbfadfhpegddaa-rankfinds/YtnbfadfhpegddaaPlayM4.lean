/- Plain mathematics of plays: whose job is whose; a reply holds; a reply is exact. -/
import Derived.Test.YtnbfadfhpegddaaRankM
set_option linter.unusedVariables false
namespace Go.Proofs.Ytnbfadfhpegddaa
open SpanM SupM TaskM RankM
namespace PlayM
def tagAll (k : Nat) : List (Tk × Nat × Nat) → List (Nat × Jb)
  | [] => []
  | y :: r => (perTask y.1 y.2.1 y.2.2).map (fun x => (k, x)) ++ tagAll (k + 1) r
theorem tag_jobs (k : Nat) (ys : List (Tk × Nat × Nat)) : (tagAll k ys).map (·.2) = allJobs ys := by
  induction ys generalizing k with
  | nil => rfl
  | cons y r ih => simp only [tagAll, allJobs, List.map_append, ih, List.map_map]; congr 1; exact List.map_id _
/-- the task of a job, by its place -/
def task (ys : List (Tk × Nat × Nat)) (i : Nat) : Nat := ((tagAll 0 ys).getD i (0, (0, 0, 0))).1
theorem job_at (ys : List (Tk × Nat × Nat)) (i : Nat) : (allJobs ys).getD i (0, 0, 0) = ((tagAll 0 ys).getD i (0, (0, 0, 0))).2 := by
  rw [← tag_jobs 0 ys]
  by_cases h : i < (tagAll 0 ys).length
  · simp [List.getD, h]
  · simp [List.getD, List.getElem?_eq_none (show (tagAll 0 ys).length ≤ i by omega)]
def csum (p s e : Nat) : List (Nat × Jb) → Int
  | [] => 0
  | x :: r => (if x.1 ≤ p ∧ inC s e x.2 = true then x.2.2.2 else 0) + csum p s e r
theorem csum_append (p s e : Nat) (l r : List (Nat × Jb)) : csum p s e (l ++ r) = csum p s e l + csum p s e r := by
  induction l with
  | nil => simp [csum]
  | cons x t ih => simp only [List.cons_append, csum, ih]; omega
theorem csum_tag {p s e k : Nat} (hk : k ≤ p) (l : List Jb) : csum p s e (l.map fun x => (k, x)) = lsum (inC s e) l := by
  induction l with
  | nil => rfl
  | cons x r ih => simp only [List.map_cons, csum, lsum, ih, hk, true_and]
theorem csum_none {p s e k : Nat} (hk : p < k) (ys : List (Tk × Nat × Nat)) : csum p s e (tagAll k ys) = 0 := by
  induction ys generalizing k with
  | nil => rfl
  | cons y r ih =>
    simp only [tagAll]
    rw [csum_append, ih (by omega)]
    have : ∀ l : List Jb, csum p s e (l.map fun x => (k, x)) = 0 := by
      intro l
      induction l with
      | nil => rfl
      | cons x t ih =>
        simp only [List.map_cons, csum, ih]
        rw [if_neg (by omega)]; omega
    rw [this]; omega
theorem csum_le {ys : List (Tk × Nat × Nat)} (h : ∀ y ∈ ys, tok y.1) {p s n k : Nat} (hk : k ≤ p + 1) : csum p s (s + n) (tagAll k ys) ≤ ahead ((ys.map (·.1)).take (p + 1 - k)) n := by
  induction ys generalizing k with
  | nil => simp [tagAll, csum, ahead]
  | cons y r ih =>
    by_cases c : k ≤ p
    · have a := ih (fun z hz => h z (by simp [hz])) (k := k + 1) (by omega)
      have b := come_count (h y (by simp)) y.2.1 s n y.2.2
      simp only [tagAll]
      rw [csum_append, csum_tag c, show p + 1 - k = (p + 1 - (k + 1)) + 1 by omega]
      simp only [List.map_cons, List.take_succ_cons, ahead]
      rw [Int.mul_comm (up n y.1.2.1)]
      omega
    · rw [csum_none (by omega), show p + 1 - k = 0 by omega]
      simp [ahead]
theorem sum_tag (ys : List (Tk × Nat × Nat)) (p s e : Nat) : sumP (comes (ofList (allJobs ys)) (task ys) p s e) (ofList (allJobs ys)).long (ofList (allJobs ys)).n = csum p s e (tagAll 0 ys) := by
  have len : (ofList (allJobs ys)).n = (tagAll 0 ys).length := by
    show (allJobs ys).length = _
    rw [← tag_jobs 0 ys]; simp
  rw [len]
  have : ∀ k, k ≤ (tagAll 0 ys).length → sumP (comes (ofList (allJobs ys)) (task ys) p s e) (ofList (allJobs ys)).long k = csum p s e ((tagAll 0 ys).take k) := by
    intro k
    induction k with
    | zero => intro _; simp [sumP, csum]
    | succ k ih =>
      intro hk
      have hs : (tagAll 0 ys).take (k + 1) = (tagAll 0 ys).take k ++ [(tagAll 0 ys).getD k (0, (0, 0, 0))] := by
        rw [List.take_succ_eq_append_getElem (by omega)]; simp [List.getD, show k < (tagAll 0 ys).length by omega]
      simp only [sumP]
      rw [ih (by omega), hs, csum_append]
      have e1 : (ofList (allJobs ys)).long k = ((tagAll 0 ys).getD k (0, (0, 0, 0))).2.2.2 := by
        show ((allJobs ys).getD k (0, 0, 0)).2.2 = _
        rw [job_at]
      have e2 : (ofList (allJobs ys)).came k = ((tagAll 0 ys).getD k (0, (0, 0, 0))).2.1 := by
        show ((allJobs ys).getD k (0, 0, 0)).1 = _
        rw [job_at]
      simp only [csum]
      rw [e1]
      by_cases c : comes (ofList (allJobs ys)) (task ys) p s e k = true
      · rw [if_pos c]
        obtain ⟨c1, c2, c3⟩ := comes_iff.1 c
        rw [e2] at c2 c3
        rw [if_pos ⟨c1, by simp [inC]; exact ⟨c2, c3⟩⟩]
        omega
      · rw [if_neg c]
        rw [if_neg]
        · omega
        · rintro ⟨c1, c2⟩
          apply c
          simp [inC] at c2
          refine comes_iff.2 ⟨c1, ?_, ?_⟩
          · rw [e2]; exact c2.1
          · rw [e2]; exact c2.2
  have h := this _ (Nat.le_refl _)
  rw [List.take_length] at h
  exact h
/-- where n times are enough for the task p, they are from every time on for all that comes, up to it -/
theorem enough_all {size : Int} {sl : List Sp} (hs : 1 ≤ size) (hg : good size (-1) sl = true) {ys : List (Tk × Nat × Nat)} (h : ∀ y ∈ ys, tok y.1) {p n : Nat} {x : Tk} (hx : (ys.map (·.1))[p]? = some x)
    (he : Enough (lst size sl) ((ys.map (·.1)).take p) x n) (s : Nat) :
    sumP (comes (ofList (allJobs ys)) (task ys) p s (s + n)) (ofList (allJobs ys)).long (ofList (allJobs ys)).n ≤ av (inS size sl) (s + n) - av (inS size sl) s := by
  obtain ⟨n1, n2, n3⟩ := he
  rw [sum_tag, av_D hs hg (show s ≤ s + n by omega)]
  have a := csum_le h (p := p) (s := s) (n := n) (k := 0) (by omega)
  rw [show p + 1 - 0 = p + 1 by omega] at a
  have hlt : p < (ys.map (·.1)).length := (List.getElem?_eq_some_iff.1 hx).1
  have hts : (ys.map (·.1)).take (p + 1) = (ys.map (·.1)).take p ++ [x] := by
    rw [List.take_succ_eq_append_getElem hlt]
    obtain ⟨_, e⟩ := List.getElem?_eq_some_iff.1 hx
    rw [e]
  have tx : tok x := by
    have : x ∈ ys.map (·.1) := List.mem_of_getElem? hx
    obtain ⟨y, hy, rfl⟩ := List.mem_map.1 this
    exact h y hy
  rw [hts, ahead_append] at a
  simp only [ahead] at a
  rw [up_one n1 (by have := tx.2.2.2.1; omega)] at a
  have c := (lst_P hs hg (show 0 ≤ (n : Int) by omega)).1 s (by omega)
  rw [show ((s + n : Nat) : Int) - s = n by omega]
  unfold need at n3
  omega
theorem per_len (x : Tk) (f m : Nat) : (perTask x f m).length = m := by
  induction m with
  | zero => rfl
  | succ m ih => simp [perTask, ih]
theorem long_pos {ys : List (Tk × Nat × Nat)} (h : ∀ y ∈ ys, tok y.1) : ∀ i, i < (ofList (allJobs ys)).n → 0 ≤ (ofList (allJobs ys)).long i := by
  have each : ∀ (x : Tk) (f m : Nat), tok x → ∀ j ∈ perTask x f m, 1 ≤ j.2.2 := by
    intro x f m hx
    induction m with
    | zero => intro j hj; simp [perTask] at hj
    | succ m ih =>
      intro j hj
      simp only [perTask, List.mem_append, List.mem_singleton] at hj
      rcases hj with hj | rfl
      · exact ih j hj
      · exact hx.2.2.2.2.1
  have all : ∀ j ∈ allJobs ys, 1 ≤ j.2.2 := by
    induction ys with
    | nil => intro j hj; simp [allJobs] at hj
    | cons y r ih =>
      intro j hj
      simp only [allJobs, List.mem_append] at hj
      rcases hj with hj | hj
      · exact each _ _ _ (h y (by simp)) j hj
      · exact ih (fun z hz => h z (by simp [hz])) j hj
  intro i hi
  have hi' : i < (allJobs ys).length := hi
  have := all ((allJobs ys).getD i (0, 0, 0)) (by simp [List.getD, hi'])
  show 0 ≤ ((allJobs ys).getD i (0, 0, 0)).2.2
  omega
/-- a reply holds -/
theorem reply_holds {size : Int} {sl : List Sp} (hs : 1 ≤ size) (hg : good size (-1) sl = true) {ys : List (Tk × Nat × Nat)} (h : ∀ y ∈ ys, tok y.1) {T : Nat} {L : Nat → Nat → Int} {c : Nat → Option Nat}
    (hr : Run (ofList (allJobs ys)) (inS size sl) T L c) (hf : Fix (ofList (allJobs ys)) (inS size sl) T L c (task ys)) {p n : Nat} {x : Tk} (hx : (ys.map (·.1))[p]? = some x)
    (he : Enough (lst size sl) ((ys.map (·.1)).take p) x n) {j : Nat} (hj : j < (ofList (allJobs ys)).n) (hp : task ys j = p) (hT : (ofList (allJobs ys)).came j + n ≤ T) : L ((ofList (allJobs ys)).came j + n) j = 0 :=
  hr.reply hf (long_pos h) (by have := he.1; omega) (fun s _ => enough_all hs hg h hx he s) hj (by omega) hT
/-- where it fits no job is late, by the earliest due -/
theorem fits_edf {size : Int} {sl : List Sp} (hs : 1 ≤ size) (hg : good size (-1) sl = true) {ys : List (Tk × Nat × Nat)} (h : ∀ y ∈ ys, tok y.1) (hft : ∀ n, 0 ≤ n → ¬ Bad size sl (ys.map (·.1)) n) {T : Nat} {L : Nat → Nat → Int} {c : Nat → Option Nat}
    (hr : Run (ofList (allJobs ys)) (inS size sl) T L c) (he : Edf (ofList (allJobs ys)) (inS size sl) T L c) {j : Nat} (hj : j < (ofList (allJobs ys)).n) (hd : (ofList (allJobs ys)).due j ≤ T) : L ((ofList (allJobs ys)).due j) j = 0 :=
  hr.edf he (long_pos h) hd (fun s hsd => fits_enough hs hg h hft hsd) hj (Nat.le_refl _)
end PlayM
end Go.Proofs.Ytnbfadfhpegddaa
