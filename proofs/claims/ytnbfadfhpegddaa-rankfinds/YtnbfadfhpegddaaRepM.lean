/- Plain mathematics of replies: leaping from one n to the wait for what is needed within it. -/
import Derived.Test.YtnbfadfhpegddaaPlayM8
set_option linter.unusedVariables false
namespace Go.Proofs.Ytnbfadfhpegddaa
open SpanM SupM TaskM RankM
namespace PlayM
theorem ahead_mono {p : List Tk} (h : ∀ y ∈ p, tok y) {n m : Int} (hm : n ≤ m) : ahead p n ≤ ahead p m := by
  induction p with
  | nil => exact Int.le_refl _
  | cons y r ih =>
    have a := ih fun z hz => h z (by simp [hz])
    have ty := h y (by simp)
    have u := up_mono ty.1 hm
    have b : up n y.2.1 * y.1 ≤ up m y.2.1 * y.1 := Int.mul_le_mul_of_nonneg_right u (by have := ty.2.2.2.2.1; omega)
    simp only [ahead]; omega
theorem term_bd {y : Tk} (h : tok y) {n : Int} (h1 : 1 ≤ n) (h2 : n ≤ 10000) : 1 ≤ up n y.2.1 ∧ up n y.2.1 ≤ 10000 ∧ 0 ≤ y.1 * up n y.2.1 ∧ y.1 * up n y.2.1 ≤ 20000 := by
  obtain ⟨e1, e2, d1, d2, g1, g2⟩ := h
  have u1 := up_pos h1 e1
  have hq : (-n) / y.2.1 * y.2.1 ≥ -n - (y.2.1 - 1) := by
    have a := Int.emod_add_mul_ediv (-n) y.2.1
    have b := Int.emod_lt_of_pos (-n) (show 0 < y.2.1 by omega)
    rw [Int.mul_comm] at a
    omega
  have hu : up n y.2.1 * y.2.1 ≤ n + y.2.1 - 1 := by
    unfold up
    rw [Int.neg_mul]; omega
  have c1 : up n y.2.1 * 1 ≤ up n y.2.1 * y.2.1 := Int.mul_le_mul_of_nonneg_left e1 (by omega)
  have c2 : y.1 * up n y.2.1 ≤ y.2.1 * up n y.2.1 := Int.mul_le_mul_of_nonneg_right (by omega) (by omega)
  have c3 : 0 ≤ y.1 * up n y.2.1 := Int.mul_nonneg (by omega) (by omega)
  rw [Int.mul_comm y.2.1] at c2
  have hu1 : up n y.2.1 ≤ n := by
    unfold up
    have : -n ≤ (-n) / y.2.1 := by
      refine (Int.le_ediv_iff_mul_le (by omega)).2 ?_
      have : n * 1 ≤ n * y.2.1 := Int.mul_le_mul_of_nonneg_left e1 (by omega)
      rw [Int.neg_mul]; omega
    omega
  omega
theorem ahead_bd {p : List Tk} (h : ∀ y ∈ p, tok y) {n : Int} (h1 : 1 ≤ n) (h2 : n ≤ 10000) : 0 ≤ ahead p n ∧ ahead p n ≤ p.length * 20000 := by
  induction p with
  | nil => simp [ahead]
  | cons y r ih =>
    have a := ih fun z hz => h z (by simp [hz])
    have b := term_bd (h y (by simp)) h1 h2
    rw [Int.mul_comm] at b
    simp only [ahead, List.length_cons]
    omega
theorem need_mono {p : List Tk} (h : ∀ y ∈ p, tok y) (x : Tk) {n m : Int} (hm : n ≤ m) : need p x n ≤ need p x m := by
  have := ahead_mono h hm
  unfold need; omega
theorem need_bd {p : List Tk} (h : ∀ y ∈ p, tok y) {x : Tk} (hx : tok x) (hp : p.length ≤ 16) {n : Int} (h1 : 1 ≤ n) (h2 : n ≤ 10000) : 1 ≤ need p x n ∧ need p x n ≤ 1000000 := by
  have a := ahead_bd h h1 h2
  obtain ⟨e1, e2, d1, d2, g1, g2⟩ := hx
  unfold need; omega
theorem need_snoc (p : List Tk) (x y : Tk) (n : Int) : need (p ++ [y]) x n = need p x n + y.1 * up n y.2.1 := by
  unfold need
  rw [ahead_append]
  simp only [ahead]
  rw [Int.mul_comm]; omega
theorem need_nil (x : Tk) (n : Int) : need [] x n = x.1 := by unfold need; simp [ahead]
/-- a set without times has never enough -/
theorem lst_nil (size n : Int) : lst size [] n = 0 := by
  unfold lst D cb
  simp [lmin, cnt]
theorem rep_nil {size : Int} {p : List Tk} (h : ∀ y ∈ p, tok y) {x : Tk} (hx : tok x) : rep (lst size []) p x = 0 := by
  refine (rep_eq (.inr ⟨rfl, fun m hm => ?_⟩)).symm
  obtain ⟨h1, h2, h3⟩ := hm
  rw [lst_nil] at h3
  have := ahead_nonneg h h1
  have := hx.2.2.2.2.1
  unfold need at h3
  omega
/-- none below n is enough -/
def NoneB (S : Int → Int) (p : List Tk) (x : Tk) (n : Int) : Prop := ∀ m, 1 ≤ m → m < n → ¬ Enough S p x m
theorem none_start (S : Int → Int) (p : List Tk) (x : Tk) : NoneB S p x 1 := fun m h1 h2 => by omega
theorem none_end {S : Int → Int} {p : List Tk} {x : Tk} {n : Int} (h : NoneB S p x n) (hn : ¬ n ≤ x.2.2) : rep S p x = 0 :=
  (rep_eq (.inr ⟨rfl, fun m hm => h m hm.1 (by have := hm.2.1; omega) hm⟩)).symm
variable {size : Int} {sl : List Sp}
theorem none_leap (hs : 1 ≤ size) (hg : good size (-1) sl = true) (hl : sl ≠ []) {p : List Tk} (h : ∀ y ∈ p, tok y) {x : Tk} (hx : tok x) {n : Int} (h1 : 1 ≤ n) (hn : NoneB (lst size sl) p x n) : NoneB (lst size sl) p x (wt size sl (need p x n)) := by
  intro m m1 m2 hm
  by_cases c : m < n
  · exact hn m m1 c hm
  · have e := hm.2.2
    have mono := need_mono h x (show n ≤ m by omega)
    have nn : 1 ≤ need p x n := by
      have := ahead_nonneg h h1
      have := hx.2.2.2.2.1
      unfold need; omega
    have := (wt_iff hs hg hl nn (by omega) (lst_P hs hg (show 0 ≤ m by omega))).1 (by omega)
    omega
theorem leap_end (hs : 1 ≤ size) (hg : good size (-1) sl = true) (hl : sl ≠ []) {p : List Tk} (h : ∀ y ∈ p, tok y) {x : Tk} (hx : tok x) {n : Int} (h1 : 1 ≤ n) (h2 : n ≤ x.2.2) (hn : NoneB (lst size sl) p x n) (hw : wt size sl (need p x n) ≤ n) : rep (lst size sl) p x = n := by
  have nn : 1 ≤ need p x n := by
    have := ahead_nonneg h h1
    have := hx.2.2.2.2.1
    unfold need; omega
  refine (rep_eq (.inl ⟨⟨h1, h2, (wt_iff hs hg hl nn (by omega) (lst_P hs hg (show 0 ≤ n by omega))).2 hw⟩, fun m hm he => hn m he.1 hm he⟩)).symm
end PlayM
end Go.Proofs.Ytnbfadfhpegddaa
