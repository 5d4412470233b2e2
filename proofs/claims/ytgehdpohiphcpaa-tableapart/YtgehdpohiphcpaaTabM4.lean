/- Plain mathematics: how many times owners have. -/
import Derived.Test.YtgehdpohiphcpaaTabM2
set_option linter.unusedVariables false
namespace Go.Proofs.Ytgehdpohiphcpaa
namespace TabM
open SpanM
theorem num_congr {f g : Int → Bool} (n : Nat) (h : ∀ u : Nat, u < n → f u = g u) : num f n = num g n := by
  induction n with
  | zero => rfl
  | succ n ih => simp only [num]; rw [ih fun u hu => h u (by omega), h n (by omega)]
theorem num_false (n : Nat) : num (fun _ => false) n = 0 := by
  induction n with
  | zero => rfl
  | succ n ih => simp [num, ih, SpanM.one]
theorem num_span {a b : Int} (h0 : 0 ≤ a) (h1 : a ≤ b) (n : Nat) : num (fun u => decide (a ≤ u ∧ u < b)) n = max 0 (min b n - a) := by
  induction n with
  | zero => simp only [num]; omega
  | succ n ih =>
    simp only [num]
    rw [ih]
    by_cases h : a ≤ (n : Int) ∧ (n : Int) < b
    · rw [decide_eq_true h]; simp only [SpanM.one]; simp only [if_true]; omega
    · rw [decide_eq_false h]; simp only [SpanM.one]; simp; omega
/-- how long an owner has windows -/
def osE (o : Int) : List Win → Int
  | [] => 0
  | x :: r => (if x.2.2 = o then x.2.1 else 0) + osE o r
def osL (k : Int) : List Win → Int
  | [] => 0
  | x :: r => (if x.2.2 < k then x.2.1 else 0) + osL k r
def tot : List Win → Int
  | [] => 0
  | x :: r => x.2.1 + tot r
theorem osL_succ (k : Int) (l : List Win) : osL (k + 1) l = osL k l + osE k l := by
  induction l with
  | nil => rfl
  | cons x r ih =>
    simp only [osL, osE, ih]
    by_cases h1 : x.2.2 < k
    · rw [if_pos (by omega), if_pos h1, if_neg (by omega)]; omega
    · by_cases h2 : x.2.2 = k
      · rw [if_pos (by omega), if_neg h1, if_pos h2]; omega
      · rw [if_neg (by omega), if_neg h1, if_neg h2]; omega
theorem osL_all {l : List Win} (h : ∀ x ∈ l, 0 ≤ x.2.2 ∧ x.2.2 ≤ 15) : osL 0 l = 0 ∧ osL 16 l = tot l := by
  induction l with
  | nil => simp [osL, tot]
  | cons x r ih =>
    have h1 := h x (by simp)
    obtain ⟨i1, i2⟩ := ih fun y hy => h y (by simp [hy])
    simp only [osL, tot]
    rw [if_neg (by omega), if_pos (by omega), i1, i2]; omega
theorem osL_bd {frame k : Int} {l : List Win} (h : ∀ x ∈ l, wfit frame 0 x) (hf : 0 ≤ frame) : 0 ≤ osL k l ∧ osL k l ≤ tot l ∧ 0 ≤ osE k l ∧ osE k l ≤ tot l ∧ 0 ≤ tot l ∧ tot l ≤ frame * l.length := by
  induction l with
  | nil => simp [osL, osE, tot]
  | cons x r ih =>
    have h1 := h x (by simp)
    unfold wfit at h1
    have i := ih fun y hy => h y (by simp [hy])
    simp only [osL, osE, tot, List.length_cons]
    rw [show frame * ((r.length + 1 : Nat) : Int) = frame * r.length + frame by rw [Int.natCast_add, Int.mul_add]; simp]
    by_cases c1 : x.2.2 < k <;> by_cases c2 : x.2.2 = k
    · omega
    · rw [if_pos c1, if_neg c2]; omega
    · rw [if_neg c1, if_pos c2]; omega
    · rw [if_neg c1, if_neg c2]; omega
theorem num_own {frame o : Int} {n : Nat} (ho : 0 ≤ o) (hn : frame = n) : ∀ {e : Int} {l : List Win}, 0 ≤ e → wgood frame e l = true → num (fun u => decide (wown l u = o)) n = osE o l := by
  intro e l
  induction l generalizing e with
  | nil =>
    intro _ _
    simp only [osE]
    rw [← num_false n]
    refine num_congr n fun u _ => ?_
    have e : wown [] (u : Int) = -1 := rfl
    exact decide_eq_false (by rw [e]; omega)
  | cons x r ih =>
    intro he h
    obtain ⟨h1, h2⟩ := wgood_cons.1 h
    unfold wfit at h1
    have i := ih (by omega) h2
    simp only [osE]
    have key := num_sum (fun u => decide (wown (x :: r) u = o)) (fun _ => false) (fun u => decide (x.2.2 = o) && decide (x.1 ≤ u ∧ u < x.1 + x.2.1)) (fun u => decide (wown r u = o)) n (fun u => by
      by_cases hu : inW x u
      · have hr : wown r u = -1 := wown_none fun y hy => by
          have := wgood_each h2 y hy
          unfold wfit at this
          unfold inW at hu ⊢
          omega
        have hu' : x.1 ≤ u ∧ u < x.1 + x.2.1 := hu
        rw [wown_pos hu, hr, decide_eq_true hu', decide_eq_false (by omega : ¬ ((-1 : Int) = o)), Bool.and_true]
      · have hu' : ¬ (x.1 ≤ u ∧ u < x.1 + x.2.1) := hu
        rw [wown_neg hu, decide_eq_false hu', Bool.and_false]
        omega)
    rw [num_false, i] at key
    by_cases hx : x.2.2 = o
    · rw [if_pos hx]
      have e1 : num (fun u => decide (x.2.2 = o) && decide (x.1 ≤ u ∧ u < x.1 + x.2.1)) n = num (fun u => decide (x.1 ≤ u ∧ u < x.1 + x.2.1)) n := num_congr n fun u _ => by rw [decide_eq_true hx]; rfl
      rw [e1, num_span (by omega) (by omega)] at key
      omega
    · rw [if_neg hx]
      have e1 : num (fun u => decide (x.2.2 = o) && decide (x.1 ≤ u ∧ u < x.1 + x.2.1)) n = num (fun _ => false) n := num_congr n fun u _ => by rw [decide_eq_false hx]; rfl
      rw [e1, num_false] at key
      omega
theorem cb_own {frame o : Int} {r : List Sp} {l : List Win} (hf : 1 ≤ frame) (ho : 0 ≤ o) (hg : good frame (-1) r = true) (hw : wgood frame 0 l = true) (hm : ∀ t, mem r t = decide (wown l t = o)) : cb frame r frame - cb frame r 0 = osE o l := by
  have e1 := cb_num hf hg frame.toNat
  have e2 := cb_num hf hg 0
  rw [Int.toNat_of_nonneg (by omega)] at e1
  simp only [num] at e2
  have e3 : num (fun u => mem r (u % frame)) frame.toNat = num (fun u => decide (wown l u = o)) frame.toNat := num_congr _ fun u hu => by
    rw [Int.emod_eq_of_lt (by omega) (by omega), hm]
  rw [e1, e3, num_own ho (by omega) (Int.le_refl 0) hw]
  have : cb frame r 0 = 0 := by simpa using e2
  omega
theorem tot_drop (l : List Win) (k : Nat) (h : k < l.length) : tot (l.drop k) = (l.getD k z3).2.1 + tot (l.drop (k + 1)) := by
  rw [drop_get z3 l k h]; rfl
end TabM
end Go.Proofs.Ytgehdpohiphcpaa
