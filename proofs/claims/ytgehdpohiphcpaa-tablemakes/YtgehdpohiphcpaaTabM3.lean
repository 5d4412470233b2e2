/- Plain mathematics of wants: the windows that they make. -/
import Derived.Test.YtgehdpohiphcpaaTabM2
set_option linter.unusedVariables false
namespace Go.Proofs.Ytgehdpohiphcpaa
namespace TabM
open SpanM
/-- Owner, From, Long, Every -/
abbrev Wnt := Int × Int × Int × Int
def z4 : Wnt := (0, 0, 0, 0)
def fitP (frame : Int) (x : Wnt) : Prop := (1 ≤ x.2.2.2 ∧ x.2.2.2 ≤ frame ∧ frame % x.2.2.2 = 0) ∧ (0 ≤ x.1 ∧ x.1 ≤ 15) ∧ (1 ≤ x.2.2.1 ∧ x.2.2.1 ≤ x.2.2.2) ∧ (0 ≤ x.2.1 ∧ x.2.1 ≤ x.2.2.2 - x.2.2.1)
instance (frame : Int) (x : Wnt) : Decidable (fitP frame x) := by unfold fitP; infer_instance
/-- how many windows they make -/
def cntW (frame : Int) : List Wnt → Int
  | [] => 0
  | x :: r => frame / x.2.2.2 + cntW frame r
theorem cntW_append (frame : Int) (l r : List Wnt) : cntW frame (l ++ r) = cntW frame l + cntW frame r := by
  induction l with
  | nil => simp [cntW]
  | cons x s ih => simp only [List.cons_append, cntW, ih]; omega
def fitAll (frame : Int) (l : List Wnt) : Bool := l.all fun x => decide (fitP frame x)
theorem fitAll_iff {frame : Int} {l : List Wnt} : fitAll frame l = true ↔ ∀ x ∈ l, fitP frame x := by simp [fitAll]
theorem quot_bd {frame e : Int} (hf : 0 ≤ frame) (h : 1 ≤ e) : 0 ≤ frame / e ∧ frame / e ≤ frame := ⟨Int.ediv_nonneg hf (by omega), Int.ediv_le_self _ hf⟩
theorem cntW_bd {frame : Int} {l : List Wnt} (hf : 0 ≤ frame) (h : ∀ x ∈ l, fitP frame x) : 0 ≤ cntW frame l ∧ cntW frame l ≤ frame * l.length := by
  induction l with
  | nil => simp [cntW]
  | cons x r ih =>
    have h1 := ih fun y hy => h y (by simp [hy])
    have h2 := quot_bd hf (h x (by simp)).1.1
    simp only [cntW, List.length_cons]
    rw [show frame * ((r.length + 1 : Nat) : Int) = frame * r.length + frame by rw [Int.natCast_add, Int.mul_add]; simp]
    omega
/-- what checkWants says -/
def wchkG (frame : Int) (l : List Wnt) : Int := if fitAll frame l = true then (if 200 < cntW frame l then 2 else 0) else 4
def wchk (frame : Int) (l : List Wnt) : Int := if 1 ≤ frame ∧ frame ≤ 1000000 then (if 200 < l.length then 2 else wchkG frame l) else 1
theorem wchk_zero {frame : Int} {l : List Wnt} (h : wchk frame l = 0) : 1 ≤ frame ∧ frame ≤ 1000000 ∧ l.length ≤ 200 ∧ (∀ x ∈ l, fitP frame x) ∧ cntW frame l ≤ 200 := by
  unfold wchk wchkG at h
  split at h
  · split at h
    · simp at h
    · split at h
      · split at h
        · simp at h
        · exact ⟨by omega, by omega, by omega, fitAll_iff.1 ‹_›, by omega⟩
      · simp at h
  · simp at h
theorem wchk_of {frame : Int} {l : List Wnt} (h1 : 1 ≤ frame) (h2 : frame ≤ 1000000) (h3 : l.length ≤ 200) (h4 : ∀ x ∈ l, fitP frame x) (h5 : cntW frame l ≤ 200) : wchk frame l = 0 := by
  unfold wchk wchkG
  rw [if_pos ⟨h1, h2⟩, if_neg (by omega), if_pos (fitAll_iff.2 h4), if_neg (by omega)]
/-- the windows of one want, the first n -/
def winsN (x : Wnt) (n : Nat) : List Win := (List.range n).map fun (k : Nat) => ((k : Int) * x.2.2.2 + x.2.1, x.2.2.1, x.1)
theorem winsN_succ (x : Wnt) (n : Nat) : winsN x (n + 1) = winsN x n ++ [((n : Int) * x.2.2.2 + x.2.1, x.2.2.1, x.1)] := by
  simp [winsN, List.range_succ]
theorem winsN_len (x : Wnt) (n : Nat) : (winsN x n).length = n := by simp [winsN]
def winsOf (frame : Int) (x : Wnt) : List Win := winsN x (frame / x.2.2.2).toNat
def wins (frame : Int) (l : List Wnt) : List Win := l.flatMap (winsOf frame)
theorem wins_append (frame : Int) (l r : List Wnt) : wins frame (l ++ r) = wins frame l ++ wins frame r := by simp [wins]
theorem wins_one (frame : Int) (x : Wnt) : wins frame [x] = winsOf frame x := by simp [wins]
theorem wins_len {frame : Int} {l : List Wnt} (hf : 0 ≤ frame) (h : ∀ x ∈ l, fitP frame x) : ((wins frame l).length : Int) = cntW frame l := by
  induction l with
  | nil => simp [wins, cntW]
  | cons x r ih =>
    have h1 := ih fun y hy => h y (by simp [hy])
    have h2 := quot_bd hf (h x (by simp)).1.1
    have e : wins frame (x :: r) = winsOf frame x ++ wins frame r := by simp [wins]
    rw [e, List.length_append, winsOf, winsN_len]
    simp only [cntW]
    omega
theorem quot_mul {frame e : Int} (h : frame % e = 0) : e * (frame / e) = frame := by
  have := Int.emod_add_mul_ediv frame e; omega
theorem win_fit {frame : Int} {x : Wnt} (hx : fitP frame x) (k : Int) (h0 : 0 ≤ k) (h1 : k < frame / x.2.2.2) : wfit frame 0 (k * x.2.2.2 + x.2.1, x.2.2.1, x.1) := by
  obtain ⟨⟨a1, a2, a3⟩, ⟨b1, b2⟩, ⟨c1, c2⟩, d1, d2⟩ := hx
  have e := quot_mul a3
  have m1 : 0 ≤ k * x.2.2.2 := Int.mul_nonneg h0 (by omega)
  have m2 : (k + 1) * x.2.2.2 ≤ frame / x.2.2.2 * x.2.2.2 := Int.mul_le_mul_of_nonneg_right (by omega) (by omega)
  rw [Int.add_mul, Int.mul_comm (frame / x.2.2.2), e] at m2
  exact ⟨b1, b2, by simp only; omega, c1, by simp only; omega⟩
theorem mem_winsOf {frame : Int} {x : Wnt} {y : Win} (h : y ∈ winsOf frame x) : ∃ k : Nat, (k : Int) < frame / x.2.2.2 ∧ y = ((k : Int) * x.2.2.2 + x.2.1, x.2.2.1, x.1) := by
  obtain ⟨k, hk, rfl⟩ := List.mem_map.1 h
  have := List.mem_range.1 hk
  exact ⟨k, by omega, rfl⟩
theorem winsOf_mem {frame : Int} {x : Wnt} (k : Nat) (h : (k : Int) < frame / x.2.2.2) : ((k : Int) * x.2.2.2 + x.2.1, x.2.2.1, x.1) ∈ winsOf frame x :=
  List.mem_map.2 ⟨k, List.mem_range.2 (by omega), rfl⟩
theorem wins_fit {frame : Int} {l : List Wnt} (h : ∀ x ∈ l, fitP frame x) : ∀ y ∈ wins frame l, wfit frame 0 y := by
  intro y hy
  obtain ⟨x, hx, hy⟩ := List.mem_flatMap.1 hy
  obtain ⟨k, hk, rfl⟩ := mem_winsOf hy
  exact win_fit (h x hx) k (by omega) hk
theorem Apart.perm {l m : List Win} (h : Apart l) (p : l.Perm m) : Apart m :=
  (p.pairwise_iff (fun {x y} h => h.symm)).1 h
theorem good_of {frame : Int} : ∀ {e : Int} {l : List Win}, l.Pairwise (fun x y => x.1 ≤ y.1) → Apart l → (∀ x ∈ l, wfit frame e x) → wgood frame e l = true := by
  intro e l
  induction l generalizing e with
  | nil => intros; rfl
  | cons x r ih =>
    intro h1 h2 h3
    obtain ⟨a1, a2⟩ := List.pairwise_cons.1 h1
    obtain ⟨b1, b2⟩ := List.pairwise_cons.1 h2
    refine wgood_cons.2 ⟨h3 x (by simp), ih a2 b2 fun y hy => ?_⟩
    have c1 := a1 y hy
    have c2 := b1 y hy
    have c3 := h3 y (by simp [hy])
    have c4 := h3 x (by simp)
    unfold wfit at *
    omega
theorem wgood_lt {frame : Int} : ∀ {e : Int} {l : List Win}, wgood frame e l = true → l.Pairwise (fun x y => x.1 < y.1) := by
  intro e l
  induction l generalizing e with
  | nil => intro _; exact List.Pairwise.nil
  | cons x r ih =>
    intro h
    obtain ⟨h1, h2⟩ := wgood_cons.1 h
    refine List.Pairwise.cons (fun y hy => ?_) (ih h2)
    have := wgood_each h2 y hy
    unfold wfit at *
    omega
theorem perm_one {l m : List Win} (h : l.Pairwise (fun x y => x.1 < y.1)) (k : m.Pairwise (fun x y => x.1 < y.1)) (p : l.Perm m) : l = m := by
  induction l generalizing m with
  | nil => exact (p.nil_eq)
  | cons x r ih =>
    cases m with
    | nil => exact absurd p.length_eq (by simp)
    | cons y s =>
      obtain ⟨a1, a2⟩ := List.pairwise_cons.1 h
      obtain ⟨b1, b2⟩ := List.pairwise_cons.1 k
      have hx : x ∈ y :: s := p.mem_iff.1 (by simp)
      have hy : y ∈ x :: r := p.mem_iff.2 (by simp)
      have e : x = y := by
        rcases List.mem_cons.1 hx with e | hx
        · exact e
        · rcases List.mem_cons.1 hy with e | hy
          · exact e.symm
          · have := b1 x hx
            have := a1 y hy
            omega
      subst e
      rw [ih a2 b2 p.cons_inv]
theorem good_one {frame : Int} {l m : List Win} (h : wgood frame 0 l = true) (k : wgood frame 0 m = true) (p : l.Perm m) : l = m := perm_one (wgood_lt h) (wgood_lt k) p
end TabM
end Go.Proofs.Ytgehdpohiphcpaa
