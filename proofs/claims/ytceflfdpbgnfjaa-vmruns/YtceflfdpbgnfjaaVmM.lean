/- Plain mathematics of programs (stages 11, 13, 18): whatever a machine does at each of its states, its runs may be cut. -/
set_option linter.unusedVariables false
namespace Go.Proofs.Ytceflfdpbgnfjaa
namespace VmM
/-- what is done next: nothing any more, a step, or a number is taken -/
inductive Do (σ O : Type) where
  | stop
  | go (s : σ) (o : List O)
  | take (k : Int → σ)
structure Ran (σ O : Type) where
  s : σ
  out : List O
  took : Nat
  used : Nat
/-- more behind it -/
def Ran.then {σ O : Type} (x y : Ran σ O) : Ran σ O := ⟨y.s, x.out ++ y.out, x.took + y.took, x.used + y.used⟩
variable {σ O : Type} (act : σ → Do σ O)
def run : Nat → σ → List Int → Ran σ O
  | 0, s, _ => ⟨s, [], 0, 0⟩
  | n + 1, s, i => match act s with
    | .stop => ⟨s, [], 0, 0⟩
    | .go s' o => Ran.then ⟨s', o, 0, 1⟩ (run n s' i)
    | .take k => match i with
      | [] => ⟨s, [], 0, 0⟩
      | x :: r => Ran.then ⟨k x, [], 1, 1⟩ (run n (k x) r)
variable {act}
theorem then_nil (x : Ran σ O) (s : σ) : Ran.then ⟨s, [], 0, 0⟩ x = x := by
  cases x; simp [Ran.then]
theorem then_assoc (x y z : Ran σ O) : (x.then y).then z = x.then (y.then z) := by
  simp [Ran.then, List.append_assoc, Nat.add_assoc]
theorem run_stop {n : Nat} {s : σ} {i : List Int} (h : act s = .stop) : run act n s i = ⟨s, [], 0, 0⟩ := by
  cases n with
  | zero => rfl
  | succ n => simp [run, h]
theorem run_wait {n : Nat} {s : σ} {k : Int → σ} (h : act s = .take k) : run act n s [] = ⟨s, [], 0, 0⟩ := by
  cases n with
  | zero => rfl
  | succ n => simp [run, h]
/-- CUTS: some fuel, and more of it -/
theorem run_cut : ∀ (a b : Nat) (s : σ) (i : List Int), run act (a + b) s i = (run act a s i).then (run act b (run act a s i).s (i.drop (run act a s i).took)) := by
  intro a
  induction a with
  | zero => intro b s i; rw [Nat.zero_add]; simp [run, Ran.then]
  | succ a ih =>
    intro b s i
    rw [show a + 1 + b = (a + b) + 1 by omega]
    simp only [run]
    cases h : act s with
    | stop =>
      simp only [List.drop_zero]
      rw [run_stop h]; rfl
    | go s' o =>
      simp only
      rw [ih b s' i, ← then_assoc]
      simp [Ran.then]
    | take k =>
      cases i with
      | nil => simp only [List.drop_zero]; rw [run_wait h]; rfl
      | cons x r =>
        simp only
        rw [ih b (k x) r, ← then_assoc]
        simp [Ran.then, Nat.add_comm 1]
theorem run_le : ∀ (n : Nat) (s : σ) (i : List Int), (run act n s i).used ≤ n ∧ (run act n s i).took ≤ i.length ∧ (run act n s i).took ≤ (run act n s i).used := by
  intro n
  induction n with
  | zero => intro s i; simp [run]
  | succ n ih =>
    intro s i
    simp only [run]
    cases act s with
    | stop => simp
    | go s' o => have := ih s' i; simp only [Ran.then]; omega
    | take k =>
      cases i with
      | nil => simp
      | cons x r => have := ih (k x) r; simp only [Ran.then, List.length_cons]; omega
/-- who has fuel left has stopped, or waits with nothing left -/
theorem run_end : ∀ (n : Nat) (s : σ) (i : List Int), (run act n s i).used < n → act (run act n s i).s = .stop ∨ ((∃ k, act (run act n s i).s = .take k) ∧ (run act n s i).took = i.length) := by
  intro n
  induction n with
  | zero => intro s i h; omega
  | succ n ih =>
    intro s i
    simp only [run]
    cases h : act s with
    | stop => intro _; left; exact h
    | go s' o =>
      simp only [Ran.then, Nat.zero_add]
      intro q
      exact ih s' i (by omega)
    | take k =>
      cases i with
      | nil => intro _; right; exact ⟨⟨k, h⟩, rfl⟩
      | cons x r =>
        simp only [Ran.then, List.length_cons]
        intro q
        rcases ih (k x) r (by omega) with a | ⟨a, b⟩
        · left; exact a
        · right; exact ⟨a, by omega⟩
/-- STOPS: then nothing more happens -/
theorem run_still {n : Nat} {s : σ} {i : List Int} (h : (run act n s i).used < n) (m : Nat) : run act m (run act n s i).s (i.drop (run act n s i).took) = ⟨(run act n s i).s, [], 0, 0⟩ := by
  rcases run_end n s i h with a | ⟨⟨k, a⟩, b⟩
  · exact run_stop a
  · rw [b, List.drop_length]; exact run_wait a
/-- as much fuel as is used is enough -/
theorem run_used (n : Nat) (s : σ) (i : List Int) : run act (run act n s i).used s i = run act n s i := by
  have h := (run_le (act := act) n s i).1
  induction n generalizing s i with
  | zero => rfl
  | succ n ih =>
    simp only [run] at h ⊢
    cases q : act s with
    | stop => simp [run]
    | go s' o =>
      simp only [Ran.then, Nat.add_comm 1, run, q]
      have := ih s' i (run_le n s' i).1
      rw [this]
    | take k =>
      cases i with
      | nil => simp [run]
      | cons x r =>
        simp only [Ran.then, Nat.add_comm 1, run, q]
        have := ih (k x) r (run_le n (k x) r).1
        rw [this]
/-- BLIND: what isn't taken is no matter -/
theorem run_blind : ∀ (n : Nat) (s : σ) (i j : List Int), ((run act n s i).used = n ∨ (run act n s i).took < i.length) → run act n s (i.take (run act n s i).took ++ j) = run act n s i := by
  intro n
  induction n with
  | zero => intro s i j _; rfl
  | succ n ih =>
    intro s i j
    simp only [run]
    cases h : act s with
    | stop => intro _; rfl
    | go s' o =>
      simp only [Ran.then, Nat.zero_add]
      intro q
      rw [ih s' i j (by omega)]
    | take k =>
      cases i with
      | nil => simp only [List.length_nil]; intro q; omega
      | cons x r =>
        simp only [Ran.then, List.length_cons, Nat.add_comm 1]
        intro q
        rw [List.take_succ_cons, List.cons_append]
        simp only
        rw [ih (k x) r j (by omega)]
/-- WAITS: how what comes in is cut is no matter -/
theorem run_more : ∀ (n : Nat) (s : σ) (i j : List Int), (run act n s i).took = i.length → run act n s (i ++ j) = (run act n s i).then (run act (n - (run act n s i).used) (run act n s i).s j) := by
  intro n
  induction n with
  | zero =>
    intro s i j h
    simp [run, Ran.then]
  | succ n ih =>
    intro s i j
    simp only [run]
    cases h : act s with
    | stop =>
      intro q
      simp only
      rw [run_stop h]; rfl
    | go s' o =>
      intro q
      simp only [Ran.then, Nat.zero_add] at q ⊢
      rw [ih s' i j q, show n + 1 - (1 + (run act n s' i).used) = n - (run act n s' i).used by omega]
      simp [Ran.then, List.append_assoc, Nat.add_assoc]
    | take k =>
      cases i with
      | nil =>
        intro q
        simp only [List.nil_append]
        rw [then_nil, Nat.sub_zero]
        simp only [run, h]
      | cons x r =>
        intro q
        simp only [Ran.then, List.length_cons, List.cons_append] at q ⊢
        rw [ih (k x) r j (by omega), show n + 1 - (1 + (run act n (k x) r).used) = n - (run act n (k x) r).used by omega]
        simp [Ran.then, Nat.add_assoc]
end VmM
end Go.Proofs.Ytceflfdpbgnfjaa
