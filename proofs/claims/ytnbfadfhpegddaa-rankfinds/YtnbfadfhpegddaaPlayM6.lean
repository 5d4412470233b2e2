/- Plain mathematics of plays: who is late. -/
import Derived.Test.YtnbfadfhpegddaaPlayM5
set_option linter.unusedVariables false
namespace Go.Proofs.Ytnbfadfhpegddaa
open SpanM SupM TaskM
namespace PlayM
theorem per_get (x : Tk) (f : Nat) : ∀ (m k : Nat), k < m → (perTask x f m).getD k (0, 0, 0) = (f + k * x.2.1.toNat, f + k * x.2.1.toNat + x.2.2.toNat, x.1) := by
  intro m
  induction m with
  | zero => intro k hk; omega
  | succ m ih =>
    intro k hk
    simp only [perTask]
    by_cases c : k < m
    · have := ih k c
      rw [List.getD, List.getElem?_append_left (by rw [per_len]; exact c)]
      exact this
    · obtain rfl : k = m := by omega
      rw [List.getD, List.getElem?_append_right (by rw [per_len]; exact Nat.le_refl _), per_len]
      simp
theorem all_len (M : Nat) : ∀ ys : List (Tk × Nat × Nat), (∀ y ∈ ys, y.2.2 = M) → (allJobs ys).length = ys.length * M := by
  intro ys
  induction ys with
  | nil => intro _; simp [allJobs]
  | cons y r ih =>
    intro h
    simp only [allJobs, List.length_append, per_len, List.length_cons]
    rw [ih fun z hz => h z (by simp [hz]), h y (by simp), Nat.add_mul]; omega
theorem all_get (M : Nat) : ∀ (ys : List (Tk × Nat × Nat)), (∀ y ∈ ys, y.2.2 = M) → ∀ (i k : Nat) (hi : i < ys.length), k < M → (allJobs ys).getD (i * M + k) (0, 0, 0) = ((ys[i]).2.1 + k * (ys[i]).1.2.1.toNat, (ys[i]).2.1 + k * (ys[i]).1.2.1.toNat + (ys[i]).1.2.2.toNat, (ys[i]).1.1) := by
  intro ys
  induction ys with
  | nil => intro _ i k hi; simp at hi
  | cons y r ih =>
    intro h i k hi hk
    have hy := h y (by simp)
    simp only [allJobs]
    cases i with
    | zero =>
      rw [List.getD, List.getElem?_append_left (by rw [per_len, hy]; omega)]
      have := per_get y.1 y.2.1 y.2.2 k (by omega)
      simpa [List.getD] using this
    | succ i =>
      rw [List.getD, List.getElem?_append_right (by rw [per_len, hy, Nat.add_mul]; omega), per_len, hy, show (i + 1) * M + k - M = i * M + k by rw [Nat.add_mul]; omega]
      exact ih (fun z hz => h z (by simp [hz])) i k (by simpa using hi) hk
theorem all_exact {ys : List (Tk × Nat × Nat)} {at' d : Nat} (hd : at' ≤ d) (h : ∀ y ∈ ys, tok y.1 ∧ y.2.1 = at' ∧ jobs y.1 ((d : Int) - at') ≤ y.2.2) : lsum (inJ at' d) (allJobs ys) = dem (ys.map (·.1)) ((d : Int) - at') := by
  induction ys with
  | nil => simp [allJobs, lsum, dem]
  | cons y r ih =>
    obtain ⟨h1, h2, h3⟩ := h y (by simp)
    have a := ih fun z hz => h z (by simp [hz])
    have b := per_exact h1 at' d y.2.2 hd h3
    simp only [allJobs, List.map_cons, dem]
    rw [lsum_append, a, h2, b]
namespace Pl
/-- the tasks with M jobs each -/
def ys (P : Pl) (M : Nat) : List (Tk × Nat × Nat) := (List.range P.l.length).map fun i => (P.tk i, (P.f.getD i 0).toNat, M)
theorem ys_tk (P : Pl) (M : Nat) : (P.ys M).map (·.1) = P.l := by
  apply List.ext_getElem
  · simp [ys]
  · intro i h1 h2
    simp [ys, tk, List.getD, h2]
theorem ys_M (P : Pl) (M : Nat) : ∀ y ∈ P.ys M, y.2.2 = M := by
  intro y hy
  simp only [ys, List.mem_map] at hy
  obtain ⟨i, _, rfl⟩ := hy
  rfl
theorem ys_ok {P : Pl} (hP : P.Ok) (M : Nat) : ∀ y ∈ P.ys M, tok y.1 := by
  intro y hy
  simp only [ys, List.mem_map, List.mem_range] at hy
  obtain ⟨i, hi, rfl⟩ := hy
  exact hP.at hi
noncomputable def J (P : Pl) (M : Nat) : Jobs := ofList (allJobs (P.ys M))
theorem J_n (P : Pl) (M : Nat) : (P.J M).n = P.l.length * M := by
  show (allJobs (P.ys M)).length = _
  rw [all_len M _ (P.ys_M M)]; simp [ys]
theorem J_at {P : Pl} (hP : P.Ok) {M i k : Nat} (hi : i < P.l.length) (hk : k < M) : (((P.J M).came (i * M + k) : Nat) : Int) = P.cm i k ∧ (((P.J M).due (i * M + k) : Nat) : Int) = P.du i k ∧ (P.J M).long (i * M + k) = (P.tk i).1 := by
  have g := all_get M (P.ys M) (P.ys_M M) i k (by simp [ys, hi]) hk
  have e : (P.ys M)[i]'(by simp [ys, hi]) = (P.tk i, (P.f.getD i 0).toNat, M) := by simp [ys]
  rw [e] at g
  simp only at g
  obtain ⟨e1, e2, d1, d2, _⟩ := hP.at hi
  have f0 := hP.first i
  have em : ((k * (P.tk i).2.1.toNat : Nat) : Int) = (k : Int) * (P.tk i).2.1 := by rw [Int.natCast_mul]; congr 1; omega
  have c : (P.J M).came (i * M + k) = (P.f.getD i 0).toNat + k * (P.tk i).2.1.toNat := by
    show ((allJobs (P.ys M)).getD (i * M + k) (0, 0, 0)).1 = _
    rw [g]
  have d : (P.J M).due (i * M + k) = (P.f.getD i 0).toNat + k * (P.tk i).2.1.toNat + (P.tk i).2.2.toNat := by
    show ((allJobs (P.ys M)).getD (i * M + k) (0, 0, 0)).2.1 = _
    rw [g]
  refine ⟨?_, ?_, ?_⟩
  · rw [c]; unfold cm; omega
  · rw [d]; unfold du cm; omega
  · show ((allJobs (P.ys M)).getD (i * M + k) (0, 0, 0)).2.2 = _
    rw [g]
theorem split {M idx n : Nat} (hM : 0 < M) (h : idx < n * M) : idx / M < n ∧ idx % M < M ∧ idx = idx / M * M + idx % M := by
  refine ⟨Nat.div_lt_of_lt_mul (by rw [Nat.mul_comm]; exact h), Nat.mod_lt _ hM, ?_⟩
  have := Nat.div_add_mod idx M
  rw [Nat.mul_comm] at this
  omega
theorem join {M i k : Nat} (hk : k < M) : (i * M + k) / M = i ∧ (i * M + k) % M = k := by
  have hM : 0 < M := by omega
  constructor
  · rw [Nat.mul_comm, Nat.mul_add_div hM, Nat.div_eq_of_lt hk]; omega
  · rw [Nat.mul_comm, Nat.mul_add_mod, Nat.mod_eq_of_lt hk]
noncomputable def LL (P : Pl) (M : Nat) (t idx : Nat) : Int := P.Lf t (idx / M) (idx % M)
noncomputable def cc (P : Pl) (M : Nat) (t : Nat) : Option Nat := (P.ch (P.Lf t) t).map fun b => b.1 * M + b.2
theorem pend_iff {P : Pl} (hP : P.Ok) {M t idx : Nat} (hM : 0 < M) : Pend (P.J M) (P.LL M t) t idx ↔ idx < P.l.length * M ∧ P.Pn (P.Lf t) t (idx / M) (idx % M) := by
  unfold Pend
  rw [J_n]
  constructor
  · rintro ⟨h1, h2, h3⟩
    obtain ⟨s1, s2, s3⟩ := split hM h1
    have := (J_at hP s1 s2).1
    rw [← s3] at this
    exact ⟨h1, s1, by omega, h3⟩
  · rintro ⟨h1, h2, h3, h4⟩
    obtain ⟨s1, s2, s3⟩ := split hM h1
    have := (J_at hP s1 s2).1
    rw [← s3] at this
    exact ⟨h1, by omega, h4⟩
theorem best_lt {P : Pl} (hP : P.Ok) {M T t i k : Nat} (hT : T ≤ M) (ht : t < T) (h : P.Best (P.Lf t) t i k) : k < M ∧ i * M + k < P.l.length * M := by
  have a := (hP.come h.1.1 k).1
  have b := h.1.2.1
  have hk : k < M := by omega
  refine ⟨hk, ?_⟩
  have : (i + 1) * M ≤ P.l.length * M := Nat.mul_le_mul_right _ h.1.1
  rw [Nat.add_mul] at this
  omega
theorem run {P : Pl} (hP : P.Ok) {M T : Nat} (hM : 0 < M) (hT : T ≤ M) : Run (P.J M) (inS P.size P.sl) T (P.LL M) (P.cc M) where
  start := fun idx h => by
    rw [J_n] at h
    obtain ⟨s1, s2, s3⟩ := split hM h
    have := (J_at hP s1 s2).2.2
    rw [← s3] at this
    rw [this]; rfl
  off := fun t ht ha => by
    rcases cases1 hP (P.Lf t) t with ⟨_, _, e, _⟩ | ⟨ho, _⟩ | ⟨_, _, ho, _⟩
    · funext idx
      show P.next (P.Lf t) t _ _ = _
      rw [e]; rfl
    · have : P.on t = false := ha
      rw [this] at ho; simp at ho
    · have : P.on t = false := ha
      rw [this] at ho; simp at ho
  idle := fun t ht ha hc => by
    rcases cases1 hP (P.Lf t) t with ⟨ho, _⟩ | ⟨_, _, hn, e, _⟩ | ⟨i, k, _, h, _⟩
    · have : P.on t = true := ha
      rw [this] at ho; simp at ho
    · refine ⟨?_, fun idx hp => hn _ _ ((pend_iff hP hM).1 hp).2⟩
      funext idx
      show P.next (P.Lf t) t _ _ = _
      rw [e]; rfl
    · unfold cc at hc; rw [h] at hc; simp at hc
  work := fun t b ht ha hc => by
    rcases cases1 hP (P.Lf t) t with ⟨ho, _⟩ | ⟨_, h, _⟩ | ⟨i, k, _, h, hb, e, _⟩
    · have : P.on t = true := ha
      rw [this] at ho; simp at ho
    · unfold cc at hc; rw [h] at hc; simp at hc
    · unfold cc at hc
      rw [h] at hc
      simp only [Option.map_some, Option.some.injEq] at hc
      subst hc
      obtain ⟨hk, hlt⟩ := best_lt hP hT ht hb
      obtain ⟨j1, j2⟩ := join (i := i) hk
      refine ⟨(pend_iff hP hM).2 ⟨hlt, by rw [j1, j2]; exact hb.1⟩, ?_, fun idx hne => ?_⟩
      · show P.next (P.Lf t) t _ _ = P.Lf t _ _ - 1
        rw [e, j1, j2, less_at]
      · show P.next (P.Lf t) t _ _ = P.Lf t _ _
        rw [e, less_other]
        rintro ⟨q1, q2⟩
        apply hne
        have := Nat.div_add_mod idx M
        rw [q1, q2, Nat.mul_comm] at this
        omega
theorem run_edf {P : Pl} (hP : P.Ok) (hp : P.pol = 1) {M T : Nat} (hM : 0 < M) (hT : T ≤ M) : Edf (P.J M) (inS P.size P.sl) T (P.LL M) (P.cc M) := by
  intro t b ht ha hc idx hpe
  rcases cases1 hP (P.Lf t) t with ⟨ho, _⟩ | ⟨_, h, _⟩ | ⟨i, k, _, h, hb, _⟩
  · have : P.on t = true := ha
    rw [this] at ho; simp at ho
  · unfold cc at hc; rw [h] at hc; simp at hc
  · unfold cc at hc
    rw [h] at hc
    simp only [Option.map_some, Option.some.injEq] at hc
    subst hc
    obtain ⟨hk, hlt⟩ := best_lt hP hT ht hb
    obtain ⟨q1, q2⟩ := (pend_iff hP hM).1 hpe
    obtain ⟨s1, s2, s3⟩ := split hM q1
    have d1 := (J_at hP hb.1.1 hk).2.1
    have d2 := (J_at hP s1 s2).2.1
    rw [← s3] at d2
    have := hb.2 _ _ q2
    unfold Bef ky at this
    rw [if_pos hp, if_pos hp] at this
    omega
theorem run_fix {P : Pl} (hP : P.Ok) (hp : P.pol ≠ 1) {M T : Nat} (hM : 0 < M) (hT : T ≤ M) : Fix (P.J M) (inS P.size P.sl) T (P.LL M) (P.cc M) (fun idx => idx / M) := by
  intro t b ht ha hc idx hpe
  rcases cases1 hP (P.Lf t) t with ⟨ho, _⟩ | ⟨_, h, _⟩ | ⟨i, k, _, h, hb, _⟩
  · have : P.on t = true := ha
    rw [this] at ho; simp at ho
  · unfold cc at hc; rw [h] at hc; simp at hc
  · unfold cc at hc
    rw [h] at hc
    simp only [Option.map_some, Option.some.injEq] at hc
    subst hc
    obtain ⟨hk, hlt⟩ := best_lt hP hT ht hb
    obtain ⟨q1, q2⟩ := (pend_iff hP hM).1 hpe
    have := hb.2 _ _ q2
    unfold Bef ky at this
    rw [if_neg hp, if_neg hp] at this
    simp only
    rw [(join (i := i) hk).1]
    omega
theorem due_lt {P : Pl} (hP : P.Ok) {i k T : Nat} (hi : i < P.l.length) (hd : P.du i k ≤ T) : k < T + 1 ∧ i * (T + 1) + k < P.l.length * (T + 1) ∧ (P.J (T + 1)).due (i * (T + 1) + k) = (P.du i k).toNat ∧ P.LL (T + 1) (P.du i k).toNat (i * (T + 1) + k) = P.Lf (P.du i k).toNat i k := by
  have a := (hP.come hi k).1
  have b := hP.due hi k
  have hk : k < T + 1 := by omega
  have c : (i + 1) * (T + 1) ≤ P.l.length * (T + 1) := Nat.mul_le_mul_right _ hi
  rw [Nat.add_mul] at c
  refine ⟨hk, by omega, ?_, ?_⟩
  · have := (J_at hP hi hk).2.1
    omega
  · unfold LL
    rw [(join (i := i) hk).1, (join (i := i) hk).2]
/-- BARUAH: where it fits no job is late -/
theorem fits_late {P : Pl} (hP : P.Ok) (hp : P.pol = 1) (hf : ∀ n, 0 ≤ n → ¬ Bad P.size P.sl P.l n) {i k T : Nat} (hi : i < P.l.length) (hd : P.du i k ≤ T) : P.Lf (P.du i k).toNat i k = 0 := by
  obtain ⟨h1, h2, h3, h4⟩ := due_lt hP hi hd
  have r := run hP (M := T + 1) (T := T) (by omega) (by omega)
  have e := run_edf hP hp (M := T + 1) (T := T) (by omega) (by omega)
  have := fits_edf (T := T) hP.s1 hP.sg (ys_ok hP (T + 1)) (by rw [ys_tk]; exact hf) r e (j := i * (T + 1) + k) (by show _ < (P.J (T + 1)).n; rw [J_n]; exact h2) (by show (P.J (T + 1)).due _ ≤ T; rw [h3]; omega)
  have e2 : P.LL (T + 1) ((P.J (T + 1)).due (i * (T + 1) + k)) (i * (T + 1) + k) = 0 := this
  rw [h3, h4] at e2
  exact e2
/-- DERTOUZOS: what another order keeps is kept -/
theorem best_late {P P' : Pl} (hP : P.Ok) (hp : P.pol = 1) (h' : P' = { P with pol := P'.pol }) {T : Nat} (hd : ∀ i k, i < P.l.length → P.du i k ≤ T → P'.Lf (P.du i k).toNat i k = 0) {i k : Nat} (hi : i < P.l.length) (hdu : P.du i k ≤ T) : P.Lf (P.du i k).toNat i k = 0 := by
  have hP' : P'.Ok := by rw [h']; exact ⟨hP.tk, hP.len, hP.f0, hP.s1, hP.sg⟩
  have eJ : P'.J (T + 1) = P.J (T + 1) := by rw [h']; rfl
  have es : inS P'.size P'.sl = inS P.size P.sl := by rw [h']
  have r := run hP (M := T + 1) (T := T) (by omega) (by omega)
  have e := run_edf hP hp (M := T + 1) (T := T) (by omega) (by omega)
  have r' := run hP' (M := T + 1) (T := T) (by omega) (by omega)
  rw [eJ, es] at r'
  obtain ⟨h1, h2, h3, h4⟩ := due_lt hP hi hdu
  have := r.best e r' (long_pos (ys_ok hP (T + 1))) (fun idx hn hdi => by
    rw [J_n] at hn
    obtain ⟨s1, s2, s3⟩ := split (by omega) hn
    have d2 := (J_at hP s1 s2).2.1
    rw [← s3] at d2
    have := hd _ _ s1 (by rw [← d2]; omega)
    show P'.Lf _ _ _ = 0
    rw [show (P.J (T + 1)).due idx = (P.du (idx / (T + 1)) (idx % (T + 1))).toNat by omega]
    exact this) (j := i * (T + 1) + k) (by rw [J_n]; exact h2) (by rw [h3]; omega)
  rw [h3, h4] at this
  exact this
/-- where there is too little from some time on, some job is late, if all come then -/
theorem misses_late {P : Pl} (hP : P.Ok) {at' by' : Nat} (ha : ∀ x ∈ P.f, x = (at' : Int)) (hb : D P.size P.sl by' at' < dem P.l by') : ∃ i k, i < P.l.length ∧ P.cm i k < ((at' + by' : Nat) : Int) ∧ P.du i k ≤ ((at' + by' : Nat) : Int) ∧ 0 < P.Lf (P.du i k).toNat i k := by
  have r := run hP (M := at' + by' + 1) (T := at' + by') (by omega) (by omega)
  have hcast : ((at' + by' : Nat) : Int) - (at' : Nat) = (by' : Int) := by omega
  have e1 : lsum (inJ at' (at' + by')) (allJobs (P.ys (at' + by' + 1))) = dem P.l by' := by
    have := all_exact (ys := P.ys (at' + by' + 1)) (at' := at') (d := at' + by') (by omega) (fun y hy => by
      simp only [ys, List.mem_map, List.mem_range] at hy
      obtain ⟨i, hi, rfl⟩ := hy
      have ok := hP.at hi
      refine ⟨ok, ?_, ?_⟩
      · simp only
        rw [ha (P.f.getD i 0) (by have := hP.len; simp [List.getD, show i < P.f.length by omega])]; omega
      · simp only
        rw [hcast]
        have a := jobs_most ok (show (0 : Int) ≤ by' by omega)
        have b := Int.ediv_le_self (a := (by' : Int)) (P.tk i).2.1 (by omega)
        omega)
    rw [ys_tk, hcast] at this
    exact this
  have e2 := sum_list (allJobs (P.ys (at' + by' + 1))) at' (at' + by')
  have e3 := av_D hP.s1 hP.sg (show at' ≤ at' + by' by omega)
  rw [hcast] at e3
  obtain ⟨idx, h1, h2, h3, h4⟩ := r.misses (s := at') (d := at' + by') (by omega) (Nat.le_refl _) (by
    show _ < sumP (within (ofList _) _ _) (ofList _).long (ofList _).n
    rw [e2, e1, e3]; exact hb)
  rw [J_n] at h1
  obtain ⟨s1, s2, s3⟩ := split (by omega) h1
  have d1 := (J_at hP s1 s2).1
  have d2 := (J_at hP s1 s2).2.1
  rw [← s3] at d1 d2
  have dd := hP.due s1 (idx % (at' + by' + 1))
  refine ⟨idx / (at' + by' + 1), idx % (at' + by' + 1), s1, by omega, by omega, ?_⟩
  rw [show (P.du (idx / (at' + by' + 1)) (idx % (at' + by' + 1))).toNat = (P.J (at' + by' + 1)).due idx by omega]
  exact h4
/-- where the least is -/
theorem least_at {size n : Int} {sl : List Sp} (hs : 1 ≤ size) (hg : good size (-1) sl = true) (hn : 0 ≤ n) : lst size sl n = D size sl n 0 ∨ ∃ x ∈ sl, lst size sl n = D size sl n x.2 := by
  unfold lst
  exact (lmin_le (fun x => D size sl n x.2) (D size sl n 0) sl).2.2
/-- how many jobs of a task come below T -/
def cnt (P : Pl) (i : Nat) (T : Int) : Nat := ((T - P.f.getD i 0 + (P.tk i).2.1 - 1) / (P.tk i).2.1).toNat
theorem cnt_iff {P : Pl} (hP : P.Ok) {i : Nat} (hi : i < P.l.length) (T : Int) (k : Nat) : k < P.cnt i T ↔ P.cm i k < T := by
  have e1 := (hP.at hi).1
  unfold cnt cm
  constructor
  · intro h
    have h' : (k : Int) + 1 ≤ (T - P.f.getD i 0 + (P.tk i).2.1 - 1) / (P.tk i).2.1 := by omega
    have := (Int.le_ediv_iff_mul_le (by omega)).1 h'
    rw [Int.add_mul] at this
    omega
  · intro h
    have h' : (k : Int) + 1 ≤ (T - P.f.getD i 0 + (P.tk i).2.1 - 1) / (P.tk i).2.1 := (Int.le_ediv_iff_mul_le (by omega)).2 (by rw [Int.add_mul]; omega)
    omega
/-- jobs that come below T, task by task -/
def jobsL (P : Pl) (T : Int) : List (Nat × Nat) := (List.range P.l.length).flatMap fun i => (List.range (P.cnt i T)).map fun k => (i, k)
theorem mem_jobsL {P : Pl} (hP : P.Ok) {T : Int} {i k : Nat} : (i, k) ∈ P.jobsL T ↔ i < P.l.length ∧ P.cm i k < T := by
  simp only [jobsL, List.mem_flatMap, List.mem_range, List.mem_map, Prod.mk.injEq]
  constructor
  · rintro ⟨j, hj, m, hm, rfl, rfl⟩
    exact ⟨hj, (cnt_iff hP hj T _).1 hm⟩
  · rintro ⟨h1, h2⟩
    exact ⟨i, h1, k, (cnt_iff hP h1 T k).2 h2, rfl, rfl⟩
/-- is told in time -/
def told (P : Pl) (done : List Dn) (i k : Nat) : Bool := done.any fun d => decide (d.1 = (i : Int) ∧ d.2.1 = (k : Int) ∧ d.2.2.2 ≤ P.du i k)
def lates (P : Pl) (done : List Dn) (T : Int) : List (Nat × Nat) := (P.jobsL T).filter fun b => decide (P.du b.1 b.2 ≤ T) && !P.told done b.1 b.2
theorem told_iff {P : Pl} {done : List Dn} {i k : Nat} : P.told done i k = true ↔ ∃ d ∈ done, d.1 = (i : Int) ∧ d.2.1 = (k : Int) ∧ d.2.2.2 ≤ P.du i k := by
  simp [told, List.any_eq_true]
theorem mem_lates {P : Pl} (hP : P.Ok) {T : Nat} {i k : Nat} : (i, k) ∈ P.lates (P.outs T) T ↔ i < P.l.length ∧ P.cm i k < T ∧ P.du i k ≤ T ∧ P.Lf (P.du i k).toNat i k ≠ 0 := by
  simp only [lates, List.mem_filter, mem_jobsL hP, Bool.and_eq_true, decide_eq_true_eq, Bool.not_eq_true']
  constructor
  · rintro ⟨⟨h1, h2⟩, h3, h4⟩
    refine ⟨h1, h2, h3, fun c => ?_⟩
    have := told_iff.2 ((intime_iff hP h1 h3).2 c)
    rw [h4] at this; simp at this
  · rintro ⟨h1, h2, h3, h4⟩
    refine ⟨⟨h1, h2⟩, h3, ?_⟩
    cases c : P.told (P.outs T) i k with
    | false => rfl
    | true => exact absurd ((intime_iff hP h1 h3).1 (told_iff.1 c)) h4
theorem no_lates {P : Pl} (hP : P.Ok) {T : Nat} : P.lates (P.outs T) T = [] ↔ ∀ i k, i < P.l.length → P.du i k ≤ T → P.Lf (P.du i k).toNat i k = 0 := by
  constructor
  · intro h i k hi hd
    apply Classical.byContradiction
    intro c
    have := (mem_lates hP).2 ⟨hi, by have := hP.due hi k; omega, hd, c⟩
    rw [h] at this; simp at this
  · intro h
    rw [List.eq_nil_iff_forall_not_mem]
    rintro ⟨i, k⟩ hm
    obtain ⟨h1, _, h3, h4⟩ := (mem_lates hP).1 hm
    exact h4 (h i k h1 h3)
end Pl
end PlayM
end Go.Proofs.Ytnbfadfhpegddaa
