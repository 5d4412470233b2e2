/- Plain mathematics of replies, ahead of stage 7: the least that is enough; plays by the order of tasks keep it. -/
import Derived.Test.YtnbfadfhpegddaaPlayM7
set_option linter.unusedVariables false
namespace Go.Proofs.Ytnbfadfhpegddaa
open SpanM SupM TaskM RankM
namespace PlayM
/-- the least that is enough; 0: none is -/
def RepN (S : Int → Int) (p : List Tk) (x : Tk) (n : Int) : Prop := (Enough S p x n ∧ ∀ m, m < n → ¬ Enough S p x m) ∨ (n = 0 ∧ ∀ m, ¬ Enough S p x m)
theorem RepN.one {S : Int → Int} {p : List Tk} {x : Tk} {n m : Int} (h : RepN S p x n) (k : RepN S p x m) : n = m := by
  rcases h with ⟨h1, h2⟩ | ⟨h1, h2⟩ <;> rcases k with ⟨k1, k2⟩ | ⟨k1, k2⟩
  · by_cases c : n < m
    · exact absurd h1 (k2 n c)
    · by_cases d : m < n
      · exact absurd k1 (h2 m d)
      · omega
  · exact absurd h1 (k2 n)
  · exact absurd k1 (h2 m)
  · omega
noncomputable def rep (S : Int → Int) (p : List Tk) (x : Tk) : Int := Classical.epsilon (RepN S p x)
theorem rep_spec (S : Int → Int) (p : List Tk) (x : Tk) : RepN S p x (rep S p x) := by
  refine Classical.epsilon_spec (p := RepN S p x) ?_
  by_cases c : ∃ n, Enough S p x n
  · obtain ⟨n, hn⟩ := c
    obtain ⟨m, m1, m2⟩ := Pl.min_of (fun m : Nat => Enough S p x m) (fun m => m) ⟨n.toNat, by have := hn.1; rw [show ((n.toNat : Nat) : Int) = n by omega]; exact hn⟩
    refine ⟨m, .inl ⟨m1, fun k hk he => ?_⟩⟩
    have k1 := he.1
    have := m2 k.toNat (by rw [show ((k.toNat : Nat) : Int) = k by omega]; exact he)
    omega
  · exact ⟨0, .inr ⟨rfl, fun m hm => c ⟨m, hm⟩⟩⟩
theorem rep_eq {S : Int → Int} {p : List Tk} {x : Tk} {n : Int} (h : RepN S p x n) : n = rep S p x := h.one (rep_spec S p x)
theorem rep_pos {S : Int → Int} {p : List Tk} {x : Tk} (h : rep S p x ≠ 0) : Enough S p x (rep S p x) ∧ 1 ≤ rep S p x ∧ rep S p x ≤ x.2.2 ∧ ∀ m, m < rep S p x → ¬ Enough S p x m := by
  rcases rep_spec S p x with ⟨h1, h2⟩ | ⟨h1, _⟩
  · exact ⟨h1, h1.1, h1.2.1, h2⟩
  · exact absurd h1 h
theorem rep_none {S : Int → Int} {p : List Tk} {x : Tk} (h : rep S p x = 0) : ∀ m, ¬ Enough S p x m := by
  rcases rep_spec S p x with ⟨h1, _⟩ | ⟨_, h2⟩
  · have := h1.1; omega
  · exact h2
theorem rep_bd (S : Int → Int) (p : List Tk) {x : Tk} (hx : tok x) : 0 ≤ rep S p x ∧ rep S p x ≤ x.2.2 := by
  by_cases c : rep S p x = 0
  · have := hx.2.2.1; omega
  · obtain ⟨_, h1, h2, _⟩ := rep_pos c; omega
theorem rep_iff {S : Int → Int} {p : List Tk} {x : Tk} : rep S p x ≠ 0 ↔ Rep S p x := by
  constructor
  · intro h; exact ⟨_, (rep_pos h).1⟩
  · rintro ⟨n, hn⟩ c
    exact rep_none c n hn
/-- with no more needed it takes no longer -/
theorem rep_le {S : Int → Int} {p q : List Tk} {x : Tk} (h : ∀ n, 1 ≤ n → need q x n ≤ need p x n) (hr : rep S p x ≠ 0) : rep S q x ≠ 0 ∧ rep S q x ≤ rep S p x := by
  obtain ⟨⟨e1, e2, e3⟩, _⟩ := rep_pos hr
  have he : Enough S q x (rep S p x) := ⟨e1, e2, by have := h _ e1; omega⟩
  have hq : rep S q x ≠ 0 := fun c => rep_none c _ he
  refine ⟨hq, ?_⟩
  by_cases c : rep S p x < rep S q x
  · exact absurd he ((rep_pos hq).2.2.2 _ c)
  · omega
theorem up_iff {n e : Int} (he : 1 ≤ e) (k : Int) : k < up n e ↔ k * e < n := by
  unfold up
  have := Int.ediv_lt_iff_lt_mul (a := -n) (b := -k) (c := e) (by omega)
  rw [Int.neg_mul] at this
  omega
/-- where they come from 0 on just so many come -/
theorem per_come {x : Tk} (h : tok x) (n M : Nat) (hM : up n x.2.1 ≤ M) : lsum (inC 0 n) (perTask x 0 M) = x.1 * up n x.2.1 := by
  have e1 := h.1
  have up0 : 0 ≤ up (n : Int) x.2.1 := by
    have := (up_iff e1 (n := (n : Int)) (-1)).2 (by rw [show (-1 : Int) * x.2.1 = -x.2.1 by omega]; omega)
    omega
  have key : ∀ M : Nat, lsum (inC 0 n) (perTask x 0 M) = x.1 * min (up n x.2.1) M := by
    intro M
    induction M with
    | zero => rw [show min (up (n : Int) x.2.1) ((0 : Nat) : Int) = 0 by omega]; simp [perTask, lsum]
    | succ M ih =>
      have et : ((x.2.1.toNat : Nat) : Int) = x.2.1 := by omega
      have em : ((M * x.2.1.toNat : Nat) : Int) = (M : Int) * x.2.1 := by rw [Int.natCast_mul, et]
      simp only [perTask]
      rw [lsum_snoc, ih]
      have hi := up_iff e1 (n := (n : Int)) (M : Int)
      by_cases c : (M : Int) < up n x.2.1
      · have hle := hi.1 c
        have hp : inC 0 n (0 + M * x.2.1.toNat, 0 + M * x.2.1.toNat + x.2.2.toNat, x.1) = true := by
          simp [inC]; omega
        rw [if_pos hp, show min (up (n : Int) x.2.1) (M : Int) = M by omega, show min (up (n : Int) x.2.1) ((M + 1 : Nat) : Int) = (M : Int) + 1 by omega, Int.mul_add]
        simp
      · have hnle : ¬ (M : Int) * x.2.1 < n := fun hh => c (hi.2 hh)
        have hp : ¬ inC 0 n (0 + M * x.2.1.toNat, 0 + M * x.2.1.toNat + x.2.2.toNat, x.1) = true := by
          simp [inC]; omega
        rw [if_neg hp, show min (up (n : Int) x.2.1) (M : Int) = up n x.2.1 by omega, show min (up (n : Int) x.2.1) ((M + 1 : Nat) : Int) = up n x.2.1 by omega]
        simp
  rw [key M, show min (up (n : Int) x.2.1) (M : Int) = up n x.2.1 by omega]
theorem csum_come {ys : List (Tk × Nat × Nat)} {p n k : Nat} (h : ∀ y ∈ ys, tok y.1 ∧ y.2.1 = 0 ∧ up n y.1.2.1 ≤ y.2.2) (hk : k ≤ p + 1) : csum p 0 n (tagAll k ys) = ahead ((ys.map (·.1)).take (p + 1 - k)) n := by
  induction ys generalizing k with
  | nil => simp [tagAll, csum, ahead]
  | cons y r ih =>
    by_cases c : k ≤ p
    · obtain ⟨h1, h2, h3⟩ := h y (by simp)
      have a := ih (fun z hz => h z (by simp [hz])) (k := k + 1) (by omega)
      have b := per_come h1 n y.2.2 h3
      simp only [tagAll]
      rw [csum_append, csum_tag c, show p + 1 - k = (p + 1 - (k + 1)) + 1 by omega, h2]
      simp only [List.map_cons, List.take_succ_cons, ahead]
      rw [Int.mul_comm (up n y.1.2.1), b, a]
    · rw [csum_none (by omega), show p + 1 - k = 0 by omega]
      simp [ahead]
theorem tag_get (M : Nat) : ∀ (ys : List (Tk × Nat × Nat)), (∀ y ∈ ys, y.2.2 = M) → ∀ (c i k : Nat), i < ys.length → k < M → ((tagAll c ys).getD (i * M + k) (0, (0, 0, 0))).1 = c + i := by
  intro ys
  induction ys with
  | nil => intro _ c i k hi; simp at hi
  | cons y r ih =>
    intro h c i k hi hk
    have hy := h y (by simp)
    have hl : ((perTask y.1 y.2.1 y.2.2).map fun x => (c, x)).length = M := by rw [List.length_map, per_len, hy]
    simp only [tagAll]
    cases i with
    | zero =>
      rw [List.getD, List.getElem?_append_left (by rw [hl]; omega), List.getElem?_map]
      have hk' : k < (perTask y.1 y.2.1 y.2.2).length := by rw [per_len, hy]; exact hk
      simp [List.getElem?_eq_getElem hk']
    | succ i =>
      rw [List.getD, List.getElem?_append_right (by rw [hl, Nat.add_mul]; omega), hl, show (i + 1) * M + k - M = i * M + k by rw [Nat.add_mul]; omega]
      have := ih (fun z hz => h z (by simp [hz])) (c + 1) i k (by simpa using hi) hk
      rw [List.getD] at this
      rw [this]; omega
namespace Pl
theorem task_at (P : Pl) {M i k : Nat} (hi : i < P.l.length) (hk : k < M) : task (P.ys M) (i * M + k) = i := by
  have := tag_get M (P.ys M) (P.ys_M M) 0 i k (by simp [ys, hi]) hk
  unfold task
  rw [this]; omega
theorem task_idx (P : Pl) {M idx : Nat} (hM : 0 < M) (h : idx < P.l.length * M) : task (P.ys M) idx = idx / M := by
  obtain ⟨s1, s2, s3⟩ := split hM h
  have := P.task_at s1 s2
  rw [← s3] at this
  exact this
theorem run_fix' {P : Pl} (hP : P.Ok) (hp : P.pol ≠ 1) {M T : Nat} (hM : 0 < M) (hT : T ≤ M) : Fix (P.J M) (inS P.size P.sl) T (P.LL M) (P.cc M) (task (P.ys M)) := by
  intro t b ht ha hc idx hpe
  have h1 := run_fix hP hp hM hT t b ht ha hc idx hpe
  have hb := ((run hP hM hT).work t b ht ha hc).1.1
  rw [J_n] at hb
  have hi := hpe.1
  rw [J_n] at hi
  rw [P.task_idx hM hb, P.task_idx hM hi]
  exact h1
/-- LEHOCZKY, SHA, DING: each job is done within a reply -/
theorem reply_late {P : Pl} (hP : P.Ok) (hp : P.pol ≠ 1) {i n : Nat} (hi : i < P.l.length) (he : Enough (lst P.size P.sl) (P.l.take i) (P.tk i) n) {k T : Nat} (hT : P.cm i k + n ≤ T) : P.Lf (P.cm i k + n).toNat i k = 0 := by
  have c0 := hP.come hi k
  have hk : k < T + 1 := by omega
  have r := run hP (M := T + 1) (T := T) (by omega) (by omega)
  have f := run_fix' hP hp (M := T + 1) (T := T) (by omega) (by omega)
  have j1 := (J_at hP hi hk).1
  have c : (i + 1) * (T + 1) ≤ P.l.length * (T + 1) := Nat.mul_le_mul_right _ hi
  rw [Nat.add_mul] at c
  have := reply_holds (T := T) hP.s1 hP.sg (ys_ok hP (T + 1)) r f (p := i) (n := n) (x := P.tk i) (by rw [ys_tk]; unfold tk; simp [List.getD, hi]) (by rw [ys_tk]; exact he) (j := i * (T + 1) + k) (by show _ < (P.J (T + 1)).n; rw [J_n]; omega) (P.task_at hi hk) (by show (P.J (T + 1)).came _ + n ≤ T; omega)
  have e2 : P.LL (T + 1) ((P.J (T + 1)).came (i * (T + 1) + k) + n) (i * (T + 1) + k) = 0 := this
  unfold LL at e2
  rw [(join (i := i) hk).1, (join (i := i) hk).2, show (P.J (T + 1)).came (i * (T + 1) + k) + n = (P.cm i k + n).toNat by omega] at e2
  exact e2
theorem reply_done {P : Pl} (hP : P.Ok) (hp : P.pol ≠ 1) {i n : Nat} (hi : i < P.l.length) (he : Enough (lst P.size P.sl) (P.l.take i) (P.tk i) n) {T : Nat} {x : Dn} (hx : x ∈ P.outs T) (h1 : x.1 = (i : Int)) : x.2.2.2 - x.2.2.1 ≤ n := by
  obtain ⟨t, j, k, a1, a2, a3, a4, rfl⟩ := (mem_outs hP T x).1 hx
  simp only at h1 ⊢
  obtain rfl : j = i := by omega
  by_cases c : (t : Int) + 1 - P.cm j k ≤ n
  · exact c
  · exfalso
    have c0 := hP.come hi k
    have z := reply_late hP hp hi he (k := k) (T := T) (by omega)
    have an := Lf_anti hP (s := (P.cm j k + n).toNat) (t := t) (by omega) j k
    omega
theorem reply_nolate {P : Pl} (hP : P.Ok) (hp : P.pol ≠ 1) {i n : Nat} (hi : i < P.l.length) (he : Enough (lst P.size P.sl) (P.l.take i) (P.tk i) n) {T k : Nat} (hd : P.du i k ≤ T) : P.Lf (P.du i k).toNat i k = 0 := by
  have n2 := he.2.1
  have c0 := hP.come hi k
  have hd2 : P.du i k = P.cm i k + (P.tk i).2.2 := rfl
  have z := reply_late hP hp hi he (k := k) (T := T) (by omega)
  have an := Lf_anti hP (s := (P.cm i k + n).toNat) (t := (P.du i k).toNat) (by omega) i k
  have nn := Lf_nonneg hP (P.du i k).toNat hi k
  omega
/-- JOSEPH, PANDYA: with all times, and all coming at once, it takes no less than a reply -/
theorem exact_need {P : Pl} (hP : P.Ok) (hp : P.pol ≠ 1) (hf : ∀ x ∈ P.f, x = 0) (hs : P.size = 1) (hsl : P.sl = [(0, 1)]) {i t : Nat} (hi : i < P.l.length) (hd : (t : Int) + 1 ≤ (P.tk i).2.2) (hb : P.Best (P.Lf t) t i 0) (h1 : P.Lf t i 0 = 1) (ho : P.on t = true) :
    need (P.l.take i) (P.tk i) ((t : Int) + 1) ≤ (t : Int) + 1 := by
  have r := run hP (M := t + 2) (T := t + 1) (by omega) (by omega)
  have ok := hP.at hi
  have f0 : ∀ j, P.f.getD j 0 = 0 := by
    intro j
    by_cases hj : j < P.f.length
    · exact hf _ (by simp [List.getD, hj])
    · simp [List.getD, List.getElem?_eq_none (show P.f.length ≤ j by omega)]
  have z : P.Lf (t + 1) i 0 = 0 := (zero_iff hP (t + 1) hi 0).2 ⟨t, by omega, ho, hb, h1⟩
  have m := r.most (comes (P.J (t + 2)) (task (P.ys (t + 2))) i 0 (t + 1)) (s := 0) (t := t + 1) (by omega) (by omega)
  have e1 : sumP (comes (P.J (t + 2)) (task (P.ys (t + 2))) i 0 (t + 1)) (P.LL (t + 2) 0) (P.J (t + 2)).n = ahead (P.l.take (i + 1)) ((t : Int) + 1) := by
    rw [sumP_eq (g := (P.J (t + 2)).long) fun idx h _ => r.start idx h]
    have := sum_tag (P.ys (t + 2)) i 0 (t + 1)
    have g : sumP (comes (P.J (t + 2)) (task (P.ys (t + 2))) i 0 (t + 1)) (P.J (t + 2)).long (P.J (t + 2)).n = csum i 0 (t + 1) (tagAll 0 (P.ys (t + 2))) := this
    rw [g, csum_come (fun y hy => ?_) (by omega), ys_tk, Nat.sub_zero]
    · rw [show ((t + 1 : Nat) : Int) = (t : Int) + 1 by omega]
    · simp only [ys, List.mem_map, List.mem_range] at hy
      obtain ⟨j, hj, rfl⟩ := hy
      have okj := hP.at hj
      refine ⟨okj, by simp only [f0]; rfl, ?_⟩
      simp only
      have : ¬ ((t + 2 : Nat) : Int) < up ((t + 1 : Nat) : Int) (P.tk j).2.1 := by
        rw [up_iff okj.1]
        have c : ((t + 2 : Nat) : Int) * 1 ≤ ((t + 2 : Nat) : Int) * (P.tk j).2.1 := Int.mul_le_mul_of_nonneg_left okj.1 (by omega)
        omega
      omega
  have e2 : sumP (comes (P.J (t + 2)) (task (P.ys (t + 2))) i 0 (t + 1)) (P.LL (t + 2) (t + 1)) (P.J (t + 2)).n ≤ 0 := by
    have : sumP (comes (P.J (t + 2)) (task (P.ys (t + 2))) i 0 (t + 1)) (P.LL (t + 2) (t + 1)) (P.J (t + 2)).n ≤ sumP (comes (P.J (t + 2)) (task (P.ys (t + 2))) i 0 (t + 1)) (fun _ => 0) (P.J (t + 2)).n := sumP_le fun idx hn hc => by
      rw [J_n] at hn
      obtain ⟨s1, s2, s3⟩ := split (by omega) hn
      obtain ⟨c1, _, c3⟩ := comes_iff.1 hc
      rw [P.task_idx (by omega) hn] at c1
      have j1 := (J_at hP s1 s2).1
      rw [← s3] at j1
      show P.Lf (t + 1) _ _ ≤ 0
      by_cases q : idx / (t + 2) < i
      · have np : ¬ P.Pn (P.Lf t) t (idx / (t + 2)) (idx % (t + 2)) := fun hpn => by
          have bf := hb.2 _ _ hpn
          unfold Bef ky at bf
          rw [if_neg hp, if_neg hp] at bf
          omega
        have : ¬ 0 < P.Lf t (idx / (t + 2)) (idx % (t + 2)) := fun hh => np ⟨s1, by omega, hh⟩
        have dn := Lf_down hP t (idx / (t + 2)) (idx % (t + 2))
        omega
      · have q1 : idx / (t + 2) = i := by omega
        have q2 : idx % (t + 2) = 0 := by
          apply Classical.byContradiction
          intro hne
          have la := hP.come hi (idx % (t + 2))
          rw [q1] at j1
          have k1 : 1 ≤ idx % (t + 2) := by omega
          have mm : (1 : Int) * (P.tk i).2.1 ≤ ((idx % (t + 2) : Nat) : Int) * (P.tk i).2.1 := Int.mul_le_mul_of_nonneg_right (by omega) (by have := ok.1; omega)
          have cm' : P.cm i (idx % (t + 2)) = P.f.getD i 0 + ((idx % (t + 2) : Nat) : Int) * (P.tk i).2.1 := rfl
          rw [f0] at cm'
          have := ok.2.2.2.1
          omega
        rw [q1, q2, z]; exact Int.le_refl _
    have zero : ∀ n, sumP (comes (P.J (t + 2)) (task (P.ys (t + 2))) i 0 (t + 1)) (fun _ => 0) n = 0 := by
      intro n
      induction n with
      | zero => rfl
      | succ n ih => simp only [sumP, ih]; split <;> rfl
    rw [zero] at this
    exact this
  have e3 : av (inS P.size P.sl) (t + 1) - av (inS P.size P.sl) 0 = (t : Int) + 1 := by
    have := av_D hP.s1 hP.sg (show 0 ≤ t + 1 by omega)
    rw [this, hs, hsl]
    have a := all_D (size := 1) (n := ((t + 1 : Nat) : Int) - ((0 : Nat) : Int)) (t := ((0 : Nat) : Int)) (by omega) (by omega) (by omega)
    rw [a]; omega
  rw [e1, e3] at m
  have ts : P.l.take (i + 1) = P.l.take i ++ [P.tk i] := by
    rw [List.take_succ_eq_append_getElem hi]; unfold tk; simp [List.getD, hi]
  rw [ts, ahead_append] at m
  simp only [ahead] at m
  rw [up_one (by omega) (by have := ok.2.2.2.1; omega)] at m
  unfold need
  omega
/-- .. so that it is done just then -/
theorem exact_done {P : Pl} (hP : P.Ok) (hp : P.pol ≠ 1) (hf : ∀ x ∈ P.f, x = 0) (hs : P.size = 1) (hsl : P.sl = [(0, 1)]) {i T : Nat} (hi : i < P.l.length) (hT : (T : Int) = (P.tk i).2.2) {x : Dn} (hx : x ∈ P.outs T) (h1 : x.1 = (i : Int)) (h2 : x.2.1 = 0) : x.2.2.2 = rep (lst P.size P.sl) (P.l.take i) (P.tk i) := by
  obtain ⟨t, j, k, a1, a2, a3, a4, rfl⟩ := (mem_outs hP T x).1 hx
  simp only at h1 h2 ⊢
  obtain rfl : j = i := by omega
  obtain rfl : k = 0 := by omega
  have f0 : P.f.getD j 0 = 0 := hf _ (by have := hP.len; simp [List.getD, show j < P.f.length by omega])
  have cm0 : P.cm j 0 = 0 := by unfold cm; rw [f0]; simp
  have n1 := exact_need hP hp hf hs hsl hi (by omega) a3 a4 a2
  have l1 : lst P.size P.sl ((t : Int) + 1) = (t : Int) + 1 := by rw [hs, hsl]; exact all_lst (by omega) (by omega)
  have en : Enough (lst P.size P.sl) (P.l.take j) (P.tk j) ((t : Int) + 1) := ⟨by omega, by omega, by rw [l1]; exact n1⟩
  have hr : rep (lst P.size P.sl) (P.l.take j) (P.tk j) ≠ 0 := fun c => rep_none c _ en
  obtain ⟨r1, r2, r3, r4⟩ := rep_pos hr
  have le : rep (lst P.size P.sl) (P.l.take j) (P.tk j) ≤ (t : Int) + 1 := by
    by_cases c : (t : Int) + 1 < rep (lst P.size P.sl) (P.l.take j) (P.tk j)
    · exact absurd en (r4 _ c)
    · omega
  have ge := reply_done hP hp hi (n := (rep (lst P.size P.sl) (P.l.take j) (P.tk j)).toNat) (by rw [show (((rep (lst P.size P.sl) (P.l.take j) (P.tk j)).toNat : Nat) : Int) = rep (lst P.size P.sl) (P.l.take j) (P.tk j) by omega]; exact r1) hx rfl
  simp only at ge
  rw [cm0] at ge
  omega
theorem exact_some {P : Pl} (hP : P.Ok) (hp : P.pol ≠ 1) (hf : ∀ x ∈ P.f, x = 0) {i T : Nat} (hi : i < P.l.length) (hT : (T : Int) = (P.tk i).2.2) (hr : rep (lst P.size P.sl) (P.l.take i) (P.tk i) ≠ 0) : ∃ x ∈ P.outs T, x.1 = (i : Int) ∧ x.2.1 = 0 := by
  obtain ⟨r1, r2, r3, r4⟩ := rep_pos hr
  have f0 : P.f.getD i 0 = 0 := hf _ (by have := hP.len; simp [List.getD, show i < P.f.length by omega])
  have cm0 : P.cm i 0 = 0 := by unfold cm; rw [f0]; simp
  have z := reply_late hP hp hi (n := (rep (lst P.size P.sl) (P.l.take i) (P.tk i)).toNat) (by rw [show (((rep (lst P.size P.sl) (P.l.take i) (P.tk i)).toNat : Nat) : Int) = rep (lst P.size P.sl) (P.l.take i) (P.tk i) by omega]; exact r1) (k := 0) (T := T) (by rw [cm0]; omega)
  obtain ⟨t, t1, t2, t3, t4⟩ := (zero_iff hP _ hi 0).1 z
  rw [cm0] at t1
  exact ⟨_, (mem_outs hP T _).2 ⟨t, i, 0, by omega, t2, t3, t4, rfl⟩, rfl, rfl⟩
/-- where each has a reply none is late, by the order of tasks and by what is due first -/
theorem all_reply {P : Pl} (hP : P.Ok) (h : ∀ i, i < P.l.length → rep (lst P.size P.sl) (P.l.take i) (P.tk i) ≠ 0) (T : Nat) : P.lates (P.outs T) T = [] := by
  have key : ∀ Q : Pl, Q.Ok → Q.pol ≠ 1 → (∀ i, i < Q.l.length → rep (lst Q.size Q.sl) (Q.l.take i) (Q.tk i) ≠ 0) → ∀ i k, i < Q.l.length → Q.du i k ≤ T → Q.Lf (Q.du i k).toNat i k = 0 := by
    intro Q hQ hq hh i k hi hd
    obtain ⟨r1, r2, r3, _⟩ := rep_pos (hh i hi)
    exact reply_nolate hQ hq hi (n := (rep (lst Q.size Q.sl) (Q.l.take i) (Q.tk i)).toNat) (by rw [show (((rep (lst Q.size Q.sl) (Q.l.take i) (Q.tk i)).toNat : Nat) : Int) = rep (lst Q.size Q.sl) (Q.l.take i) (Q.tk i) by omega]; exact r1) hd
  by_cases c : P.pol = 1
  · refine (no_lates hP).2 fun i k hi hd => ?_
    have hQ : ({ P with pol := 2 } : Pl).Ok := ⟨hP.tk, hP.len, hP.f0, hP.s1, hP.sg⟩
    exact best_late (P' := { P with pol := 2 }) hP c rfl (fun i k hi hd => key { P with pol := 2 } hQ (by simp) h i k hi hd) hi hd
  · exact (no_lates hP).2 (key P hP c h)
end Pl
end PlayM
end Go.Proofs.Ytnbfadfhpegddaa
