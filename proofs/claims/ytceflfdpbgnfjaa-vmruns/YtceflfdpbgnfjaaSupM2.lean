/- Plain mathematics of how long it takes, and of sums ahead of spans. -/
import Derived.Test.YtceflfdpbgnfjaaSupM
set_option linter.unusedVariables false
namespace Go.Proofs.Ytceflfdpbgnfjaa
open SpanM
namespace SupM
def lens : List Sp → Int
  | [] => 0
  | x :: r => (x.2 - x.1) + lens r
theorem lens_append (l r : List Sp) : lens (l ++ r) = lens l + lens r := by
  induction l with
  | nil => simp [lens]
  | cons y s ih => simp only [List.cons_append, lens, ih]; omega
/-- how many are ahead of the k-th -/
def ah (l : List Sp) (k : Nat) : Int := lens (l.take k)
theorem ah_zero (l : List Sp) : ah l 0 = 0 := by simp [ah, lens]
theorem ah_succ (l : List Sp) (k : Nat) (h : k < l.length) : ah l (k + 1) = ah l k + ((l.getD k (0, 0)).2 - (l.getD k (0, 0)).1) := by
  unfold ah
  rw [take_snoc l k h, lens_append]; simp [lens]
theorem cnt_append (l r : List Sp) (n : Int) : cnt (l ++ r) n = cnt l n + cnt r n := by
  induction l with
  | nil => simp [cnt]
  | cons y s ih => simp only [List.cons_append, cnt, ih]; omega
theorem cnt_full (l : List Sp) (n : Int) (h : ∀ y ∈ l, y.1 ≤ y.2 ∧ y.2 ≤ n) : cnt l n = lens l := by
  induction l with
  | nil => rfl
  | cons y s ih =>
    have h1 := h y (by simp)
    simp only [cnt, lens]
    rw [ih fun z hz => h z (by simp [hz])]; omega
theorem cnt_none (l : List Sp) (n : Int) (h : ∀ y ∈ l, n ≤ y.1) : cnt l n = 0 := by
  induction l with
  | nil => rfl
  | cons y s ih =>
    have h1 := h y (by simp)
    simp only [cnt]
    rw [ih fun z hz => h z (by simp [hz])]; omega
theorem good_last {size : Int} : ∀ {e : Int} {l : List Sp}, good size e l = true → ∀ y ∈ l, y.2 ≤ lastEnd e l := by
  intro e l
  induction l generalizing e with
  | nil => intro _ y hy; simp at hy
  | cons x r ih =>
    intro h y hy
    obtain ⟨h1, h2, h3, h4⟩ := good_cons.1 h
    simp only [lastEnd]
    rcases List.mem_cons.1 hy with rfl | hy
    · exact lastEnd_le h4
    · exact ih h4 y hy
/-- the k-th: those ahead are over, those behind have not begun -/
theorem good_at {size : Int} {l : List Sp} (hg : good size (-1) l = true) {k : Nat} (hk : k < l.length) :
    (∀ y ∈ l.take k, y.1 ≤ y.2 ∧ y.2 < (l.getD k (0, 0)).1) ∧ (∀ y ∈ l.drop (k + 1), (l.getD k (0, 0)).2 < y.1) ∧ 0 ≤ (l.getD k (0, 0)).1 ∧ (l.getD k (0, 0)).1 < (l.getD k (0, 0)).2 ∧ (l.getD k (0, 0)).2 ≤ size := by
  have h := hg
  rw [← List.take_append_drop k l] at h
  obtain ⟨g1, g2⟩ := good_append.1 h
  rw [drop_get l k hk] at g2
  obtain ⟨g3, g4, g5, g6⟩ := good_cons.1 g2
  have g7 := lastEnd_le g1
  refine ⟨fun y hy => ?_, fun y hy => (good_each g6 y hy).1, by omega, g4, g5⟩
  have := good_last g1 y hy
  have := (good_each g1 y hy).2.1
  omega
theorem split_at (l : List Sp) (k : Nat) (hk : k < l.length) : l = l.take k ++ (l.getD k (0, 0) :: l.drop (k + 1)) := by
  rw [← drop_get l k hk, List.take_append_drop]
/-- how many up to some time of the k-th -/
theorem cnt_at {size : Int} {l : List Sp} (hg : good size (-1) l = true) {k : Nat} (hk : k < l.length) {t : Int} (h1 : (l.getD k (0, 0)).1 ≤ t) (h2 : ∀ y ∈ l.drop (k + 1), t ≤ y.1) :
    cnt l t = ah l (k + 1) - max 0 ((l.getD k (0, 0)).2 - t) := by
  obtain ⟨g1, g2, g3, g4, g5⟩ := good_at hg hk
  rw [ah_succ l k hk]
  have e := congrArg (fun l => cnt l t) (split_at l k hk)
  simp only [cnt_append, cnt] at e
  rw [e, cnt_full _ _ fun y hy => ⟨(g1 y hy).1, by have := (g1 y hy).2; omega⟩, cnt_none _ _ h2]
  unfold ah
  generalize l.getD k (0, 0) = x at *
  omega
theorem cnt_from {size : Int} {l : List Sp} (hg : good size (-1) l = true) {k : Nat} (hk : k < l.length) {t : Int} (h1 : (l.getD k (0, 0)).1 ≤ t) (h2 : t ≤ (l.getD k (0, 0)).2) : cnt l t = ah l k + (t - (l.getD k (0, 0)).1) := by
  obtain ⟨g1, g2, g3, g4, g5⟩ := good_at hg hk
  rw [cnt_at hg hk h1 fun y hy => by have := g2 y hy; omega, ah_succ l k hk]
  omega
theorem cnt_size {size : Int} {l : List Sp} (hg : good size (-1) l = true) : cnt l size = ah l l.length := by
  unfold ah
  rw [List.take_length, cnt_full]
  intro y hy
  have := good_each hg y hy
  omega
theorem ah_mono {size : Int} {l : List Sp} (hg : good size (-1) l = true) {i j : Nat} (h : i ≤ j) (hj : j ≤ l.length) : ah l i ≤ ah l j ∧ (i < j → ah l i < ah l j) := by
  obtain ⟨k, rfl⟩ : ∃ k, j = i + k := ⟨j - i, by omega⟩
  induction k with
  | zero => simp
  | succ k ih =>
    have a := ih (by omega) (by omega)
    have b := ah_succ l (i + k) (by omega)
    obtain ⟨g1, g2, g3, g4, g5⟩ := good_at hg (show i + k < l.length by omega)
    rw [show i + (k + 1) = i + k + 1 by omega, b]
    omega
theorem ah_bd {size : Int} {l : List Sp} (hs : 1 ≤ size) (hg : good size (-1) l = true) {i : Nat} (h : i ≤ l.length) : 0 ≤ ah l i ∧ ah l i ≤ ah l l.length ∧ ah l l.length ≤ size := by
  have a := (ah_mono hg (Nat.zero_le i) h).1
  have b := (ah_mono hg h (Nat.le_refl _)).1
  rw [ah_zero] at a
  have c := cb_pos hs hg (t := size) (by omega)
  rw [cb_in hs hg (by omega) (Int.le_refl _), cnt_size hg] at c
  omega
theorem cb_end {size : Int} {l : List Sp} (hs : 1 ≤ size) (hg : good size (-1) l = true) {k : Nat} (hk : k < l.length) : cb size l (l.getD k (0, 0)).2 = ah l (k + 1) ∧ cb size l (l.getD k (0, 0)).1 = ah l k := by
  obtain ⟨g1, g2, g3, g4, g5⟩ := good_at hg hk
  rw [cb_in hs hg (by omega) (by omega), cb_in hs hg (by omega) (by omega), cnt_from hg hk (by omega) (by omega), cnt_from hg hk (by omega) (by omega), ah_succ l k hk]
  omega
/-- what below answers -/
theorem below_eq {size rest : Int} {l : List Sp} (hg : good size (-1) l = true) {b : Nat} (hb : b ≤ l.length) (h1 : ∀ i, i < b → (l.getD i (0, 0)).1 < rest) (h2 : ∀ i, b ≤ i → i < l.length → rest ≤ (l.getD i (0, 0)).1) :
    cnt l rest = if b = 0 then 0 else ah l b - max 0 ((l.getD (b - 1) (0, 0)).2 - rest) := by
  have hd : ∀ y ∈ l.drop b, rest ≤ y.1 := by
    intro y hy
    obtain ⟨i, hi, e⟩ := List.mem_iff_getElem.1 hy
    rw [List.getElem_drop] at e
    have := h2 (b + i) (by omega) (by simp at hi; omega)
    rw [← e]
    simpa [List.getD, show b + i < l.length by simp at hi; omega] using this
  split
  · subst b
    exact cnt_none _ _ (by simpa using hd)
  · obtain ⟨k, rfl⟩ : ∃ k, b = k + 1 := ⟨b - 1, by omega⟩
    have := h1 k (by omega)
    exact cnt_at hg (by omega) (by omega) hd
/-- where the first n times are over -/
def EndP (size : Int) (l : List Sp) (n T : Int) : Prop := 1 ≤ T ∧ cb size l T = n ∧ mem l ((T - 1) % size) = true
theorem EndP.one {size n T U : Int} {l : List Sp} (hs : 1 ≤ size) (hg : good size (-1) l = true) (h : EndP size l n T) (k : EndP size l n U) : T = U := by
  have key : ∀ {T U}, EndP size l n T → EndP size l n U → ¬ T < U := by
    intro T U h k c
    obtain ⟨h1, h2, h3⟩ := h
    obtain ⟨k1, k2, k3⟩ := k
    have a := cb_mono hs hg (show 0 ≤ T by omega) (show T ≤ U - 1 by omega)
    have b := cb_one hs hg (t := U - 1) (by omega)
    rw [k3, one_true, show U - 1 + 1 = U by omega] at b
    omega
  have a := key h k
  have b := key k h
  omega
theorem end_eq {size rounds rest : Int} {l : List Sp} (hs : 1 ≤ size) (hg : good size (-1) l = true) (hr : 0 ≤ rounds) {k : Nat} (hk : k < l.length) (h1 : ah l k < rest) (h2 : rest ≤ ah l (k + 1)) :
    EndP size l (rounds * ah l l.length + rest) (rounds * size + (l.getD k (0, 0)).1 + rest - ah l k) := by
  obtain ⟨g1, g2, g3, g4, g5⟩ := good_at hg hk
  rw [ah_succ l k hk] at h2
  have hrs : 0 ≤ rounds * size := Int.mul_nonneg hr (by omega)
  have e : rounds * size + (l.getD k (0, 0)).1 + rest - ah l k = ((l.getD k (0, 0)).1 + (rest - ah l k)) + size * rounds := by rw [Int.mul_comm rounds]; omega
  refine ⟨by omega, ?_, ?_⟩
  · rw [e, cb_shiftk hs, cb_in hs hg (by omega) (by omega), cnt_from hg hk (by omega) (by omega), cnt_size hg]; omega
  · rw [e, show (l.getD k (0, 0)).1 + (rest - ah l k) + size * rounds - 1 = ((l.getD k (0, 0)).1 + (rest - ah l k) - 1) + size * rounds by omega, Int.add_mul_emod_self_left]
    exact mem_span hg (x := l.getD k (0, 0)) (by simp [List.getD, hk]) (by omega) (by omega)
theorem ah_find {size rest : Int} {l : List Sp} (hg : good size (-1) l = true) (h1 : 1 ≤ rest) (h2 : rest ≤ ah l l.length) : ∃ k, k < l.length ∧ ah l k < rest ∧ rest ≤ ah l (k + 1) := by
  have : ∀ j, j ≤ l.length → rest ≤ ah l j → ∃ k, k < l.length ∧ ah l k < rest ∧ rest ≤ ah l (k + 1) := by
    intro j
    induction j with
    | zero => intro _ h; rw [ah_zero] at h; omega
    | succ j ih =>
      intro hj h
      by_cases c : rest ≤ ah l j
      · exact ih (by omega) c
      · exact ⟨j, by omega, by omega, h⟩
  exact this _ (Nat.le_refl _) h2
theorem rest_bd {n L : Int} (hL : 1 ≤ L) (hn : 1 ≤ n) : 0 ≤ (n - 1) / L ∧ 1 ≤ n - (n - 1) / L * L ∧ n - (n - 1) / L * L ≤ L ∧ (n - 1) / L ≤ n - 1 ∧ 0 ≤ (n - 1) / L * L ∧ (n - 1) / L * L ≤ n - 1 := by
  have m1 := Int.emod_nonneg (n - 1) (show L ≠ 0 by omega)
  have m2 := Int.emod_lt_of_pos (n - 1) (show 0 < L by omega)
  have m3 := Int.emod_add_mul_ediv (n - 1) L
  have m4 : (n - 1) / L ≤ n - 1 := Int.ediv_le_self _ (by omega)
  have m5 : 0 ≤ (n - 1) / L := Int.ediv_nonneg (by omega) (by omega)
  rw [Int.mul_comm] at m3
  have m6 := Int.mul_nonneg m5 (show 0 ≤ L by omega)
  omega
theorem tot_pos {size : Int} {l : List Sp} (hg : good size (-1) l = true) (hl : l ≠ []) : 1 ≤ ah l l.length := by
  have : 0 < l.length := List.length_pos_iff.2 hl
  have := (ah_mono hg (Nat.zero_le l.length) (Nat.le_refl _)).2 (by omega)
  rw [ah_zero] at this
  omega
theorem end_ex {size n : Int} {l : List Sp} (hs : 1 ≤ size) (hg : good size (-1) l = true) (hl : l ≠ []) (hn : 1 ≤ n) : ∃ T, EndP size l n T := by
  have hL := tot_pos hg hl
  obtain ⟨a1, a2, a3, a4, _⟩ := rest_bd hL hn
  obtain ⟨k, k1, k2, k3⟩ := ah_find hg a2 a3
  have := end_eq hs hg a1 k1 k2 k3
  rw [show (n - 1) / ah l l.length * ah l l.length + (n - (n - 1) / ah l l.length * ah l l.length) = n by omega] at this
  exact ⟨_, this⟩
open Classical in
noncomputable def endT (size : Int) (l : List Sp) (n : Int) : Int := if h : ∃ T, EndP size l n T then h.choose else 0
theorem endT_P {size n : Int} {l : List Sp} (hs : 1 ≤ size) (hg : good size (-1) l = true) (hl : l ≠ []) (hn : 1 ≤ n) : EndP size l n (endT size l n) := by
  have h := end_ex hs hg hl hn
  unfold endT
  rw [dif_pos h]
  exact h.choose_spec
theorem endT_eq {size n T : Int} {l : List Sp} (hs : 1 ≤ size) (hg : good size (-1) l = true) (h : EndP size l n T) : endT size l n = T := by
  have h' : ∃ T, EndP size l n T := ⟨T, h⟩
  unfold endT
  rw [dif_pos h']
  exact EndP.one hs hg h'.choose_spec h
/-- how long it takes from a time on -/
noncomputable def fr (size : Int) (l : List Sp) (t need : Int) : Int := endT size l (cb size l t + need) - t
/-- .. and at worst -/
noncomputable def wt (size : Int) (l : List Sp) (need : Int) : Int := lmax (fun x => fr size l x.2 need) 0 l
theorem fr_P {size t need : Int} {l : List Sp} (hs : 1 ≤ size) (hg : good size (-1) l = true) (hl : l ≠ []) (ht : 0 ≤ t) (hn : 1 ≤ need) :
    1 ≤ fr size l t need ∧ D size l (fr size l t need) t = need ∧ mem l ((t + fr size l t need - 1) % size) = true ∧ D size l (fr size l t need - 1) t = need - 1 := by
  have c := cb_pos hs hg ht
  obtain ⟨h1, h2, h3⟩ := endT_P hs hg hl (show 1 ≤ cb size l t + need by omega)
  unfold fr
  generalize endT size l (cb size l t + need) = T at *
  have hT : t < T := by
    by_cases c : t < T
    · exact c
    · have := cb_mono hs hg (show 0 ≤ T by omega) (show T ≤ t by omega)
      omega
  have b := cb_one hs hg (t := T - 1) (by omega)
  rw [h3, one_true, show T - 1 + 1 = T by omega] at b
  unfold D
  rw [show t + (T - t) = T by omega, show t + (T - t - 1) = T - 1 by omega]
  exact ⟨by omega, by omega, h3, by omega⟩
/-- so many in a row are enough just if it doesn't take longer -/
theorem fr_iff {size t need n : Int} {l : List Sp} (hs : 1 ≤ size) (hg : good size (-1) l = true) (hl : l ≠ []) (ht : 0 ≤ t) (hn : 1 ≤ need) (h0 : 0 ≤ n) : need ≤ D size l n t ↔ fr size l t need ≤ n := by
  obtain ⟨h1, h2, h3, h4⟩ := fr_P hs hg hl ht hn
  generalize fr size l t need = m at *
  constructor
  · intro h
    by_cases c : m ≤ n
    · exact c
    · have := D_mono hs hg h0 ht (show n ≤ m - 1 by omega)
      omega
  · intro h
    have := D_mono hs hg (show 0 ≤ m by omega) ht h
    omega
theorem wt_at {size need : Int} {l : List Sp} (hs : 1 ≤ size) (hg : good size (-1) l = true) (hl : l ≠ []) (hn : 1 ≤ need) : 1 ≤ wt size l need ∧ ∃ x ∈ l, wt size l need = fr size l x.2 need := by
  obtain ⟨h1, h2, h3⟩ := lmax_le (fun x => fr size l x.2 need) 0 l
  obtain ⟨y, hy⟩ := List.exists_mem_of_ne_nil l hl
  have hye := good_each hg y hy
  have hp := (fr_P hs hg hl (show 0 ≤ y.2 by omega) hn).1
  have hq := h2 y hy
  unfold wt
  refine ⟨by omega, ?_⟩
  rcases h3 with h3 | h3
  · omega
  · exact h3
theorem wt_iff {size need n a : Int} {l : List Sp} (hs : 1 ≤ size) (hg : good size (-1) l = true) (hl : l ≠ []) (hn : 1 ≤ need) (h0 : 0 ≤ n) (h : LeastP size l n a) : need ≤ a ↔ wt size l need ≤ n := by
  obtain ⟨a1, t, ht, a2⟩ := h
  constructor
  · intro h
    obtain ⟨_, x, hx, e⟩ := wt_at hs hg hl hn
    have hxe := good_each hg x hx
    have := a1 x.2 (by omega)
    rw [e]
    exact (fr_iff hs hg hl (by omega) hn h0).1 (by omega)
  · intro h
    obtain ⟨x, hx, hd⟩ := least_ex2 hs hg h0 hl t
    have hxe := good_each hg x hx
    have := (lmax_le (fun x => fr size l x.2 need) 0 l).2.1 x hx
    have := (fr_iff hs hg hl (show 0 ≤ x.2 by omega) hn h0).2 (by unfold wt at h; omega)
    omega
theorem fr_wt {size t need : Int} {l : List Sp} (hs : 1 ≤ size) (hg : good size (-1) l = true) (hl : l ≠ []) (ht : 0 ≤ t) (hn : 1 ≤ need) : fr size l t need ≤ wt size l need := by
  have h0 := (wt_at hs hg hl hn).1
  have hw : 0 ≤ wt size l need := by omega
  have := (wt_iff hs hg hl hn hw (lst_P hs hg hw)).2 (Int.le_refl _)
  have := (lst_P hs hg hw).1 t ht
  exact (fr_iff hs hg hl ht hn hw).1 (by omega)
theorem wt_more {size need : Int} {l : List Sp} (hs : 1 ≤ size) (hg : good size (-1) l = true) (hl : l ≠ []) (hn : 1 ≤ need) : wt size l need < wt size l (need + 1) := by
  have h1 := (wt_at hs hg hl (show 1 ≤ need + 1 by omega)).1
  obtain ⟨w, hw⟩ : ∃ w, w = wt size l (need + 1) - 1 := ⟨_, rfl⟩
  have a := (wt_iff hs hg hl (show 1 ≤ need + 1 by omega) (by omega) (lst_P hs hg (show 0 ≤ w + 1 by omega))).2 (by omega)
  have b := LeastP.more hs hg (by omega) (lst_P hs hg (show 0 ≤ w by omega)) (lst_P hs hg (show 0 ≤ w + 1 by omega))
  have c := (wt_iff hs hg hl hn (by omega) (lst_P hs hg (show 0 ≤ w by omega))).1 (by omega)
  omega
/-- it takes no longer than this -/
theorem endT_le {size n : Int} {l : List Sp} (hs : 1 ≤ size) (hg : good size (-1) l = true) (hl : l ≠ []) (hn : 1 ≤ n) : 1 ≤ endT size l n ∧ endT size l n ≤ n * size := by
  have hL := tot_pos hg hl
  obtain ⟨a1, a2, a3, a4, _⟩ := rest_bd hL hn
  obtain ⟨k, k1, k2, k3⟩ := ah_find hg a2 a3
  have h := end_eq hs hg a1 k1 k2 k3
  rw [show (n - 1) / ah l l.length * ah l l.length + (n - (n - 1) / ah l l.length * ah l l.length) = n by omega] at h
  have e := endT_eq hs hg h
  refine ⟨by rw [e]; exact h.1, ?_⟩
  rw [e]
  obtain ⟨g1, g2, g3, g4, g5⟩ := good_at hg k1
  rw [ah_succ l k k1] at k3
  have m : (n - 1) / ah l l.length * size ≤ (n - 1) * size := Int.mul_le_mul_of_nonneg_right a4 (by omega)
  rw [Int.sub_mul] at m
  omega
theorem countP_mono (p : Nat → Bool) (n : Nat) (h : ∀ a b, a ≤ b → b < n → p a = true → p b = true) :
    (List.range n).countP (fun i => !p i) ≤ n ∧ (∀ i, i < (List.range n).countP (fun i => !p i) → p i = false) ∧ ∀ i, (List.range n).countP (fun i => !p i) ≤ i → i < n → p i = true := by
  induction n with
  | zero => simp
  | succ n ih =>
    obtain ⟨h1, h2, h3⟩ := ih fun a b x y z => h a b x (by omega) z
    rw [List.range_succ, List.countP_append]
    cases hp : p n with
    | true =>
      simp only [List.countP_cons, List.countP_nil, hp, Bool.not_true]
      refine ⟨by simp; omega, fun i hi => h2 i (by simpa using hi), fun i hi1 hi2 => ?_⟩
      by_cases c : i < n
      · exact h3 i (by simpa using hi1) c
      · rwa [show i = n by omega]
    | false =>
      have all : ∀ i, i < n → p i = false := fun i hi => by
        cases hpi : p i with
        | false => rfl
        | true => have := h i n (by omega) (by omega) hpi; rw [hp] at this; cases this
      have e : (List.range n).countP (fun i => !p i) = n := by
        by_cases c : (List.range n).countP (fun i => !p i) < n
        · have := h3 _ (Nat.le_refl _) c; rw [all _ c] at this; cases this
        · omega
      rw [e]
      simp only [List.countP_cons, List.countP_nil, hp, Bool.not_false]
      refine ⟨by simp, fun i hi => ?_, fun i hi1 hi2 => by simp at hi1; omega⟩
      by_cases c : i < n
      · exact all i c
      · rwa [show i = n by simp at hi; omega]
end SupM
end Go.Proofs.Ytceflfdpbgnfjaa
