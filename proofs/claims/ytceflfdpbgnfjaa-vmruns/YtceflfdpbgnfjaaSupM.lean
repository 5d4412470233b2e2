/- Plain mathematics of how much time there is. -/
import Derived.Test.YtceflfdpbgnfjaaSpanM
set_option linter.unusedVariables false
namespace Go.Proofs.Ytceflfdpbgnfjaa
open SpanM
namespace SupM
theorem cb_shiftk {size : Int} {l : List Sp} (hs : 1 ≤ size) (t k : Int) : cb size l (t + size * k) = cb size l t + k * cnt l size := by
  unfold cb
  rw [Int.add_mul_emod_self_left, Int.add_mul_ediv_left _ _ (by omega), Int.add_mul]
  omega
theorem cb_shift {size : Int} {l : List Sp} (hs : 1 ≤ size) (t : Int) : cb size l (t + size) = cb size l t + cnt l size := by
  have := cb_shiftk (l := l) hs t 1
  rw [Int.mul_one, Int.one_mul] at this
  exact this
theorem cb_one {size t : Int} {l : List Sp} (hs : 1 ≤ size) (hg : good size (-1) l = true) (ht : 0 ≤ t) : cb size l (t + 1) = cb size l t + SpanM.one (mem l (t % size)) := by
  have e1 := cb_num hs hg (t.toNat + 1)
  have e2 := cb_num hs hg t.toNat
  rw [show ((t.toNat + 1 : Nat) : Int) = t + 1 by omega] at e1
  rw [Int.toNat_of_nonneg ht] at e2
  rw [e1, e2, num, Int.toNat_of_nonneg ht]
theorem cb_mono {size f t : Int} {l : List Sp} (hs : 1 ≤ size) (hg : good size (-1) l = true) (hf : 0 ≤ f) (ht : f ≤ t) : 0 ≤ cb size l t - cb size l f ∧ cb size l t - cb size l f ≤ t - f := by
  have e1 := cb_num hs hg t.toNat
  have e2 := cb_num hs hg f.toNat
  rw [Int.toNat_of_nonneg (by omega)] at e1 e2
  rw [e1, e2]
  have := num_bd (fun u => mem l (u % size)) f.toNat t.toNat (by omega)
  omega
theorem cb_zero {size : Int} {l : List Sp} (hg : good size (-1) l = true) : cb size l 0 = 0 := by
  unfold cb
  rw [Int.zero_ediv, Int.zero_emod, cnt_zero hg (by omega)]; omega
theorem cb_pos {size t : Int} {l : List Sp} (hs : 1 ≤ size) (hg : good size (-1) l = true) (ht : 0 ≤ t) : 0 ≤ cb size l t ∧ cb size l t ≤ t := by
  have := cb_mono hs hg (Int.le_refl 0) ht
  rw [cb_zero hg] at this
  omega
theorem cb_in {size t : Int} {l : List Sp} (hs : 1 ≤ size) (hg : good size (-1) l = true) (h0 : 0 ≤ t) (h1 : t ≤ size) : cb size l t = cnt l t := by
  by_cases c : t < size
  · unfold cb
    rw [Int.ediv_eq_zero_of_lt h0 c, Int.emod_eq_of_lt h0 c]; omega
  · obtain rfl : t = size := by omega
    have := cb_shift (l := l) hs 0
    rw [cb_zero hg] at this
    simpa using this

/-- how many there are among n from t on -/
def D (size : Int) (l : List Sp) (n t : Int) : Int := cb size l (t + n) - cb size l t
theorem D_shiftk {size n : Int} {l : List Sp} (hs : 1 ≤ size) (t k : Int) : D size l n (t + size * k) = D size l n t := by
  unfold D
  rw [show t + size * k + n = (t + n) + size * k by omega, cb_shiftk hs, cb_shiftk hs]; omega
theorem D_mod {size n : Int} {l : List Sp} (hs : 1 ≤ size) (t : Int) : D size l n (t % size) = D size l n t := by
  have := D_shiftk (l := l) (n := n) hs (t % size) (t / size)
  rw [Int.emod_add_mul_ediv] at this
  exact this.symm
theorem D_size {size n : Int} {l : List Sp} (hs : 1 ≤ size) (t : Int) : D size l n (t + size) = D size l n t := by
  have := D_shiftk (l := l) (n := n) hs t 1
  rw [Int.mul_one] at this
  exact this
theorem D_step {size n t : Int} {l : List Sp} (hs : 1 ≤ size) (hg : good size (-1) l = true) (hn : 0 ≤ n) (ht : 0 ≤ t) : D size l n (t + 1) = D size l n t + SpanM.one (mem l ((t + n) % size)) - SpanM.one (mem l (t % size)) := by
  unfold D
  rw [show t + 1 + n = (t + n) + 1 by omega, cb_one hs hg (by omega), cb_one hs hg ht]; omega
theorem D_bd {size n t : Int} {l : List Sp} (hs : 1 ≤ size) (hg : good size (-1) l = true) (hn : 0 ≤ n) (ht : 0 ≤ t) : 0 ≤ D size l n t ∧ D size l n t ≤ n := by
  have := cb_mono hs hg ht (show t ≤ t + n by omega)
  unfold D; omega
theorem D_add {size n m t : Int} {l : List Sp} : D size l (n + m) t = D size l n t + D size l m (t + n) := by
  unfold D
  rw [show t + (n + m) = t + n + m by omega]; omega
theorem D_mono {size n m t : Int} {l : List Sp} (hs : 1 ≤ size) (hg : good size (-1) l = true) (hn : 0 ≤ n) (ht : 0 ≤ t) (h : n ≤ m) : D size l n t ≤ D size l m t := by
  have e := D_add (size := size) (l := l) (n := n) (m := m - n) (t := t)
  rw [show n + (m - n) = m by omega] at e
  have := D_bd hs hg (n := m - n) (t := t + n) (by omega) (by omega)
  omega
theorem D_none {size n t : Int} : D size [] n t = 0 := by
  unfold D cb; simp [cnt]

theorem one_true : SpanM.one true = 1 := rfl
theorem one_false : SpanM.one false = 0 := rfl

/-- within a span later is less -/
theorem in_down {size n : Int} {l : List Sp} (hs : 1 ≤ size) (hg : good size (-1) l = true) (hn : 0 ≤ n) {t : Int} (ht : 0 ≤ t) (j : Nat) (h : ∀ u, t ≤ u → u < t + j → mem l (u % size) = true) : D size l n (t + j) ≤ D size l n t := by
  induction j with
  | zero => simp
  | succ j ih =>
    have a := ih fun u h1 h2 => h u h1 (by omega)
    have b := h (t + j) (by omega) (by omega)
    have c := D_step (t := t + j) hs hg hn (by omega)
    rw [b, one_true] at c
    have d := one_bd (mem l ((t + j + n) % size))
    rw [show t + ((j + 1 : Nat) : Int) = t + j + 1 by omega]
    omega
/-- within a gap later is more -/
theorem out_up {size n : Int} {l : List Sp} (hs : 1 ≤ size) (hg : good size (-1) l = true) (hn : 0 ≤ n) {t : Int} (ht : 0 ≤ t) (j : Nat) (h : ∀ u, t ≤ u → u < t + j → mem l (u % size) = false) : D size l n t ≤ D size l n (t + j) := by
  induction j with
  | zero => simp
  | succ j ih =>
    have a := ih fun u h1 h2 => h u h1 (by omega)
    have b := h (t + j) (by omega) (by omega)
    have c := D_step (t := t + j) hs hg hn (by omega)
    rw [b, one_false] at c
    have d := one_bd (mem l ((t + j + n) % size))
    rw [show t + ((j + 1 : Nat) : Int) = t + j + 1 by omega]
    omega
theorem mem_span {size : Int} {l : List Sp} {x : Sp} (hg : good size (-1) l = true) (hx : x ∈ l) {u : Int} (h1 : x.1 ≤ u) (h2 : u < x.2) : mem l (u % size) = true := by
  have := good_each hg x hx
  rw [Int.emod_eq_of_lt (by omega) (by omega), mem_iff]
  exact ⟨x, hx, h1, h2⟩
/-- ahead of a gap's time: where the gap begins -/
theorem back {l : List Sp} (k : Nat) : mem l k = false → ∃ e : Nat, e ≤ k ∧ (e = 0 ∨ ∃ x ∈ l, (e : Int) = x.2) ∧ ∀ u : Int, e ≤ u → u < k → mem l u = false := by
  induction k with
  | zero => intro _; exact ⟨0, Nat.le_refl _, .inl rfl, fun u h1 h2 => by omega⟩
  | succ k ih =>
    intro h
    cases hm : mem l k with
    | true =>
      obtain ⟨x, hx, h1, h2⟩ := (mem_iff _ _).1 hm
      refine ⟨k + 1, Nat.le_refl _, .inr ⟨x, hx, ?_⟩, fun u h1 h2 => by omega⟩
      by_cases c : ((k + 1 : Nat) : Int) < x.2
      · have : mem l ((k + 1 : Nat) : Int) = true := (mem_iff _ _).2 ⟨x, hx, by omega, c⟩
        rw [h] at this; cases this
      · omega
    | false =>
      obtain ⟨e, h1, h2, h3⟩ := ih hm
      refine ⟨e, by omega, h2, fun u a b => ?_⟩
      by_cases c : u < k
      · exact h3 u a c
      · obtain rfl : u = k := by omega
        exact hm
theorem least_gap {size n : Int} {l : List Sp} (hs : 1 ≤ size) (hg : good size (-1) l = true) (hn : 0 ≤ n) {t : Int} (ht : 0 ≤ t) (ht2 : t ≤ size) (hm : mem l t = false) :
    (D size l n 0 ≤ D size l n t ∧ ∀ u, 0 ≤ u → u < t → mem l u = false) ∨ ∃ x ∈ l, D size l n x.2 ≤ D size l n t := by
  obtain ⟨k, rfl⟩ : ∃ k : Nat, t = k := ⟨t.toNat, by omega⟩
  obtain ⟨e, h1, h2, h3⟩ := back k hm
  have hd : D size l n e ≤ D size l n k := by
    have := out_up (l := l) (t := (e : Int)) hs hg hn (by omega) (k - e) fun u a b => by
      rw [Int.emod_eq_of_lt (by omega) (by omega)]
      exact h3 u a (by omega)
    rwa [show (e : Int) + ((k - e : Nat) : Int) = k by omega] at this
  rcases h2 with rfl | ⟨x, hx, he⟩
  · exact .inl ⟨by simpa using hd, fun u a b => h3 u (by simpa using a) b⟩
  · exact .inr ⟨x, hx, by rw [← he]; exact hd⟩
theorem least_ex {size n : Int} {l : List Sp} (hs : 1 ≤ size) (hg : good size (-1) l = true) (hn : 0 ≤ n) (t : Int) : D size l n 0 ≤ D size l n t ∨ ∃ x ∈ l, D size l n x.2 ≤ D size l n t := by
  have m1 := Int.emod_nonneg t (show size ≠ 0 by omega)
  have m2 := Int.emod_lt_of_pos t (show 0 < size by omega)
  rw [← D_mod hs t]
  generalize t % size = t at m1 m2
  cases hm : mem l t with
  | true =>
    obtain ⟨x, hx, h1, h2⟩ := (mem_iff _ _).1 hm
    have he := good_each hg x hx
    have := in_down (l := l) (n := n) hs hg hn m1 (x.2 - t).toNat fun u a b => mem_span hg hx (by omega) (by omega)
    rw [show t + (((x.2 - t).toNat : Nat) : Int) = x.2 by omega] at this
    exact .inr ⟨x, hx, this⟩
  | false =>
    rcases least_gap hs hg hn m1 (by omega) hm with h | h
    · exact .inl h.1
    · exact .inr h
/-- .. and behind a span, if there is one -/
theorem least_ex2 {size n : Int} {l : List Sp} (hs : 1 ≤ size) (hg : good size (-1) l = true) (hn : 0 ≤ n) (hl : l ≠ []) (t : Int) : ∃ x ∈ l, D size l n x.2 ≤ D size l n t := by
  rcases least_ex hs hg hn t with h | h
  · have e : D size l n 0 = D size l n size := by have := D_size (l := l) (n := n) hs 0; rw [← this]; simp
    have hm : mem l size = false := by
      cases hm : mem l size with
      | false => rfl
      | true => have := good_mem hg hm; omega
    rcases least_gap hs hg hn (show 0 ≤ size by omega) (Int.le_refl _) hm with ⟨_, h2⟩ | ⟨x, hx, h2⟩
    · obtain ⟨x, hx⟩ := List.exists_mem_of_ne_nil l hl
      have he := good_each hg x hx
      have := h2 x.1 (by omega) (by omega)
      rw [(mem_iff l x.1).2 ⟨x, hx, by omega, by omega⟩] at this
      cases this
    · exact ⟨x, hx, by omega⟩
  · exact h
theorem most_ex {size n : Int} {l : List Sp} (hs : 1 ≤ size) (hg : good size (-1) l = true) (hn : 0 ≤ n) (hl : l ≠ []) (t : Int) : ∃ x ∈ l, D size l n t ≤ D size l n x.1 := by
  obtain ⟨y, hy⟩ := List.exists_mem_of_ne_nil l hl
  have hye := good_each hg y hy
  have go : ∀ (j : Nat) (t : Int), 0 ≤ t → t + j = y.1 + size → ∃ x ∈ l, D size l n t ≤ D size l n x.1 := by
    intro j
    induction j with
    | zero =>
      intro t h0 h1
      refine ⟨y, hy, ?_⟩
      rw [show t = y.1 + size by omega, D_size hs]; omega
    | succ j ih =>
      intro t h0 h1
      cases hm : mem l (t % size) with
      | true =>
        obtain ⟨x, hx, h2, h3⟩ := (mem_iff _ _).1 hm
        have he := good_each hg x hx
        refine ⟨x, hx, ?_⟩
        rw [← D_mod hs t]
        generalize t % size = t at h2 h3
        have := in_down (l := l) (n := n) hs hg hn (show 0 ≤ x.1 by omega) (t - x.1).toNat fun u a b => mem_span hg hx (by omega) (by omega)
        rwa [show x.1 + (((t - x.1).toNat : Nat) : Int) = t by omega] at this
      | false =>
        obtain ⟨x, hx, h2⟩ := ih (t + 1) (by omega) (by omega)
        have c := D_step (l := l) hs hg hn h0
        rw [hm, one_false] at c
        have d := one_bd (mem l ((t + n) % size))
        exact ⟨x, hx, by omega⟩
  have m1 := Int.emod_nonneg t (show size ≠ 0 by omega)
  have m2 := Int.emod_lt_of_pos t (show 0 < size by omega)
  obtain ⟨x, hx, h⟩ := go (y.1 + size - t % size).toNat (t % size) m1 (by omega)
  exact ⟨x, hx, by rwa [D_mod hs] at h⟩

/-- the least of n in a row -/
def LeastP (size : Int) (l : List Sp) (n a : Int) : Prop := (∀ t, 0 ≤ t → a ≤ D size l n t) ∧ ∃ t, 0 ≤ t ∧ a = D size l n t
def MostP (size : Int) (l : List Sp) (n a : Int) : Prop := (∀ t, 0 ≤ t → D size l n t ≤ a) ∧ ∃ t, 0 ≤ t ∧ a = D size l n t
theorem LeastP.one {size n a b : Int} {l : List Sp} (h : LeastP size l n a) (k : LeastP size l n b) : a = b := by
  obtain ⟨h1, t, h2, h3⟩ := h
  obtain ⟨k1, u, k2, k3⟩ := k
  have := h1 u k2
  have := k1 t h2
  omega
theorem MostP.one {size n a b : Int} {l : List Sp} (h : MostP size l n a) (k : MostP size l n b) : a = b := by
  obtain ⟨h1, t, h2, h3⟩ := h
  obtain ⟨k1, u, k2, k3⟩ := k
  have := h1 u k2
  have := k1 t h2
  omega

def lmin (f : Sp → Int) (a : Int) (l : List Sp) : Int := l.foldl (fun a x => min a (f x)) a
def lmax (f : Sp → Int) (a : Int) (l : List Sp) : Int := l.foldl (fun a x => max a (f x)) a
theorem lmin_snoc (f : Sp → Int) (a : Int) (l : List Sp) (x : Sp) : lmin f a (l ++ [x]) = min (lmin f a l) (f x) := by simp [lmin]
theorem lmax_snoc (f : Sp → Int) (a : Int) (l : List Sp) (x : Sp) : lmax f a (l ++ [x]) = max (lmax f a l) (f x) := by simp [lmax]
theorem lmin_le (f : Sp → Int) (a : Int) (l : List Sp) : lmin f a l ≤ a ∧ (∀ x ∈ l, lmin f a l ≤ f x) ∧ (lmin f a l = a ∨ ∃ x ∈ l, lmin f a l = f x) := by
  induction l generalizing a with
  | nil => simp [lmin]
  | cons y r ih =>
    obtain ⟨h1, h2, h3⟩ := ih (min a (f y))
    have e : lmin f a (y :: r) = lmin f (min a (f y)) r := rfl
    rw [e]
    refine ⟨by omega, fun x hx => ?_, ?_⟩
    · rcases List.mem_cons.1 hx with rfl | hx
      · omega
      · exact h2 x hx
    · rcases h3 with h3 | ⟨x, hx, h3⟩
      · by_cases c : a ≤ f y
        · left; omega
        · right; exact ⟨y, by simp, by omega⟩
      · right; exact ⟨x, by simp [hx], h3⟩
theorem lmax_le (f : Sp → Int) (a : Int) (l : List Sp) : a ≤ lmax f a l ∧ (∀ x ∈ l, f x ≤ lmax f a l) ∧ (lmax f a l = a ∨ ∃ x ∈ l, lmax f a l = f x) := by
  induction l generalizing a with
  | nil => simp [lmax]
  | cons y r ih =>
    obtain ⟨h1, h2, h3⟩ := ih (max a (f y))
    have e : lmax f a (y :: r) = lmax f (max a (f y)) r := rfl
    rw [e]
    refine ⟨by omega, fun x hx => ?_, ?_⟩
    · rcases List.mem_cons.1 hx with rfl | hx
      · omega
      · exact h2 x hx
    · rcases h3 with h3 | ⟨x, hx, h3⟩
      · by_cases c : f y ≤ a
        · left; omega
        · right; exact ⟨y, by simp, by omega⟩
      · right; exact ⟨x, by simp [hx], h3⟩
def lst (size : Int) (l : List Sp) (n : Int) : Int := lmin (fun x => D size l n x.2) (D size l n 0) l
def mst (size : Int) (l : List Sp) (n : Int) : Int := lmax (fun x => D size l n x.1) 0 l
theorem lst_P {size n : Int} {l : List Sp} (hs : 1 ≤ size) (hg : good size (-1) l = true) (hn : 0 ≤ n) : LeastP size l n (lst size l n) := by
  obtain ⟨h1, h2, h3⟩ := lmin_le (fun x => D size l n x.2) (D size l n 0) l
  refine ⟨fun t ht => ?_, ?_⟩
  · rcases least_ex hs hg hn t with h | ⟨x, hx, h⟩
    · unfold lst; omega
    · have := h2 x hx
      unfold lst; omega
  · rcases h3 with h3 | ⟨x, hx, h3⟩
    · exact ⟨0, Int.le_refl _, h3⟩
    · have := good_each hg x hx
      exact ⟨x.2, by omega, h3⟩
theorem mst_P {size n : Int} {l : List Sp} (hs : 1 ≤ size) (hg : good size (-1) l = true) (hn : 0 ≤ n) : MostP size l n (mst size l n) := by
  obtain ⟨h1, h2, h3⟩ := lmax_le (fun x => D size l n x.1) 0 l
  by_cases hl : l = []
  · subst hl
    exact ⟨fun t ht => by rw [D_none]; simp [mst, lmax], 0, Int.le_refl _, by rw [D_none]; simp [mst, lmax]⟩
  · obtain ⟨y, hy⟩ := List.exists_mem_of_ne_nil l hl
    refine ⟨fun t ht => ?_, ?_⟩
    · obtain ⟨x, hx, h⟩ := most_ex hs hg hn hl t
      have := h2 x hx
      unfold mst; omega
    · rcases h3 with h3 | ⟨x, hx, h3⟩
      · have e1 := good_each hg y hy
        have e2 := h2 y hy
        have e3 := (D_bd hs hg hn (show 0 ≤ y.1 by omega)).1
        exact ⟨y.1, by omega, by unfold mst; omega⟩
      · have := good_each hg x hx
        exact ⟨x.1, by omega, h3⟩
theorem LeastP.bd {size n a : Int} {l : List Sp} (hs : 1 ≤ size) (hg : good size (-1) l = true) (hn : 0 ≤ n) (h : LeastP size l n a) : 0 ≤ a ∧ a ≤ n := by
  obtain ⟨h1, t, h2, h3⟩ := h
  have := D_bd (l := l) hs hg hn h2
  omega
theorem MostP.bd {size n a : Int} {l : List Sp} (hs : 1 ≤ size) (hg : good size (-1) l = true) (hn : 0 ≤ n) (h : MostP size l n a) : 0 ≤ a ∧ a ≤ n := by
  obtain ⟨h1, t, h2, h3⟩ := h
  have := D_bd (l := l) hs hg hn h2
  omega
theorem LeastP.adds {size n m a b c : Int} {l : List Sp} (hn : 0 ≤ n) (h1 : LeastP size l n a) (h2 : LeastP size l m b) (h3 : LeastP size l (n + m) c) : a + b ≤ c := by
  obtain ⟨_, t, ht, rfl⟩ := h3
  have := h1.1 t ht
  have := h2.1 (t + n) (by omega)
  rw [D_add]; omega
theorem MostP.adds {size n m a b c : Int} {l : List Sp} (hn : 0 ≤ n) (h1 : MostP size l n a) (h2 : MostP size l m b) (h3 : MostP size l (n + m) c) : c ≤ a + b := by
  obtain ⟨_, t, ht, rfl⟩ := h3
  have := h1.1 t ht
  have := h2.1 (t + n) (by omega)
  rw [D_add]; omega
theorem LeastP.more {size n a d : Int} {l : List Sp} (hs : 1 ≤ size) (hg : good size (-1) l = true) (hn : 0 ≤ n) (h1 : LeastP size l n a) (h2 : LeastP size l (n + 1) d) : a ≤ d ∧ d ≤ a + 1 := by
  obtain ⟨a1, t, ht, a2⟩ := h1
  obtain ⟨b1, u, hu, b2⟩ := h2
  have c1 := a1 u hu
  have c2 := b1 t ht
  have c3 := D_mono (l := l) hs hg hn hu (show n ≤ n + 1 by omega)
  have c4 := D_add (size := size) (l := l) (n := n) (m := 1) (t := t)
  have c5 := D_bd (l := l) hs hg (n := 1) (t := t + n) (by omega) (by omega)
  omega
theorem D_frame {size n t : Int} {l : List Sp} (hs : 1 ≤ size) : D size l (n + size) t = D size l n t + cnt l size := by
  unfold D
  rw [show t + (n + size) = t + n + size by omega, cb_shift hs]; omega
theorem LeastP.frame {size n a c : Int} {l : List Sp} (hs : 1 ≤ size) (h1 : LeastP size l n a) (h2 : LeastP size l (n + size) c) : c = a + cnt l size := by
  obtain ⟨a1, t, ht, a2⟩ := h1
  obtain ⟨b1, u, hu, b2⟩ := h2
  have c1 := a1 u hu
  have c2 := b1 t ht
  rw [D_frame hs] at b2 c2
  omega
theorem MostP.frame {size n a c : Int} {l : List Sp} (hs : 1 ≤ size) (h1 : MostP size l n a) (h2 : MostP size l (n + size) c) : c = a + cnt l size := by
  obtain ⟨a1, t, ht, a2⟩ := h1
  obtain ⟨b1, u, hu, b2⟩ := h2
  have c1 := a1 u hu
  have c2 := b1 t ht
  rw [D_frame hs] at b2 c2
  omega
theorem cb_not {size t : Int} {l m : List Sp} (hs : 1 ≤ size) (hg : good size (-1) l = true) (hm : good size (-1) m = true) (h : ∀ u, 0 ≤ u → u < size → mem m u = !mem l u) (ht : 0 ≤ t) : cb size l t + cb size m t = t := by
  have e1 := cb_num hs hg t.toNat
  have e2 := cb_num hs hm t.toNat
  rw [Int.toNat_of_nonneg ht] at e1 e2
  rw [e1, e2, num_all]
  · omega
  · intro u hu
    have m1 := Int.emod_nonneg (u : Int) (show size ≠ 0 by omega)
    have m2 := Int.emod_lt_of_pos (u : Int) (show 0 < size by omega)
    rw [h _ m1 m2]
    cases mem l ((u : Int) % size) <;> rfl
theorem LeastP.dual {size n a b : Int} {l m : List Sp} (hs : 1 ≤ size) (hg : good size (-1) l = true) (hm : good size (-1) m = true) (h : ∀ u, 0 ≤ u → u < size → mem m u = !mem l u) (hn : 0 ≤ n) (h1 : LeastP size l n a) (h2 : MostP size m n b) : a + b = n := by
  have key : ∀ t, 0 ≤ t → D size l n t + D size m n t = n := by
    intro t ht
    have e1 := cb_not hs hg hm h ht
    have e2 := cb_not hs hg hm h (show 0 ≤ t + n by omega)
    unfold D; omega
  obtain ⟨a1, t, ht, a2⟩ := h1
  obtain ⟨b1, u, hu, b2⟩ := h2
  have c1 := a1 u hu
  have c2 := b1 t ht
  have k1 := key t ht
  have k2 := key u hu
  omega
end SupM
end Go.Proofs.Ytceflfdpbgnfjaa
