/- Plain: rotations and merges by index functions. -/
import Derived.Test.YtgplaoojimpbaaaPlyS
set_option linter.unusedVariables false
namespace Go.Proofs.Ytgplaoojimpbaaa
namespace PlayC
/-- the job at an index -/
def gt (l : List Jb) (k : Nat) : Jb := l.getD k zJ
def sc (l : List Jb) (k : Nat) : Int := (gt l k).c
theorem gt_sw (l : List Jb) (i j k : Nat) (hi : i < l.length) (hj : j < l.length) : gt (sw l i j) k = if k = i then gt l j else if k = j then gt l i else gt l k := by
  unfold gt sw
  simp only [List.getD_eq_getElem?_getD, List.getElem?_set, List.length_set]
  by_cases h1 : j = k
  · subst h1
    by_cases h2 : j = i
    · subst h2; simp [hj]
    · simp [hj, h2]
  · have h1' : k ≠ j := fun h => h1 h.symm
    by_cases h2 : i = k
    · subst h2; simp [h1, hi]
    · have h2' : k ≠ i := fun h => h2 h.symm
      simp [h1, h2, h1', h2']
theorem sw_perm (l : List Jb) (i j : Nat) (hi : i < l.length) (hj : j < l.length) : (sw l i j).Perm l := by
  unfold sw
  rw [getD_at l i hi, getD_at l j hj]
  exact List.set_set_perm hi hj
/-- rotation, by the index: what stood from m to b stands at a, what stood from a to m behind it -/
def rotF (f : Nat → Jb) (a m b k : Nat) : Jb := if k < a then f k else if k < a + (b - m) then f (k + (m - a)) else if k < b then f (k - (b - m)) else f k
/-- two ranges exchanged -/
def swF (f : Nat → Jb) (a b n k : Nat) : Jb := if a ≤ k ∧ k < a + n then f (k + (b - a)) else if b ≤ k ∧ k < b + n then f (k - (b - a)) else f k
theorem swF_zero (f : Nat → Jb) (a b k : Nat) : swF f a b 0 k = f k := by
  unfold swF
  (repeat' split) <;> first | rfl | (congr 1; omega) | (exfalso; omega)
theorem swF_succ (f : Nat → Jb) (a b n : Nat) (h : a + (n + 1) ≤ b) (k : Nat) : swF f a b (n + 1) k = if k = a + n then swF f a b n (b + n) else if k = b + n then swF f a b n (a + n) else swF f a b n k := by
  unfold swF
  (repeat' split) <;> first | rfl | (congr 1; omega) | (exfalso; omega)
theorem rot_gt (f : Nat → Jb) (m i j k : Nat) (hj : 0 < j) (h : j < i) (hm : i ≤ m) : rotF (swF f (m - i) m j) (m - (i - j)) m (m + j) k = rotF f (m - i) m (m + j) k := by
  unfold rotF swF
  (repeat' split) <;> first | rfl | (congr 1; omega) | (exfalso; omega)
theorem rot_lt (f : Nat → Jb) (m i j k : Nat) (hi : 0 < i) (h : i < j) (hm : i ≤ m) : rotF (swF f (m - i) (m + j - i) i) (m - i) m (m + (j - i)) k = rotF f (m - i) m (m + j) k := by
  unfold rotF swF
  (repeat' split) <;> first | rfl | (congr 1; omega) | (exfalso; omega)
theorem rot_eq (f : Nat → Jb) (m i k : Nat) (hm : i ≤ m) : swF f (m - i) m i k = rotF f (m - i) m (m + i) k := by
  unfold rotF swF
  (repeat' split) <;> first | rfl | (congr 1; omega) | (exfalso; omega)
theorem rot_id1 (f : Nat → Jb) (m b k : Nat) : rotF f m m b k = f k := by
  unfold rotF
  (repeat' split) <;> first | rfl | (congr 1; omega) | (exfalso; omega)
theorem rot_id2 (f : Nat → Jb) (a m k : Nat) (h : a ≤ m) : rotF f a m m k = f k := by
  unfold rotF
  (repeat' split) <;> first | rfl | (congr 1; omega) | (exfalso; omega)
/-- one up -/
theorem rot_up (f : Nat → Jb) (a x k : Nat) (h : a ≤ x) : rotF f a (a + 1) (x + 2) k = if k = x then rotF f a (a + 1) (x + 1) (x + 1) else if k = x + 1 then rotF f a (a + 1) (x + 1) x else rotF f a (a + 1) (x + 1) k := by
  unfold rotF
  (repeat' split) <;> first | rfl | (congr 1; omega) | (exfalso; omega)
/-- one down -/
theorem rot_down (f : Nat → Jb) (x m k : Nat) (h : x < m) : rotF f x m (m + 1) k = if k = x + 1 then rotF f (x + 1) m (m + 1) x else if k = x then rotF f (x + 1) m (m + 1) (x + 1) else rotF f (x + 1) m (m + 1) k := by
  unfold rotF
  (repeat' split) <;> first | rfl | (congr 1; omega) | (exfalso; omega)
/-- sorted by when they come, from a to b -/
def Srt (l : List Jb) (a b : Nat) : Prop := ∀ i j, a ≤ i → i ≤ j → j < b → sc l i ≤ sc l j
/-- within a and b some were put in other places, and no other -/
structure Rg (a b : Nat) (l l' : List Jb) : Prop where
  len : l'.length = l.length
  perm : l'.Perm l
  out : ∀ k, k < a ∨ b ≤ k → gt l' k = gt l k
  ins : ∀ k, a ≤ k → k < b → ∃ k', a ≤ k' ∧ k' < b ∧ gt l' k = gt l k'
theorem Rg.refl (a b : Nat) (l : List Jb) : Rg a b l l := ⟨rfl, .refl _, fun _ _ => rfl, fun k h1 h2 => ⟨k, h1, h2, rfl⟩⟩
theorem Rg.trans {a b : Nat} {l l' l'' : List Jb} (h : Rg a b l l') (h' : Rg a b l' l'') : Rg a b l l'' :=
  ⟨h'.len.trans h.len, h'.perm.trans h.perm, fun k hk => (h'.out k hk).trans (h.out k hk), fun k h1 h2 => by
    obtain ⟨k1, a1, b1, e1⟩ := h'.ins k h1 h2
    obtain ⟨k2, a2, b2, e2⟩ := h.ins k1 a1 b1
    exact ⟨k2, a2, b2, e1.trans e2⟩⟩
theorem Rg.wide {a b c d : Nat} {l l' : List Jb} (h : Rg a b l l') (h1 : c ≤ a) (h2 : b ≤ d) : Rg c d l l' :=
  ⟨h.len, h.perm, fun k hk => h.out k (by omega), fun k k1 k2 => by
    by_cases hk : a ≤ k ∧ k < b
    · obtain ⟨k', x, y, e⟩ := h.ins k hk.1 hk.2
      exact ⟨k', by omega, by omega, e⟩
    · exact ⟨k, k1, k2, h.out k (by omega)⟩⟩
theorem Rg.sw {a b i j : Nat} {l : List Jb} (hi : i < l.length) (hj : j < l.length) (h1 : a ≤ i) (h2 : i < b) (h3 : a ≤ j) (h4 : j < b) : Rg a b l (sw l i j) :=
  ⟨sw_len l i j, sw_perm l i j hi hj, fun k hk => by rw [gt_sw l i j k hi hj, if_neg (by omega), if_neg (by omega)], fun k k1 k2 => by
    rw [gt_sw l i j k hi hj]
    by_cases e1 : k = i
    · exact ⟨j, h3, h4, by rw [if_pos e1]⟩
    · by_cases e2 : k = j
      · exact ⟨i, h1, h2, by rw [if_neg e1, if_pos e2]⟩
      · exact ⟨k, k1, k2, by rw [if_neg e1, if_neg e2]⟩⟩
theorem Srt.same {a b : Nat} {l l' : List Jb} (h : Srt l a b) (he : ∀ k, a ≤ k → k < b → gt l' k = gt l k) : Srt l' a b := by
  intro i j h1 h2 h3
  unfold sc
  rw [he i h1 (by omega), he j (by omega) h3]
  exact h i j h1 h2 h3
/-- two sorted parts, all of the first no greater than all of the second -/
theorem Srt.join {a m b : Nat} {l : List Jb} (h1 : Srt l a m) (h2 : Srt l m b) (h : ∀ i j, a ≤ i → i < m → m ≤ j → j < b → sc l i ≤ sc l j) : Srt l a b := by
  intro i j a1 a2 a3
  by_cases c1 : j < m
  · exact h1 i j a1 a2 c1
  · by_cases c2 : i < m
    · exact h i j a1 c2 (by omega) a3
    · exact h2 i j (by omega) a2 a3
/-- one put in its place from below -/
theorem ins_low {a i b : Nat} {l l' : List Jb} (hai : a < i) (hib : i ≤ b) (hs : Srt l (a + 1) b) (he : ∀ k, gt l' k = rotF (gt l) a (a + 1) i k) (h1 : a + 1 < i → sc l (i - 1) ≤ sc l a) (h2 : i < b → sc l a ≤ sc l i) : Srt l' a b := by
  intro x y a1 a2 a3
  unfold sc at *
  rw [he x, he y]
  unfold rotF
  by_cases cx : x < i - 1
  · rw [if_neg (by omega), if_pos (by omega)]
    by_cases cy : y < i - 1
    · rw [if_neg (by omega), if_pos (by omega)]
      exact hs _ _ (by omega) (by omega) (by omega)
    · have t1 : (gt l (x + (a + 1 - a))).c ≤ (gt l (i - 1)).c := hs _ _ (by omega) (by omega) (by omega)
      by_cases cy2 : y < i
      · rw [if_neg (by omega), if_neg (by omega), if_pos (by omega), show y - (i - (a + 1)) = a by omega]
        have := h1 (by omega); omega
      · rw [if_neg (by omega), if_neg (by omega), if_neg (by omega)]
        exact hs _ _ (by omega) (by omega) (by omega)
  · by_cases cx2 : x < i
    · rw [if_neg (by omega), if_neg (by omega), if_pos (by omega), show x - (i - (a + 1)) = a by omega]
      by_cases cy2 : y < i
      · rw [if_neg (by omega), if_neg (by omega), if_pos (by omega), show y - (i - (a + 1)) = a by omega]; exact Int.le_refl _
      · rw [if_neg (by omega), if_neg (by omega), if_neg (by omega)]
        have t1 : (gt l i).c ≤ (gt l y).c := hs _ _ (by omega) (by omega) (by omega)
        have := h2 (by omega); omega
    · rw [if_neg (by omega), if_neg (by omega), if_neg (by omega), if_neg (by omega), if_neg (by omega), if_neg (by omega)]
      exact hs _ _ (by omega) (by omega) (by omega)
/-- one put in its place from above -/
theorem ins_high {a i m : Nat} {l l' : List Jb} (hai : a ≤ i) (him : i ≤ m) (hs : Srt l a m) (he : ∀ k, gt l' k = rotF (gt l) i m (m + 1) k) (h1 : a < i → sc l (i - 1) ≤ sc l m) (h2 : i < m → sc l m ≤ sc l i) : Srt l' a (m + 1) := by
  intro x y a1 a2 a3
  unfold sc at *
  rw [he x, he y]
  unfold rotF
  by_cases cx : x < i
  · rw [if_pos cx]
    by_cases cy : y < i
    · rw [if_pos cy]; exact hs _ _ (by omega) (by omega) (by omega)
    · have t1 : (gt l x).c ≤ (gt l (i - 1)).c := hs _ _ (by omega) (by omega) (by omega)
      by_cases cy2 : y = i
      · rw [if_neg (by omega), if_pos (by omega), show y + (m - i) = m by omega]
        have := h1 (by omega); omega
      · rw [if_neg (by omega), if_neg (by omega), if_pos (by omega)]
        exact hs _ _ (by omega) (by omega) (by omega)
  · by_cases cx2 : x = i
    · rw [if_neg (by omega), if_pos (by omega), show x + (m - i) = m by omega]
      by_cases cy2 : y = i
      · rw [if_neg (by omega), if_pos (by omega), show y + (m - i) = m by omega]; exact Int.le_refl _
      · rw [if_neg (by omega), if_neg (by omega), if_pos (by omega)]
        have t1 : (gt l i).c ≤ (gt l (y - (m + 1 - m))).c := hs _ _ (by omega) (by omega) (by omega)
        have := h2 (by omega); omega
    · rw [if_neg (by omega), if_neg (by omega), if_pos (by omega), if_neg (by omega), if_neg (by omega), if_pos (by omega)]
      exact hs _ _ (by omega) (by omega) (by omega)
/-- where the halves are to be exchanged: what is known behind the search -/
structure Found (l : List Jb) (a m b mid lo hi s : Nat) : Prop where
  low : lo ≤ s
  high : s ≤ hi
  up : lo < s → sc l (s - 1) ≤ sc l (mid + m - s)
  dn : s < hi → sc l (mid + m - s - 1) ≤ sc l s
/-- the halves behind the exchange -/
theorem halves {l l1 : List Jb} {a m b mid lo hi s : Nat} (h1 : Srt l a m) (h2 : Srt l m b) (ham : a < m) (hmb : m < b) (hmid : mid = (a + b) / 2) (hlo : lo = if m > mid then mid + m - b else a) (hhi : hi = if m > mid then mid else m)
    (h : Found l a m b mid lo hi s) (he : ∀ k, gt l1 k = rotF (gt l) s m (mid + m - s) k) :
    a ≤ s ∧ s ≤ m ∧ m ≤ mid + m - s ∧ mid + m - s ≤ b ∧ s ≤ mid ∧ mid ≤ mid + m - s ∧ Srt l1 a s ∧ Srt l1 s mid ∧ Srt l1 mid (mid + m - s) ∧ Srt l1 (mid + m - s) b ∧ (∀ i j, a ≤ i → i < mid → mid ≤ j → j < b → sc l1 i ≤ sc l1 j) := by
  obtain ⟨f1, f2, f3, f4⟩ := h
  have b1 : a ≤ s ∧ s ≤ m ∧ m ≤ mid + m - s ∧ mid + m - s ≤ b ∧ s ≤ mid ∧ mid ≤ mid + m - s := by
    by_cases c : m > mid
    · rw [if_pos c] at hlo hhi; omega
    · rw [if_neg c] at hlo hhi; omega
  obtain ⟨b1, b2, b3, b4, b5, b6⟩ := b1
  have g1 : ∀ k, k < s → sc l1 k = sc l k := fun k hk => by unfold sc; rw [he]; unfold rotF; rw [if_pos hk]
  have g2 : ∀ k, s ≤ k → k < mid → sc l1 k = sc l (k + (m - s)) := fun k hk hk2 => by unfold sc; rw [he]; unfold rotF; rw [if_neg (by omega), if_pos (by omega)]
  have g3 : ∀ k, mid ≤ k → k < mid + m - s → sc l1 k = sc l (k - (mid - s)) := fun k hk hk2 => by
    unfold sc; rw [he]; unfold rotF; rw [if_neg (by omega), if_neg (by omega), if_pos (by omega), show mid + m - s - m = mid - s by omega]
  have g4 : ∀ k, mid + m - s ≤ k → sc l1 k = sc l k := fun k hk => by unfold sc; rw [he]; unfold rotF; rw [if_neg (by omega), if_neg (by omega), if_neg (by omega)]
  refine ⟨b1, b2, b3, b4, b5, b6, ?_, ?_, ?_, ?_, ?_⟩
  · intro i j x1 x2 x3; rw [g1 i (by omega), g1 j x3]; exact h1 _ _ (by omega) (by omega) (by omega)
  · intro i j x1 x2 x3; rw [g2 i (by omega) (by omega), g2 j (by omega) x3]; exact h2 _ _ (by omega) (by omega) (by omega)
  · intro i j x1 x2 x3; rw [g3 i (by omega) (by omega), g3 j (by omega) x3]; exact h1 _ _ (by omega) (by omega) (by omega)
  · intro i j x1 x2 x3; rw [g4 i (by omega), g4 j (by omega)]; exact h2 _ _ (by omega) (by omega) (by omega)
  · intro i j x1 x2 x3 x4
    by_cases ci : i < s
    · rw [g1 i ci]
      by_cases cj : j < mid + m - s
      · rw [g3 j x3 cj]; exact h1 _ _ (by omega) (by omega) (by omega)
      · rw [g4 j (by omega)]
        have hls : lo < s := by
          by_cases c : m > mid
          · rw [if_pos c] at hlo; omega
          · rw [if_neg c] at hlo; omega
        have e1 : sc l i ≤ sc l (s - 1) := h1 _ _ (by omega) (by omega) (by omega)
        have e2 : sc l (mid + m - s) ≤ sc l j := h2 _ _ (by omega) (by omega) (by omega)
        have := f3 hls; omega
    · rw [g2 i (by omega) x2]
      by_cases cj : j < mid + m - s
      · rw [g3 j x3 cj]
        have hsh : s < hi := by
          by_cases c : m > mid
          · rw [if_pos c] at hhi; omega
          · rw [if_neg c] at hhi; omega
        have e1 : sc l (i + (m - s)) ≤ sc l (mid + m - s - 1) := h2 _ _ (by omega) (by omega) (by omega)
        have e2 : sc l s ≤ sc l (j - (mid - s)) := h1 _ _ (by omega) (by omega) (by omega)
        have := f4 hsh; omega
      · rw [g4 j (by omega)]; exact h2 _ _ (by omega) (by omega) (by omega)
/-- each half sorted by itself: all is -/
theorem halves_done {a mid b : Nat} {l1 l2 l3 : List Jb} (ha : a ≤ mid) (hb : mid ≤ b) (r1 : Rg a mid l1 l2) (r2 : Rg mid b l2 l3) (s1 : Srt l2 a mid) (s2 : Srt l3 mid b) (h : ∀ i j, a ≤ i → i < mid → mid ≤ j → j < b → sc l1 i ≤ sc l1 j) : Srt l3 a b := by
  refine Srt.join (s1.same fun k h1 h2 => r2.out k (by omega)) s2 fun i j x1 x2 x3 x4 => ?_
  obtain ⟨i', y1, y2, e1⟩ := r1.ins i x1 x2
  obtain ⟨j', z1, z2, e2⟩ := r2.ins j x3 x4
  have e3 : sc l3 i = sc l1 i' := by unfold sc; rw [r2.out i (by omega), e1]
  have e4 : sc l3 j = sc l1 j' := by unfold sc; rw [e2, r1.out j' (by omega)]
  rw [e3, e4]
  exact h _ _ y1 y2 z1 z2
end PlayC
end Go.Proofs.Ytgplaoojimpbaaa
