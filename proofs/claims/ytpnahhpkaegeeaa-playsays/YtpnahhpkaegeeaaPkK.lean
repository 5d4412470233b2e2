/- Several texts, one behind the other: PlyS SrtM SrtA SrtB SrtC. -/
import Derived.Test.YtpnahhpkaegeeaaPkJ
import Derived.Shelf.RegionOpenPlain
import Derived.Shelf.SlSortCmp.QuietGrown
/- Contracts: cmp.Compare, the comparison of jobs, exchange of two jobs. -/
set_option linter.unusedVariables false
namespace Go.Proofs.Ytpnahhpkaegeeaa
open Go.RowKit hiding tok
open Go.Shelf Go.Sort
open SpanM SpanC PlayM
namespace PlayC
open RowG
def cmpI (x y : Int) : Int := if x < y then -1 else if y < x then 1 else 0
theorem nan_any (x : Int) (w : World) : Calls Try.prog 71 #[.int .i64 x] w fun e w' => e = .returned (.bool false) ∧ w' = w := by
  go_enter Try.func71, Try.ntmps71
  go_wp2
  go_ret
  exact ⟨rfl, rfl⟩
theorem compare_any (x y : Int) (w : World) : Calls Try.prog 48 #[.int .i64 x, .int .i64 y] w fun e w' => e = .returned (.int .i64 (cmpI x y)) ∧ w' = w := by
  unfold cmpI
  by_cases h : x < y
  · rw [if_pos h]
    go_enter Try.func48, Try.ntmps48
    go_wp2_with (go_at_call 71; refine (nan_any _ _).mono ?_; rintro e w' ⟨rfl, hw⟩; replace hw := hw.symm; subst hw)
    go_ret
    exact ⟨rfl, rfl⟩
  · rw [if_neg h]
    by_cases h2 : y < x
    · rw [if_pos h2]
      go_enter Try.func48, Try.ntmps48
      go_wp2_with (go_at_call 71; refine (nan_any _ _).mono ?_; rintro e w' ⟨rfl, hw⟩; replace hw := hw.symm; subst hw)
      go_ret
      exact ⟨rfl, rfl⟩
    · rw [if_neg h2]
      go_enter Try.func48, Try.ntmps48
      go_wp2_with (go_at_call 71; refine (nan_any _ _).mono ?_; rintro e w' ⟨rfl, hw⟩; replace hw := hw.symm; subst hw)
      go_ret
      exact ⟨rfl, rfl⟩
/-- a job as a value -/
def vJ (x : Jb) : Value := .agg #[.int .i64 x.t, .int .i64 x.k, .int .i64 x.c, .int .i64 x.a, .int .i64 x.d, .int .i64 x.f, .int .i64 x.r]
set_option maxRecDepth 20000 in
theorem pcmp_any (x y : Jb) (w : World) : Calls Try.prog 47 #[vJ x, vJ y] w fun e w' => e = .returned (.int .i64 (cmpI x.c y.c)) ∧ ∃ q os, w' = grow (w.drewN q) os := by
  unfold vJ
  go_enter Try.func47, Try.ntmps47
  go_wp2_with (go_at_call 48; refine (compare_any _ _ _).mono ?_; rintro e w' ⟨rfl, hw⟩; replace hw := hw.symm; subst hw)
  go_ret
  exact ⟨rfl, 0, _, by rw [alloc_eq_grow, alloc_eq_grow, grow_grow]; rfl⟩
def zJ : Jb := ⟨0, 0, 0, 0, 0, 0, 0⟩
/-- two of them exchanged -/
def sw (l : List Jb) (i j : Nat) : List Jb := (l.set i (l.getD j zJ)).set j (l.getD i zJ)
theorem sw_len (l : List Jb) (i j : Nat) : (sw l i j).length = l.length := by simp [sw]
theorem getD_at (l : List Jb) (i : Nat) (h : i < l.length) : l.getD i zJ = l[i] := by simp [List.getD, h]
abbrev vS (g n cap : Nat) : Value := .slice (some ⟨g, 0, none⟩) n cap
theorem grown_drew {w w' : World} {r : Option Nat} (h : w.drew.grownBy w' r) : w.grownBy w' r := ⟨h.os, h.tape, h.output, h.size, h.block⟩
/-- what an exchange needs, and leaves -/
theorem sw_ready (K : Nat) (hK : K = 7) {w : World} {B g n cap : Nat} {l : List Jb} (h : OwnJ w B (vS g n cap) l) (i j : Nat) (hi : i < l.length) (hj : j < l.length) :
    ∃ cx cy : List Value, cx.length = K ∧ cy.length = K ∧ Sem.run Try.prog (loadCellsFrom ⟨g, i * K, none⟩ 0 K #[]) w.drew = .ok cx.toArray w.drew ∧ Sem.run Try.prog (loadCellsFrom ⟨g, j * K, none⟩ 0 K #[]) w.drew = .ok cy.toArray w.drew ∧
      Sem.run Try.prog (storeCells ⟨g, i * K, none⟩ cy 0) w.drew = .ok () (w.drew.setCells g (i * K) cy) ∧
      Sem.run Try.prog (storeCells ⟨g, j * K, none⟩ cx 0) (w.drew.setCells g (i * K) cy) = .ok () ((w.drew.setCells g (i * K) cy).setCells g (j * K) cx) ∧
      Hid (OwnJ ((w.drew.setCells g (i * K) cy).setCells g (j * K) cx) B (vS g n cap) (sw l i j) ∧ w.grownBy ((w.drew.setCells g (i * K) cy).setCells g (j * K) cx) (some g)) := by
  subst hK
  have h : OwnJ w.drew B (vS g n cap) l := World.ownsRow.drew h
  refine ⟨EJ.enc l[i], EJ.enc l[j], rfl, rfl, h.load i hi, h.load j hj, h.store i hi _, (h.set i hi l[j]).1.store j (by simpa using hj) _, ?_⟩
  show _ ∧ _
  obtain ⟨h1, g1⟩ := h.set i hi l[j]
  obtain ⟨h2, g2⟩ := h1.set j (by simpa using hj) l[i]
  refine ⟨?_, grown_drew (g1.trans g2)⟩
  unfold sw
  rw [getD_at l i hi, getD_at l j hj]
  exact h2
theorem sizeK (K : Nat) (hK : K = 7) : ∀ w, (Go.sizeOf 83).run Try.prog w = .ok K w := by
  intro w; rw [hK]; exact Try.sizeOf83 w
theorem mixd : Try.prog.follows .mixedOrders = true := by kernel_rfl
set_option maxRecDepth 20000 in
set_option maxHeartbeats 1600000 in
theorem Swap_any (g n cap B i j : Nat) (l : List Jb) (w : World) (h : OwnJ w B (vS g n cap) l) (hn : n = l.length) (hi : i < l.length) (hj : j < l.length) (hl : l.length ≤ 4000) :
    Calls Try.prog 130 #[vS g n cap, .int .i64 i, .int .i64 j] w fun e w' => e = .returned (.tuple #[]) ∧ OwnJ w' B (vS g n cap) (sw l i j) ∧ w.grownBy w' (some g) := by
  subst hn
  obtain ⟨K, hK⟩ : ∃ K : Nat, K = 7 := ⟨7, rfl⟩
  obtain ⟨cx, cy, hx, hy, l1, l2, s1, s2, HO⟩ := sw_ready K hK h i j hi hj
  have z72 := sizeK K hK
  have a72 := Try.isAgg83
  have mixed := mixd
  have i1 : (i : Int) < (l.length : Int) := by omega
  have j1 : (j : Int) < (l.length : Int) := by omega
  clear h hi hj hK
  generalize hn : l.length = n at *
  go_enter Try.func130, Try.ntmps130
  go_wp2_with fail
  go_big_region_o
  all_goals go_wp2
  go_end0
  exact ⟨rfl, HO.out⟩
end PlayC
end Go.Proofs.Ytpnahhpkaegeeaa

/- Plain: rotations and merges by index functions. -/
set_option linter.unusedVariables false
namespace Go.Proofs.Ytpnahhpkaegeeaa
namespace PlayC
/-- the job at an index -/
def gt (l : List Jb) (k : Nat) : Jb := l.getD k zJ
def sc (l : List Jb) (k : Nat) : Int := (gt l k).c
theorem gt_sw (l : List Jb) (i j k : Nat) (hi : i < l.length) (hj : j < l.length) : gt (sw l i j) k = if k = i then gt l j else if k = j then gt l i else gt l k := by
  unfold gt sw
  simp only [List.getD_eq_getElem?_getD, List.getElem?_set, List.length_set]
  by_cases h1 : j = k
  · subst h1
    by_cases h2 : j = i
    · subst h2; simp [hj]
    · simp [hj, h2]
  · have h1' : k ≠ j := fun h => h1 h.symm
    by_cases h2 : i = k
    · subst h2; simp [h1, hi]
    · have h2' : k ≠ i := fun h => h2 h.symm
      simp [h1, h2, h1', h2']
theorem sw_perm (l : List Jb) (i j : Nat) (hi : i < l.length) (hj : j < l.length) : (sw l i j).Perm l := by
  unfold sw
  rw [getD_at l i hi, getD_at l j hj]
  exact List.set_set_perm hi hj
/-- rotation, by the index: what stood from m to b stands at a, what stood from a to m behind it -/
def rotF (f : Nat → Jb) (a m b k : Nat) : Jb := if k < a then f k else if k < a + (b - m) then f (k + (m - a)) else if k < b then f (k - (b - m)) else f k
/-- two ranges exchanged -/
def swF (f : Nat → Jb) (a b n k : Nat) : Jb := if a ≤ k ∧ k < a + n then f (k + (b - a)) else if b ≤ k ∧ k < b + n then f (k - (b - a)) else f k
theorem swF_zero (f : Nat → Jb) (a b k : Nat) : swF f a b 0 k = f k := by
  unfold swF
  (repeat' split) <;> first | rfl | (congr 1; omega) | (exfalso; omega)
theorem swF_succ (f : Nat → Jb) (a b n : Nat) (h : a + (n + 1) ≤ b) (k : Nat) : swF f a b (n + 1) k = if k = a + n then swF f a b n (b + n) else if k = b + n then swF f a b n (a + n) else swF f a b n k := by
  unfold swF
  (repeat' split) <;> first | rfl | (congr 1; omega) | (exfalso; omega)
theorem rot_gt (f : Nat → Jb) (m i j k : Nat) (hj : 0 < j) (h : j < i) (hm : i ≤ m) : rotF (swF f (m - i) m j) (m - (i - j)) m (m + j) k = rotF f (m - i) m (m + j) k := by
  unfold rotF swF
  (repeat' split) <;> first | rfl | (congr 1; omega) | (exfalso; omega)
theorem rot_lt (f : Nat → Jb) (m i j k : Nat) (hi : 0 < i) (h : i < j) (hm : i ≤ m) : rotF (swF f (m - i) (m + j - i) i) (m - i) m (m + (j - i)) k = rotF f (m - i) m (m + j) k := by
  unfold rotF swF
  (repeat' split) <;> first | rfl | (congr 1; omega) | (exfalso; omega)
theorem rot_eq (f : Nat → Jb) (m i k : Nat) (hm : i ≤ m) : swF f (m - i) m i k = rotF f (m - i) m (m + i) k := by
  unfold rotF swF
  (repeat' split) <;> first | rfl | (congr 1; omega) | (exfalso; omega)
theorem rot_id1 (f : Nat → Jb) (m b k : Nat) : rotF f m m b k = f k := by
  unfold rotF
  (repeat' split) <;> first | rfl | (congr 1; omega) | (exfalso; omega)
theorem rot_id2 (f : Nat → Jb) (a m k : Nat) (h : a ≤ m) : rotF f a m m k = f k := by
  unfold rotF
  (repeat' split) <;> first | rfl | (congr 1; omega) | (exfalso; omega)
/-- one up -/
theorem rot_up (f : Nat → Jb) (a x k : Nat) (h : a ≤ x) : rotF f a (a + 1) (x + 2) k = if k = x then rotF f a (a + 1) (x + 1) (x + 1) else if k = x + 1 then rotF f a (a + 1) (x + 1) x else rotF f a (a + 1) (x + 1) k := by
  unfold rotF
  (repeat' split) <;> first | rfl | (congr 1; omega) | (exfalso; omega)
/-- one down -/
theorem rot_down (f : Nat → Jb) (x m k : Nat) (h : x < m) : rotF f x m (m + 1) k = if k = x + 1 then rotF f (x + 1) m (m + 1) x else if k = x then rotF f (x + 1) m (m + 1) (x + 1) else rotF f (x + 1) m (m + 1) k := by
  unfold rotF
  (repeat' split) <;> first | rfl | (congr 1; omega) | (exfalso; omega)
/-- sorted by when they come, from a to b -/
def Srt (l : List Jb) (a b : Nat) : Prop := ∀ i j, a ≤ i → i ≤ j → j < b → sc l i ≤ sc l j
/-- within a and b some were put in other places, and no other -/
structure Rg (a b : Nat) (l l' : List Jb) : Prop where
  len : l'.length = l.length
  perm : l'.Perm l
  out : ∀ k, k < a ∨ b ≤ k → gt l' k = gt l k
  ins : ∀ k, a ≤ k → k < b → ∃ k', a ≤ k' ∧ k' < b ∧ gt l' k = gt l k'
theorem Rg.refl (a b : Nat) (l : List Jb) : Rg a b l l := ⟨rfl, .refl _, fun _ _ => rfl, fun k h1 h2 => ⟨k, h1, h2, rfl⟩⟩
theorem Rg.trans {a b : Nat} {l l' l'' : List Jb} (h : Rg a b l l') (h' : Rg a b l' l'') : Rg a b l l'' :=
  ⟨h'.len.trans h.len, h'.perm.trans h.perm, fun k hk => (h'.out k hk).trans (h.out k hk), fun k h1 h2 => by
    obtain ⟨k1, a1, b1, e1⟩ := h'.ins k h1 h2
    obtain ⟨k2, a2, b2, e2⟩ := h.ins k1 a1 b1
    exact ⟨k2, a2, b2, e1.trans e2⟩⟩
theorem Rg.wide {a b c d : Nat} {l l' : List Jb} (h : Rg a b l l') (h1 : c ≤ a) (h2 : b ≤ d) : Rg c d l l' :=
  ⟨h.len, h.perm, fun k hk => h.out k (by omega), fun k k1 k2 => by
    by_cases hk : a ≤ k ∧ k < b
    · obtain ⟨k', x, y, e⟩ := h.ins k hk.1 hk.2
      exact ⟨k', by omega, by omega, e⟩
    · exact ⟨k, k1, k2, h.out k (by omega)⟩⟩
theorem Rg.sw {a b i j : Nat} {l : List Jb} (hi : i < l.length) (hj : j < l.length) (h1 : a ≤ i) (h2 : i < b) (h3 : a ≤ j) (h4 : j < b) : Rg a b l (sw l i j) :=
  ⟨sw_len l i j, sw_perm l i j hi hj, fun k hk => by rw [gt_sw l i j k hi hj, if_neg (by omega), if_neg (by omega)], fun k k1 k2 => by
    rw [gt_sw l i j k hi hj]
    by_cases e1 : k = i
    · exact ⟨j, h3, h4, by rw [if_pos e1]⟩
    · by_cases e2 : k = j
      · exact ⟨i, h1, h2, by rw [if_neg e1, if_pos e2]⟩
      · exact ⟨k, k1, k2, by rw [if_neg e1, if_neg e2]⟩⟩
theorem Srt.same {a b : Nat} {l l' : List Jb} (h : Srt l a b) (he : ∀ k, a ≤ k → k < b → gt l' k = gt l k) : Srt l' a b := by
  intro i j h1 h2 h3
  unfold sc
  rw [he i h1 (by omega), he j (by omega) h3]
  exact h i j h1 h2 h3
/-- two sorted parts, all of the first no greater than all of the second -/
theorem Srt.join {a m b : Nat} {l : List Jb} (h1 : Srt l a m) (h2 : Srt l m b) (h : ∀ i j, a ≤ i → i < m → m ≤ j → j < b → sc l i ≤ sc l j) : Srt l a b := by
  intro i j a1 a2 a3
  by_cases c1 : j < m
  · exact h1 i j a1 a2 c1
  · by_cases c2 : i < m
    · exact h i j a1 c2 (by omega) a3
    · exact h2 i j (by omega) a2 a3
/-- one put in its place from below -/
theorem ins_low {a i b : Nat} {l l' : List Jb} (hai : a < i) (hib : i ≤ b) (hs : Srt l (a + 1) b) (he : ∀ k, gt l' k = rotF (gt l) a (a + 1) i k) (h1 : a + 1 < i → sc l (i - 1) ≤ sc l a) (h2 : i < b → sc l a ≤ sc l i) : Srt l' a b := by
  intro x y a1 a2 a3
  unfold sc at *
  rw [he x, he y]
  unfold rotF
  by_cases cx : x < i - 1
  · rw [if_neg (by omega), if_pos (by omega)]
    by_cases cy : y < i - 1
    · rw [if_neg (by omega), if_pos (by omega)]
      exact hs _ _ (by omega) (by omega) (by omega)
    · have t1 : (gt l (x + (a + 1 - a))).c ≤ (gt l (i - 1)).c := hs _ _ (by omega) (by omega) (by omega)
      by_cases cy2 : y < i
      · rw [if_neg (by omega), if_neg (by omega), if_pos (by omega), show y - (i - (a + 1)) = a by omega]
        have := h1 (by omega); omega
      · rw [if_neg (by omega), if_neg (by omega), if_neg (by omega)]
        exact hs _ _ (by omega) (by omega) (by omega)
  · by_cases cx2 : x < i
    · rw [if_neg (by omega), if_neg (by omega), if_pos (by omega), show x - (i - (a + 1)) = a by omega]
      by_cases cy2 : y < i
      · rw [if_neg (by omega), if_neg (by omega), if_pos (by omega), show y - (i - (a + 1)) = a by omega]; exact Int.le_refl _
      · rw [if_neg (by omega), if_neg (by omega), if_neg (by omega)]
        have t1 : (gt l i).c ≤ (gt l y).c := hs _ _ (by omega) (by omega) (by omega)
        have := h2 (by omega); omega
    · rw [if_neg (by omega), if_neg (by omega), if_neg (by omega), if_neg (by omega), if_neg (by omega), if_neg (by omega)]
      exact hs _ _ (by omega) (by omega) (by omega)
/-- one put in its place from above -/
theorem ins_high {a i m : Nat} {l l' : List Jb} (hai : a ≤ i) (him : i ≤ m) (hs : Srt l a m) (he : ∀ k, gt l' k = rotF (gt l) i m (m + 1) k) (h1 : a < i → sc l (i - 1) ≤ sc l m) (h2 : i < m → sc l m ≤ sc l i) : Srt l' a (m + 1) := by
  intro x y a1 a2 a3
  unfold sc at *
  rw [he x, he y]
  unfold rotF
  by_cases cx : x < i
  · rw [if_pos cx]
    by_cases cy : y < i
    · rw [if_pos cy]; exact hs _ _ (by omega) (by omega) (by omega)
    · have t1 : (gt l x).c ≤ (gt l (i - 1)).c := hs _ _ (by omega) (by omega) (by omega)
      by_cases cy2 : y = i
      · rw [if_neg (by omega), if_pos (by omega), show y + (m - i) = m by omega]
        have := h1 (by omega); omega
      · rw [if_neg (by omega), if_neg (by omega), if_pos (by omega)]
        exact hs _ _ (by omega) (by omega) (by omega)
  · by_cases cx2 : x = i
    · rw [if_neg (by omega), if_pos (by omega), show x + (m - i) = m by omega]
      by_cases cy2 : y = i
      · rw [if_neg (by omega), if_pos (by omega), show y + (m - i) = m by omega]; exact Int.le_refl _
      · rw [if_neg (by omega), if_neg (by omega), if_pos (by omega)]
        have t1 : (gt l i).c ≤ (gt l (y - (m + 1 - m))).c := hs _ _ (by omega) (by omega) (by omega)
        have := h2 (by omega); omega
    · rw [if_neg (by omega), if_neg (by omega), if_pos (by omega), if_neg (by omega), if_neg (by omega), if_pos (by omega)]
      exact hs _ _ (by omega) (by omega) (by omega)
/-- where the halves are to be exchanged: what is known behind the search -/
structure Found (l : List Jb) (a m b mid lo hi s : Nat) : Prop where
  low : lo ≤ s
  high : s ≤ hi
  up : lo < s → sc l (s - 1) ≤ sc l (mid + m - s)
  dn : s < hi → sc l (mid + m - s - 1) ≤ sc l s
/-- the halves behind the exchange -/
theorem halves {l l1 : List Jb} {a m b mid lo hi s : Nat} (h1 : Srt l a m) (h2 : Srt l m b) (ham : a < m) (hmb : m < b) (hmid : mid = (a + b) / 2) (hlo : lo = if m > mid then mid + m - b else a) (hhi : hi = if m > mid then mid else m)
    (h : Found l a m b mid lo hi s) (he : ∀ k, gt l1 k = rotF (gt l) s m (mid + m - s) k) :
    a ≤ s ∧ s ≤ m ∧ m ≤ mid + m - s ∧ mid + m - s ≤ b ∧ s ≤ mid ∧ mid ≤ mid + m - s ∧ Srt l1 a s ∧ Srt l1 s mid ∧ Srt l1 mid (mid + m - s) ∧ Srt l1 (mid + m - s) b ∧ (∀ i j, a ≤ i → i < mid → mid ≤ j → j < b → sc l1 i ≤ sc l1 j) := by
  obtain ⟨f1, f2, f3, f4⟩ := h
  have b1 : a ≤ s ∧ s ≤ m ∧ m ≤ mid + m - s ∧ mid + m - s ≤ b ∧ s ≤ mid ∧ mid ≤ mid + m - s := by
    by_cases c : m > mid
    · rw [if_pos c] at hlo hhi; omega
    · rw [if_neg c] at hlo hhi; omega
  obtain ⟨b1, b2, b3, b4, b5, b6⟩ := b1
  have g1 : ∀ k, k < s → sc l1 k = sc l k := fun k hk => by unfold sc; rw [he]; unfold rotF; rw [if_pos hk]
  have g2 : ∀ k, s ≤ k → k < mid → sc l1 k = sc l (k + (m - s)) := fun k hk hk2 => by unfold sc; rw [he]; unfold rotF; rw [if_neg (by omega), if_pos (by omega)]
  have g3 : ∀ k, mid ≤ k → k < mid + m - s → sc l1 k = sc l (k - (mid - s)) := fun k hk hk2 => by
    unfold sc; rw [he]; unfold rotF; rw [if_neg (by omega), if_neg (by omega), if_pos (by omega), show mid + m - s - m = mid - s by omega]
  have g4 : ∀ k, mid + m - s ≤ k → sc l1 k = sc l k := fun k hk => by unfold sc; rw [he]; unfold rotF; rw [if_neg (by omega), if_neg (by omega), if_neg (by omega)]
  refine ⟨b1, b2, b3, b4, b5, b6, ?_, ?_, ?_, ?_, ?_⟩
  · intro i j x1 x2 x3; rw [g1 i (by omega), g1 j x3]; exact h1 _ _ (by omega) (by omega) (by omega)
  · intro i j x1 x2 x3; rw [g2 i (by omega) (by omega), g2 j (by omega) x3]; exact h2 _ _ (by omega) (by omega) (by omega)
  · intro i j x1 x2 x3; rw [g3 i (by omega) (by omega), g3 j (by omega) x3]; exact h1 _ _ (by omega) (by omega) (by omega)
  · intro i j x1 x2 x3; rw [g4 i (by omega), g4 j (by omega)]; exact h2 _ _ (by omega) (by omega) (by omega)
  · intro i j x1 x2 x3 x4
    by_cases ci : i < s
    · rw [g1 i ci]
      by_cases cj : j < mid + m - s
      · rw [g3 j x3 cj]; exact h1 _ _ (by omega) (by omega) (by omega)
      · rw [g4 j (by omega)]
        have hls : lo < s := by
          by_cases c : m > mid
          · rw [if_pos c] at hlo; omega
          · rw [if_neg c] at hlo; omega
        have e1 : sc l i ≤ sc l (s - 1) := h1 _ _ (by omega) (by omega) (by omega)
        have e2 : sc l (mid + m - s) ≤ sc l j := h2 _ _ (by omega) (by omega) (by omega)
        have := f3 hls; omega
    · rw [g2 i (by omega) x2]
      by_cases cj : j < mid + m - s
      · rw [g3 j x3 cj]
        have hsh : s < hi := by
          by_cases c : m > mid
          · rw [if_pos c] at hhi; omega
          · rw [if_neg c] at hhi; omega
        have e1 : sc l (i + (m - s)) ≤ sc l (mid + m - s - 1) := h2 _ _ (by omega) (by omega) (by omega)
        have e2 : sc l s ≤ sc l (j - (mid - s)) := h1 _ _ (by omega) (by omega) (by omega)
        have := f4 hsh; omega
      · rw [g4 j (by omega)]; exact h2 _ _ (by omega) (by omega) (by omega)
/-- each half sorted by itself: all is -/
theorem halves_done {a mid b : Nat} {l1 l2 l3 : List Jb} (ha : a ≤ mid) (hb : mid ≤ b) (r1 : Rg a mid l1 l2) (r2 : Rg mid b l2 l3) (s1 : Srt l2 a mid) (s2 : Srt l3 mid b) (h : ∀ i j, a ≤ i → i < mid → mid ≤ j → j < b → sc l1 i ≤ sc l1 j) : Srt l3 a b := by
  refine Srt.join (s1.same fun k h1 h2 => r2.out k (by omega)) s2 fun i j x1 x2 x3 x4 => ?_
  obtain ⟨i', y1, y2, e1⟩ := r1.ins i x1 x2
  obtain ⟨j', z1, z2, e2⟩ := r2.ins j x3 x4
  have e3 : sc l3 i = sc l1 i' := by unfold sc; rw [r2.out i (by omega), e1]
  have e4 : sc l3 j = sc l1 j' := by unfold sc; rw [e2, r1.out j' (by omega)]
  rw [e3, e4]
  exact h _ _ y1 y2 z1 z2
end PlayC
end Go.Proofs.Ytpnahhpkaegeeaa

/- Contracts: swapRangeCmpFunc, rotateCmpFunc of jobs. -/
set_option linter.unusedVariables false
namespace Go.Proofs.Ytpnahhpkaegeeaa
open Go.RowKit hiding tok
open Go.Shelf Go.Sort
open SpanM SpanC PlayM
namespace PlayC
open RowG
theorem grown_refl (w : World) (r : Option Nat) : w.grownBy w r := ⟨rfl, rfl, rfl, Nat.le_refl _, fun _ _ _ => rfl⟩
set_option maxRecDepth 20000 in
set_option maxHeartbeats 1600000 in
theorem swapRange_any (g n cap B a b k : Nat) (cv : Value) (l : List Jb) (w : World) (h : OwnJ w B (vS g n cap) l) (hn : n = l.length) (hab : a + k ≤ b) (hb : b + k ≤ l.length) (hl : l.length ≤ 4000) :
    Calls Try.prog 109 #[vS g n cap, .int .i64 a, .int .i64 b, .int .i64 k, cv] w fun e w' => e = .returned (.tuple #[]) ∧ ∃ l', OwnJ w' B (vS g n cap) l' ∧ w.grownBy w' (some g) ∧ Rg a (b + k) l l' ∧ (∀ x, gt l' x = swF (gt l) a b k x) := by
  obtain ⟨K, hK⟩ : ∃ K : Nat, K = 7 := ⟨7, rfl⟩
  have z72 := sizeK K hK
  have a72 := Try.isAgg83
  have mixed := mixd
  have HK := hid hK
  have HO := hid h
  have HN := hid hn
  have hnl : n ≤ 4000 := by omega
  have hbn : b + k ≤ n := by omega
  clear h hK hn hb hl
  go_enter Try.func109, Try.ntmps109
  go_wp2_with fail
  go_loopw [10] (fun vi wr => ∃ (i : Nat) (li : List Jb), i ≤ k ∧ vi = .int .i64 i ∧ OwnJ wr B (vS g n cap) li ∧ w.grownBy wr (some g) ∧ Rg a (b + k) l li ∧ (∀ x, gt li x = swF (gt l) a b i x)) (fun vi _ => k - (intOf vi).toNat)
  case atStart => exact ⟨0, l, by omega, rfl, HO.out, grown_refl _ _, Rg.refl _ _ _, fun x => (swF_zero _ _ _ _).symm⟩
  case round =>
    obtain ⟨i, li, hi, rfl, ho, hg, hr, hx⟩ := hrel
    have HO1 := hid ho
    have HG1 := hid hg
    have HR1 := hid hr
    have HX1 := hid hx
    have hli : li.length = n := by rw [hr.len, HN.out]
    clear ho hg hr hx
    by_cases hlt : i < k
    · obtain ⟨p, hp⟩ : ∃ p : Nat, p = a + i := ⟨_, rfl⟩
      obtain ⟨q, hq⟩ : ∃ p : Nat, p = b + i := ⟨_, rfl⟩
      obtain ⟨cx, cy, hcx, hcy, l1, l2, s1, s2, HS⟩ := sw_ready K HK.out HO1.out p q (by omega) (by omega)
      have HE : Hid (∀ x, gt (sw li p q) x = swF (gt l) a b (i + 1) x) := by
        show ∀ x, _
        intro x
        rw [gt_sw li p q x (by omega) (by omega), swF_succ _ _ _ _ (by omega), HX1.out, HX1.out, HX1.out, hp, hq]
      have HR2 : Hid (Rg a (b + k) l (sw li p q)) := HR1.out.trans (Rg.sw (by omega) (by omega) (by omega) (by omega) (by omega) (by omega))
      have e1 : ((a : Int) + (i : Int)).toNat = p := by omega
      have e2 : ((b : Int) + (i : Int)).toNat = q := by omega
      have i1 : (0 : Int) ≤ (a : Int) + (i : Int) := by omega
      have j1 : (0 : Int) ≤ (b : Int) + (i : Int) := by omega
      have i2 : (a : Int) + (i : Int) < (n : Int) := by omega
      have j2 : (b : Int) + (i : Int) < (n : Int) := by omega
      clear hp hq hli
      go_wp2_with fail
      go_big_region_o
      all_goals go_wp2
      go_roundw
      case rel => exact ⟨i + 1, _, by omega, by go_num, HS.out.1, HG1.out.trans HS.out.2, HR2.out, HE.out⟩
      case measure => simp [intOf]; omega
    · obtain rfl : i = k := by omega
      go_wp2_with fail
      go_end0
      exact ⟨rfl, li, HO1.out, HG1.out, HR1.out, HX1.out⟩
theorem rotF_ext {f f' : Nat → Jb} (h : ∀ x, f x = f' x) (a m b k : Nat) : rotF f a m b k = rotF f' a m b k := by
  rw [show f = f' from funext h]
set_option maxRecDepth 20000 in
set_option maxHeartbeats 1600000 in
theorem rotate_any (g n cap B a m b : Nat) (cv : Value) (l : List Jb) (w : World) (h : OwnJ w B (vS g n cap) l) (hn : n = l.length) (ham : a < m) (hmb : m < b) (hb : b ≤ l.length) (hl : l.length ≤ 4000) :
    Calls Try.prog 101 #[vS g n cap, .int .i64 a, .int .i64 m, .int .i64 b, cv] w fun e w' => e = .returned (.tuple #[]) ∧ ∃ l', OwnJ w' B (vS g n cap) l' ∧ w.grownBy w' (some g) ∧ Rg a b l l' ∧ (∀ x, gt l' x = rotF (gt l) a m b x) := by
  have HO := hid h
  have HN := hid hn
  have hnl : n ≤ 4000 := by omega
  have hbn : b ≤ n := by omega
  clear h hn hb hl
  go_enter Try.func101, Try.ntmps101
  go_wp2_with fail
  go_loopw [10, 11] (fun vi vj wr => ∃ (i j : Nat) (li : List Jb), 0 < i ∧ 0 < j ∧ i + a ≤ m ∧ m + j ≤ b ∧ vi = .int .i64 i ∧ vj = .int .i64 j ∧ OwnJ wr B (vS g n cap) li ∧ w.grownBy wr (some g) ∧ Rg a b l li ∧ (∀ x, rotF (gt li) (m - i) m (m + j) x = rotF (gt l) a m b x)) (fun vi vj _ => (intOf vi).toNat + (intOf vj).toNat)
  case atStart => exact ⟨m - a, b - m, l, by omega, by omega, by omega, by omega, by go_num, by go_num, HO.out, grown_refl _ _, Rg.refl _ _ _, fun x => by rw [show m - (m - a) = a by omega, show m + (b - m) = b by omega]⟩
  case round =>
    obtain ⟨i, j, li, hi, hj, him, hjb, rfl, rfl, ho, hg, hr, hx⟩ := hrel
    have HO1 := hid ho
    have HG1 := hid hg
    have HR1 := hid hr
    have HX1 := hid hx
    have hli : li.length = n := by rw [hr.len, HN.out]
    clear ho hg hr hx
    have e1 : (m : Int) - (i : Int) = ((m - i : Nat) : Int) := by omega
    have w1 : IntKind.i64.wrap ((m : Int) - (i : Int)) = ((m - i : Nat) : Int) := by rw [IntKind.wrap_i64]; omega
    by_cases heq : i = j
    · subst heq
      have hne : ((i : Int) != (i : Int)) = false := by simp
      have HC := hid (swapRange_any g n cap B (m - i) m i cv li wr HO1.out hli.symm (by omega) (by omega) (by omega))
      generalize hA : m - i = A at *
      go_wp2_with (first | (go_at_call 109; refine HC.out.mono ?_; rintro e w1 ⟨rfl, l', ho, hg, hr, hx⟩))
      go_end0
      refine ⟨rfl, l', ho, HG1.out.trans hg, HR1.out.trans (hr.wide (by omega) (by omega)), fun x => ?_⟩
      rw [hx, ← HX1.out x, ← hA, rot_eq _ _ _ _ (by omega)]
    · have hne : ((i : Int) != (j : Int)) = true := by simp; omega
      by_cases hgt : j < i
      · have HC := hid (swapRange_any g n cap B (m - i) m j cv li wr HO1.out hli.symm (by omega) (by omega) (by omega))
        generalize hA : m - i = A at *
        have e3 : (i : Int) - (j : Int) = ((i - j : Nat) : Int) := by omega
        go_wp2_with (first | (go_at_call 109; refine HC.out.mono ?_; rintro e w1 ⟨rfl, l', ho, hg, hr, hx⟩; have HO2 := hid ho; have HG2 := hid hg; have HR2 := hid hr; have HX2 := hid hx; clear ho hg hr hx))
        go_roundw
        case rel => exact ⟨i - j, j, l', by omega, by omega, by omega, by omega, by go_num, rfl, HO2.out, HG1.out.trans HG2.out, HR1.out.trans (HR2.out.wide (by omega) (by omega)), fun x => by rw [rotF_ext HX2.out, ← hA, rot_gt _ _ _ _ _ hj hgt (by omega), hA, HX1.out]⟩
        case measure => simp [intOf]; omega
      · have HC := hid (swapRange_any g n cap B (m - i) (m + j - i) i cv li wr HO1.out hli.symm (by omega) (by omega) (by omega))
        have w2 : IntKind.i64.wrap ((m : Int) + (j : Int) - (i : Int)) = ((m + j - i : Nat) : Int) := by rw [IntKind.wrap_i64]; omega
        have e2 : (m : Int) + (j : Int) - (i : Int) = ((m + j - i : Nat) : Int) := by omega
        generalize hA : m - i = A at *
        generalize hA2 : m + j - i = A2 at *
        go_wp2_with (first | (go_at_call 109; refine HC.out.mono ?_; rintro e w1 ⟨rfl, l', ho, hg, hr, hx⟩; have HO2 := hid ho; have HG2 := hid hg; have HR2 := hid hr; have HX2 := hid hx; clear ho hg hr hx))
        go_roundw
        case rel => exact ⟨i, j - i, l', by omega, by omega, by omega, by omega, rfl, by go_num, HO2.out, HG1.out.trans HG2.out, HR1.out.trans (HR2.out.wide (by omega) (by omega)), fun x => by rw [rotF_ext HX2.out, ← hA, ← hA2, rot_lt _ _ _ _ _ hi (by omega) (by omega), hA, HX1.out]⟩
        case measure => simp [intOf]; omega
end PlayC
end Go.Proofs.Ytpnahhpkaegeeaa

/- Contracts: insertionSortCmpFunc of jobs. -/
set_option linter.unusedVariables false
namespace Go.Proofs.Ytpnahhpkaegeeaa
open Go.RowKit hiding tok
open Go.Shelf Go.Sort
open SpanM SpanC PlayM
namespace PlayC
open RowG
abbrev vC : Value := .func (.func 47) #[] #[]
theorem grown_grow (w : World) (n : Nat) (os : Array Obj) (r : Option Nat) : w.grownBy (grow (w.drewN n) os) r :=
  ⟨rfl, rfl, rfl, by rw [size_grow]; exact Nat.le_add_right _ _, fun k hk _ => by
    rw [heap_grow_old _ _ (by exact hk)]; rfl⟩
theorem own_grow {w : World} {B g n cap : Nat} {l : List Jb} (h : OwnJ w B (vS g n cap) l) (m : Nat) (os : Array Obj) : OwnJ (grow (w.drewN m) os) B (vS g n cap) l :=
  h.kept (grown_grow w m os none) (.inr (by simp [Value.ownBlock]))
theorem cmp_ready (K : Nat) (hK : K = 7) {w : World} {B g n cap : Nat} {l : List Jb} (h : OwnJ w B (vS g n cap) l) (p q : Nat) (hp : p < l.length) (hq : q < l.length) :
    ∃ (cx cy : List Value) (c : Int), cx.length = K ∧ cy.length = K ∧ Hid (c < 0 ↔ sc l p < sc l q) ∧
      (∀ m os, Sem.run Try.prog (loadCellsFrom ⟨g, p * K, none⟩ 0 K #[]) (grow (w.drewN m) os) = .ok cx.toArray (grow (w.drewN m) os)) ∧
      (∀ m os, Sem.run Try.prog (loadCellsFrom ⟨g, q * K, none⟩ 0 K #[]) (grow (w.drewN m) os) = .ok cy.toArray (grow (w.drewN m) os)) ∧
      (∀ m os, Calls Try.prog 47 #[.agg cx.toArray, .agg cy.toArray] (grow (w.drewN m) os) fun e w' => e = .returned (.int .i64 c) ∧ ∃ q' os', w' = grow ((grow (w.drewN m) os).drewN q') os') := by
  subst hK
  refine ⟨EJ.enc l[p], EJ.enc l[q], cmpI l[p].c l[q].c, rfl, rfl, ?_, fun m os => (own_grow h m os).load p hp, fun m os => (own_grow h m os).load q hq, fun m os => pcmp_any l[p] l[q] _⟩
  show _ ↔ _
  unfold sc gt
  rw [getD_at l p hp, getD_at l q hq]
  unfold cmpI
  (repeat' split) <;> omega
set_option maxRecDepth 20000 in
set_option maxHeartbeats 3200000 in
theorem insertion_any (g n cap B a b : Nat) (l : List Jb) (w : World) (h : OwnJ w B (vS g n cap) l) (hn : n = l.length) (hab : a ≤ b) (hb : b ≤ l.length) (hl : l.length ≤ 4000) :
    Calls Try.prog 88 #[vS g n cap, .int .i64 a, .int .i64 b, vC] w fun e w' => e = .returned (.tuple #[]) ∧ ∃ l', OwnJ w' B (vS g n cap) l' ∧ w.grownBy w' (some g) ∧ Rg a b l l' ∧ Srt l' a b := by
  obtain ⟨K, hK⟩ : ∃ K : Nat, K = 7 := ⟨7, rfl⟩
  have z72 := sizeK K hK
  have a72 := Try.isAgg83
  have mixed := mixd
  have HK := hid hK
  have HO := hid h
  have HN := hid hn
  have hnl : n ≤ 4000 := by omega
  have hbn : b ≤ n := by omega
  clear h hK hn hb hl
  go_enter Try.func88, Try.ntmps88
  go_wp2_with fail
  go_loopw [8] (fun vi wr => ∃ (i : Nat) (li : List Jb), a < i ∧ i ≤ b + 1 ∧ (i ≤ b ∨ i = a + 1) ∧ vi = .int .i64 i ∧ OwnJ wr B (vS g n cap) li ∧ w.grownBy wr (some g) ∧ Rg a b l li ∧ Srt li a i) (fun vi _ => b + 1 - (intOf vi).toNat)
  case atStart => exact ⟨a + 1, l, by omega, by omega, .inr rfl, by go_num, HO.out, grown_refl _ _, Rg.refl _ _ _, fun x y h1 h2 h3 => by rw [show x = y by omega]; exact Int.le_refl _⟩
  case round =>
    obtain ⟨i, li, hai, hib, hib2, rfl, ho, hg, hr, hs⟩ := hrel
    have HO1 := hid ho
    have HG1 := hid hg
    have HR1 := hid hr
    have HS1 := hid hs
    have HLI := hid (show li.length = n by rw [hr.len, HN.out])
    clear ho hg hr hs
    by_cases hlt : i < b
    · go_wp2_with fail
      obtain ⟨w0, hw0⟩ : ∃ x, x = wr := ⟨_, rfl⟩
      subst hw0
      go_loopw [9] (fun vj wr => ∃ (j : Nat) (lj : List Jb), a ≤ j ∧ j ≤ i ∧ vj = .int .i64 j ∧ OwnJ wr B (vS g n cap) lj ∧ w.grownBy wr (some g) ∧ Rg a b l lj ∧ (∀ x, gt lj x = rotF (gt li) j i (i + 1) x) ∧ (j < i → sc li i ≤ sc li j)) (fun vj _ => (intOf vj).toNat)
      case atStart => exact ⟨i, li, by omega, by omega, rfl, HO1.out, HG1.out, HR1.out, fun x => (rot_id1 _ _ _ _).symm, by omega⟩
      case round =>
        obtain ⟨j, lj, haj, hji, rfl, ho, hg, hr, hx, hc⟩ := hrel
        have HO2 := hid ho
        have HG2 := hid hg
        have HR2 := hid hr
        have HX2 := hid hx
        have HC2 := hid hc
        have hlj : lj.length = n := by rw [hr.len, HN.out]
        clear ho hg hr hx hc
        by_cases hja : a < j
        · obtain ⟨p, rfl⟩ : ∃ p, j = p + 1 := ⟨j - 1, by omega⟩
          obtain ⟨cx, cy, c, hcx, hcy, HCI, l1, l2, hcm⟩ := cmp_ready K HK.out HO2.out (p + 1) p (by omega) (by omega)
          have v1 : sc lj (p + 1) = sc li i := by
            unfold sc; rw [HX2.out]; unfold rotF; rw [if_neg (by omega), if_pos (by omega), show p + 1 + (i - (p + 1)) = i by omega]
          have v2 : sc lj p = sc li p := by
            unfold sc; rw [HX2.out]; unfold rotF; rw [if_pos (by omega)]
          rw [v1, v2] at HCI
          clear v1 v2
          have i1 : (0 : Int) ≤ (p : Int) + 1 := by omega
          have i2 : (p : Int) + 1 < (n : Int) := by omega
          have i3 : (p : Int) < (n : Int) := by omega
          have e0 : ((p : Int) + 1).toNat = p + 1 := by omega
          have hwp : IntKind.i64.wrap (p : Int) = (p : Int) := by rw [IntKind.wrap_i64]; omega
          have hja2 : (a : Int) < (p : Int) + 1 := by omega
          have HLJ := hid hlj
          clear hlj
          by_cases hlv : c < 0
          · go_wp2_with fail
            go_quiet_grown (first | (go_at_call 47; refine Calls.grown_of (hcm _ _)))
            go_wp2_with fail
            have HO3 := hid (own_grow HO2.out nq osq)
            have HG3 := hid (grown_grow wr nq osq (some g))
            generalize grow (wr.drewN nq) osq = w3 at *
            clear l1 l2 hcm
            obtain ⟨dx, dy, hdx, hdy, l1, l2, s1, s2, HS⟩ := sw_ready K HK.out HO3.out (p + 1) p (by have := HLJ.out; omega) (by have := HLJ.out; omega)
            go_big_region_o
            all_goals go_wp2
            go_roundw
            case rel =>
              have h5 := HLJ.out
              refine ⟨p, sw lj (p + 1) p, by omega, by omega, by go_num, HS.out.1, (HG2.out.trans HG3.out).trans HS.out.2, HR2.out.trans (Rg.sw (by omega) (by omega) (by omega) (by omega) (by omega) (by omega)), fun x => ?_, fun _ => by have := HCI.out.1 hlv; omega⟩
              rw [gt_sw lj (p + 1) p x (by omega) (by omega), rot_down _ _ _ _ (by omega), HX2.out, HX2.out, HX2.out]
            case measure => simp [intOf]
          · have HLV := hid (fun h : c < 0 => hlv h)
            go_wp2_with fail
            go_quiet_grown (first | (go_at_call 47; refine Calls.grown_of (hcm _ _)))
            go_wp2_with fail
            have HO3 := hid (own_grow HO2.out nq osq)
            have HG3 := hid (grown_grow wr nq osq (some g))
            generalize grow (wr.drewN nq) osq = w3 at *
            clear l1 l2 hcm
            go_roundw
            case rel =>
              have h5 := HLI.out
              refine ⟨i + 1, lj, by omega, by omega, .inl (by omega), by go_num, HO3.out, HG2.out.trans HG3.out, HR2.out, ins_high (by omega) hji HS1.out HX2.out (fun _ => ?_) HC2.out⟩
              have := HCI.out
              have h6 : ¬ sc li i < sc li p := fun h => HLV.out (this.2 h)
              rw [show p + 1 - 1 = p by omega]; omega
            case measure => simp [intOf]; omega
        · have hjaz : decide ((j : Int) > (a : Int)) = false := decide_eq_false (by omega)
          have hjaz' : ¬ (a : Int) < (j : Int) := by omega
          have HO3 : Hid (OwnJ wr.drew B (vS g n cap) lj) := World.ownsRow.drew HO2.out
          have HG3 : Hid (wr.grownBy wr.drew (some g)) := grown_drew (grown_refl _ _)
          have HLJ := hid hlj
          have HJ := hid (show j = a by omega)
          clear hlj
          go_wp2_with fail
          go_big_region_o
          all_goals go_wp2
          go_roundw
          case rel =>
            exact ⟨i + 1, lj, by omega, by omega, .inl (by omega), by go_num, HO3.out, HG2.out.trans HG3.out, HR2.out, ins_high (by omega) hji HS1.out HX2.out (fun h => by have := HJ.out; omega) HC2.out⟩
          case measure => simp [intOf]; omega
    · go_wp2_with fail
      go_end0
      exact ⟨rfl, li, HO1.out, HG1.out, HR1.out, fun x y h1 h2 h3 => HS1.out x y h1 h2 (by omega)⟩
end PlayC
end Go.Proofs.Ytpnahhpkaegeeaa

/- Contracts: symMergeCmpFunc of jobs, where one side is one job. -/
set_option linter.unusedVariables false
namespace Go.Proofs.Ytpnahhpkaegeeaa
open Go.RowKit hiding tok
open Go.Shelf Go.Sort
open SpanM SpanC PlayM
namespace PlayC
open RowG
/-- what symMerge tells -/
def Merged (g n cap B a b : Nat) (l : List Jb) (w : World) (e : Ending) (w' : World) : Prop :=
  e = .returned (.tuple #[]) ∧ ∃ l', OwnJ w' B (vS g n cap) l' ∧ w.grownBy w' (some g) ∧ Rg a b l l' ∧ Srt l' a b
set_option maxRecDepth 20000 in
set_option maxHeartbeats 3200000 in
theorem merge_low (g n cap B a m b : Nat) (l : List Jb) (w : World) (h : OwnJ w B (vS g n cap) l) (hn : n = l.length) (ham : m = a + 1) (hmb : m < b) (hb : b ≤ l.length) (hl : l.length ≤ 4000) (hs : Srt l m b) :
    Calls Try.prog 89 #[vS g n cap, .int .i64 a, .int .i64 m, .int .i64 b, vC] w (Merged g n cap B a b l w) := by
  obtain ⟨K, hK⟩ : ∃ K : Nat, K = 7 := ⟨7, rfl⟩
  have z72 := sizeK K hK
  have a72 := Try.isAgg83
  have mixed := mixd
  have HK := hid hK
  have HO := hid h
  have HN := hid hn
  have HAM := hid ham
  have HS := hid hs
  have hnl : n ≤ 4000 := by omega
  have hbn : b ≤ n := by omega
  have hla : a < n := by omega
  have hm1 : ((m : Int) - (a : Int) == 1) = true := by simp; omega
  have hwm : IntKind.i64.wrap ((m : Int) - (a : Int)) = (m : Int) - (a : Int) := by rw [IntKind.wrap_i64]; omega
  have ham2 : a < m := by omega
  clear h hK hn hb hl hs ham
  go_enter Try.func89, Try.ntmps89
  go_wp2_with fail
  go_loopw [10, 11] (fun vi vj wr => ∃ (i j : Nat), m ≤ i ∧ i ≤ j ∧ j ≤ b ∧ vi = .int .i64 i ∧ vj = .int .i64 j ∧ OwnJ wr B (vS g n cap) l ∧ w.grownBy wr (some g) ∧ Hid (m < i → sc l (i - 1) ≤ sc l a) ∧ Hid (j < b → sc l a ≤ sc l j)) (fun vi vj _ => (intOf vj).toNat - (intOf vi).toNat)
  case atStart => exact ⟨m, b, by omega, by omega, by omega, by go_num, by go_num, HO.out, grown_refl _ _, (fun h => absurd h (Nat.lt_irrefl _) : m < m → _), (fun h => absurd h (Nat.lt_irrefl _) : b < b → _)⟩
  case round =>
    obtain ⟨i, j, hi, hij, hj, rfl, rfl, ho, hg, H1, H2⟩ := hrel
    have HO1 := hid ho
    have HG1 := hid hg
    clear ho hg
    by_cases hlt : i < j
    · obtain ⟨q, hq⟩ : ∃ q, q = (i + j) / 2 := ⟨_, rfl⟩
      have eq1 : ((i : Int) + (j : Int)) / 2 = (q : Int) := by omega
      have hq1 : i ≤ q := by omega
      have hq2 : q < j := by omega
      have hqn : (q : Int) < (n : Int) := by omega
      have han : (a : Int) < (n : Int) := by omega
      clear hq
      obtain ⟨cx, cy, c, hcx, hcy, HCI, l1, l2, hcm⟩ := cmp_ready K HK.out HO1.out q a (by have := HN.out; omega) (by have := HN.out; omega)
      by_cases hlv : c < 0
      · go_wp2_with fail
        go_quiet_grown (first | (go_at_call 47; refine Calls.grown_of (hcm _ _)))
        go_wp2_with fail
        have HO3 := hid (own_grow HO1.out nq osq)
        have HG3 := hid (grown_grow wr nq osq (some g))
        generalize grow (wr.drewN nq) osq = w3 at *
        clear l1 l2 hcm
        go_roundw
        case rel =>
          refine ⟨q + 1, j, by omega, by omega, by omega, by go_num, rfl, HO3.out, HG1.out.trans HG3.out, (fun _ => ?_ : m < q + 1 → sc l (q + 1 - 1) ≤ sc l a), H2⟩
          have := HCI.out.1 hlv; rw [Nat.add_sub_cancel]; omega
        case measure => simp [intOf]; omega
      · have HLV := hid (fun h : c < 0 => hlv h)
        go_wp2_with fail
        go_quiet_grown (first | (go_at_call 47; refine Calls.grown_of (hcm _ _)))
        go_wp2_with fail
        have HO3 := hid (own_grow HO1.out nq osq)
        have HG3 := hid (grown_grow wr nq osq (some g))
        generalize grow (wr.drewN nq) osq = w3 at *
        clear l1 l2 hcm
        go_roundw
        case rel =>
          refine ⟨i, q, by omega, by omega, by omega, rfl, by go_num, HO3.out, HG1.out.trans HG3.out, H1, (fun _ => ?_ : q < b → sc l a ≤ sc l q)⟩
          have h6 : ¬ sc l q < sc l a := fun h => HLV.out (HCI.out.2 h)
          omega
        case measure => simp [intOf]; omega
    · obtain rfl : i = j := by omega
      go_wp2_with fail
      obtain ⟨w0, hw0⟩ : ∃ x, x = wr := ⟨_, rfl⟩
      subst hw0
      go_loopw [13] (fun vk wr => ∃ (k : Nat) (lk : List Jb), a ≤ k ∧ k + 1 ≤ i ∧ vk = .int .i64 k ∧ OwnJ wr B (vS g n cap) lk ∧ w.grownBy wr (some g) ∧ Rg a b l lk ∧ (∀ x, gt lk x = rotF (gt l) a (a + 1) (k + 1) x)) (fun vk _ => i - (intOf vk).toNat)
      case atStart => exact ⟨a, l, by omega, by omega, rfl, HO1.out, HG1.out, Rg.refl _ _ _, fun x => (rot_id2 _ _ _ _ (by omega)).symm⟩
      case round =>
        obtain ⟨k, lk, hak, hki, rfl, ho, hg, hr, hx⟩ := hrel
        have HO2 := hid ho
        have HG2 := hid hg
        have HR2 := hid hr
        have HX2 := hid hx
        have hlk : lk.length = n := by rw [hr.len, HN.out]
        clear ho hg hr hx
        have hwi : IntKind.i64.wrap ((i : Int) - 1) = (i : Int) - 1 := by rw [IntKind.wrap_i64]; omega
        by_cases hk2 : k + 1 < i
        · have hk3 : (k : Int) < (i : Int) - 1 := by omega
          obtain ⟨dx, dy, hdx, hdy, l1, l2, s1, s2, HSW⟩ := sw_ready K HK.out HO2.out k (k + 1) (by omega) (by omega)
          have i1 : (0 : Int) ≤ (k : Int) + 1 := by omega
          have i2 : (k : Int) + 1 < (n : Int) := by omega
          have i3 : (k : Int) < (n : Int) := by omega
          have e0 : ((k : Int) + 1).toNat = k + 1 := by omega
          have HLK := hid hlk
          clear hlk
          go_wp2_with fail
          go_big_region_o
          all_goals go_wp2
          go_roundw
          case rel =>
            have h5 := HLK.out
            refine ⟨k + 1, sw lk k (k + 1), by omega, by omega, by go_num, HSW.out.1, HG2.out.trans HSW.out.2, HR2.out.trans (Rg.sw (by omega) (by omega) (by omega) (by omega) (by omega) (by omega)), fun x => ?_⟩
            rw [gt_sw lk k (k + 1) x (by omega) (by omega), rot_up _ _ _ _ (by omega), HX2.out, HX2.out, HX2.out]
          case measure => simp [intOf]; omega
        · have hk3 : ¬ (k : Int) < (i : Int) - 1 := by omega
          have HKI := hid (show k + 1 = i by omega)
          go_wp2_with fail
          go_end0
          refine ⟨rfl, lk, HO2.out, HG2.out, HR2.out, ?_⟩
          have hx := HX2.out
          rw [HKI.out] at hx
          have hm := HAM.out
          have hs := HS.out
          rw [hm] at hs
          exact ins_low (by omega) hj hs hx (fun h => H1.out (by omega)) (fun h => H2.out h)
end PlayC
end Go.Proofs.Ytpnahhpkaegeeaa
