/- Several texts, one behind the other: SupB SupE SupF SupF2 SupW SupV SupA. -/
import Derived.Test.YtpnahhpkaegeeaaKSupT
import Derived.Test.YtpnahhpkaegeeaaKShelfS
import Derived.Deep.RegionWith
/- Contracts of package supply: perRound, below. -/
set_option linter.unusedVariables false
namespace Go.Proofs.Ytpnahhpkaegeeaa
open Go.RowKit Go.Shelf Go.Lib Go.Sort
open SpanM SupM
namespace SpanC
/-- a tally as a value -/
abbrev tal (size : Int) (a : Option Addr) (n cap g c : Nat) : Value := .agg #[.int .i64 size, .slice a n cap, .slice (some ⟨g, 0, none⟩) (n + 1) c]
theorem per_any (size : Int) (a : Option Addr) (cap g c : Nat) (l : List Sp) (w : World) (ht : Tal w g l) (hl : l.length ≤ 200) :
    Calls Try.prog 103 #[tal size a l.length cap g c] w fun e w' => e = .returned (.int .i64 (ah l l.length)) ∧ Below w.heap.size w w' := by
  have hc := ht l.length (Nat.le_refl _)
  have hg := World.block_lt_of_cell? _ _ hc
  generalize ah l l.length = A at *
  generalize l.length = n at *
  obtain ⟨m, hm⟩ : ∃ m, m = n + 1 := ⟨_, rfl⟩
  have q1 : (n : Int) < (m : Int) := by omega
  show Calls Try.prog _ #[.agg #[.int .i64 size, .slice a n cap, .slice (some ⟨g, 0, none⟩) (n + 1) c]] w _
  rw [← hm]
  clear hm ht
  go_enter Try.func103, Try.ntmps103
  go_wp2_with fail
  go_ret
  exact ⟨rfl, by go_grown⟩
theorem below_cl (size rest : Int) (a : Option Addr) (cap g c R : Nat) (l : List Sp) (i : Nat) (W : World) (hr : Sps W a l) (hi : i < l.length) (b1 : W.cell? ⟨R, 1, none⟩ = some (.slice a l.length cap)) (b2 : W.cell? ⟨R + 1, 0, none⟩ = some (.int .i64 rest)) :
    Calls Try.prog 108 (#[.int .i64 i] ++ #[.pointer (some ⟨R, 0, none⟩), .pointer (some ⟨R + 1, 0, none⟩)]) W fun e w' => e = .returned (.bool (decide (rest ≤ (l.getD i (0, 0)).1))) ∧ ∃ q os', w' = grow (W.drewN q) os' := by
  obtain ⟨b, off, rfl, hbw, d1, d2⟩ := hr.at i hi
  generalize l.getD i (0, 0) = z at *
  obtain ⟨f, t⟩ := z
  simp only at d1 d2 ⊢
  have hi2 : (i : Int) < (l.length : Int) := by omega
  clear hr
  go_enter Try.func108, Try.ntmps108
  go_wp2_with fail
  go_quiet (fail)
  go_wp2_with fail
  go_ret
  exact ⟨rfl, nq, #[], by rw [grow_empty]⟩
theorem search_any (size rest : Int) (a : Option Addr) (cap R : Nat) (l : List Sp) (W : World) (hr : Sps W a l) (hl : l.length ≤ 200) (hg : good size (-1) l = true) (b1 : W.cell? ⟨R, 1, none⟩ = some (.slice a l.length cap)) (b2 : W.cell? ⟨R + 1, 0, none⟩ = some (.int .i64 rest)) :
    Calls Try.prog 107 #[.int .i64 l.length, .func (.func 108) #[] #[.pointer (some ⟨R, 0, none⟩), .pointer (some ⟨R + 1, 0, none⟩)]] W fun e w' => e = .returned (.int .i64 ((List.range l.length).countP (fun i => !decide (rest ≤ (l.getD i (0, 0)).1)) : Nat)) ∧ Below W.heap.size W w' := by
  have h := Any.sort_Search Ytpnahhpkaegeeaa.searchAny 108 #[.pointer (some ⟨R, 0, none⟩), .pointer (some ⟨R + 1, 0, none⟩)] l.length (fun i => decide (rest ≤ (l.getD i (0, 0)).1)) W (enters_of Try.func108 (by kernel_rfl) rfl) (by omega) (fun m os i hi => by
    have hb := below_grown_sl W.heap.size W m os (Nat.le_refl _)
    exact below_cl size rest a cap 0 0 R l i _ (hr.below hb (Nat.le_refl _)) hi ((hb.cell (World.block_lt_of_cell? _ _ b1)).trans b1) ((hb.cell (World.block_lt_of_cell? _ _ b2)).trans b2)) (fun i j hij hj h => by
    simp only [decide_eq_true_eq] at h ⊢
    rcases Nat.lt_or_ge i j with c | c
    · obtain ⟨g1, g2, g3, g4, g5⟩ := good_at hg (show i < l.length by omega)
      have := g2 (l.getD j (0, 0)) (by
        rw [List.mem_iff_getElem]
        exact ⟨j - (i + 1), by simp; omega, by simp [List.getD, hj, show i + 1 + (j - (i + 1)) = j by omega]⟩)
      omega
    · obtain rfl : i = j := by omega
      exact h)
  refine Calls.mono h ?_
  rintro e w' ⟨rfl, q, os, rfl⟩
  exact ⟨rfl, below_grown_sl W.heap.size W q os (Nat.le_refl _)⟩
/-- how many spans have begun by a time of the round -/
def begun (l : List Sp) (r : Int) : Nat := (List.range l.length).countP (fun i => !decide (r ≤ (l.getD i (0, 0)).1))
theorem begun_eq {size r : Int} {l : List Sp} (hg : good size (-1) l = true) : begun l r ≤ l.length ∧ cnt l r = if begun l r = 0 then 0 else ah l (begun l r) - max 0 ((l.getD (begun l r - 1) (0, 0)).2 - r) := by
  obtain ⟨v1, v2, v3⟩ := countP_mono (fun i => decide (r ≤ (l.getD i (0, 0)).1)) l.length (fun i j hij hj h => by
    simp only [decide_eq_true_eq] at h ⊢
    rcases Nat.lt_or_ge i j with c | c
    · obtain ⟨g1, g2, g3, g4, g5⟩ := good_at hg (show i < l.length by omega)
      have := g2 (l.getD j (0, 0)) (by
        rw [List.mem_iff_getElem]
        exact ⟨j - (i + 1), by simp; omega, by simp [List.getD, hj, show i + 1 + (j - (i + 1)) = j by omega]⟩)
      omega
    · obtain rfl : i = j := by omega
      exact h)
  refine ⟨v1, below_eq (rest := r) hg v1 (fun i hi => ?_) (fun i h1 h2 => ?_)⟩
  · have := v2 i hi
    simp only [decide_eq_false_iff_not] at this
    omega
  · have := v3 i h1 h2
    simpa using this
set_option maxHeartbeats 1000000 in
theorem below_any (size t : Int) (a : Option Addr) (cap g c : Nat) (l : List Sp) (w : World) (hr : Sps w a l) (hk : chk size l = 0) (ht : Tal w g l) (h0 : 0 ≤ t) (h1 : t ≤ 1099512000000) :
    Calls Try.prog 100 #[tal size a l.length cap g c, .int .i64 t] w fun e w' => e = .returned (.int .i64 (cb size l t)) ∧ Below w.heap.size w w' := by
  obtain ⟨s1, s2, s3, s4⟩ := chk_zero hk
  obtain ⟨u1, u2, u3, u4, u5, u6, u7, u8⟩ := cb_bd s1 s4 h0
  have HE := hid (show cb size l t = t / size * ah l l.length + cnt l (t % size) by unfold cb; rw [cnt_size s4])
  rw [cnt_size s4] at u3 u4 u7 u8
  have hw1 : IntKind.i64.wrap (t / size) = t / size := IntWalk.i64_in _ (by omega)
  have m1 := Int.emod_nonneg t (show size ≠ 0 by omega)
  have m2 := Int.emod_lt_of_pos t (show 0 < size by omega)
  have hw2 : IntKind.i64.wrap (t % size) = t % size := IntWalk.i64_in _ (by omega)
  have hz1 : ¬ size = 0 := by omega
  have hz2 : (size == 0) = false := by simp [hz1]
  have ht1 : t.tdiv size = t / size := Int.tdiv_eq_ediv_of_nonneg h0
  have ht2 : t.tmod size = t % size := Int.tmod_eq_emod_of_nonneg h0
  obtain ⟨v1, v2⟩ := begun_eq (r := t % size) s4
  have HV := hid v2
  have HSr := hid (fun V (h : Below w.heap.size w V) => search_any size (t % size) a cap w.heap.size l V (hr.below h (Nat.le_refl _)) s3 s4)
  have HPr := hid (fun V (h : Below w.heap.size w V) => per_any size a cap g c l V (ht.below h) s3)
  have HR := hid hr
  have HT := hid ht
  have HG := hid s4
  clear hr ht hk s4 v2
  obtain ⟨m, hm⟩ : ∃ m, m = l.length + 1 := ⟨_, rfl⟩
  have HM := hid hm
  have hml : (begun l (t % size) : Int) < (m : Int) := by omega
  show Calls Try.prog _ #[.agg #[.int .i64 size, .slice a l.length cap, .slice (some ⟨g, 0, none⟩) (l.length + 1) c], .int .i64 t] w _
  unfold tal at HPr
  rw [← hm] at HPr ⊢
  clear hm
  go_enter Try.func100, Try.ntmps100
  go_wp2_with fail
  have e0 : (w.alloc (.cells #[.int .i64 size, .slice a l.length cap, .slice (some ⟨g, 0, none⟩) m c] 132)).cell? ⟨w.heap.size, 0, none⟩ = some (.int .i64 size) := World.cell?_alloc_at _ _ _ _ rfl
  go_region_held3 (fun W => W.cell? ⟨w.heap.size, 0, none⟩ = some (.int .i64 size)) (go_keep) (fail)
  have hb1 : Below w.heap.size w ((w.alloc (.cells #[.int .i64 size, .slice a l.length cap, .slice (some ⟨g, 0, none⟩) m c] 132)).alloc (.cells #[.int .i64 (t % size)] 3)).drew := by go_grown
  have c1 : ((w.alloc (.cells #[.int .i64 size, .slice a l.length cap, .slice (some ⟨g, 0, none⟩) m c] 132)).alloc (.cells #[.int .i64 (t % size)] 3)).drew.cell? ⟨w.heap.size, 1, none⟩ = some (.slice a l.length cap) := (World.cell?_alloc_lt _ _ _ (by simp)).trans (World.cell?_alloc_at _ _ _ _ rfl)
  have c2 : ((w.alloc (.cells #[.int .i64 size, .slice a l.length cap, .slice (some ⟨g, 0, none⟩) m c] 132)).alloc (.cells #[.int .i64 (t % size)] 3)).drew.cell? ⟨w.heap.size, 2, none⟩ = some (.slice (some ⟨g, 0, none⟩) m c) := (World.cell?_alloc_lt _ _ _ (by simp)).trans (World.cell?_alloc_at _ _ _ _ rfl)
  have c0 : ((w.alloc (.cells #[.int .i64 size, .slice a l.length cap, .slice (some ⟨g, 0, none⟩) m c] 132)).alloc (.cells #[.int .i64 (t % size)] 3)).drew.cell? ⟨w.heap.size, 0, none⟩ = some (.int .i64 size) := (World.cell?_alloc_lt _ _ _ (by simp)).trans (World.cell?_alloc_at _ _ _ _ rfl)
  have c3 : ((w.alloc (.cells #[.int .i64 size, .slice a l.length cap, .slice (some ⟨g, 0, none⟩) m c] 132)).alloc (.cells #[.int .i64 (t % size)] 3)).drew.cell? ⟨w.heap.size + 1, 0, none⟩ = some (.int .i64 (t % size)) := World.cell?_alloc_at _ _ _ _ (by simp)
  generalize ((w.alloc (.cells #[.int .i64 size, .slice a l.length cap, .slice (some ⟨g, 0, none⟩) m c] 132)).alloc (.cells #[.int .i64 (t % size)] 3)).drew = W1 at *
  clear e0 hw1 hw2 hz1 hz2 ht1 ht2
  have hG := ah_bd s1 HG.out v1
  obtain ⟨k1, k2, k3⟩ := hG
  have HC := hid (HT.out (begun l (t % size)) v1)
  have HX : ∀ j, begun l (t % size) = j + 1 → ∃ b off, a = some ⟨b, off, none⟩ ∧ b < w.heap.size ∧ w.cell? ⟨b, off + j * 2, none⟩ = some (.int .i64 (l.getD j (0, 0)).1) ∧ w.cell? ⟨b, off + j * 2 + 1, none⟩ = some (.int .i64 (l.getD j (0, 0)).2) ∧ (l.getD j (0, 0)).2 ≤ size ∧ 0 ≤ (l.getD j (0, 0)).2 := fun j hj => by
    obtain ⟨b, off, e, h1, h2, h3⟩ := HR.out.at j (by omega)
    obtain ⟨_, _, g3, g4, g5⟩ := good_at HG.out (show j < l.length by omega)
    exact ⟨b, off, e, h1, h2, h3, g5, by omega⟩
  have HXX := hid HX
  clear HX
  have HSr2 := hid (fun V (h : Below W1.heap.size W1 V) => HSr.out V (bel_of hb1 h) ((h.cell (World.block_lt_of_cell? _ _ c1)).trans c1) ((h.cell (World.block_lt_of_cell? _ _ c3)).trans c3))
  change Hid (∀ V, Below W1.heap.size W1 V → Calls Try.prog _ _ V fun e w' => e = .returned (.int .i64 (begun l (t % size) : Nat)) ∧ Below V.heap.size V w') at HSr2
  generalize begun l (t % size) = B at *
  generalize ah l l.length = L at *
  generalize hA : ah l B = A at *
  have HA := hid hA
  clear hA
  generalize t / size = q at *
  generalize t % size = r at *
  clear HSr
  go_wp2_with fail
  refine (HSr2.out _ (Below.refl _ _)).mono ?_
  rintro e w2 ⟨rfl, b2⟩
  have hb2 := bel_of hb1 b2
  have C1 := (b2.cell (World.block_lt_of_cell? _ _ c1)).trans c1
  have C2 := (b2.cell (World.block_lt_of_cell? _ _ c2)).trans c2
  have C0 := (b2.cell (World.block_lt_of_cell? _ _ c0)).trans c0
  have C3 := (b2.cell (World.block_lt_of_cell? _ _ c3)).trans c3
  have C4 := (hb2.cell (World.block_lt_of_cell? _ _ HC.out)).trans HC.out
  clear b2 c0 c1 c2 c3 HSr2
  have HB2 := hid hb2
  clear hb2 hb1
  go_wp2_with fail
  have p0 := BelowOf.cell C0
  have p1 := BelowOf.cell C1
  have p2 := BelowOf.cell C2
  have p4 := BelowOf.cell C4
  refine wp_region_quiet_below (by kernel_rfl) (by kernel_rfl) ?_
  repeat (first | go_big_quiet_step (first | (go_at_call 103; rename_i pp; exact Calls.below_of pp (HPr.out _ (bel_of HB2.out pp.hb)))) | quiet_step (first | (go_at_call 103; rename_i pp; exact Calls.below_of pp (HPr.out _ (bel_of HB2.out pp.hb)))))
  refine wpQuiet_nil ?_
  rintro w3 ⟨pp, hpp⟩
  have b3 := pp.hb
  rw [← hpp] at b3
  clear hpp pp p0 p1 p2 p4
  have HB3 := hid (bel_of HB2.out b3)
  have D1 := (b3.cell (World.block_lt_of_cell? _ _ C1)).trans C1
  have D3 := (b3.cell (World.block_lt_of_cell? _ _ C3)).trans C3
  clear C0 C1 C2 C3 C4 b3
  rcases Nat.eq_zero_or_pos B with hB | hB
  · subst hB
    have hF : Hid (cb size l t = q * L + A) := by
      show _ = _
      rw [HE.out, HV.out, if_pos rfl, ← HA.out, ah_zero]
    go_wp2_with fail
    go_ret
    exact ⟨ret_int hF.out.symm, HB3.out⟩
  · obtain ⟨j, hj⟩ : ∃ j, B = j + 1 := ⟨B - 1, by omega⟩
    obtain ⟨b, off, rfl, hbw, d1, d2, d3, d4⟩ := HXX.out j hj
    have hF : Hid (cb size l t = q * L + A - max 0 ((l.getD j (0, 0)).2 - r)) := by
      show _ = _
      rw [HE.out, HV.out, if_neg (by omega), show B - 1 = j by omega]
      omega
    have x1 := (HB3.out.cell (World.block_lt_of_cell? _ _ d1)).trans d1
    have x2 := (HB3.out.cell (World.block_lt_of_cell? _ _ d2)).trans d2
    clear d1 d2
    generalize l.getD j (0, 0) = z at *
    obtain ⟨f, e⟩ := z
    simp only at x1 x2 hF d3 d4
    have hj1 : (B : Int) - 1 = (j : Int) := by omega
    have hj2 : (j : Int) < (l.length : Int) := by omega
    have hB2 : (0 : Int) < (B : Int) := by omega
    clear hB hj HXX
    go_wp2_with fail
    go_quiet (fail)
    all_goals
      go_wp2_with fail
      go_ret
      refine ⟨ret_int ?_, below_drewN HB3.out _⟩
      rw [hF.out]
      try omega
end SpanC
end Go.Proofs.Ytpnahhpkaegeeaa

/- Contracts of package supply: end. -/
set_option linter.unusedVariables false
namespace Go.Proofs.Ytpnahhpkaegeeaa
open Go.RowKit Go.Shelf Go.Lib Go.Sort
open SpanM SupM
namespace SpanC
theorem ahL_count {size rest : Int} {l : List Sp} (hg : good size (-1) l = true) {k : Nat} (hk : k < l.length) (h1 : ah l k < rest) (h2 : rest ≤ ah l (k + 1)) : ((ahL l l.length).take (l.length + 1)).countP (· < rest) = k + 1 := by
  rw [List.take_of_length_le (by rw [ahL_len]; omega)]
  have at' : ∀ t, t < l.length + 1 → (ahL l l.length)[t]! = ah l t := fun t ht => by
    rw [getElem!_pos _ t (by rw [ahL_len]; exact ht)]; simp [ahL]
  refine Lib.countP_boundary _ _ (k + 1) (by rw [ahL_len]; omega) (fun t ht => ?_) (fun t h3 h4 => ?_)
  · rw [at' t (by omega)]
    have := (ah_mono hg (show t ≤ k by omega) (by omega)).1
    simp only [decide_eq_true_eq]; omega
  · rw [ahL_len] at h4
    rw [at' t h4]
    have := (ah_mono hg h3 (by omega)).1
    simp only [decide_eq_false_iff_not]; omega
theorem ahL_sorted {size : Int} {l : List Sp} (hg : good size (-1) l = true) : ((ahL l l.length).take (l.length + 1)).Pairwise (· ≤ ·) := by
  rw [List.take_of_length_le (by rw [ahL_len]; omega), List.pairwise_iff_getElem]
  intro i j hi hj hij
  rw [ahL_len] at hi hj
  simp only [ahL, List.getElem_map, List.getElem_range]
  exact (ah_mono hg (by omega) (by omega)).1
theorem bsearch_any (size rest : Int) (g c : Nat) (l : List Sp) (W : World) (hg : good size (-1) l = true) (hl : l.length ≤ 200) (ht : Tal W g l) {k : Nat} (hk : k < l.length) (h1 : ah l k < rest) (h2 : rest ≤ ah l (k + 1)) :
    Calls Try.prog 104 #[.slice (some ⟨g, 0, none⟩) (l.length + 1) c, .int .i64 rest] W fun e w' => (∃ x, e = .returned (.tuple #[.int .i64 (k + 1 : Nat), .bool x])) ∧ Below W.heap.size W w' := by
  have h := AnyG.slices_BinarySearch_int Ytpnahhpkaegeeaa.bsearchInt g 0 (l.length + 1) c (ahL l l.length) rest W (by rw [ahL_len]; omega) (by omega) (fun j hj => by
    rw [ahL_len] at hj
    rw [Nat.zero_add, ahL_get _ _ _ (by omega)]
    exact ht j (by omega)) (ahL_sorted hg)
  rw [ahL_count hg hk h1 h2] at h
  refine Calls.mono h ?_
  rintro e w' ⟨rfl, q, rfl⟩
  exact ⟨⟨_, rfl⟩, below_drewN (Below.refl _ _) _⟩
set_option maxHeartbeats 1000000 in
theorem end_any (size n : Int) (a : Option Addr) (cap g c : Nat) (l : List Sp) (w : World) (hr : Sps w a l) (hk : chk size l = 0) (ht : Tal w g l) (hne : l ≠ []) (h0 : 1 ≤ n) (h1 : n ≤ 4000000) :
    Calls Try.prog 95 #[tal size a l.length cap g c, .int .i64 n] w fun e w' => e = .returned (.int .i64 (endT size l n)) ∧ Below w.heap.size w w' := by
  obtain ⟨s1, s2, s3, s4⟩ := chk_zero hk
  have hL := tot_pos s4 hne
  obtain ⟨a1, a2, a3, a4, a5, a6⟩ := rest_bd hL h0
  obtain ⟨k, k1, k2, k3⟩ := ah_find s4 a2 a3
  have hL2 := (ah_bd s1 s4 (Nat.le_refl l.length)).2.2
  have hEnd := end_eq s1 s4 a1 k1 k2 k3
  rw [show (n - 1) / ah l l.length * ah l l.length + (n - (n - 1) / ah l l.length * ah l l.length) = n by omega] at hEnd
  have HE := hid (endT_eq s1 s4 hEnd)
  have hkb := ah_bd s1 s4 (show k ≤ l.length by omega)
  obtain ⟨_, _, g3, g4, g5⟩ := good_at s4 k1
  obtain ⟨b, off, rfl, hbw, d1, d2⟩ := hr.at k k1
  have d3 := ht k (by omega)
  have HPr := hid (fun V (h : Below w.heap.size w V) => per_any size (some ⟨b, off, none⟩) cap g c l V (ht.below h) s3)
  have HBs := hid (fun V (h : Below w.heap.size w V) => bsearch_any size (n - (n - 1) / ah l l.length * ah l l.length) g c l V s4 s3 (ht.below h) k1 k2 k3)
  have hq : (n - 1) / ah l l.length * size ≤ 4000000000000 := by
    have m := Int.mul_le_mul_of_nonneg_right (show (n - 1) / ah l l.length ≤ 4000000 by omega) (show 0 ≤ size by omega)
    omega
  have hq0 : 0 ≤ (n - 1) / ah l l.length * size := Int.mul_nonneg a1 (by omega)
  have ht1 : (n - 1).tdiv (ah l l.length) = (n - 1) / ah l l.length := Int.tdiv_eq_ediv_of_nonneg (by omega)
  have hz1 : ¬ ah l l.length = 0 := by omega
  have hz2 : (ah l l.length == 0) = false := by simp [hz1]
  clear hr hk ht hne hEnd
  generalize l.getD k (0, 0) = z at *
  obtain ⟨f, e⟩ := z
  simp only at d1 d2 g3 g4 g5 HE
  obtain ⟨k4, k5, k6⟩ := hkb
  generalize ah l k = A at *
  generalize ah l l.length = L at *
  obtain ⟨m, hm⟩ : ∃ m, m = l.length + 1 := ⟨_, rfl⟩
  have q1 : (k : Int) < (m : Int) := by omega
  have q2 : (k : Int) < (l.length : Int) := by omega
  show Calls Try.prog _ #[.agg #[.int .i64 size, .slice (some ⟨b, off, none⟩) l.length cap, .slice (some ⟨g, 0, none⟩) (l.length + 1) c], .int .i64 n] w _
  unfold tal at HPr
  rw [← hm] at HPr HBs ⊢
  obtain ⟨M, hM⟩ : ∃ M : Nat, M = k + 1 := ⟨_, rfl⟩
  rw [← hM] at HBs
  have hM1 : (M : Int) - 1 = (k : Int) := by omega
  have hM2 : (M : Int) ≤ 1000 := by omega
  clear hm k3 hM
  have D1 := hid d1
  have D3 := hid d3
  clear d1 d2 d3
  go_enter Try.func95, Try.ntmps95
  go_wp2_with fail
  refine (HPr.out _ (by go_grown)).mono ?_
  rintro e1 w1 ⟨rfl, b1⟩
  have HB1 : Hid (Below (w.heap.size + 1) (w.alloc (.cells #[.int .i64 size, .slice (some ⟨b, off, none⟩) l.length cap, .slice (some ⟨g, 0, none⟩) m c] 132)) w1) := box1 b1
  clear b1
  have c0 : w1.cell? ⟨w.heap.size, 0, none⟩ = some (.int .i64 size) := boxc HB1.out 0
  have c1 : w1.cell? ⟨w.heap.size, 1, none⟩ = some (.slice (some ⟨b, off, none⟩) l.length cap) := boxc HB1.out 1
  have c2 : w1.cell? ⟨w.heap.size, 2, none⟩ = some (.slice (some ⟨g, 0, none⟩) m c) := boxc HB1.out 2
  generalize hQ : (n - 1) / L = Q at *
  have HQ := hid hQ
  clear hQ
  go_wp2_with fail
  refine (HPr.out _ (of_alloc HB1.out)).mono ?_
  rintro e2 w2 ⟨rfl, b2⟩
  have HB2 : Hid (Below (w.heap.size + 1) (w.alloc (.cells #[.int .i64 size, .slice (some ⟨b, off, none⟩) l.length cap, .slice (some ⟨g, 0, none⟩) m c] 132)) w2) := box2 HB1.out b2
  clear b2 c0 c1 c2
  have c0 : w2.cell? ⟨w.heap.size, 0, none⟩ = some (.int .i64 size) := boxc HB2.out 0
  have c1 : w2.cell? ⟨w.heap.size, 1, none⟩ = some (.slice (some ⟨b, off, none⟩) l.length cap) := boxc HB2.out 1
  have c2 : w2.cell? ⟨w.heap.size, 2, none⟩ = some (.slice (some ⟨g, 0, none⟩) m c) := boxc HB2.out 2
  go_wp2_with fail
  refine (HBs.out _ (of_alloc HB2.out)).mono ?_
  rintro e3 w3 ⟨⟨x3, rfl⟩, b3⟩
  have HB3 : Hid (Below (w.heap.size + 1) (w.alloc (.cells #[.int .i64 size, .slice (some ⟨b, off, none⟩) l.length cap, .slice (some ⟨g, 0, none⟩) m c] 132)) w3) := box2 HB2.out b3
  clear b3 c0 c1 c2
  have c0 : w3.cell? ⟨w.heap.size, 0, none⟩ = some (.int .i64 size) := boxc HB3.out 0
  have c1 : w3.cell? ⟨w.heap.size, 1, none⟩ = some (.slice (some ⟨b, off, none⟩) l.length cap) := boxc HB3.out 1
  have c2 : w3.cell? ⟨w.heap.size, 2, none⟩ = some (.slice (some ⟨g, 0, none⟩) m c) := boxc HB3.out 2
  have x1 := ((of_alloc HB3.out).cell (World.block_lt_of_cell? _ _ D1.out)).trans D1.out
  have x2 := ((of_alloc HB3.out).cell (World.block_lt_of_cell? _ _ D3.out)).trans D3.out
  go_wp2_with fail
  go_quiet (fail)
  go_wp2_with fail
  go_ret
  refine ⟨ret_int ?_, below_drewN (of_alloc HB3.out) _⟩
  rw [HE.out]
end SpanC
end Go.Proofs.Ytpnahhpkaegeeaa

/- Contracts of package supply: Least, Most. -/
set_option linter.unusedVariables false
namespace Go.Proofs.Ytpnahhpkaegeeaa
open Go.RowKit Go.Shelf Go.Lib Go.Sort
open SpanM SupM
namespace SpanC
/-- the memory of a call that keeps a tally in block B -/
structure LBox (w W : World) (B : Nat) (size : Int) (a : Option Addr) (cap g c m : Nat) (l : List Sp) : Prop where
  be : Below w.heap.size w W
  b0 : W.cell? ⟨B, 0, none⟩ = some (.int .i64 size)
  b1 : W.cell? ⟨B, 1, none⟩ = some (.slice a l.length cap)
  b2 : W.cell? ⟨B, 2, none⟩ = some (.slice (some ⟨g, 0, none⟩) m c)
  ta : Tal W g l
theorem LBox.start {w W : World} {size : Int} {a : Option Addr} {cap g c m : Nat} {l : List Sp} (hb : Below w.heap.size w W) (ht : Tal W g l) : LBox w (W.alloc (.cells #[.int .i64 size, .slice a l.length cap, .slice (some ⟨g, 0, none⟩) m c] 132)) W.heap.size size a cap g c m l where
  be := hb.alloc hb.size _
  b0 := World.cell?_alloc_at _ _ _ _ rfl
  b1 := World.cell?_alloc_at _ _ _ _ rfl
  b2 := World.cell?_alloc_at _ _ _ _ rfl
  ta := ht.below ((Below.refl _ _).alloc (Nat.le_refl _) _)
theorem LBox.step {w W W' : World} {B : Nat} {size : Int} {a : Option Addr} {cap g c m : Nat} {l : List Sp} (h : LBox w W B size a cap g c m l) (hb : Below W.heap.size W W') : LBox w W' B size a cap g c m l where
  be := bel_of h.be hb
  b0 := (hb.cell (World.block_lt_of_cell? _ _ h.b0)).trans h.b0
  b1 := (hb.cell (World.block_lt_of_cell? _ _ h.b1)).trans h.b1
  b2 := (hb.cell (World.block_lt_of_cell? _ _ h.b2)).trans h.b2
  ta := h.ta.below hb
def leastE (size : Int) (l : List Sp) (n : Int) : Int := sE size l n 549755813888
def leastV (size : Int) (l : List Sp) (n : Int) : Int := if leastE size l n = 0 then lst size l n else 0
def mostV (size : Int) (l : List Sp) (n : Int) : Int := if leastE size l n = 0 then mst size l n else 0
theorem least_err (size n : Int) (a : Option Addr) (cap : Nat) (l : List Sp) (w : World) (hr : Sps w a l) (he : leastE size l n ≠ 0) :
    Calls Try.prog 86 #[.agg #[.int .i64 size, .slice a l.length cap], .int .i64 n] w fun e w' => e = .returned (.tuple #[.int .i64 0, .int .i64 (leastE size l n)]) ∧ Below w.heap.size w w' := by
  have HC := hid (fun W (h : Below w.heap.size w W) => scheck_any size n 549755813888 a cap l W (hr.below h (Nat.le_refl _)))
  unfold leastE at *
  have hne : (sE size l n 549755813888 != 0) = true := by simp [he]
  clear hr he
  generalize sE size l n 549755813888 = E at *
  go_enter Try.func86, Try.ntmps86
  go_wp2_with fail
  refine (HC.out _ (by go_grown)).mono ?_
  rintro e w1 ⟨rfl, b1⟩
  go_wp2_with fail
  go_ret2
  exact ⟨rfl, bel_of (by go_grown) b1⟩
set_option maxHeartbeats 1000000 in
theorem least_ok (size n : Int) (a : Option Addr) (cap : Nat) (l : List Sp) (w : World) (hr : Sps w a l) (he : leastE size l n = 0) :
    Calls Try.prog 86 #[.agg #[.int .i64 size, .slice a l.length cap], .int .i64 n] w fun e w' => e = .returned (.tuple #[.int .i64 (lst size l n), .int .i64 0]) ∧ Below w.heap.size w w' := by
  have HC := hid (fun W (h : Below w.heap.size w W) => scheck_any size n 549755813888 a cap l W (hr.below h (Nat.le_refl _)))
  unfold leastE at *
  rw [he] at HC
  obtain ⟨hk, n1, n2⟩ := sE_zero he
  obtain ⟨s1, s2, s3, s4⟩ := chk_zero hk
  have HT := hid (fun W (h : Below w.heap.size w W) => tally_any size a cap l W (hr.below h (Nat.le_refl _)) hk)
  go_enter Try.func86, Try.ntmps86
  go_wp2_with fail
  refine (HC.out _ (by go_grown)).mono ?_
  rintro e w1 ⟨rfl, b1⟩
  have HB1 : Hid (Below (w.heap.size + 1) (w.alloc (.cells #[.int .i64 size, .slice a l.length cap] 25)) w1) := box1 b1
  clear b1
  have c0 : w1.cell? ⟨w.heap.size, 0, none⟩ = some (.int .i64 size) := boxc HB1.out 0
  have c1 : w1.cell? ⟨w.heap.size, 1, none⟩ = some (.slice a l.length cap) := boxc HB1.out 1
  go_wp2_with fail
  refine (HT.out _ (of_alloc HB1.out)).mono ?_
  rintro e w2 ⟨⟨g, c, rfl, ht⟩, b2⟩
  have hb2 := bel_of (of_alloc HB1.out) b2
  obtain ⟨m, hm⟩ : ∃ m, m = l.length + 1 := ⟨_, rfl⟩
  have HM := hid hm
  have HBl := hid (fun V (h : Below w.heap.size w V) (h2 : Tal V g l) t (h3 : 0 ≤ t) (h4 : t ≤ 1099512000000) => below_any size t a cap g c l V (hr.below h (Nat.le_refl _)) hk h2 h3 h4)
  unfold tal at HBl
  rw [← hm] at HBl ⊢
  have LB := hid (LBox.start (size := size) (a := a) (cap := cap) (c := c) (m := m) hb2 ht)
  have HR := hid hr
  have HG := hid s4
  clear hb2 b2 ht hm hr hk he c0 c1 HT HC
  go_wp2_with fail
  refine (HBl.out _ LB.out.be LB.out.ta n n1 (by omega)).mono ?_
  rintro e w3 ⟨rfl, b3⟩
  have LB3 := hid (LB.out.step b3)
  obtain ⟨B, hB⟩ : ∃ B, B = w2.heap.size := ⟨_, rfl⟩
  rw [← hB] at LB3 ⊢
  clear b3 LB hB HB1
  obtain ⟨_, x0, x1, x2, _⟩ := LB3.out
  have HI := hid (show lmin (fun x => D size l n x.2) (D size l n 0) (l.take 0) = cb size l n by simp [lmin, D, cb_zero HG.out])
  have hcn := cb_pos s1 HG.out n1
  generalize cb size l n = C0 at *
  go_wp2_with fail
  clear x0 x1 x2
  go_loopw [8, 25] (fun v8 v25 wr => ∃ k : Nat, k ≤ l.length ∧ v25 = .int .i64 k ∧ (∃ M, v8 = .int .i64 M ∧ Hid (lmin (fun x => D size l n x.2) (D size l n 0) (l.take k) = M)) ∧ LBox w wr B size a cap g c m l) (fun _ v25 _ => l.length - (intOf v25).toNat)
  case atStart => exact ⟨0, by omega, rfl, ⟨_, rfl, HI⟩, LB3.out⟩
  case round =>
    obtain ⟨k, hk, rfl, ⟨M, rfl, HMn⟩, lb⟩ := hrel
    have LB := hid lb
    by_cases hlt : k < l.length
    · obtain ⟨b, off, rfl, hbw, d1, d2⟩ := (HR.out.below lb.be (Nat.le_refl _)).at k hlt
      obtain ⟨_, _, g3, g4, g5⟩ := good_at HG.out hlt
      obtain ⟨q1, q2⟩ := cb_end s1 HG.out hlt
      have hd := take_snoc l k hlt
      have y0 := lb.ta (k + 1) (by omega)
      generalize hz : l.getD k (0, 0) = z at d1 d2 g3 g4 g5 q1 q2 hd
      obtain ⟨f, e⟩ := z
      simp only at d1 d2 g3 g4 g5 q1 q2
      have hbd := ah_bd s1 HG.out (show k + 1 ≤ l.length by omega)
      have hcb := cb_pos s1 HG.out (show 0 ≤ e + n by omega)
      have HN := hid (show lmin (fun x => D size l n x.2) (D size l n 0) (l.take (k + 1)) = min M (cb size l (e + n) - ah l (k + 1)) by
        rw [hd, lmin_snoc, HMn.out, ← q1]; rfl)
      have HBx := hid (fun V (h : Below w.heap.size w V) (h2 : Tal V g l) => HBl.out V h h2 (e + n) (by omega) (by omega))
      obtain ⟨K1, hK1⟩ : ∃ K1 : Nat, (k : Int) + 1 = (K1 : Int) := ⟨k + 1, by omega⟩
      have hK2 : (K1 : Int) < (m : Int) := by have := HM.out; omega
      rw [show k + 1 = K1 by omega] at y0
      generalize cb size l (e + n) = C1 at *
      generalize hah : ah l (k + 1) = A1 at *
      rw [show K1 = k + 1 by omega, hah, show k + 1 = K1 by omega] at y0
      obtain ⟨_, x0, x1, x2, _⟩ := lb
      clear hah hd hz q1 q2 HMn
      obtain ⟨r1, r2, r3⟩ := hbd
      obtain ⟨r4, r5⟩ := hcb
      go_wp2_with fail
      have hal : Below wr.heap.size wr (wr.alloc (.cells #[.int .i64 f, .int .i64 e] 63)) := (Below.refl _ _).alloc (Nat.le_refl _) _
      have z0 : (wr.alloc (.cells #[.int .i64 f, .int .i64 e] 63)).cell? ⟨wr.heap.size, 0, none⟩ = some (.int .i64 f) := World.cell?_alloc_at _ _ _ _ rfl
      have z1 : (wr.alloc (.cells #[.int .i64 f, .int .i64 e] 63)).cell? ⟨wr.heap.size, 1, none⟩ = some (.int .i64 e) := World.cell?_alloc_at _ _ _ _ rfl
      have y1 := (hal.cell (World.block_lt_of_cell? _ _ y0)).trans y0
      have LV := hid (LB.out.step hal)
      obtain ⟨xB, hxB⟩ : ∃ xB, xB = wr.heap.size := ⟨_, rfl⟩
      rw [← hxB] at z0 z1 ⊢
      generalize wr.alloc (.cells #[.int .i64 f, .int .i64 e] 63) = V0 at *
      clear hal y0 x0 x1 x2 hxB
      have p0 := BelowOf.cell LV.out.b0
      have p1 := BelowOf.cell LV.out.b1
      have p2 := BelowOf.cell LV.out.b2
      have p3 := BelowOf.cell z0
      have p4 := BelowOf.cell z1
      have p5 := BelowOf.cell y1
      clear z0 z1 y1
      refine wp_region_quiet_below (by kernel_rfl) (by kernel_rfl) ?_
      repeat (first | go_big_quiet_step (first | (go_at_call 100; rename_i pp; exact Calls.below_of pp (HBx.out _ (LV.out.step pp.hb).be (LV.out.step pp.hb).ta))) | quiet_step (first | (go_at_call 100; rename_i pp; exact Calls.below_of pp (HBx.out _ (LV.out.step pp.hb).be (LV.out.step pp.hb).ta))))
      refine wpQuiet_nil ?_
      rintro w5 ⟨pp, hpp⟩
      have b5 := pp.hb
      rw [← hpp] at b5
      have L5 := hid (LV.out.step b5)
      clear hpp pp p0 p1 p2 p3 p4 p5 b5
      go_wp2_with fail
      go_roundw
      case rel => exact ⟨k + 1, by omega, by go_num, ⟨_, rfl, by first | exact HN | (rw [HN.out]; show _ = _; omega)⟩, L5.out⟩
      case measure => simp [intOf]; omega
    · obtain rfl : k = l.length := by omega
      rw [List.take_length] at HMn
      have HF : Hid (lst size l n = M) := HMn.out
      go_wp2_with fail
      go_ret2
      rw [HF.out]
      exact ⟨rfl, LB.out.be⟩
end SpanC
end Go.Proofs.Ytpnahhpkaegeeaa

/- Contracts of package supply: Most. -/
set_option linter.unusedVariables false
namespace Go.Proofs.Ytpnahhpkaegeeaa
open Go.RowKit Go.Shelf Go.Lib Go.Sort
open SpanM SupM
namespace SpanC
end SpanC
end Go.Proofs.Ytpnahhpkaegeeaa

/- Contracts of package supply: Wait. -/
set_option linter.unusedVariables false
namespace Go.Proofs.Ytpnahhpkaegeeaa
open Go.RowKit Go.Shelf Go.Lib Go.Sort
open SpanM SupM
namespace SpanC
theorem wait_err (size n : Int) (a : Option Addr) (cap : Nat) (l : List Sp) (w : World) (hr : Sps w a l) (he : sE size l n 1000000 ≠ 0) :
    Calls Try.prog 78 #[.agg #[.int .i64 size, .slice a l.length cap], .int .i64 n] w fun e w' => e = .returned (.tuple #[.int .i64 0, .int .i64 (sE size l n 1000000)]) ∧ Below w.heap.size w w' := by
  have HC := hid (fun W (h : Below w.heap.size w W) => scheck_any size n 1000000 a cap l W (hr.below h (Nat.le_refl _)))
  have hne : (sE size l n 1000000 != 0) = true := by simp [he]
  clear hr he
  generalize sE size l n 1000000 = E at *
  go_enter Try.func78, Try.ntmps78
  go_wp2_with fail
  refine (HC.out _ (by go_grown)).mono ?_
  rintro e w1 ⟨rfl, b1⟩
  go_wp2_with fail
  go_ret2
  exact ⟨rfl, bel_of (by go_grown) b1⟩
theorem wait_zero (size : Int) (a : Option Addr) (cap : Nat) (l : List Sp) (w : World) (hr : Sps w a l) (he : sE size l 0 1000000 = 0) :
    Calls Try.prog 78 #[.agg #[.int .i64 size, .slice a l.length cap], .int .i64 0] w fun e w' => e = .returned (.tuple #[.int .i64 0, .int .i64 0]) ∧ Below w.heap.size w w' := by
  have HC := hid (fun W (h : Below w.heap.size w W) => scheck_any size 0 1000000 a cap l W (hr.below h (Nat.le_refl _)))
  rw [he] at HC
  clear hr he
  go_enter Try.func78, Try.ntmps78
  go_wp2_with fail
  refine (HC.out _ (by go_grown)).mono ?_
  rintro e w1 ⟨rfl, b1⟩
  go_wp2_with fail
  go_ret2
  exact ⟨rfl, bel_of (by go_grown) b1⟩
theorem wait_none (size n : Int) (a : Option Addr) (cap : Nat) (w : World) (he : sE size [] n 1000000 = 0) (hn : n ≠ 0) :
    Calls Try.prog 78 #[.agg #[.int .i64 size, .slice a 0 cap], .int .i64 n] w fun e w' => e = .returned (.tuple #[.int .i64 0, .int .i64 7]) ∧ Below w.heap.size w w' := by
  have HC := hid (fun W (h : Below w.heap.size w W) => scheck_any size n 1000000 a cap [] W (.inl rfl))
  rw [he] at HC
  simp only [List.length_nil] at HC
  have q0 : (n == 0) = false := by simp [hn]
  clear he hn
  go_enter Try.func78, Try.ntmps78
  go_wp2_with fail
  refine (HC.out _ (by go_grown)).mono ?_
  rintro e w1 ⟨rfl, b1⟩
  have HB1 : Hid (Below (w.heap.size + 1) (w.alloc (.cells #[.int .i64 size, .slice a 0 cap] 25)) w1) := box1 b1
  clear b1
  have c1 : w1.cell? ⟨w.heap.size, 1, none⟩ = some (.slice a 0 cap) := boxc HB1.out 1
  go_wp2_with fail
  go_ret2
  exact ⟨rfl, of_alloc HB1.out⟩
set_option maxHeartbeats 1000000 in
theorem wait_ok (size n : Int) (a : Option Addr) (cap : Nat) (l : List Sp) (w : World) (hr : Sps w a l) (he : sE size l n 1000000 = 0) (hne : l ≠ []) (hnz : n ≠ 0) :
    Calls Try.prog 78 #[.agg #[.int .i64 size, .slice a l.length cap], .int .i64 n] w fun e w' => e = .returned (.tuple #[.int .i64 (wt size l n), .int .i64 0]) ∧ Below w.heap.size w w' := by
  have HC := hid (fun W (h : Below w.heap.size w W) => scheck_any size n 1000000 a cap l W (hr.below h (Nat.le_refl _)))
  rw [he] at HC
  obtain ⟨hk, n1, n2⟩ := sE_zero he
  obtain ⟨s1, s2, s3, s4⟩ := chk_zero hk
  have q0 : (n == 0) = false := by simp [hnz]
  have hpos : 0 < l.length := List.length_pos_iff.2 hne
  have q00 : ((l.length : Int) == 0) = false := by rw [beq_eq_false_iff_ne]; omega
  have HT := hid (fun W (h : Below w.heap.size w W) => tally_any size a cap l W (hr.below h (Nat.le_refl _)) hk)
  go_enter Try.func78, Try.ntmps78
  go_wp2_with fail
  refine (HC.out _ (by go_grown)).mono ?_
  rintro e w1 ⟨rfl, b1⟩
  have HB1 : Hid (Below (w.heap.size + 1) (w.alloc (.cells #[.int .i64 size, .slice a l.length cap] 25)) w1) := box1 b1
  clear b1
  have c0 : w1.cell? ⟨w.heap.size, 0, none⟩ = some (.int .i64 size) := boxc HB1.out 0
  have c1 : w1.cell? ⟨w.heap.size, 1, none⟩ = some (.slice a l.length cap) := boxc HB1.out 1
  go_wp2_with fail
  refine (HT.out _ (of_alloc HB1.out)).mono ?_
  rintro e w2 ⟨⟨g, c, rfl, ht⟩, b2⟩
  have hb2 := bel_of (of_alloc HB1.out) b2
  obtain ⟨m, hm⟩ : ∃ m, m = l.length + 1 := ⟨_, rfl⟩
  have HM := hid hm
  have HBl := hid (fun V (h : Below w.heap.size w V) (h2 : Tal V g l) t (h3 : 1 ≤ t) (h4 : t ≤ 4000000) => end_any size t a cap g c l V (hr.below h (Nat.le_refl _)) hk h2 hne h3 h4)
  unfold tal at HBl
  rw [← hm] at HBl ⊢
  have LB := hid (LBox.start (size := size) (a := a) (cap := cap) (c := c) (m := m) hb2 ht)
  have HR := hid hr
  have HG := hid s4
  have HNE := hid hne
  clear hb2 b2 ht hm hr hk he c0 c1 HT HC hne
  have LB3 := LB
  go_wp2_with fail
  generalize w2.heap.size = B at *
  generalize w2.alloc (.cells #[.int .i64 size, .slice a l.length cap, .slice (some ⟨g, 0, none⟩) m c] 132) = w3 at *
  clear LB HB1
  obtain ⟨_, x0, x1, x2, _⟩ := LB3.out
  have HI := hid (show lmax (fun x => fr size l x.2 n) 0 (l.take 0) = 0 by simp [lmax])
  clear x0 x1 x2
  go_loopw [8, 28] (fun v8 v22 wr => ∃ k : Nat, k ≤ l.length ∧ v22 = .int .i64 k ∧ (∃ M, v8 = .int .i64 M ∧ Hid (lmax (fun x => fr size l x.2 n) 0 (l.take k) = M)) ∧ LBox w wr B size a cap g c m l) (fun _ v22 _ => l.length - (intOf v22).toNat)
  case atStart => exact ⟨0, by omega, rfl, ⟨_, rfl, HI⟩, LB3.out⟩
  case round =>
    obtain ⟨k, hk, rfl, ⟨M, rfl, HMn⟩, lb⟩ := hrel
    have LB := hid lb
    by_cases hlt : k < l.length
    · obtain ⟨b, off, rfl, hbw, d1, d2⟩ := (HR.out.below lb.be (Nat.le_refl _)).at k hlt
      obtain ⟨_, _, g3, g4, g5⟩ := good_at HG.out hlt
      obtain ⟨q1, q2⟩ := cb_end s1 HG.out hlt
      have hd := take_snoc l k hlt
      have y0 := lb.ta (k + 1) (by omega)
      generalize hz : l.getD k (0, 0) = z at d1 d2 g3 g4 g5 q1 q2 hd
      obtain ⟨f, e⟩ := z
      simp only at d1 d2 g3 g4 g5 q1 q2
      have hbd := ah_bd s1 HG.out (show k + 1 ≤ l.length by omega)
      have HN := hid (show lmax (fun x => fr size l x.2 n) 0 (l.take (k + 1)) = max M (endT size l (ah l (k + 1) + n) - e) by
        rw [hd, lmax_snoc, HMn.out, ← q1]; rfl)
      have hcb := endT_le s1 HG.out HNE.out (show 1 ≤ ah l (k + 1) + n by omega)
      have hcb2 : endT size l (ah l (k + 1) + n) ≤ 3000000000000 := by
        have := Int.mul_le_mul_of_nonneg_left s2 (show 0 ≤ ah l (k + 1) + n by omega)
        omega
      have HBx := hid (fun V (h : Below w.heap.size w V) (h2 : Tal V g l) => HBl.out V h h2 (ah l (k + 1) + n) (by omega) (by omega))
      obtain ⟨K1, hK1⟩ : ∃ K1 : Nat, (k : Int) + 1 = (K1 : Int) := ⟨k + 1, by omega⟩
      have hK2 : (K1 : Int) < (m : Int) := by have := HM.out; omega
      rw [show k + 1 = K1 by omega] at y0
      generalize endT size l (ah l (k + 1) + n) = C1 at *
      generalize hah : ah l (k + 1) = A1 at *
      rw [show K1 = k + 1 by omega, hah, show k + 1 = K1 by omega] at y0
      obtain ⟨_, x0, x1, x2, _⟩ := lb
      clear hah hd hz q1 q2 HMn
      obtain ⟨r1, r2, r3⟩ := hbd
      obtain ⟨r4, r5⟩ := hcb
      clear r5
      go_wp2_with fail
      have hal : Below wr.heap.size wr (wr.alloc (.cells #[.int .i64 f, .int .i64 e] 63)) := (Below.refl _ _).alloc (Nat.le_refl _) _
      have z0 : (wr.alloc (.cells #[.int .i64 f, .int .i64 e] 63)).cell? ⟨wr.heap.size, 0, none⟩ = some (.int .i64 f) := World.cell?_alloc_at _ _ _ _ rfl
      have z1 : (wr.alloc (.cells #[.int .i64 f, .int .i64 e] 63)).cell? ⟨wr.heap.size, 1, none⟩ = some (.int .i64 e) := World.cell?_alloc_at _ _ _ _ rfl
      have y1 := (hal.cell (World.block_lt_of_cell? _ _ y0)).trans y0
      have LV := hid (LB.out.step hal)
      obtain ⟨xB, hxB⟩ : ∃ xB, xB = wr.heap.size := ⟨_, rfl⟩
      rw [← hxB] at z0 z1 ⊢
      generalize wr.alloc (.cells #[.int .i64 f, .int .i64 e] 63) = V0 at *
      clear hal y0 x0 x1 x2 hxB
      have p0 := BelowOf.cell LV.out.b0
      have p1 := BelowOf.cell LV.out.b1
      have p2 := BelowOf.cell LV.out.b2
      have p3 := BelowOf.cell z0
      have p4 := BelowOf.cell z1
      have p5 := BelowOf.cell y1
      clear z0 z1 y1
      refine wp_region_quiet_below (by kernel_rfl) (by kernel_rfl) ?_
      repeat (first | go_big_quiet_step (first | (go_at_call 95; rename_i pp; exact Calls.below_of pp (HBx.out _ (LV.out.step pp.hb).be (LV.out.step pp.hb).ta))) | quiet_step (first | (go_at_call 95; rename_i pp; exact Calls.below_of pp (HBx.out _ (LV.out.step pp.hb).be (LV.out.step pp.hb).ta))))
      refine wpQuiet_nil ?_
      rintro w5 ⟨pp, hpp⟩
      have b5 := pp.hb
      rw [← hpp] at b5
      have L5 := hid (LV.out.step b5)
      clear hpp pp p0 p1 p2 p3 p4 p5 b5
      go_wp2_with fail
      go_roundw
      case rel => exact ⟨k + 1, by omega, by go_num, ⟨_, rfl, by first | exact HN | (rw [HN.out]; show _ = _; omega)⟩, L5.out⟩
      case measure => simp [intOf]; omega
    · obtain rfl : k = l.length := by omega
      rw [List.take_length] at HMn
      have HF : Hid (wt size l n = M) := HMn.out
      go_wp2_with fail
      go_ret2
      rw [HF.out]
      exact ⟨rfl, LB.out.be⟩
end SpanC
end Go.Proofs.Ytpnahhpkaegeeaa

/- Contracts of package supply: From. -/
set_option linter.unusedVariables false
namespace Go.Proofs.Ytpnahhpkaegeeaa
open Go.RowKit Go.Shelf Go.Lib Go.Sort
open SpanM SupM
namespace SpanC
end SpanC
end Go.Proofs.Ytpnahhpkaegeeaa

/- Contracts of package supply, each whole. -/
set_option linter.unusedVariables false
namespace Go.Proofs.Ytpnahhpkaegeeaa
open Go.RowKit
open SpanM SupM
namespace SpanC
theorem least_any (size n : Int) (a : Option Addr) (cap : Nat) (l : List Sp) (w : World) (hr : Sps w a l) :
    Calls Try.prog 86 #[.agg #[.int .i64 size, .slice a l.length cap], .int .i64 n] w fun e w' => e = .returned (.tuple #[.int .i64 (leastV size l n), .int .i64 (leastE size l n)]) ∧ Below w.heap.size w w' := by
  unfold leastV
  by_cases he : leastE size l n = 0
  · rw [if_pos he, he]; exact least_ok size n a cap l w hr he
  · rw [if_neg he]; exact least_err size n a cap l w hr he
theorem least_zero {size n : Int} {l : List Sp} (h : leastE size l n = 0) : chk size l = 0 ∧ 0 ≤ n ∧ n ≤ 549755813888 := sE_zero h
theorem leastV_P {size n : Int} {l : List Sp} (h : leastE size l n = 0) : LeastP size l n (leastV size l n) := by
  obtain ⟨hk, n1, n2⟩ := least_zero h
  obtain ⟨s1, s2, s3, s4⟩ := chk_zero hk
  unfold leastV; rw [if_pos h]; exact lst_P s1 s4 n1
theorem mostV_P {size n : Int} {l : List Sp} (h : leastE size l n = 0) : MostP size l n (mostV size l n) := by
  obtain ⟨hk, n1, n2⟩ := least_zero h
  obtain ⟨s1, s2, s3, s4⟩ := chk_zero hk
  unfold mostV; rw [if_pos h]; exact mst_P s1 s4 n1
theorem leastV_err {size n : Int} {l : List Sp} (h : leastE size l n ≠ 0) : leastV size l n = 0 := by unfold leastV; rw [if_neg h]
theorem mostV_err {size n : Int} {l : List Sp} (h : leastE size l n ≠ 0) : mostV size l n = 0 := by unfold mostV; rw [if_neg h]
theorem leastV_bd {size n : Int} {l : List Sp} : 0 ≤ leastV size l n ∧ leastV size l n ≤ 549755813888 ∧ 0 ≤ mostV size l n ∧ mostV size l n ≤ 549755813888 := by
  by_cases h : leastE size l n = 0
  · obtain ⟨hk, n1, n2⟩ := least_zero h
    obtain ⟨s1, s2, s3, s4⟩ := chk_zero hk
    have a := (leastV_P h).bd s1 s4 n1
    have b := (mostV_P h).bd s1 s4 n1
    omega
  · rw [leastV_err h, mostV_err h]; omega
open Classical in
noncomputable def waitE (size : Int) (l : List Sp) (n : Int) : Int := if sE size l n 1000000 = 0 then (if n = 0 then 0 else if l = [] then 7 else 0) else sE size l n 1000000
open Classical in
noncomputable def waitV (size : Int) (l : List Sp) (n : Int) : Int := if sE size l n 1000000 = 0 ∧ n ≠ 0 ∧ l ≠ [] then wt size l n else 0
theorem wait_any (size n : Int) (a : Option Addr) (cap : Nat) (l : List Sp) (w : World) (hr : Sps w a l) :
    Calls Try.prog 78 #[.agg #[.int .i64 size, .slice a l.length cap], .int .i64 n] w fun e w' => e = .returned (.tuple #[.int .i64 (waitV size l n), .int .i64 (waitE size l n)]) ∧ Below w.heap.size w w' := by
  unfold waitV waitE
  by_cases he : sE size l n 1000000 = 0
  · rw [if_pos he]
    by_cases hn : n = 0
    · subst hn
      rw [if_neg (by simp), if_pos rfl]
      exact wait_zero size a cap l w hr he
    · rw [if_neg hn]
      by_cases hl : l = []
      · rw [if_neg (by simp [hl]), if_pos hl]
        subst hl
        exact wait_none size n a cap w he hn
      · rw [if_pos ⟨he, hn, hl⟩, if_neg hl]
        exact wait_ok size n a cap l w hr he hl hn
  · rw [if_neg he, if_neg (by simp [he])]
    exact wait_err size n a cap l w hr he
open Classical in
noncomputable def fromE (size : Int) (l : List Sp) (t n : Int) : Int := if sE size l n 1000000 = 0 then (if 0 ≤ t ∧ t ≤ 1000000 then (if n = 0 then 0 else if l = [] then 7 else 0) else 1) else sE size l n 1000000
open Classical in
noncomputable def fromV (size : Int) (l : List Sp) (t n : Int) : Int := if sE size l n 1000000 = 0 ∧ (0 ≤ t ∧ t ≤ 1000000) ∧ n ≠ 0 ∧ l ≠ [] then fr size l t n else 0
theorem wait_zeroE {size n : Int} {l : List Sp} (h : waitE size l n = 0) : chk size l = 0 ∧ 0 ≤ n ∧ n ≤ 1000000 ∧ (n = 0 ∧ waitV size l n = 0 ∨ 1 ≤ n ∧ l ≠ [] ∧ waitV size l n = wt size l n) := by
  unfold waitE at h
  split at h
  · rename_i he
    obtain ⟨hk, n1, n2⟩ := sE_zero he
    refine ⟨hk, n1, n2, ?_⟩
    unfold waitV
    split at h
    · exact .inl ⟨‹_›, by rw [if_neg (by simp [*])]⟩
    · split at h
      · simp at h
      · exact .inr ⟨by omega, ‹_›, by rw [if_pos ⟨he, ‹_›, ‹_›⟩]⟩
  · exact absurd h ‹_›
theorem waitV_err {size n : Int} {l : List Sp} (h : waitE size l n ≠ 0) : waitV size l n = 0 := by
  unfold waitE at h
  unfold waitV
  rw [if_neg]
  rintro ⟨h1, h2, h3⟩
  rw [if_pos h1, if_neg h2, if_neg h3] at h
  exact h rfl
theorem from_zeroE {size t n : Int} {l : List Sp} (h : fromE size l t n = 0) : chk size l = 0 ∧ 0 ≤ n ∧ n ≤ 1000000 ∧ 0 ≤ t ∧ t ≤ 1000000 ∧ (n = 0 ∧ fromV size l t n = 0 ∨ 1 ≤ n ∧ l ≠ [] ∧ fromV size l t n = fr size l t n) := by
  unfold fromE at h
  split at h
  · rename_i he
    obtain ⟨hk, n1, n2⟩ := sE_zero he
    split at h
    · rename_i ht
      refine ⟨hk, n1, n2, ht.1, ht.2, ?_⟩
      unfold fromV
      split at h
      · exact .inl ⟨‹_›, by rw [if_neg (by simp [*])]⟩
      · split at h
        · simp at h
        · exact .inr ⟨by omega, ‹_›, by rw [if_pos ⟨he, ht, ‹_›, ‹_›⟩]⟩
    · simp at h
  · exact absurd h ‹_›
theorem fromV_err {size t n : Int} {l : List Sp} (h : fromE size l t n ≠ 0) : fromV size l t n = 0 := by
  unfold fromE at h
  unfold fromV
  rw [if_neg]
  rintro ⟨h1, h2, h3, h4⟩
  rw [if_pos h1, if_pos h2, if_neg h3, if_neg h4] at h
  exact h rfl
end SpanC
end Go.Proofs.Ytpnahhpkaegeeaa
