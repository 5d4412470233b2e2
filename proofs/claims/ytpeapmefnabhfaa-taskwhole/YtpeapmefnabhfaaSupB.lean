/- Contracts of package supply: perRound, below. -/
import Derived.Test.YtpeapmefnabhfaaSupT
import Derived.Test.YtpeapmefnabhfaaShelfS
import Derived.Deep.RegionWith
set_option linter.unusedVariables false
namespace Go.Proofs.Ytpeapmefnabhfaa
open Go.RowKit Go.Shelf Go.Lib Go.Sort
open SpanM SupM
namespace SpanC
/-- a tally as a value -/
abbrev tal (size : Int) (a : Option Addr) (n cap g c : Nat) : Value := .agg #[.int .i64 size, .slice a n cap, .slice (some ⟨g, 0, none⟩) (n + 1) c]
theorem per_any (size : Int) (a : Option Addr) (cap g c : Nat) (l : List Sp) (w : World) (ht : Tal w g l) (hl : l.length ≤ 200) :
    Calls Try.prog 48 #[tal size a l.length cap g c] w fun e w' => e = .returned (.int .i64 (ah l l.length)) ∧ Below w.heap.size w w' := by
  have hc := ht l.length (Nat.le_refl _)
  have hg := World.block_lt_of_cell? _ _ hc
  generalize ah l l.length = A at *
  generalize l.length = n at *
  obtain ⟨m, hm⟩ : ∃ m, m = n + 1 := ⟨_, rfl⟩
  have q1 : (n : Int) < (m : Int) := by omega
  show Calls Try.prog _ #[.agg #[.int .i64 size, .slice a n cap, .slice (some ⟨g, 0, none⟩) (n + 1) c]] w _
  rw [← hm]
  clear hm ht
  go_enter Try.func48, Try.ntmps48
  go_wp2_with fail
  go_ret
  exact ⟨rfl, by go_grown⟩
theorem below_cl (size rest : Int) (a : Option Addr) (cap g c R : Nat) (l : List Sp) (i : Nat) (W : World) (hr : Sps W a l) (hi : i < l.length) (b1 : W.cell? ⟨R, 1, none⟩ = some (.slice a l.length cap)) (b2 : W.cell? ⟨R + 1, 0, none⟩ = some (.int .i64 rest)) :
    Calls Try.prog 47 (#[.int .i64 i] ++ #[.pointer (some ⟨R, 0, none⟩), .pointer (some ⟨R + 1, 0, none⟩)]) W fun e w' => e = .returned (.bool (decide (rest ≤ (l.getD i (0, 0)).1))) ∧ ∃ q os', w' = grow (W.drewN q) os' := by
  obtain ⟨b, off, rfl, hbw, d1, d2⟩ := hr.at i hi
  generalize l.getD i (0, 0) = z at *
  obtain ⟨f, t⟩ := z
  simp only at d1 d2 ⊢
  have hi2 : (i : Int) < (l.length : Int) := by omega
  clear hr
  go_enter Try.func47, Try.ntmps47
  go_wp2_with fail
  go_quiet (fail)
  go_wp2_with fail
  go_ret
  exact ⟨rfl, nq, #[], by rw [grow_empty]⟩
theorem search_any (size rest : Int) (a : Option Addr) (cap R : Nat) (l : List Sp) (W : World) (hr : Sps W a l) (hl : l.length ≤ 200) (hg : good size (-1) l = true) (b1 : W.cell? ⟨R, 1, none⟩ = some (.slice a l.length cap)) (b2 : W.cell? ⟨R + 1, 0, none⟩ = some (.int .i64 rest)) :
    Calls Try.prog 46 #[.int .i64 l.length, .func (.func 47) #[] #[.pointer (some ⟨R, 0, none⟩), .pointer (some ⟨R + 1, 0, none⟩)]] W fun e w' => e = .returned (.int .i64 ((List.range l.length).countP (fun i => !decide (rest ≤ (l.getD i (0, 0)).1)) : Nat)) ∧ Below W.heap.size W w' := by
  have h := Any.sort_Search Ytpeapmefnabhfaa.searchAny 47 #[.pointer (some ⟨R, 0, none⟩), .pointer (some ⟨R + 1, 0, none⟩)] l.length (fun i => decide (rest ≤ (l.getD i (0, 0)).1)) W (enters_of Try.func47 (by kernel_rfl) rfl) (by omega) (fun m os i hi => by
    have hb := below_grown_sl W.heap.size W m os (Nat.le_refl _)
    exact below_cl size rest a cap 0 0 R l i _ (hr.below hb (Nat.le_refl _)) hi ((hb.cell (World.block_lt_of_cell? _ _ b1)).trans b1) ((hb.cell (World.block_lt_of_cell? _ _ b2)).trans b2)) (fun i j hij hj h => by
    simp only [decide_eq_true_eq] at h ⊢
    rcases Nat.lt_or_ge i j with c | c
    · obtain ⟨g1, g2, g3, g4, g5⟩ := good_at hg (show i < l.length by omega)
      have := g2 (l.getD j (0, 0)) (by
        rw [List.mem_iff_getElem]
        exact ⟨j - (i + 1), by simp; omega, by simp [List.getD, hj, show i + 1 + (j - (i + 1)) = j by omega]⟩)
      omega
    · obtain rfl : i = j := by omega
      exact h)
  refine Calls.mono h ?_
  rintro e w' ⟨rfl, q, os, rfl⟩
  exact ⟨rfl, below_grown_sl W.heap.size W q os (Nat.le_refl _)⟩
/-- how many spans have begun by a time of the round -/
def begun (l : List Sp) (r : Int) : Nat := (List.range l.length).countP (fun i => !decide (r ≤ (l.getD i (0, 0)).1))
theorem begun_eq {size r : Int} {l : List Sp} (hg : good size (-1) l = true) : begun l r ≤ l.length ∧ cnt l r = if begun l r = 0 then 0 else ah l (begun l r) - max 0 ((l.getD (begun l r - 1) (0, 0)).2 - r) := by
  obtain ⟨v1, v2, v3⟩ := countP_mono (fun i => decide (r ≤ (l.getD i (0, 0)).1)) l.length (fun i j hij hj h => by
    simp only [decide_eq_true_eq] at h ⊢
    rcases Nat.lt_or_ge i j with c | c
    · obtain ⟨g1, g2, g3, g4, g5⟩ := good_at hg (show i < l.length by omega)
      have := g2 (l.getD j (0, 0)) (by
        rw [List.mem_iff_getElem]
        exact ⟨j - (i + 1), by simp; omega, by simp [List.getD, hj, show i + 1 + (j - (i + 1)) = j by omega]⟩)
      omega
    · obtain rfl : i = j := by omega
      exact h)
  refine ⟨v1, below_eq (rest := r) hg v1 (fun i hi => ?_) (fun i h1 h2 => ?_)⟩
  · have := v2 i hi
    simp only [decide_eq_false_iff_not] at this
    omega
  · have := v3 i h1 h2
    simpa using this
set_option maxHeartbeats 1000000 in
theorem below_any (size t : Int) (a : Option Addr) (cap g c : Nat) (l : List Sp) (w : World) (hr : Sps w a l) (hk : chk size l = 0) (ht : Tal w g l) (h0 : 0 ≤ t) (h1 : t ≤ 1099512000000) :
    Calls Try.prog 39 #[tal size a l.length cap g c, .int .i64 t] w fun e w' => e = .returned (.int .i64 (cb size l t)) ∧ Below w.heap.size w w' := by
  obtain ⟨s1, s2, s3, s4⟩ := chk_zero hk
  obtain ⟨u1, u2, u3, u4, u5, u6, u7, u8⟩ := cb_bd s1 s4 h0
  have HE := hid (show cb size l t = t / size * ah l l.length + cnt l (t % size) by unfold cb; rw [cnt_size s4])
  rw [cnt_size s4] at u3 u4 u7 u8
  have hw1 : IntKind.i64.wrap (t / size) = t / size := IntWalk.i64_in _ (by omega)
  have m1 := Int.emod_nonneg t (show size ≠ 0 by omega)
  have m2 := Int.emod_lt_of_pos t (show 0 < size by omega)
  have hw2 : IntKind.i64.wrap (t % size) = t % size := IntWalk.i64_in _ (by omega)
  have hz1 : ¬ size = 0 := by omega
  have hz2 : (size == 0) = false := by simp [hz1]
  have ht1 : t.tdiv size = t / size := Int.tdiv_eq_ediv_of_nonneg h0
  have ht2 : t.tmod size = t % size := Int.tmod_eq_emod_of_nonneg h0
  obtain ⟨v1, v2⟩ := begun_eq (r := t % size) s4
  have HV := hid v2
  have HSr := hid (fun V (h : Below w.heap.size w V) => search_any size (t % size) a cap w.heap.size l V (hr.below h (Nat.le_refl _)) s3 s4)
  have HPr := hid (fun V (h : Below w.heap.size w V) => per_any size a cap g c l V (ht.below h) s3)
  have HR := hid hr
  have HT := hid ht
  have HG := hid s4
  clear hr ht hk s4 v2
  obtain ⟨m, hm⟩ : ∃ m, m = l.length + 1 := ⟨_, rfl⟩
  have HM := hid hm
  have hml : (begun l (t % size) : Int) < (m : Int) := by omega
  show Calls Try.prog _ #[.agg #[.int .i64 size, .slice a l.length cap, .slice (some ⟨g, 0, none⟩) (l.length + 1) c], .int .i64 t] w _
  unfold tal at HPr
  rw [← hm] at HPr ⊢
  clear hm
  go_enter Try.func39, Try.ntmps39
  go_wp2_with fail
  have e0 : (w.alloc (.cells #[.int .i64 size, .slice a l.length cap, .slice (some ⟨g, 0, none⟩) m c] 64)).cell? ⟨w.heap.size, 0, none⟩ = some (.int .i64 size) := World.cell?_alloc_at _ _ _ _ rfl
  go_region_held3 (fun W => W.cell? ⟨w.heap.size, 0, none⟩ = some (.int .i64 size)) (go_keep) (fail)
  have hb1 : Below w.heap.size w ((w.alloc (.cells #[.int .i64 size, .slice a l.length cap, .slice (some ⟨g, 0, none⟩) m c] 64)).alloc (.cells #[.int .i64 (t % size)] 3)).drew := by go_grown
  have c1 : ((w.alloc (.cells #[.int .i64 size, .slice a l.length cap, .slice (some ⟨g, 0, none⟩) m c] 64)).alloc (.cells #[.int .i64 (t % size)] 3)).drew.cell? ⟨w.heap.size, 1, none⟩ = some (.slice a l.length cap) := (World.cell?_alloc_lt _ _ _ (by simp)).trans (World.cell?_alloc_at _ _ _ _ rfl)
  have c2 : ((w.alloc (.cells #[.int .i64 size, .slice a l.length cap, .slice (some ⟨g, 0, none⟩) m c] 64)).alloc (.cells #[.int .i64 (t % size)] 3)).drew.cell? ⟨w.heap.size, 2, none⟩ = some (.slice (some ⟨g, 0, none⟩) m c) := (World.cell?_alloc_lt _ _ _ (by simp)).trans (World.cell?_alloc_at _ _ _ _ rfl)
  have c0 : ((w.alloc (.cells #[.int .i64 size, .slice a l.length cap, .slice (some ⟨g, 0, none⟩) m c] 64)).alloc (.cells #[.int .i64 (t % size)] 3)).drew.cell? ⟨w.heap.size, 0, none⟩ = some (.int .i64 size) := (World.cell?_alloc_lt _ _ _ (by simp)).trans (World.cell?_alloc_at _ _ _ _ rfl)
  have c3 : ((w.alloc (.cells #[.int .i64 size, .slice a l.length cap, .slice (some ⟨g, 0, none⟩) m c] 64)).alloc (.cells #[.int .i64 (t % size)] 3)).drew.cell? ⟨w.heap.size + 1, 0, none⟩ = some (.int .i64 (t % size)) := World.cell?_alloc_at _ _ _ _ (by simp)
  generalize ((w.alloc (.cells #[.int .i64 size, .slice a l.length cap, .slice (some ⟨g, 0, none⟩) m c] 64)).alloc (.cells #[.int .i64 (t % size)] 3)).drew = W1 at *
  clear e0 hw1 hw2 hz1 hz2 ht1 ht2
  have hG := ah_bd s1 HG.out v1
  obtain ⟨k1, k2, k3⟩ := hG
  have HC := hid (HT.out (begun l (t % size)) v1)
  have HX : ∀ j, begun l (t % size) = j + 1 → ∃ b off, a = some ⟨b, off, none⟩ ∧ b < w.heap.size ∧ w.cell? ⟨b, off + j * 2, none⟩ = some (.int .i64 (l.getD j (0, 0)).1) ∧ w.cell? ⟨b, off + j * 2 + 1, none⟩ = some (.int .i64 (l.getD j (0, 0)).2) ∧ (l.getD j (0, 0)).2 ≤ size ∧ 0 ≤ (l.getD j (0, 0)).2 := fun j hj => by
    obtain ⟨b, off, e, h1, h2, h3⟩ := HR.out.at j (by omega)
    obtain ⟨_, _, g3, g4, g5⟩ := good_at HG.out (show j < l.length by omega)
    exact ⟨b, off, e, h1, h2, h3, g5, by omega⟩
  have HXX := hid HX
  clear HX
  have HSr2 := hid (fun V (h : Below W1.heap.size W1 V) => HSr.out V (bel_of hb1 h) ((h.cell (World.block_lt_of_cell? _ _ c1)).trans c1) ((h.cell (World.block_lt_of_cell? _ _ c3)).trans c3))
  change Hid (∀ V, Below W1.heap.size W1 V → Calls Try.prog _ _ V fun e w' => e = .returned (.int .i64 (begun l (t % size) : Nat)) ∧ Below V.heap.size V w') at HSr2
  generalize begun l (t % size) = B at *
  generalize ah l l.length = L at *
  generalize hA : ah l B = A at *
  have HA := hid hA
  clear hA
  generalize t / size = q at *
  generalize t % size = r at *
  clear HSr
  go_wp2_with fail
  refine (HSr2.out _ (Below.refl _ _)).mono ?_
  rintro e w2 ⟨rfl, b2⟩
  have hb2 := bel_of hb1 b2
  have C1 := (b2.cell (World.block_lt_of_cell? _ _ c1)).trans c1
  have C2 := (b2.cell (World.block_lt_of_cell? _ _ c2)).trans c2
  have C0 := (b2.cell (World.block_lt_of_cell? _ _ c0)).trans c0
  have C3 := (b2.cell (World.block_lt_of_cell? _ _ c3)).trans c3
  have C4 := (hb2.cell (World.block_lt_of_cell? _ _ HC.out)).trans HC.out
  clear b2 c0 c1 c2 c3 HSr2
  have HB2 := hid hb2
  clear hb2 hb1
  go_wp2_with fail
  have p0 := BelowOf.cell C0
  have p1 := BelowOf.cell C1
  have p2 := BelowOf.cell C2
  have p4 := BelowOf.cell C4
  refine wp_region_quiet_below (by kernel_rfl) (by kernel_rfl) ?_
  repeat (first | go_big_quiet_step (first | (go_at_call 48; rename_i pp; exact Calls.below_of pp (HPr.out _ (bel_of HB2.out pp.hb)))) | quiet_step (first | (go_at_call 48; rename_i pp; exact Calls.below_of pp (HPr.out _ (bel_of HB2.out pp.hb)))))
  refine wpQuiet_nil ?_
  rintro w3 ⟨pp, hpp⟩
  have b3 := pp.hb
  rw [← hpp] at b3
  clear hpp pp p0 p1 p2 p4
  have HB3 := hid (bel_of HB2.out b3)
  have D1 := (b3.cell (World.block_lt_of_cell? _ _ C1)).trans C1
  have D3 := (b3.cell (World.block_lt_of_cell? _ _ C3)).trans C3
  clear C0 C1 C2 C3 C4 b3
  rcases Nat.eq_zero_or_pos B with hB | hB
  · subst hB
    have hF : Hid (cb size l t = q * L + A) := by
      show _ = _
      rw [HE.out, HV.out, if_pos rfl, ← HA.out, ah_zero]
    go_wp2_with fail
    go_ret
    exact ⟨ret_int hF.out.symm, HB3.out⟩
  · obtain ⟨j, hj⟩ : ∃ j, B = j + 1 := ⟨B - 1, by omega⟩
    obtain ⟨b, off, rfl, hbw, d1, d2, d3, d4⟩ := HXX.out j hj
    have hF : Hid (cb size l t = q * L + A - max 0 ((l.getD j (0, 0)).2 - r)) := by
      show _ = _
      rw [HE.out, HV.out, if_neg (by omega), show B - 1 = j by omega]
      omega
    have x1 := (HB3.out.cell (World.block_lt_of_cell? _ _ d1)).trans d1
    have x2 := (HB3.out.cell (World.block_lt_of_cell? _ _ d2)).trans d2
    clear d1 d2
    generalize l.getD j (0, 0) = z at *
    obtain ⟨f, e⟩ := z
    simp only at x1 x2 hF d3 d4
    have hj1 : (B : Int) - 1 = (j : Int) := by omega
    have hj2 : (j : Int) < (l.length : Int) := by omega
    have hB2 : (0 : Int) < (B : Int) := by omega
    clear hB hj HXX
    go_wp2_with fail
    go_quiet (fail)
    all_goals
      go_wp2_with fail
      go_ret
      refine ⟨ret_int ?_, below_drewN HB3.out _⟩
      rw [hF.out]
      try omega
end SpanC
end Go.Proofs.Ytpeapmefnabhfaa
