/- Several texts, one behind the other: PlyL6. -/
import Derived.Test.YtpnahhpkaegeeaaKDlD
import Derived.Test.YtpnahhpkaegeeaaPkR
import Derived.Deep.RegionWith
/- The walk of PlayAhead. -/
set_option linter.unusedVariables false
namespace Go.Proofs.Ytpnahhpkaegeeaa
open Go.RowKit hiding tok
open SpanM SpanC TaskM PlayM
open RowsO hiding Tk
namespace PlayC
open NumC (Row)
open RowG
open TaskC (tchk tchk_zero tchk_of)
theorem front_jn (P : Pl) (T : Int) {k : Nat} : ∀ i, i ≤ k → (P.front k).jn T i = P.jn T i
  | 0, _ => rfl
  | i + 1, h => by
    rw [Pl.jn_succ, Pl.jn_succ]
    unfold Pl.jk
    rw [front_jn P T i (by omega)]
    have e : (P.front k).cnt i T = P.cnt i T := by
      have h1 := (Pl.front_cm P (show i < k by omega) 0).1
      have h2 := (Pl.front_cm P (show i < k by omega) 0).2
      rw [cm_zero, cm_zero] at h1
      unfold Pl.cnt
      rw [h1, h2]
    rw [e]
theorem jn_mono (P : Pl) (T : Int) {k : Nat} : ∀ m, (P.jn T k).length ≤ (P.jn T (k + m)).length
  | 0 => Nat.le_refl _
  | m + 1 => by
    have := jn_mono P T (k := k) m
    rw [← Nat.add_assoc, Pl.jn_len]; omega
theorem front_plE {l : List Tk} {f : List Int} {s : Int} {sl : List Sp} {T : Int} {k : Nat} (h : plE ⟨l, f, s, sl, 2⟩ T = 0) (hk : k ≤ l.length) : plE ⟨l.take k, f.take k, s, sl, 2⟩ T = 0 := by
  obtain ⟨h1, h2, h3, _, h5⟩ := plE_all h
  have hR := plE_rt' h
  have hlen := hR.ok.len
  simp only at h1 h2 h3 hlen
  obtain ⟨a1, a2⟩ := tchk_zero h1
  have b1 : tchk (l.take k) = 0 := tchk_of (by rw [List.length_take]; omega) (fun x hx => a2 x (List.mem_of_mem_take hx))
  have b3 : fstE (l.take k).length (f.take k) = 0 := by
    unfold fstE fstG
    rw [if_pos (by rw [List.length_take, List.length_take, hlen]), if_pos]
    exact fun x hx => hR.fk x (List.mem_of_mem_take hx)
  have b5 : (⟨l.take k, f.take k, s, sl, 2⟩ : Pl).untE T = 0 := by
    unfold Pl.untE Pl.untG
    rw [if_pos ⟨hR.t0, hR.t1⟩, if_neg]
    have hj : (⟨l.take k, f.take k, s, sl, 2⟩ : Pl).jobsL T = (⟨l, f, s, sl, 2⟩ : Pl).jn T k := by
      rw [← Pl.jn_all]
      have e : (⟨l.take k, f.take k, s, sl, 2⟩ : Pl).l.length = k := by show (l.take k).length = k; rw [List.length_take]; omega
      rw [e]
      exact front_jn ⟨l, f, s, sl, 2⟩ T k (Nat.le_refl _)
    have hm := jn_mono ⟨l, f, s, sl, 2⟩ T (k := k) (l.length - k)
    rw [show k + (l.length - k) = l.length by omega] at hm
    have hf := hR.few
    rw [← Pl.jn_all] at hf
    simp only at hf
    rw [hj]; omega
  unfold plE
  rw [if_pos b1, if_pos h2, if_pos b3, if_pos (.inr rfl), b5]
theorem front_same {l : List Tk} {f : List Int} {s : Int} {sl : List Sp} {T : Int} {k : Nat} (h : plE ⟨l, f, s, sl, 2⟩ T = 0) (hk : k ≤ l.length) : (plD ⟨l, f, s, sl, 2⟩ T).filter (keep k) = plD ⟨l.take k, f.take k, s, sl, 2⟩ T := by
  have hR := plE_rt' h
  unfold plD
  rw [if_pos h, if_pos (front_plE h hk)]
  have := (Pl.ahead_same (P := ⟨l, f, s, sl, 2⟩) hR.ok (by simp) k T.toNat).2
  refine Eq.trans ?_ this.symm
  refine List.filter_congr fun x _ => ?_
  unfold keep ahq
  by_cases c : (k : Int) ≤ x.1
  · rw [decide_eq_true c, decide_eq_false (by omega)]; rfl
  · rw [decide_eq_false c, decide_eq_true (by omega)]; rfl
theorem row_take {w : World} {a : Option Addr} {l : List Int} (h : Row w a l) (n : Nat) : Row w a (l.take n) := by
  rcases h with rfl | ⟨b, off, rfl, h⟩
  · exact .inl (by simp)
  · refine .inr ⟨b, off, rfl, fun i hi => ?_⟩
    rw [List.length_take] at hi
    have e : (l.take n).getD i 0 = l.getD i 0 := by simp [List.getD, show i < n by omega]
    rw [e]
    exact h i (by omega)
theorem tks_front {w : World} {a : Option Addr} {l : List Tk} (h : Tks w a l) (n : Nat) : Tks w a (l.take n) := by
  rcases h with rfl | ⟨b, off, rfl, h⟩
  · exact .inl (by simp)
  · refine .inr ⟨b, off, rfl, fun i hi => ?_⟩
    rw [List.length_take] at hi
    have e : (l.take n).getD i zTk = l.getD i zTk := by simp [List.getD, show i < n by omega]
    rw [e]
    exact h i (by omega)
/-- the set's box, and the variable's -/
structure YB (w wr : World) (vs : Array Value) (k : Int) : Prop where
  bel : Below w.heap.size w wr
  sz : w.heap.size + 2 ≤ wr.heap.size
  b0 : wr.heap[w.heap.size]? = some (.cells vs 25)
  b1 : wr.heap[w.heap.size + 1]? = some (.cells #[.int .i64 k] 3)
theorem YB.start (w : World) (vs : Array Value) (k : Int) : YB w ((w.alloc (.cells vs 25)).alloc (.cells #[.int .i64 k] 3)) vs k := by
  refine ⟨?_, ?_, ?_, ?_⟩
  · exact ((Below.refl _ w).alloc (Nat.le_refl _) _).alloc (by rw [World.size_alloc]; omega) _
  · rw [World.size_alloc, World.size_alloc]; omega
  · exact box_alloc (box_new w _ _) _
  · have := box_new (w.alloc (.cells vs 25)) #[.int .i64 k] 3
    rw [World.size_alloc] at this
    exact this
theorem YB.step {w wi wj : World} {vs : Array Value} {k : Int} (h : YB w wi vs k) (hb : Below wi.heap.size wi wj) : YB w wj vs k :=
  ⟨bel_of h.bel hb, Nat.le_trans h.sz hb.size, box_below h.b0 hb (Nat.le_refl _), box_below h.b1 hb (Nat.le_refl _)⟩
variable (l : List Tk) (f : List Int) (s : Int) (sl : List Sp) (T : Int) (a b c : Option Addr) (ca cb cc : Nat) (w : World)
set_option maxRecDepth 20000 in
set_option maxHeartbeats 800000 in
theorem ahead_odd (k : Int) (hr : Tks w a l) (hf : Row w b f) (hs : Sps w c sl) (h : plE ⟨l, f, s, sl, 2⟩ T ≠ 0 ∨ (plE ⟨l, f, s, sl, 2⟩ T = 0 ∧ (k < 0 ∨ (¬ k < 0 ∧ (l.length : Int) < k)))) :
    Calls Try.prog 9 #[.slice a l.length ca, .agg #[.int .i64 s, .slice c sl.length cc], .slice b f.length cb, .int .i64 T, .int .i64 k] w fun e w' => e = .returned (.bool true) ∧ Below w.heap.size w w' := by
  have H1 := hid (fun W (h : Below w.heap.size w W) => play_any ⟨l, f, s, sl, 2⟩ T a b c ca cb cc W (hr.below h (Nat.le_refl _)) (Row.below hf h (Nat.le_refl _)) (hs.below h (Nat.le_refl _)))
  simp only at H1
  clear hr hf hs
  generalize plE ⟨l, f, s, sl, 2⟩ T = E at *
  generalize plN ⟨l, f, s, sl, 2⟩ T = NN at *
  generalize plD ⟨l, f, s, sl, 2⟩ T = D at *
  have hcase : (E != 0) = true ∨ ((E != 0) = false ∧ k < 0) ∨ ((E != 0) = false ∧ ¬ k < 0 ∧ (l.length : Int) < k) := by
    rcases h with h | ⟨h, h2 | h2⟩
    · exact .inl (by simpa using h)
    · exact .inr (.inl ⟨by simp [h], h2⟩)
    · exact .inr (.inr ⟨by simp [h], h2⟩)
  clear h
  go_enter Try.func9, Try.ntmps9
  go_wp2_with fail
  refine (H1.out _ (YB.start w _ k).bel).mono ?_
  rintro e w1 ⟨⟨v, rfl, ho⟩, b1⟩
  have B1 := hid ((YB.start w #[.int .i64 s, .slice c sl.length cc] k).step b1)
  clear b1 ho
  go_wp2_with fail
  refine (plives _).mono ?_
  rintro e w2 ⟨rfl, b2⟩
  have B2 := hid (B1.out.step b2)
  have x0 := box_cell B2.out.b1 0
  simp at x0
  clear b2
  rcases hcase with g1 | ⟨g1, g2⟩ | ⟨g1, g2, g3⟩
  all_goals
    go_wp2_with fail
    refine (plives _).mono ?_
    rintro e w3 ⟨rfl, b3⟩
    have B3 := hid (B2.out.step b3)
    clear b3 x0
    go_wp2_with fail
    go_ret
    exact ⟨rfl, B3.out.bel⟩
set_option maxRecDepth 20000 in
set_option maxHeartbeats 1000000 in
theorem ahead_ok (kn : Nat) (hr : Tks w a l) (hf : Row w b f) (hs : Sps w c sl) (hca : l.length ≤ ca) (hcb : f.length ≤ cb) (h : plE ⟨l, f, s, sl, 2⟩ T = 0) (hk : kn ≤ l.length) :
    Calls Try.prog 9 #[.slice a l.length ca, .agg #[.int .i64 s, .slice c sl.length cc], .slice b f.length cb, .int .i64 T, .int .i64 kn] w fun e w' => e = .returned (.bool true) ∧ Below w.heap.size w w' := by
  have hlen := (plE_rt' h).ok.len
  simp only at hlen
  have hl1 : (l.take kn).length = kn := by rw [List.length_take]; omega
  have hl2 : (f.take kn).length = kn := by rw [List.length_take]; omega
  have H1 := hid (fun W (h : Below w.heap.size w W) => play_any ⟨l, f, s, sl, 2⟩ T a b c ca cb cc W (hr.below h (Nat.le_refl _)) (Row.below hf h (Nat.le_refl _)) (hs.below h (Nat.le_refl _)))
  have H2 := hid (fun W (h : Below w.heap.size w W) => play_any ⟨l.take kn, f.take kn, s, sl, 2⟩ T a b c ca cb cc W (tks_front (hr.below h (Nat.le_refl _)) _) (row_take (Row.below hf h (Nat.le_refl _)) _) (hs.below h (Nat.le_refl _)))
  simp only [hl1, hl2] at H1 H2
  rw [h] at H1
  rw [front_plE h hk] at H2
  have HS := hid (front_same h hk)
  have HDL := hid (show (plD ⟨l, f, s, sl, 2⟩ T).length ≤ 20000 by
    unfold plD
    rw [if_pos h]
    have := outs_bd ⟨l, f, s, sl, 2⟩ (plE_rt' h).ok T.toNat
    have := (plE_rt' h).t0
    have := (plE_rt' h).t1
    omega)
  clear hr hf hs h
  generalize plN ⟨l, f, s, sl, 2⟩ T = NN at *
  generalize plD ⟨l, f, s, sl, 2⟩ T = D at *
  generalize plN ⟨l.take kn, f.take kn, s, sl, 2⟩ T = NN2 at *
  generalize plD ⟨l.take kn, f.take kn, s, sl, 2⟩ T = D2 at *
  have i1 : ¬ (kn : Int) < 0 := by omega
  have i2 : ¬ (l.length : Int) < (kn : Int) := by omega
  have i2' : ¬ l.length < kn := by omega
  have i3 : (kn : Int) ≤ (ca : Int) := by omega
  have i4 : kn ≤ ca := by omega
  have i5 : (kn : Int) ≤ (cb : Int) := by omega
  have i6 : kn ≤ cb := by omega
  have i7 : (0 : Int) ≤ (kn : Int) := by omega
  clear hlen hl1 hl2
  go_enter Try.func9, Try.ntmps9
  go_wp2_with fail
  refine (H1.out _ (YB.start w _ (kn : Int)).bel).mono ?_
  rintro e w1 ⟨⟨v, rfl, ho⟩, b1⟩
  have B1 := hid ((YB.start w #[.int .i64 s, .slice c sl.length cc] (kn : Int)).step b1)
  obtain ⟨ad, cd, rfl, hrd, hnz⟩ := ho.rd
  have RD1 := hid hrd
  have HNZ := hid hnz
  clear b1 ho hrd hnz
  go_wp2_with fail
  refine (plives _).mono ?_
  rintro e w2 ⟨rfl, b2⟩
  have B2 := hid (B1.out.step b2)
  have RD2 := hid (Rd.below RD1.out b2 (Nat.le_refl _))
  have x0 := box_cell B2.out.b1 0
  have y0 := box_cell B2.out.b0 0
  have y1 := box_cell B2.out.b0 1
  simp at x0 y0 y1
  clear b2
  go_wp2_with fail
  have B2d := hid (B2.out.step ((Below.refl _ _).drew))
  have RD2d := hid (Rd.below RD2.out ((Below.refl w2.heap.size w2).drew) (Nat.le_refl _))
  go_region_with (go_at_call 14; refine (H2.out _ B2d.out.bel).mono ?_; rintro e w3 ⟨⟨v3, rfl, ho3⟩, b3⟩)
  all_goals
    have B3 := hid (B2d.out.step b3)
    have RD3 := hid (Rd.below RD2d.out b3 (Nat.le_refl _))
    obtain ⟨a3, c3, rfl, hr3, _⟩ := ho3.rd
    have R3 := hid hr3
    clear b3 ho3 hr3 x0 y0 y1
    go_wp2_with fail
    refine (cloneD_any ad cd D w3 RD3.out HNZ.out (by have := HDL.out; omega)).mono ?_
    rintro e w4 ⟨⟨v4, rfl, ho4⟩, b4⟩
    have B4 := hid (B3.out.step b4)
    have R4 := hid (Rd.below R3.out b4 (Nat.le_refl _))
    have z0 := box_cell B4.out.b1 0
    simp at z0
    have hs3 := B3.out.sz
    have HDEL := hid (deleteD_own w3.heap.size v4 D kn (w.heap.size + 1) w4 ho4 b4.size (by omega) z0 (by have := HDL.out; omega))
    have R4b := hid (fun w5 (hb : Below w3.heap.size w4 w5) => Rd.below R3.out ((b4.trans hb : Below w3.heap.size w3 w5)) (Nat.le_refl _))
    have B4b := hid (fun w5 (hb : Below w3.heap.size w4 w5) => B3.out.step (b4.trans hb : Below w3.heap.size w3 w5))
    obtain ⟨p4, q4, hv4⟩ := ho4.slice
    subst hv4
    clear ho4 b4 z0
    go_wp2_with fail
    refine HDEL.out.mono ?_
    rintro e w5 ⟨⟨v5, rfl, ho5⟩, b5⟩
    have B5 := hid (B4b.out w5 b5)
    have R5 := hid (R4b.out w5 b5)
    obtain ⟨a5, c5, rfl, hr5, _⟩ := ho5.rd
    have HEQ := hid (equal_any a5 a3 c5 c3 (D.filter (keep kn)) D2 w5 hr5 R5.out (by have := HDL.out; have := List.length_filter_le (keep (kn : Int)) D; omega))
    rw [HS.out, decide_eq_true rfl] at HEQ
    rw [HS.out]
    clear ho5 b5 hr5
    go_wp2_with fail
    refine HEQ.out.mono ?_
    rintro e w6 ⟨rfl, b6⟩
    have B6 := hid (B5.out.step b6)
    clear b6
    go_wp2_with fail
    go_ret
    exact ⟨rfl, B6.out.bel⟩
theorem playAhead_walk (a0 : Option Addr) (len0 cap0 : Nat) (l0 : List TaskM.Tk) (s1 : Int) (a1 : Option Addr) (len1 cap1 : Nat) (l1 : List Sp) (a2 : Option Addr) (len2 cap2 : Nat) (l2 : List Int) (n3 n4 : Int) (w : World)
    (w0 : RowsO.IsTks w a0 len0 cap0 l0) (x1 : SpanC.wf64 s1) (w1 : SpanC.IsSps w a1 len1 cap1 l1) (w2 : RowsO.IsIns w a2 len2 cap2 l2) (w3 : SpanC.wf64 n3) (w4 : SpanC.wf64 n4) :
    Calls Try.prog 9 #[.slice a0 len0 cap0, .agg #[.int .i64 s1, .slice a1 len1 cap1], .slice a2 len2 cap2, .int .i64 n3, .int .i64 n4] w fun e w' => e = .returned (.bool true) ∧ Below w.heap.size w w' := by
  obtain ⟨rfl, hc, _, hr, _⟩ := w0
  obtain ⟨rfl, _, _, hs, _⟩ := w1
  obtain ⟨rfl, hc2, _, hf, _⟩ := w2
  by_cases h : plE ⟨l0, l2, s1, l1, 2⟩ n3 = 0
  · by_cases h1 : n4 < 0
    · exact ahead_odd l0 l2 s1 l1 n3 a0 a2 a1 cap0 cap2 cap1 w n4 hr hf hs (.inr ⟨h, .inl h1⟩)
    · by_cases h2 : (l0.length : Int) < n4
      · exact ahead_odd l0 l2 s1 l1 n3 a0 a2 a1 cap0 cap2 cap1 w n4 hr hf hs (.inr ⟨h, .inr ⟨h1, h2⟩⟩)
      · obtain ⟨kn, rfl⟩ : ∃ kn : Nat, n4 = kn := ⟨n4.toNat, by omega⟩
        exact ahead_ok l0 l2 s1 l1 n3 a0 a2 a1 cap0 cap2 cap1 w kn hr hf hs hc hc2 h (by omega)
  · exact ahead_odd l0 l2 s1 l1 n3 a0 a2 a1 cap0 cap2 cap1 w n4 hr hf hs (.inl h)
end PlayC
end Go.Proofs.Ytpnahhpkaegeeaa
