/- The law PortOwn (gen_prtl6.py writes this text). -/
import Derived.Test.YtllfpbngfkimlaaPrtY2
import Derived.Test.YtllfpbngfkimlaaPrtY3
import Derived.Test.YtllfpbngfkimlaaPrtZ
import Derived.Test.YtllfpbngfkimlaaPrtO
import Derived.Test.YtllfpbngfkimlaaPrtK
import Derived.Test.YtllfpbngfkimlaaOpenPo
import Derived.Laws.Concat
set_option linter.unusedVariables false
namespace Go.Proofs.Ytllfpbngfkimlaa
open Go.RowKit
open Go.Shelf Go.Sort
open SpanM SpanC IntsC
namespace PortT
open PrtM PortC
theorem two_belowT (w : World) (o1 o2 : Obj) : Below w.heap.size w ((w.alloc o1).alloc o2) := ((Below.refl _ w).alloc (Nat.le_refl _) o1).alloc (by rw [World.size_alloc]; omega) o2
/-- what PortOwn has behind so many of the two rows: B the first block of the call's own behind the clone, D that of Read's -/
structure OI (w1 wr : World) (B D : Nat) (v1 v2 : Value) (k : Nat) : Prop where
  bel : Below B w1 wr
  t1 : k = 0 → Tx B wr v1 0
  t2 : k ≤ 1 → Tx D wr v2 0
  lt : ∀ q, v1.ownBlock = some q → q < D
theorem idx0 (x0 x1 : Value) (w : World) : (Instr.index 60 (.agg #[x0, x1]) (.int .i64 0)).run Try.prog w = .ok x0 w := by kernel_rfl
theorem idx1 (x0 x1 : Value) (w : World) : (Instr.index 60 (.agg #[x0, x1]) (.int .i64 1)).run Try.prog w = .ok x1 w := by kernel_rfl
set_option maxRecDepth 20000 in
set_option maxHeartbeats 1600000 in
theorem portOwn_walk (kd sz rm fr : Int) (a : Option Addr) (len cap : Nat) (l : List ByteArray) (tm : Int) (s : ByteArray) (now : Int) (w : World) (hk : wf64 kd) (hp : RowsO.IsStr w a len cap l) (hnw : wf64 now) (h16 : len * 16 ≤ 140737488355328) :
    Calls Try.prog 9 #[.agg #[.int .i64 kd, .int .i64 sz, .int .i64 rm, .int .i64 fr, .slice a len cap, .int .i64 tm], .string s, .int .i64 now] w fun e w' => e = .returned (.bool true) ∧ Below w.heap.size w w' := by
  obtain ⟨rfl, hc, hm, hr, hn, _⟩ := hp
  have HW := hid (fun wx (hb : Below w.heap.size w wx) => PortT.Write_any ⟨kd, sz, rm, fr, l, tm⟩ a cap s now wx (hr.below hb (Nat.le_refl _)) hn)
  have HR := hid (fun wx (hb : Below w.heap.size w wx) => PortT.Read_any ⟨kd, sz, rm, fr, l, tm⟩ a cap now wx (hr.below hb (Nat.le_refl _)) hc)
  have HCL := hid (fun wx (hb : Below w.heap.size w wx) => cloneS_big a cap l wx (hr.below hb (Nat.le_refl _)) hn h16)
  have HEQ := hid (fun wx (hb : Below w.heap.size w wx) (b : Option Addr) (cb : Nat) (ht : RdS wx b l) => (by
    have := eqS_big a b l.length cap cb l l wx (hr.below hb (Nat.le_refl _)) ht rfl rfl (by omega)
    rwa [decide_eq_true rfl] at this : Calls Try.prog 23 #[.slice a l.length cap, .slice b l.length cb] wx fun e w' => e = .returned (.bool true) ∧ Below wx.heap.size wx w'))
  generalize wrQ ⟨kd, sz, rm, fr, l, tm⟩ s now = QW at *
  generalize wrE ⟨kd, sz, rm, fr, l, tm⟩ s now = E1 at *
  generalize rdQ ⟨kd, sz, rm, fr, l, tm⟩ now = QR at *
  generalize rdE ⟨kd, sz, rm, fr, l, tm⟩ now = E2 at *
  generalize rdX ⟨kd, sz, rm, fr, l, tm⟩ now = RX at *
  generalize rdB ⟨kd, sz, rm, fr, l, tm⟩ now = RB at *
  obtain ⟨x0, x1, x2, x3, T, x5⟩ := QW
  obtain ⟨y0, y1, y2, y3, U, y5⟩ := QR
  simp only [vP, cP] at HW HR
  clear hr hn hc hm h16 hk hnw
  go_enter Try.func9, Try.ntmps9
  go_wp2_with fail
  refine (HCL.out _ ((Below.refl _ _).alloc (Nat.le_refl _) _)).mono ?_
  rintro e w1 ⟨⟨vt, rfl, hot⟩, b1⟩
  obtain ⟨at', ct, rfl, hrt, _⟩ := own_rd hot
  have HB1 := hid (of_alloc (box1 b1))
  have hq1 := box_below (box_new w #[.int .i64 kd, .int .i64 sz, .int .i64 rm, .int .i64 fr, .slice a l.length cap, .int .i64 tm] 36) b1 (Nat.le_refl _)
  have HQ1 := hid hq1
  have HT1 := hid hrt
  obtain ⟨d0, d1, d2, d3, d4, d5⟩ := six_of hq1
  have hlt1 := (Array.getElem?_eq_some_iff.1 hq1).1
  have HLT1 := hid hlt1
  clear b1 hot hrt hq1 hlt1
  go_wp2_with fail
  refine (HW.out _ HB1.out).mono ?_
  rintro e w2 ⟨⟨u1, rfl, hu1⟩, b2⟩
  obtain ⟨a1, c1, rfl⟩ := RowG.Own.slice hu1.o
  have HB2 := hid b2
  have hq2 := box_below HQ1.out b2 (Nat.le_refl _)
  have HQ2 := hid hq2
  have HO1 := hid hu1
  clear d0 d1 d2 d3 d4 d5
  obtain ⟨d0, d1, d2, d3, d4, d5⟩ := six_of (box_alloc hq2 (.cells #[.int .i64 x0, .int .i64 x1, .int .i64 x2, .int .i64 x3, .slice a1 T.length c1, .int .i64 x5] 36))
  have hlt2 := (Array.getElem?_eq_some_iff.1 hq2).1
  have HLT2 := hid hlt2
  have nn1 : ¬ w.heap.size = w2.heap.size := by omega
  have nn2 : ¬ w2.heap.size = w.heap.size := by omega
  clear b2 hu1 hq2 hlt2
  go_wp2_with fail
  refine (HR.out _ (HB1.out.trans ((HB2.out.alloc HB2.out.size _).mono HB1.out.size))).mono ?_
  rintro e w3 ⟨⟨u2, rfl, hu2⟩, b3⟩
  obtain ⟨a2, c2, rfl⟩ := RowG.Own.slice hu2.o
  have hb23 : Below w2.heap.size w2 w3 := of_alloc (box1 b3)
  have HB3 := hid (HB2.out.trans (hb23.mono HB2.out.size))
  have hq3 := box_below HQ2.out hb23 (Nat.le_refl _)
  have hx3 := box_below (box_new w2 _ _) b3 (Nat.le_refl _)
  have HQ3 := hid hq3
  have HX3 := hid hx3
  have HTX1 := hid (Tx.of (HO1.out.below hb23 (Nat.le_refl _)))
  have HTX2 := hid (Tx.of (hu2.base (show w2.heap.size ≤ _ by rw [World.size_alloc]; omega)))
  have HLO := hid (fun q (hq : (Value.slice a1 T.length c1).ownBlock = some q) => (HO1.out.o.lt q hq).2)
  have hq4 := box_alloc hq3 (.cells #[.int .i64 y0, .int .i64 y1, .int .i64 y2, .int .i64 y3, .slice a2 U.length c2, .int .i64 y5] 36)
  have HQ4 := hid hq4
  have HX4 := hid (box_alloc hx3 (.cells #[.int .i64 y0, .int .i64 y1, .int .i64 y2, .int .i64 y3, .slice a2 U.length c2, .int .i64 y5] 36))
  have HY4 := hid (box_new w3 #[.int .i64 y0, .int .i64 y1, .int .i64 y2, .int .i64 y3, .slice a2 U.length c2, .int .i64 y5] 36)
  have HB4 := hid (HB3.out.alloc HB3.out.size (.cells #[.int .i64 y0, .int .i64 y1, .int .i64 y2, .int .i64 y3, .slice a2 U.length c2, .int .i64 y5] 36))
  have HTA1 := hid (HTX1.out.below ((Below.refl _ w3).alloc (Nat.le_refl _) (.cells #[.int .i64 y0, .int .i64 y1, .int .i64 y2, .int .i64 y3, .slice a2 U.length c2, .int .i64 y5] 36)) (Nat.le_refl _))
  have HTA2 := hid (HTX2.out.below ((Below.refl _ w3).alloc (Nat.le_refl _) (.cells #[.int .i64 y0, .int .i64 y1, .int .i64 y2, .int .i64 y3, .slice a2 U.length c2, .int .i64 y5] 36)) (Nat.le_refl _))
  clear d0 d1 d2 d3 d4 d5
  obtain ⟨d0, d1, d2, d3, d4, d5⟩ := six_of hq4
  have hlt3 := (Array.getElem?_eq_some_iff.1 hx3).1
  have HLT3 := hid hlt3
  have mm1 : ¬ w.heap.size = w3.heap.size := by have := HLT2.out; omega
  have mm2 : ¬ w3.heap.size = w.heap.size := by have := HLT2.out; omega
  have mm3 : ¬ w2.heap.size = w3.heap.size := by omega
  have mm4 : ¬ w3.heap.size = w2.heap.size := by omega
  clear b3 hu2 hb23 hq3 hx3 hlt3 hq4
  go_wp2_with fail
  refine (HEQ.out _ (HB1.out.trans (HB4.out.mono HB1.out.size)) at' ct (HT1.out.below HB4.out (Nat.le_refl _))).mono ?_
  rintro e w4 ⟨rfl, b4⟩
  have HB5 := hid (HB4.out.trans (b4.mono HB4.out.size))
  have hq5 := box_below HQ4.out b4 (Nat.le_refl _)
  have hx5 := box_below HX4.out b4 (Nat.le_refl _)
  have hy5 := box_below HY4.out b4 (Nat.le_refl _)
  have HQ5 := hid hq5
  have HOI := hid (⟨HB5.out, fun _ => HTA1.out.below b4 (Nat.le_refl _), fun _ => HTA2.out.below b4 (Nat.le_refl _), HLO.out⟩ : OI w1 w4 w1.heap.size w2.heap.size (.slice a1 T.length c1) (.slice a2 U.length c2) 0)
  clear d0 d1 d2 d3 d4 d5 nn1 nn2 mm1 mm2 mm3 mm4
  obtain ⟨d0, d1, d2, d3, d4, d5⟩ := six_of hx5
  obtain ⟨f0, f1, f2, f3, f4, f5⟩ := six_of hy5
  clear b4 hq5 hx5 hy5
  go_wp2_with fail
  generalize T.length = tl at *
  generalize U.length = ul at *
  clear d0 d1 d2 d3 d4 d5 f0 f1 f2 f3 f4 f5
  go_loopw [45] (fun v45 wr => ∃ k : Nat, k ≤ 2 ∧ v45 = .int .i64 k ∧ Hid (OI w1 wr w1.heap.size w2.heap.size (.slice a1 tl c1) (.slice a2 ul c2) k)) (fun v45 _ => 2 - (intOf v45).toNat)
  case atStart => exact ⟨0, by omega, rfl, HOI.out⟩
  case round =>
    obtain ⟨k, hk, rfl, HI⟩ := hrel
    rcases (show k = 0 ∨ k = 1 ∨ k = 2 by omega) with rfl | rfl | rfl
    · have hidx := idx0
      have HT := hid (HI.out.t1 rfl)
      rcases HT.out with hv | ⟨g, n', cap', cur, hv, hgB, _⟩
      · simp only [Value.slice.injEq] at hv
        obtain ⟨hv1, hv2, hv3⟩ := hv
        subst hv1 hv2 hv3
        go_wp2_with fail
        go_loopw [54] (fun v54 wq => v54 = .int .i64 0 ∧ Hid (OI w1 wq w1.heap.size w2.heap.size (.slice none 0 0) (.slice a2 ul c2) 1)) (fun v54 _ => 0)
        case atStart => exact ⟨rfl, ⟨HI.out.bel, (fun e => by omega), (fun e => by first | exact HI.out.t2 (by omega) | omega), HI.out.lt⟩⟩
        case round =>
          obtain ⟨rfl, HJ⟩ := hrel
          go_wp2_with fail
          exact ⟨⟨1, by omega, rfl, HJ.out⟩, by simp [intOf]⟩
      · simp only [Value.slice.injEq] at hv
        obtain ⟨hv1, hv2, hv3⟩ := hv
        subst hv1 hv2 hv3
        obtain ⟨hnc, hcm⟩ := HT.out.capLe
        have i0 : (c1 : Int) ≤ (c1 : Int) := by omega
        have i9 : (0 : Int) ≤ (c1 : Int) := by omega
        go_wp2_with fail
        go_loopw [54] (fun v54 wq => ∃ i : Nat, i ≤ c1 ∧ v54 = .int .i64 i ∧ Hid (Below w1.heap.size w1 wq ∧ Tx w1.heap.size wq (.slice (some ⟨g, 0, none⟩) tl c1) i ∧ Tx w2.heap.size wq (.slice a2 ul c2) 0)) (fun v54 _ => c1 - (intOf v54).toNat)
        case atStart => exact ⟨0, by omega, rfl, HI.out.bel, HT.out, HI.out.t2 (by omega)⟩
        case round =>
          obtain ⟨i, hi, rfl, HJ⟩ := hrel
          by_cases hlt : i < c1
          · obtain ⟨z, hz, hzl, hfz⟩ := HJ.out.2.1.get hlt
            have i1 : (i : Int) < (c1 : Int) := by omega
            have hadd := fun W => run_string_add_sum (P := Try.prog) (w := W) z ⟨#[33]⟩ (by have : (⟨#[33]⟩ : ByteArray).size = 1 := rfl; omega)
            have HGB := hid (HJ.out.2.1.lt g rfl)
            go_wp2_with fail
            exact ⟨⟨i + 1, by omega, by go_num, bel_set HJ.out.1 _ _ _ HGB.out.1, HJ.out.2.1.set _, HJ.out.2.2.heap fun q hq => heap_setCell_other _ _ _ _ (by have h1 := HJ.out.2.2.lt q hq; have h2 := HI.out.lt g rfl; dsimp only; omega)⟩, by simp [intOf]; omega⟩
          · obtain rfl : i = c1 := by omega
            go_wp2_with fail
            exact ⟨⟨1, by omega, rfl, ⟨HJ.out.1, (fun e => by omega), (fun e => HJ.out.2.2), HI.out.lt⟩⟩, by simp [intOf]⟩
    · have hidx := idx1
      have HT := hid (HI.out.t2 (by omega))
      rcases HT.out with hv | ⟨g, n', cap', cur, hv, hgB, _⟩
      · simp only [Value.slice.injEq] at hv
        obtain ⟨hv1, hv2, hv3⟩ := hv
        subst hv1 hv2 hv3
        go_wp2_with fail
        go_loopw [54] (fun v54 wq => v54 = .int .i64 0 ∧ Hid (OI w1 wq w1.heap.size w2.heap.size (.slice a1 tl c1) (.slice none 0 0) 2)) (fun v54 _ => 0)
        case atStart => exact ⟨rfl, ⟨HI.out.bel, (fun e => by omega), (fun e => by first | exact HI.out.t2 (by omega) | omega), HI.out.lt⟩⟩
        case round =>
          obtain ⟨rfl, HJ⟩ := hrel
          go_wp2_with fail
          exact ⟨⟨2, by omega, rfl, HJ.out⟩, by simp [intOf]⟩
      · simp only [Value.slice.injEq] at hv
        obtain ⟨hv1, hv2, hv3⟩ := hv
        subst hv1 hv2 hv3
        obtain ⟨hnc, hcm⟩ := HT.out.capLe
        have i0 : (c2 : Int) ≤ (c2 : Int) := by omega
        have i9 : (0 : Int) ≤ (c2 : Int) := by omega
        go_wp2_with fail
        go_loopw [54] (fun v54 wq => ∃ i : Nat, i ≤ c2 ∧ v54 = .int .i64 i ∧ Hid (Below w1.heap.size w1 wq ∧ Tx w2.heap.size wq (.slice (some ⟨g, 0, none⟩) ul c2) i ∧ True)) (fun v54 _ => c2 - (intOf v54).toNat)
        case atStart => exact ⟨0, by omega, rfl, HI.out.bel, HT.out, trivial⟩
        case round =>
          obtain ⟨i, hi, rfl, HJ⟩ := hrel
          by_cases hlt : i < c2
          · obtain ⟨z, hz, hzl, hfz⟩ := HJ.out.2.1.get hlt
            have i1 : (i : Int) < (c2 : Int) := by omega
            have hadd := fun W => run_string_add_sum (P := Try.prog) (w := W) z ⟨#[33]⟩ (by have : (⟨#[33]⟩ : ByteArray).size = 1 := rfl; omega)
            have HGB := hid (HJ.out.2.1.lt g rfl)
            go_wp2_with fail
            exact ⟨⟨i + 1, by omega, by go_num, bel_set HJ.out.1 _ _ _ (Nat.le_trans HB2.out.size HGB.out.1), HJ.out.2.1.set _, trivial⟩, by simp [intOf]; omega⟩
          · obtain rfl : i = c2 := by omega
            go_wp2_with fail
            exact ⟨⟨2, by omega, rfl, ⟨HJ.out.1, (fun e => by omega), (fun e => by omega), HI.out.lt⟩⟩, by simp [intOf]⟩
    · obtain ⟨d0, d1, d2, d3, d4, d5⟩ := six_of ((HI.out.bel.block w.heap.size HLT1.out).trans HQ1.out)
      go_wp2_with fail
      refine (portLives_any _).mono ?_
      rintro e w6 ⟨rfl, b6⟩
      have HB6 := hid (HI.out.bel.trans (b6.mono HI.out.bel.size))
      clear d0 d1 d2 d3 d4 d5 b6
      obtain ⟨d0, d1, d2, d3, d4, d5⟩ := six_of ((HB6.out.block w.heap.size HLT1.out).trans HQ1.out)
      go_wp2_with fail
      refine (HEQ.out _ (HB1.out.trans (HB6.out.mono HB1.out.size)) at' ct (HT1.out.below HB6.out (Nat.le_refl _))).mono ?_
      rintro e w7 ⟨rfl, b7⟩
      have HB7 := hid (HB1.out.trans ((HB6.out.trans (b7.mono HB6.out.size)).mono HB1.out.size))
      clear b7
      go_wp2_with fail
      go_ret
      exact ⟨rfl, HB7.out⟩
end PortT
end Go.Proofs.Ytllfpbngfkimlaa
