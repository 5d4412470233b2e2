/- The law PortSays, at a right port (gen_prtl4.py writes this text). -/
import Derived.Test.YtllfpbngfkimlaaPrtL4
set_option linter.unusedVariables false
namespace Go.Proofs.Ytllfpbngfkimlaa
open Go.RowKit
open Go.Shelf Go.Sort
open SpanM SpanC IntsC
namespace PortC
open PrtM
theorem two_below (w : World) (o1 o2 : Obj) : Below w.heap.size w ((w.alloc o1).alloc o2) := ((Below.refl _ w).alloc (Nat.le_refl _) o1).alloc (by rw [World.size_alloc]; omega) o2
set_option maxRecDepth 20000 in
set_option maxHeartbeats 1600000 in
theorem portSays_00 (kd sz rm fr : Int) (l : List ByteArray) (tm : Int) (a : Option Addr) (c : Nat) (s : ByteArray) (now : Int) (w : World) (hk : wf64 kd) (hr : RdS w a l) (hn : a = none → l.length = 0 ∧ c = 0) (hc : l.length ≤ c) (hl : l.length ≤ 9223372036854775807) (h : chk (⟨kd, sz, rm, fr, l, tm⟩ : Pt) = 0) (h1 : wrE (⟨kd, sz, rm, fr, l, tm⟩ : Pt) s now = 0) (h2 : rdE (⟨kd, sz, rm, fr, l, tm⟩ : Pt) now = 0) (hlt : (wrQ (⟨kd, sz, rm, fr, l, tm⟩ : Pt) s now).texts.length ≤ 100000 ∧ (rdQ (⟨kd, sz, rm, fr, l, tm⟩ : Pt) now).texts.length ≤ 100000) :
    Calls Try.prog 4 #[.agg #[.int .i64 kd, .int .i64 sz, .int .i64 rm, .int .i64 fr, .slice a l.length c, .int .i64 tm], .string s, .int .i64 now] w fun e w' => e = .returned (.bool true) ∧ Below w.heap.size w w' := by
  have HW := hid (fun wx (hb : Below w.heap.size w wx) => Write_any (⟨kd, sz, rm, fr, l, tm⟩ : Pt) a c s now wx (hr.below hb (Nat.le_refl _)) hn)
  have HR := hid (fun wx (hb : Below w.heap.size w wx) => Read_any (⟨kd, sz, rm, fr, l, tm⟩ : Pt) a c now wx (hr.below hb (Nat.le_refl _)) hc)
  have HRT := hid (fun wx (hb : Below w.heap.size w wx) => Right_any (⟨kd, sz, rm, fr, l, tm⟩ : Pt) hk a c wx (hr.below hb (Nat.le_refl _)) hl)
  have HCH := hid (fun wx (hb : Below w.heap.size w wx) => Check_any (⟨kd, sz, rm, fr, l, tm⟩ : Pt) a c wx (hr.below hb (Nat.le_refl _)))
  have HD1 := hid (fun wx (hb : Below w.heap.size w wx) => Done_any (⟨kd, sz, rm, fr, l, tm⟩ : Pt) (1, now, s) (.slice a l.length c) wx h ⟨a, c, rfl, hr.below hb (Nat.le_refl _), hn, hc⟩)
  have HD2 := hid (fun wx (hb : Below w.heap.size w wx) => Done_any (⟨kd, sz, rm, fr, l, tm⟩ : Pt) (2, now, e0) (.slice a l.length c) wx h ⟨a, c, rfl, hr.below hb (Nat.le_refl _), hn, hc⟩)
  have g1 : doA (⟨kd, sz, rm, fr, l, tm⟩ : Pt) (1, now, s) = (e0, false, 0) := by unfold doA; rw [if_pos rfl, h1]
  have g2 : doP (⟨kd, sz, rm, fr, l, tm⟩ : Pt) (1, now, s) = wrQ (⟨kd, sz, rm, fr, l, tm⟩ : Pt) s now := by unfold doP wrQ; rw [g1, if_pos rfl, if_pos h1, if_pos rfl]
  rw [g1, g2] at HD1
  rw [h1] at HW
  have g4 : doA (⟨kd, sz, rm, fr, l, tm⟩ : Pt) (2, now, e0) = (rdX (⟨kd, sz, rm, fr, l, tm⟩ : Pt) now, rdB (⟨kd, sz, rm, fr, l, tm⟩ : Pt) now, 0) := by unfold doA rdX rdB; rw [if_neg (by simp), if_pos rfl, if_pos h2, if_pos h2, if_pos h2]
  have g5 : doP (⟨kd, sz, rm, fr, l, tm⟩ : Pt) (2, now, e0) = rdQ (⟨kd, sz, rm, fr, l, tm⟩ : Pt) now := by unfold doP rdQ; rw [g4, if_pos rfl, if_pos h2, if_neg (by simp)]
  rw [g4, g5] at HD2
  rw [h2] at HR
  clear g1 g2 g4 g5
  rw [h] at HRT HCH
  generalize rdX (⟨kd, sz, rm, fr, l, tm⟩ : Pt) now = RX at *
  generalize rdB (⟨kd, sz, rm, fr, l, tm⟩ : Pt) now = RB at *
  clear h1
  generalize wrQ (⟨kd, sz, rm, fr, l, tm⟩ : Pt) s now = QW at *
  obtain ⟨x0, x1, x2, x3, T, x5⟩ := QW
  clear h2
  generalize rdQ (⟨kd, sz, rm, fr, l, tm⟩ : Pt) now = QR at *
  obtain ⟨y0, y1, y2, y3, U, y5⟩ := QR
  simp only [vP, cP] at HW HR HRT HCH HD1 HD2
  simp only at hlt
  have HLT := hid hlt
  have HLL := hid hl
  clear hr hn hc hl h hlt
  go_enter Try.func4, Try.ntmps4
  go_wp2_with fail
  refine (HW.out _ ((Below.refl _ _).alloc (Nat.le_refl _) _)).mono ?_
  rintro e w1 ⟨⟨u1, rfl, hu1⟩, b1⟩
  obtain ⟨a1, c1, rfl, hr1, _⟩ := own_rd hu1
  have HB1 := hid (of_alloc (box1 b1))
  have hq1 := box_below (box_new w #[.int .i64 kd, .int .i64 sz, .int .i64 rm, .int .i64 fr, .slice a l.length c, .int .i64 tm] 36) b1 (Nat.le_refl _)
  have HQ1 := hid hq1
  have HR1 := hid hr1
  obtain ⟨d0, d1, d2, d3, d4, d5⟩ := six_of (box_alloc hq1 (.cells #[.int .i64 x0, .int .i64 x1, .int .i64 x2, .int .i64 x3, .slice a1 T.length c1, .int .i64 x5] 36))
  have hlt1 := (Array.getElem?_eq_some_iff.1 hq1).1
  have nn1 : ¬ w.heap.size = w1.heap.size := by omega
  have nn2 : ¬ w1.heap.size = w.heap.size := by omega
  have HLT1 := hid hlt1
  clear b1 hu1 hr1 hq1 hlt1
  go_wp2_with fail
  refine (HR.out _ (HB1.out.alloc HB1.out.size _)).mono ?_
  rintro e w2 ⟨⟨u2, rfl, hu2⟩, b2⟩
  obtain ⟨a2, c2, rfl, hr2, _⟩ := own_rd hu2
  have HB2 := hid (HB1.out.trans ((of_alloc (box1 b2)).mono HB1.out.size))
  have hq2 := box_below (box_alloc HQ1.out _) b2 (Nat.le_refl _)
  have hx2 := box_below (box_new w1 _ _) b2 (Nat.le_refl _)
  have HQ2 := hid hq2
  have HX2 := hid hx2
  have HR12 := hid (HR1.out.below (of_alloc (box1 b2)) (Nat.le_refl _))
  have HR2 := hid hr2
  clear d0 d1 d2 d3 d4 d5
  obtain ⟨d0, d1, d2, d3, d4, d5⟩ := six_of (box_alloc hq2 (.cells #[.int .i64 y0, .int .i64 y1, .int .i64 y2, .int .i64 y3, .slice a2 U.length c2, .int .i64 y5] 36))
  have hlt2 := (Array.getElem?_eq_some_iff.1 hx2).1
  have HLT2 := hid hlt2
  have mm1 : ¬ w.heap.size = w2.heap.size := by have := HLT1.out; omega
  have mm2 : ¬ w2.heap.size = w.heap.size := by have := HLT1.out; omega
  have mm3 : ¬ w1.heap.size = w2.heap.size := by omega
  have mm4 : ¬ w2.heap.size = w1.heap.size := by omega
  clear b2 hu2 hr2 hq2 hx2 hlt2
  go_wp2_with fail
  refine (HRT.out _ (HB2.out.alloc HB2.out.size _)).mono ?_
  rintro e w3 ⟨rfl, b3⟩
  have HB3 := hid (HB2.out.trans ((of_alloc (box1 b3)).mono HB2.out.size))
  have hq3 := box_below (box_alloc HQ2.out _) b3 (Nat.le_refl _)
  have hx3 := box_below (box_alloc HX2.out _) b3 (Nat.le_refl _)
  have hy3 := box_below (box_new w2 _ _) b3 (Nat.le_refl _)
  have HQ3 := hid hq3
  have HX3 := hid hx3
  have HY3 := hid hy3
  have HS1 := hid (HR12.out.below (of_alloc (box1 b3)) (Nat.le_refl _))
  have HS2 := hid (HR2.out.below (of_alloc (box1 b3)) (Nat.le_refl _))
  clear d0 d1 d2 d3 d4 d5
  obtain ⟨d0, d1, d2, d3, d4, d5⟩ := six_of hq3
  clear b3 hq3 hx3 hy3 nn1 nn2 mm1 mm2 mm3 mm4
  go_wp2_with fail
  refine (HCH.out _ HB3.out).mono ?_
  rintro e w4 ⟨rfl, b4⟩
  have HB4 := hid (HB3.out.trans (b4.mono HB3.out.size))
  have HQ4 := hid (box_below HQ3.out b4 (Nat.le_refl _))
  have HX4 := hid (box_below HX3.out b4 (Nat.le_refl _))
  have HY4 := hid (box_below HY3.out b4 (Nat.le_refl _))
  have HT1 := hid (HS1.out.below b4 (Nat.le_refl _))
  have HT2 := hid (HS2.out.below b4 (Nat.le_refl _))
  clear d0 d1 d2 d3 d4 d5
  obtain ⟨d0, d1, d2, d3, d4, d5⟩ := six_of HQ4.out
  clear b4
  go_wp2_with fail
  refine (HD1.out _ HB4.out).mono ?_
  rintro e w5 ⟨⟨u3, rfl, htx, hbk⟩, b5⟩
  obtain ⟨a3, c3, rfl, hr3, _⟩ := htx
  have HB5 := hid (HB4.out.trans (b5.mono HB4.out.size))
  have hq5 := box_below HQ4.out b5 (Nat.le_refl _)
  have HQ5 := hid hq5
  have HX5 := hid (box_below HX4.out b5 (Nat.le_refl _))
  have HY5 := hid (box_below HY4.out b5 (Nat.le_refl _))
  have HT15 := hid (HT1.out.below b5 (Nat.le_refl _))
  have HT25 := hid (HT2.out.below b5 (Nat.le_refl _))
  have HR3 := hid hr3
  clear d0 d1 d2 d3 d4 d5 b5 hbk hr3
  have hlt5 := (Array.getElem?_eq_some_iff.1 hq5).1
  have HLT5 := hid hlt5
  have gw := two_below w5 (.cells #[.int .i64 x0, .int .i64 x1, .int .i64 x2, .int .i64 x3, .slice a3 T.length c3, .int .i64 x5] 36) (.cells #[.string e0, .bool false, .int .i64 0] 44)
  have GW := hid gw
  obtain ⟨d0, d1, d2, d3, d4, d5⟩ := six_of (box_below hq5 gw (Nat.le_refl _))
  have nn1 : ¬ w.heap.size = w5.heap.size := by omega
  have nn2 : ¬ w5.heap.size = w.heap.size := by omega
  have nn3 : ¬ w.heap.size = w5.heap.size + 1 := by omega
  have nn4 : ¬ w5.heap.size + 1 = w.heap.size := by omega
  clear hq5 hlt5 gw
  go_wp2_with fail
  refine (HD2.out _ (HB5.out.trans (GW.out.mono HB5.out.size))).mono ?_
  rintro e w6 ⟨⟨u4, rfl, htx, hbk⟩, b6⟩
  obtain ⟨a4, c4, rfl, hr4, _⟩ := htx
  obtain ⟨t1, t2, t3, t4⟩ := two_ports b6
  have HB6 := hid (HB5.out.trans (t3.mono HB5.out.size))
  have hq6 := box_below HQ5.out t3 (Nat.le_refl _)
  have HX6 := hid (box_below HX5.out t3 (Nat.le_refl _))
  have HY6 := hid (box_below HY5.out t3 (Nat.le_refl _))
  have HT16 := hid (HT15.out.below t3 (Nat.le_refl _))
  have HT26 := hid (HT25.out.below t3 (Nat.le_refl _))
  have HR36 := hid (HR3.out.below t3 (Nat.le_refl _))
  have HR4 := hid hr4
  have HZ6 := hid t1
  have HA6 := hid t2
  have HS6 := hid t4
  have hlx := (Array.getElem?_eq_some_iff.1 HX6.out).1
  have hly := (Array.getElem?_eq_some_iff.1 HY6.out).1
  clear d0 d1 d2 d3 d4 d5 b6 hbk hr4 nn1 nn2 nn3 nn4 hq6 t1 t2 t3
  have hw6 := two_below w6 (.cells #[.int .i64 y0, .int .i64 y1, .int .i64 y2, .int .i64 y3, .slice a4 U.length c4, .int .i64 y5] 36) (.cells #[.string RX, .bool RB, .int .i64 0] 44)
  have GW6 := hid hw6
  obtain ⟨d0, d1, d2, d3, d4, d5⟩ := six_of (box_below HX6.out hw6 (Nat.le_refl _))
  obtain ⟨f0, f1, f2, f3, f4, f5⟩ := six_of (box_below HZ6.out hw6 (Nat.le_refl _))
  have nn1 : ¬ w1.heap.size = w6.heap.size := by omega
  have nn2 : ¬ w6.heap.size = w1.heap.size := by omega
  have nn3 : ¬ w1.heap.size = w6.heap.size + 1 := by omega
  have nn4 : ¬ w6.heap.size + 1 = w1.heap.size := by omega
  have nn5 : ¬ w5.heap.size = w6.heap.size := by omega
  have nn6 : ¬ w6.heap.size = w5.heap.size := by omega
  have nn7 : ¬ w5.heap.size = w6.heap.size + 1 := by omega
  have nn8 : ¬ w6.heap.size + 1 = w5.heap.size := by omega
  clear hw6 hlx hly t4
  go_wp2_with fail
  refine (same_yes x0 x1 x2 x3 x5 a1 a3 T.length c1 c3 T _ (HT16.out.below GW6.out (Nat.le_refl _)) (HR36.out.below GW6.out (Nat.le_refl _)) rfl HLT.out.1).mono ?_
  rintro e w7 ⟨rfl, b7⟩
  obtain ⟨t1, t2, t3, t4⟩ := two_ports b7
  have HB7 := hid (HB6.out.trans (t3.mono HB6.out.size))
  clear d0 d1 d2 d3 d4 d5 f0 f1 f2 f3 f4 f5 nn1 nn2 nn3 nn4 nn5 nn6 nn7 nn8
  obtain ⟨d0, d1, d2, d3, d4, d5⟩ := six_of (box_below HY6.out t3 (Nat.le_refl _))
  obtain ⟨f0, f1, f2, f3, f4, f5⟩ := six_of t1
  obtain ⟨m0, m1, m2⟩ := three_of (box_below HA6.out t3 (Nat.le_refl _))
  have HA7 := hid t2
  have HT27 := hid (HT26.out.below t3 (Nat.le_refl _))
  have HR47 := hid (HR4.out.below t3 (Nat.le_refl _))
  clear b7 t1 t2 t3 t4
  go_wp2_with fail
  refine (same_yes y0 y1 y2 y3 y5 a2 a4 U.length c2 c4 U _ HT27.out HR47.out rfl HLT.out.2).mono ?_
  rintro e w8 ⟨rfl, b8⟩
  have HB8 := hid (HB7.out.trans (b8.mono HB7.out.size))
  clear d0 d1 d2 d3 d4 d5 f0 f1 f2 f3 f4 f5 m0 m1 m2
  obtain ⟨m0, m1, m2⟩ := three_of (box_below HA7.out b8 (Nat.le_refl _))
  clear b8
  go_wp2_with fail
  go_ret
  exact ⟨rfl, HB8.out⟩
set_option maxRecDepth 20000 in
set_option maxHeartbeats 1600000 in
theorem portSays_10 (kd sz rm fr : Int) (l : List ByteArray) (tm : Int) (a : Option Addr) (c : Nat) (s : ByteArray) (now : Int) (w : World) (hk : wf64 kd) (hr : RdS w a l) (hn : a = none → l.length = 0 ∧ c = 0) (hc : l.length ≤ c) (hl : l.length ≤ 9223372036854775807) (h : chk (⟨kd, sz, rm, fr, l, tm⟩ : Pt) = 0) (h1 : wrE (⟨kd, sz, rm, fr, l, tm⟩ : Pt) s now ≠ 0) (h2 : rdE (⟨kd, sz, rm, fr, l, tm⟩ : Pt) now = 0) (hlt : (wrQ (⟨kd, sz, rm, fr, l, tm⟩ : Pt) s now).texts.length ≤ 100000 ∧ (rdQ (⟨kd, sz, rm, fr, l, tm⟩ : Pt) now).texts.length ≤ 100000) :
    Calls Try.prog 4 #[.agg #[.int .i64 kd, .int .i64 sz, .int .i64 rm, .int .i64 fr, .slice a l.length c, .int .i64 tm], .string s, .int .i64 now] w fun e w' => e = .returned (.bool true) ∧ Below w.heap.size w w' := by
  have HW := hid (fun wx (hb : Below w.heap.size w wx) => Write_any (⟨kd, sz, rm, fr, l, tm⟩ : Pt) a c s now wx (hr.below hb (Nat.le_refl _)) hn)
  have HR := hid (fun wx (hb : Below w.heap.size w wx) => Read_any (⟨kd, sz, rm, fr, l, tm⟩ : Pt) a c now wx (hr.below hb (Nat.le_refl _)) hc)
  have HRT := hid (fun wx (hb : Below w.heap.size w wx) => Right_any (⟨kd, sz, rm, fr, l, tm⟩ : Pt) hk a c wx (hr.below hb (Nat.le_refl _)) hl)
  have HCH := hid (fun wx (hb : Below w.heap.size w wx) => Check_any (⟨kd, sz, rm, fr, l, tm⟩ : Pt) a c wx (hr.below hb (Nat.le_refl _)))
  have HD1 := hid (fun wx (hb : Below w.heap.size w wx) => Done_any (⟨kd, sz, rm, fr, l, tm⟩ : Pt) (1, now, s) (.slice a l.length c) wx h ⟨a, c, rfl, hr.below hb (Nat.le_refl _), hn, hc⟩)
  have HD2 := hid (fun wx (hb : Below w.heap.size w wx) => Done_any (⟨kd, sz, rm, fr, l, tm⟩ : Pt) (2, now, e0) (.slice a l.length c) wx h ⟨a, c, rfl, hr.below hb (Nat.le_refl _), hn, hc⟩)
  have g1 : doA (⟨kd, sz, rm, fr, l, tm⟩ : Pt) (1, now, s) = (e0, false, wrE (⟨kd, sz, rm, fr, l, tm⟩ : Pt) s now) := by unfold doA; rw [if_pos rfl]
  have g2 : doP (⟨kd, sz, rm, fr, l, tm⟩ : Pt) (1, now, s) = (⟨kd, sz, rm, fr, l, tm⟩ : Pt) := doP_no (by rw [g1]; exact h1)
  have g3 : wrQ (⟨kd, sz, rm, fr, l, tm⟩ : Pt) s now = zPt := by unfold wrQ; rw [if_neg h1]
  rw [g1, g2] at HD1
  rw [g3] at HW hlt
  clear g3
  have g4 : doA (⟨kd, sz, rm, fr, l, tm⟩ : Pt) (2, now, e0) = (rdX (⟨kd, sz, rm, fr, l, tm⟩ : Pt) now, rdB (⟨kd, sz, rm, fr, l, tm⟩ : Pt) now, 0) := by unfold doA rdX rdB; rw [if_neg (by simp), if_pos rfl, if_pos h2, if_pos h2, if_pos h2]
  have g5 : doP (⟨kd, sz, rm, fr, l, tm⟩ : Pt) (2, now, e0) = rdQ (⟨kd, sz, rm, fr, l, tm⟩ : Pt) now := by unfold doP rdQ; rw [g4, if_pos rfl, if_pos h2, if_neg (by simp)]
  rw [g4, g5] at HD2
  rw [h2] at HR
  clear g1 g2 g4 g5
  rw [h] at HRT HCH
  have hE1 : (wrE (⟨kd, sz, rm, fr, l, tm⟩ : Pt) s now != 0) = true := by simp [h1]
  generalize wrE (⟨kd, sz, rm, fr, l, tm⟩ : Pt) s now = E1 at *
  generalize rdX (⟨kd, sz, rm, fr, l, tm⟩ : Pt) now = RX at *
  generalize rdB (⟨kd, sz, rm, fr, l, tm⟩ : Pt) now = RB at *
  clear h2
  generalize rdQ (⟨kd, sz, rm, fr, l, tm⟩ : Pt) now = QR at *
  obtain ⟨y0, y1, y2, y3, U, y5⟩ := QR
  simp only [vP, cP] at HW HR HRT HCH HD1 HD2
  simp only at hlt
  have HLT := hid hlt
  have HLL := hid hl
  clear hr hn hc hl h hlt h1
  go_enter Try.func4, Try.ntmps4
  go_wp2_with fail
  refine (HW.out _ ((Below.refl _ _).alloc (Nat.le_refl _) _)).mono ?_
  rintro e w1 ⟨⟨u1, rfl, hu1⟩, b1⟩
  obtain ⟨a1, c1, rfl, hr1⟩ := nil_own hu1
  have HB1 := hid (of_alloc (box1 b1))
  have hq1 := box_below (box_new w #[.int .i64 kd, .int .i64 sz, .int .i64 rm, .int .i64 fr, .slice a l.length c, .int .i64 tm] 36) b1 (Nat.le_refl _)
  have HQ1 := hid hq1
  have HR1 := hid hr1
  obtain ⟨d0, d1, d2, d3, d4, d5⟩ := six_of (box_alloc hq1 (.cells #[.int .i64 0, .int .i64 0, .int .i64 0, .int .i64 0, .slice a1 0 c1, .int .i64 0] 36))
  have hlt1 := (Array.getElem?_eq_some_iff.1 hq1).1
  have nn1 : ¬ w.heap.size = w1.heap.size := by omega
  have nn2 : ¬ w1.heap.size = w.heap.size := by omega
  have HLT1 := hid hlt1
  clear b1 hu1 hr1 hq1 hlt1
  go_wp2_with fail
  refine (HR.out _ (HB1.out.alloc HB1.out.size _)).mono ?_
  rintro e w2 ⟨⟨u2, rfl, hu2⟩, b2⟩
  obtain ⟨a2, c2, rfl, hr2, _⟩ := own_rd hu2
  have HB2 := hid (HB1.out.trans ((of_alloc (box1 b2)).mono HB1.out.size))
  have hq2 := box_below (box_alloc HQ1.out _) b2 (Nat.le_refl _)
  have hx2 := box_below (box_new w1 _ _) b2 (Nat.le_refl _)
  have HQ2 := hid hq2
  have HX2 := hid hx2
  have HR12 := hid (HR1.out.below (of_alloc (box1 b2)) (Nat.le_refl _))
  have HR2 := hid hr2
  clear d0 d1 d2 d3 d4 d5
  obtain ⟨d0, d1, d2, d3, d4, d5⟩ := six_of (box_alloc hq2 (.cells #[.int .i64 y0, .int .i64 y1, .int .i64 y2, .int .i64 y3, .slice a2 U.length c2, .int .i64 y5] 36))
  have hlt2 := (Array.getElem?_eq_some_iff.1 hx2).1
  have HLT2 := hid hlt2
  have mm1 : ¬ w.heap.size = w2.heap.size := by have := HLT1.out; omega
  have mm2 : ¬ w2.heap.size = w.heap.size := by have := HLT1.out; omega
  have mm3 : ¬ w1.heap.size = w2.heap.size := by omega
  have mm4 : ¬ w2.heap.size = w1.heap.size := by omega
  clear b2 hu2 hr2 hq2 hx2 hlt2
  go_wp2_with fail
  refine (HRT.out _ (HB2.out.alloc HB2.out.size _)).mono ?_
  rintro e w3 ⟨rfl, b3⟩
  have HB3 := hid (HB2.out.trans ((of_alloc (box1 b3)).mono HB2.out.size))
  have hq3 := box_below (box_alloc HQ2.out _) b3 (Nat.le_refl _)
  have hx3 := box_below (box_alloc HX2.out _) b3 (Nat.le_refl _)
  have hy3 := box_below (box_new w2 _ _) b3 (Nat.le_refl _)
  have HQ3 := hid hq3
  have HX3 := hid hx3
  have HY3 := hid hy3
  have HS1 := hid (HR12.out.below (of_alloc (box1 b3)) (Nat.le_refl _))
  have HS2 := hid (HR2.out.below (of_alloc (box1 b3)) (Nat.le_refl _))
  clear d0 d1 d2 d3 d4 d5
  obtain ⟨d0, d1, d2, d3, d4, d5⟩ := six_of hq3
  clear b3 hq3 hx3 hy3 nn1 nn2 mm1 mm2 mm3 mm4
  go_wp2_with fail
  refine (HCH.out _ HB3.out).mono ?_
  rintro e w4 ⟨rfl, b4⟩
  have HB4 := hid (HB3.out.trans (b4.mono HB3.out.size))
  have HQ4 := hid (box_below HQ3.out b4 (Nat.le_refl _))
  have HX4 := hid (box_below HX3.out b4 (Nat.le_refl _))
  have HY4 := hid (box_below HY3.out b4 (Nat.le_refl _))
  have HT1 := hid (HS1.out.below b4 (Nat.le_refl _))
  have HT2 := hid (HS2.out.below b4 (Nat.le_refl _))
  clear d0 d1 d2 d3 d4 d5
  obtain ⟨d0, d1, d2, d3, d4, d5⟩ := six_of HQ4.out
  clear b4
  go_wp2_with fail
  refine (HD1.out _ HB4.out).mono ?_
  rintro e w5 ⟨⟨u3, rfl, htx, hbk⟩, b5⟩
  obtain ⟨a3, c3, rfl, hr3, _⟩ := htx
  have HB5 := hid (HB4.out.trans (b5.mono HB4.out.size))
  have hq5 := box_below HQ4.out b5 (Nat.le_refl _)
  have HQ5 := hid hq5
  have HX5 := hid (box_below HX4.out b5 (Nat.le_refl _))
  have HY5 := hid (box_below HY4.out b5 (Nat.le_refl _))
  have HT15 := hid (HT1.out.below b5 (Nat.le_refl _))
  have HT25 := hid (HT2.out.below b5 (Nat.le_refl _))
  have HR3 := hid hr3
  clear d0 d1 d2 d3 d4 d5 b5 hbk hr3
  have hlt5 := (Array.getElem?_eq_some_iff.1 hq5).1
  have HLT5 := hid hlt5
  have gw := two_below w5 (.cells #[.int .i64 0, .int .i64 0, .int .i64 0, .int .i64 0, .slice none 0 0, .int .i64 0] 36) (.cells #[.string e0, .bool false, .int .i64 E1] 44)
  have GW := hid gw
  obtain ⟨d0, d1, d2, d3, d4, d5⟩ := six_of (box_below hq5 gw (Nat.le_refl _))
  have nn1 : ¬ w.heap.size = w5.heap.size := by omega
  have nn2 : ¬ w5.heap.size = w.heap.size := by omega
  have nn3 : ¬ w.heap.size = w5.heap.size + 1 := by omega
  have nn4 : ¬ w5.heap.size + 1 = w.heap.size := by omega
  clear hq5 hlt5 gw
  go_wp2_with fail
  refine (HD2.out _ (HB5.out.trans (GW.out.mono HB5.out.size))).mono ?_
  rintro e w6 ⟨⟨u4, rfl, htx, hbk⟩, b6⟩
  obtain ⟨a4, c4, rfl, hr4, _⟩ := htx
  obtain ⟨t1, t2, t3, t4⟩ := two_ports b6
  have HB6 := hid (HB5.out.trans (t3.mono HB5.out.size))
  have hq6 := box_below HQ5.out t3 (Nat.le_refl _)
  have HX6 := hid (box_below HX5.out t3 (Nat.le_refl _))
  have HY6 := hid (box_below HY5.out t3 (Nat.le_refl _))
  have HT16 := hid (HT15.out.below t3 (Nat.le_refl _))
  have HT26 := hid (HT25.out.below t3 (Nat.le_refl _))
  have HR36 := hid (HR3.out.below t3 (Nat.le_refl _))
  have HR4 := hid hr4
  have HZ6 := hid t1
  have HA6 := hid t2
  have HS6 := hid t4
  have hlx := (Array.getElem?_eq_some_iff.1 HX6.out).1
  have hly := (Array.getElem?_eq_some_iff.1 HY6.out).1
  clear d0 d1 d2 d3 d4 d5 b6 hbk hr4 nn1 nn2 nn3 nn4 hq6 t1 t2 t3
  have hw6 := two_below w6 (.cells #[.int .i64 y0, .int .i64 y1, .int .i64 y2, .int .i64 y3, .slice a4 U.length c4, .int .i64 y5] 36) (.cells #[.string RX, .bool RB, .int .i64 0] 44)
  have GW6 := hid hw6
  obtain ⟨d0, d1, d2, d3, d4, d5⟩ := six_of (box_below HX6.out hw6 (Nat.le_refl _))
  obtain ⟨f0, f1, f2, f3, f4, f5⟩ := six_of (box_below HZ6.out hw6 (Nat.le_refl _))
  have nn1 : ¬ w1.heap.size = w6.heap.size := by omega
  have nn2 : ¬ w6.heap.size = w1.heap.size := by omega
  have nn3 : ¬ w1.heap.size = w6.heap.size + 1 := by omega
  have nn4 : ¬ w6.heap.size + 1 = w1.heap.size := by omega
  have nn5 : ¬ w5.heap.size = w6.heap.size := by omega
  have nn6 : ¬ w6.heap.size = w5.heap.size := by omega
  have nn7 : ¬ w5.heap.size = w6.heap.size + 1 := by omega
  have nn8 : ¬ w6.heap.size + 1 = w5.heap.size := by omega
  clear hw6 hlx hly t4
  go_wp2_with fail
  refine (same_yes 0 0 0 0 0 a1 none 0 c1 0 [] _ (HT16.out.below GW6.out (Nat.le_refl _)) (.inl rfl) rfl (by omega)).mono ?_
  rintro e w7 ⟨rfl, b7⟩
  obtain ⟨t1, t2, t3, t4⟩ := two_ports b7
  have HB7 := hid (HB6.out.trans (t3.mono HB6.out.size))
  clear d0 d1 d2 d3 d4 d5 f0 f1 f2 f3 f4 f5 nn1 nn2 nn3 nn4 nn5 nn6 nn7 nn8
  obtain ⟨d0, d1, d2, d3, d4, d5⟩ := six_of (box_below HY6.out t3 (Nat.le_refl _))
  obtain ⟨f0, f1, f2, f3, f4, f5⟩ := six_of t1
  obtain ⟨m0, m1, m2⟩ := three_of (box_below HA6.out t3 (Nat.le_refl _))
  have HA7 := hid t2
  have HT27 := hid (HT26.out.below t3 (Nat.le_refl _))
  have HR47 := hid (HR4.out.below t3 (Nat.le_refl _))
  clear b7 t1 t2 t3 t4
  go_wp2_with fail
  refine (same_yes y0 y1 y2 y3 y5 a2 a4 U.length c2 c4 U _ HT27.out HR47.out rfl HLT.out.2).mono ?_
  rintro e w8 ⟨rfl, b8⟩
  have HB8 := hid (HB7.out.trans (b8.mono HB7.out.size))
  clear d0 d1 d2 d3 d4 d5 f0 f1 f2 f3 f4 f5 m0 m1 m2
  obtain ⟨m0, m1, m2⟩ := three_of (box_below HA7.out b8 (Nat.le_refl _))
  clear b8
  go_wp2_with fail
  go_ret
  exact ⟨rfl, HB8.out⟩
set_option maxRecDepth 20000 in
set_option maxHeartbeats 1600000 in
theorem portSays_01 (kd sz rm fr : Int) (l : List ByteArray) (tm : Int) (a : Option Addr) (c : Nat) (s : ByteArray) (now : Int) (w : World) (hk : wf64 kd) (hr : RdS w a l) (hn : a = none → l.length = 0 ∧ c = 0) (hc : l.length ≤ c) (hl : l.length ≤ 9223372036854775807) (h : chk (⟨kd, sz, rm, fr, l, tm⟩ : Pt) = 0) (h1 : wrE (⟨kd, sz, rm, fr, l, tm⟩ : Pt) s now = 0) (h2 : rdE (⟨kd, sz, rm, fr, l, tm⟩ : Pt) now ≠ 0) (hlt : (wrQ (⟨kd, sz, rm, fr, l, tm⟩ : Pt) s now).texts.length ≤ 100000 ∧ (rdQ (⟨kd, sz, rm, fr, l, tm⟩ : Pt) now).texts.length ≤ 100000) :
    Calls Try.prog 4 #[.agg #[.int .i64 kd, .int .i64 sz, .int .i64 rm, .int .i64 fr, .slice a l.length c, .int .i64 tm], .string s, .int .i64 now] w fun e w' => e = .returned (.bool true) ∧ Below w.heap.size w w' := by
  have HW := hid (fun wx (hb : Below w.heap.size w wx) => Write_any (⟨kd, sz, rm, fr, l, tm⟩ : Pt) a c s now wx (hr.below hb (Nat.le_refl _)) hn)
  have HR := hid (fun wx (hb : Below w.heap.size w wx) => Read_any (⟨kd, sz, rm, fr, l, tm⟩ : Pt) a c now wx (hr.below hb (Nat.le_refl _)) hc)
  have HRT := hid (fun wx (hb : Below w.heap.size w wx) => Right_any (⟨kd, sz, rm, fr, l, tm⟩ : Pt) hk a c wx (hr.below hb (Nat.le_refl _)) hl)
  have HCH := hid (fun wx (hb : Below w.heap.size w wx) => Check_any (⟨kd, sz, rm, fr, l, tm⟩ : Pt) a c wx (hr.below hb (Nat.le_refl _)))
  have HD1 := hid (fun wx (hb : Below w.heap.size w wx) => Done_any (⟨kd, sz, rm, fr, l, tm⟩ : Pt) (1, now, s) (.slice a l.length c) wx h ⟨a, c, rfl, hr.below hb (Nat.le_refl _), hn, hc⟩)
  have HD2 := hid (fun wx (hb : Below w.heap.size w wx) => Done_any (⟨kd, sz, rm, fr, l, tm⟩ : Pt) (2, now, e0) (.slice a l.length c) wx h ⟨a, c, rfl, hr.below hb (Nat.le_refl _), hn, hc⟩)
  have g1 : doA (⟨kd, sz, rm, fr, l, tm⟩ : Pt) (1, now, s) = (e0, false, 0) := by unfold doA; rw [if_pos rfl, h1]
  have g2 : doP (⟨kd, sz, rm, fr, l, tm⟩ : Pt) (1, now, s) = wrQ (⟨kd, sz, rm, fr, l, tm⟩ : Pt) s now := by unfold doP wrQ; rw [g1, if_pos rfl, if_pos h1, if_pos rfl]
  rw [g1, g2] at HD1
  rw [h1] at HW
  have g4 : doA (⟨kd, sz, rm, fr, l, tm⟩ : Pt) (2, now, e0) = (e0, false, rdE (⟨kd, sz, rm, fr, l, tm⟩ : Pt) now) := by unfold doA; rw [if_neg (by simp), if_pos rfl, if_neg h2]
  have g5 : doP (⟨kd, sz, rm, fr, l, tm⟩ : Pt) (2, now, e0) = (⟨kd, sz, rm, fr, l, tm⟩ : Pt) := doP_no (by rw [g4]; exact h2)
  have g6 : rdQ (⟨kd, sz, rm, fr, l, tm⟩ : Pt) now = zPt := by unfold rdQ; rw [if_neg h2]
  have g7 : rdX (⟨kd, sz, rm, fr, l, tm⟩ : Pt) now = e0 := by unfold rdX; rw [if_neg h2]
  have g8 : rdB (⟨kd, sz, rm, fr, l, tm⟩ : Pt) now = false := by unfold rdB; rw [if_neg h2]
  rw [g4, g5] at HD2
  rw [g6, g7, g8] at HR
  rw [g6] at hlt
  clear g6 g7 g8
  clear g1 g2 g4 g5
  rw [h] at HRT HCH
  have hE2 : (rdE (⟨kd, sz, rm, fr, l, tm⟩ : Pt) now != 0) = true := by simp [h2]
  generalize rdE (⟨kd, sz, rm, fr, l, tm⟩ : Pt) now = E2 at *
  clear h1
  generalize wrQ (⟨kd, sz, rm, fr, l, tm⟩ : Pt) s now = QW at *
  obtain ⟨x0, x1, x2, x3, T, x5⟩ := QW
  simp only [vP, cP] at HW HR HRT HCH HD1 HD2
  simp only at hlt
  have HLT := hid hlt
  have HLL := hid hl
  clear hr hn hc hl h hlt h2
  go_enter Try.func4, Try.ntmps4
  go_wp2_with fail
  refine (HW.out _ ((Below.refl _ _).alloc (Nat.le_refl _) _)).mono ?_
  rintro e w1 ⟨⟨u1, rfl, hu1⟩, b1⟩
  obtain ⟨a1, c1, rfl, hr1, _⟩ := own_rd hu1
  have HB1 := hid (of_alloc (box1 b1))
  have hq1 := box_below (box_new w #[.int .i64 kd, .int .i64 sz, .int .i64 rm, .int .i64 fr, .slice a l.length c, .int .i64 tm] 36) b1 (Nat.le_refl _)
  have HQ1 := hid hq1
  have HR1 := hid hr1
  obtain ⟨d0, d1, d2, d3, d4, d5⟩ := six_of (box_alloc hq1 (.cells #[.int .i64 x0, .int .i64 x1, .int .i64 x2, .int .i64 x3, .slice a1 T.length c1, .int .i64 x5] 36))
  have hlt1 := (Array.getElem?_eq_some_iff.1 hq1).1
  have nn1 : ¬ w.heap.size = w1.heap.size := by omega
  have nn2 : ¬ w1.heap.size = w.heap.size := by omega
  have HLT1 := hid hlt1
  clear b1 hu1 hr1 hq1 hlt1
  go_wp2_with fail
  refine (HR.out _ (HB1.out.alloc HB1.out.size _)).mono ?_
  rintro e w2 ⟨⟨u2, rfl, hu2⟩, b2⟩
  obtain ⟨a2, c2, rfl, hr2⟩ := nil_own hu2
  have HB2 := hid (HB1.out.trans ((of_alloc (box1 b2)).mono HB1.out.size))
  have hq2 := box_below (box_alloc HQ1.out _) b2 (Nat.le_refl _)
  have hx2 := box_below (box_new w1 _ _) b2 (Nat.le_refl _)
  have HQ2 := hid hq2
  have HX2 := hid hx2
  have HR12 := hid (HR1.out.below (of_alloc (box1 b2)) (Nat.le_refl _))
  have HR2 := hid hr2
  clear d0 d1 d2 d3 d4 d5
  obtain ⟨d0, d1, d2, d3, d4, d5⟩ := six_of (box_alloc hq2 (.cells #[.int .i64 0, .int .i64 0, .int .i64 0, .int .i64 0, .slice a2 0 c2, .int .i64 0] 36))
  have hlt2 := (Array.getElem?_eq_some_iff.1 hx2).1
  have HLT2 := hid hlt2
  have mm1 : ¬ w.heap.size = w2.heap.size := by have := HLT1.out; omega
  have mm2 : ¬ w2.heap.size = w.heap.size := by have := HLT1.out; omega
  have mm3 : ¬ w1.heap.size = w2.heap.size := by omega
  have mm4 : ¬ w2.heap.size = w1.heap.size := by omega
  clear b2 hu2 hr2 hq2 hx2 hlt2
  go_wp2_with fail
  refine (HRT.out _ (HB2.out.alloc HB2.out.size _)).mono ?_
  rintro e w3 ⟨rfl, b3⟩
  have HB3 := hid (HB2.out.trans ((of_alloc (box1 b3)).mono HB2.out.size))
  have hq3 := box_below (box_alloc HQ2.out _) b3 (Nat.le_refl _)
  have hx3 := box_below (box_alloc HX2.out _) b3 (Nat.le_refl _)
  have hy3 := box_below (box_new w2 _ _) b3 (Nat.le_refl _)
  have HQ3 := hid hq3
  have HX3 := hid hx3
  have HY3 := hid hy3
  have HS1 := hid (HR12.out.below (of_alloc (box1 b3)) (Nat.le_refl _))
  have HS2 := hid (HR2.out.below (of_alloc (box1 b3)) (Nat.le_refl _))
  clear d0 d1 d2 d3 d4 d5
  obtain ⟨d0, d1, d2, d3, d4, d5⟩ := six_of hq3
  clear b3 hq3 hx3 hy3 nn1 nn2 mm1 mm2 mm3 mm4
  go_wp2_with fail
  refine (HCH.out _ HB3.out).mono ?_
  rintro e w4 ⟨rfl, b4⟩
  have HB4 := hid (HB3.out.trans (b4.mono HB3.out.size))
  have HQ4 := hid (box_below HQ3.out b4 (Nat.le_refl _))
  have HX4 := hid (box_below HX3.out b4 (Nat.le_refl _))
  have HY4 := hid (box_below HY3.out b4 (Nat.le_refl _))
  have HT1 := hid (HS1.out.below b4 (Nat.le_refl _))
  have HT2 := hid (HS2.out.below b4 (Nat.le_refl _))
  clear d0 d1 d2 d3 d4 d5
  obtain ⟨d0, d1, d2, d3, d4, d5⟩ := six_of HQ4.out
  clear b4
  go_wp2_with fail
  refine (HD1.out _ HB4.out).mono ?_
  rintro e w5 ⟨⟨u3, rfl, htx, hbk⟩, b5⟩
  obtain ⟨a3, c3, rfl, hr3, _⟩ := htx
  have HB5 := hid (HB4.out.trans (b5.mono HB4.out.size))
  have hq5 := box_below HQ4.out b5 (Nat.le_refl _)
  have HQ5 := hid hq5
  have HX5 := hid (box_below HX4.out b5 (Nat.le_refl _))
  have HY5 := hid (box_below HY4.out b5 (Nat.le_refl _))
  have HT15 := hid (HT1.out.below b5 (Nat.le_refl _))
  have HT25 := hid (HT2.out.below b5 (Nat.le_refl _))
  have HR3 := hid hr3
  clear d0 d1 d2 d3 d4 d5 b5 hbk hr3
  have hlt5 := (Array.getElem?_eq_some_iff.1 hq5).1
  have HLT5 := hid hlt5
  have gw := two_below w5 (.cells #[.int .i64 x0, .int .i64 x1, .int .i64 x2, .int .i64 x3, .slice a3 T.length c3, .int .i64 x5] 36) (.cells #[.string e0, .bool false, .int .i64 0] 44)
  have GW := hid gw
  obtain ⟨d0, d1, d2, d3, d4, d5⟩ := six_of (box_below hq5 gw (Nat.le_refl _))
  have nn1 : ¬ w.heap.size = w5.heap.size := by omega
  have nn2 : ¬ w5.heap.size = w.heap.size := by omega
  have nn3 : ¬ w.heap.size = w5.heap.size + 1 := by omega
  have nn4 : ¬ w5.heap.size + 1 = w.heap.size := by omega
  clear hq5 hlt5 gw
  go_wp2_with fail
  refine (HD2.out _ (HB5.out.trans (GW.out.mono HB5.out.size))).mono ?_
  rintro e w6 ⟨⟨u4, rfl, htx, hbk⟩, b6⟩
  obtain ⟨a4, c4, rfl, hr4, _⟩ := htx
  obtain ⟨t1, t2, t3, t4⟩ := two_ports b6
  have HB6 := hid (HB5.out.trans (t3.mono HB5.out.size))
  have hq6 := box_below HQ5.out t3 (Nat.le_refl _)
  have HX6 := hid (box_below HX5.out t3 (Nat.le_refl _))
  have HY6 := hid (box_below HY5.out t3 (Nat.le_refl _))
  have HT16 := hid (HT15.out.below t3 (Nat.le_refl _))
  have HT26 := hid (HT25.out.below t3 (Nat.le_refl _))
  have HR36 := hid (HR3.out.below t3 (Nat.le_refl _))
  have HR4 := hid hr4
  have HZ6 := hid t1
  have HA6 := hid t2
  have HS6 := hid t4
  have hlx := (Array.getElem?_eq_some_iff.1 HX6.out).1
  have hly := (Array.getElem?_eq_some_iff.1 HY6.out).1
  clear d0 d1 d2 d3 d4 d5 b6 hbk hr4 nn1 nn2 nn3 nn4 hq6 t1 t2 t3
  have hw6 := two_below w6 (.cells #[.int .i64 0, .int .i64 0, .int .i64 0, .int .i64 0, .slice none 0 0, .int .i64 0] 36) (.cells #[.string e0, .bool false, .int .i64 E2] 44)
  have GW6 := hid hw6
  obtain ⟨d0, d1, d2, d3, d4, d5⟩ := six_of (box_below HX6.out hw6 (Nat.le_refl _))
  obtain ⟨f0, f1, f2, f3, f4, f5⟩ := six_of (box_below HZ6.out hw6 (Nat.le_refl _))
  have nn1 : ¬ w1.heap.size = w6.heap.size := by omega
  have nn2 : ¬ w6.heap.size = w1.heap.size := by omega
  have nn3 : ¬ w1.heap.size = w6.heap.size + 1 := by omega
  have nn4 : ¬ w6.heap.size + 1 = w1.heap.size := by omega
  have nn5 : ¬ w5.heap.size = w6.heap.size := by omega
  have nn6 : ¬ w6.heap.size = w5.heap.size := by omega
  have nn7 : ¬ w5.heap.size = w6.heap.size + 1 := by omega
  have nn8 : ¬ w6.heap.size + 1 = w5.heap.size := by omega
  clear hw6 hlx hly t4
  go_wp2_with fail
  refine (same_yes x0 x1 x2 x3 x5 a1 a3 T.length c1 c3 T _ (HT16.out.below GW6.out (Nat.le_refl _)) (HR36.out.below GW6.out (Nat.le_refl _)) rfl HLT.out.1).mono ?_
  rintro e w7 ⟨rfl, b7⟩
  obtain ⟨t1, t2, t3, t4⟩ := two_ports b7
  have HB7 := hid (HB6.out.trans (t3.mono HB6.out.size))
  clear d0 d1 d2 d3 d4 d5 f0 f1 f2 f3 f4 f5 nn1 nn2 nn3 nn4 nn5 nn6 nn7 nn8
  obtain ⟨d0, d1, d2, d3, d4, d5⟩ := six_of (box_below HY6.out t3 (Nat.le_refl _))
  obtain ⟨f0, f1, f2, f3, f4, f5⟩ := six_of t1
  obtain ⟨m0, m1, m2⟩ := three_of (box_below HA6.out t3 (Nat.le_refl _))
  have HA7 := hid t2
  have HT27 := hid (HT26.out.below t3 (Nat.le_refl _))
  have HR47 := hid (HR4.out.below t3 (Nat.le_refl _))
  clear b7 t1 t2 t3 t4
  go_wp2_with fail
  refine (same_yes 0 0 0 0 0 a2 none 0 c2 0 [] _ HT27.out (.inl rfl) rfl (by omega)).mono ?_
  rintro e w8 ⟨rfl, b8⟩
  have HB8 := hid (HB7.out.trans (b8.mono HB7.out.size))
  clear d0 d1 d2 d3 d4 d5 f0 f1 f2 f3 f4 f5 m0 m1 m2
  obtain ⟨m0, m1, m2⟩ := three_of (box_below HA7.out b8 (Nat.le_refl _))
  clear b8
  go_wp2_with fail
  go_ret
  exact ⟨rfl, HB8.out⟩
set_option maxRecDepth 20000 in
set_option maxHeartbeats 1600000 in
theorem portSays_11 (kd sz rm fr : Int) (l : List ByteArray) (tm : Int) (a : Option Addr) (c : Nat) (s : ByteArray) (now : Int) (w : World) (hk : wf64 kd) (hr : RdS w a l) (hn : a = none → l.length = 0 ∧ c = 0) (hc : l.length ≤ c) (hl : l.length ≤ 9223372036854775807) (h : chk (⟨kd, sz, rm, fr, l, tm⟩ : Pt) = 0) (h1 : wrE (⟨kd, sz, rm, fr, l, tm⟩ : Pt) s now ≠ 0) (h2 : rdE (⟨kd, sz, rm, fr, l, tm⟩ : Pt) now ≠ 0) (hlt : (wrQ (⟨kd, sz, rm, fr, l, tm⟩ : Pt) s now).texts.length ≤ 100000 ∧ (rdQ (⟨kd, sz, rm, fr, l, tm⟩ : Pt) now).texts.length ≤ 100000) :
    Calls Try.prog 4 #[.agg #[.int .i64 kd, .int .i64 sz, .int .i64 rm, .int .i64 fr, .slice a l.length c, .int .i64 tm], .string s, .int .i64 now] w fun e w' => e = .returned (.bool true) ∧ Below w.heap.size w w' := by
  have HW := hid (fun wx (hb : Below w.heap.size w wx) => Write_any (⟨kd, sz, rm, fr, l, tm⟩ : Pt) a c s now wx (hr.below hb (Nat.le_refl _)) hn)
  have HR := hid (fun wx (hb : Below w.heap.size w wx) => Read_any (⟨kd, sz, rm, fr, l, tm⟩ : Pt) a c now wx (hr.below hb (Nat.le_refl _)) hc)
  have HRT := hid (fun wx (hb : Below w.heap.size w wx) => Right_any (⟨kd, sz, rm, fr, l, tm⟩ : Pt) hk a c wx (hr.below hb (Nat.le_refl _)) hl)
  have HCH := hid (fun wx (hb : Below w.heap.size w wx) => Check_any (⟨kd, sz, rm, fr, l, tm⟩ : Pt) a c wx (hr.below hb (Nat.le_refl _)))
  have HD1 := hid (fun wx (hb : Below w.heap.size w wx) => Done_any (⟨kd, sz, rm, fr, l, tm⟩ : Pt) (1, now, s) (.slice a l.length c) wx h ⟨a, c, rfl, hr.below hb (Nat.le_refl _), hn, hc⟩)
  have HD2 := hid (fun wx (hb : Below w.heap.size w wx) => Done_any (⟨kd, sz, rm, fr, l, tm⟩ : Pt) (2, now, e0) (.slice a l.length c) wx h ⟨a, c, rfl, hr.below hb (Nat.le_refl _), hn, hc⟩)
  have g1 : doA (⟨kd, sz, rm, fr, l, tm⟩ : Pt) (1, now, s) = (e0, false, wrE (⟨kd, sz, rm, fr, l, tm⟩ : Pt) s now) := by unfold doA; rw [if_pos rfl]
  have g2 : doP (⟨kd, sz, rm, fr, l, tm⟩ : Pt) (1, now, s) = (⟨kd, sz, rm, fr, l, tm⟩ : Pt) := doP_no (by rw [g1]; exact h1)
  have g3 : wrQ (⟨kd, sz, rm, fr, l, tm⟩ : Pt) s now = zPt := by unfold wrQ; rw [if_neg h1]
  rw [g1, g2] at HD1
  rw [g3] at HW hlt
  clear g3
  have g4 : doA (⟨kd, sz, rm, fr, l, tm⟩ : Pt) (2, now, e0) = (e0, false, rdE (⟨kd, sz, rm, fr, l, tm⟩ : Pt) now) := by unfold doA; rw [if_neg (by simp), if_pos rfl, if_neg h2]
  have g5 : doP (⟨kd, sz, rm, fr, l, tm⟩ : Pt) (2, now, e0) = (⟨kd, sz, rm, fr, l, tm⟩ : Pt) := doP_no (by rw [g4]; exact h2)
  have g6 : rdQ (⟨kd, sz, rm, fr, l, tm⟩ : Pt) now = zPt := by unfold rdQ; rw [if_neg h2]
  have g7 : rdX (⟨kd, sz, rm, fr, l, tm⟩ : Pt) now = e0 := by unfold rdX; rw [if_neg h2]
  have g8 : rdB (⟨kd, sz, rm, fr, l, tm⟩ : Pt) now = false := by unfold rdB; rw [if_neg h2]
  rw [g4, g5] at HD2
  rw [g6, g7, g8] at HR
  rw [g6] at hlt
  clear g6 g7 g8
  clear g1 g2 g4 g5
  rw [h] at HRT HCH
  have hE1 : (wrE (⟨kd, sz, rm, fr, l, tm⟩ : Pt) s now != 0) = true := by simp [h1]
  generalize wrE (⟨kd, sz, rm, fr, l, tm⟩ : Pt) s now = E1 at *
  have hE2 : (rdE (⟨kd, sz, rm, fr, l, tm⟩ : Pt) now != 0) = true := by simp [h2]
  generalize rdE (⟨kd, sz, rm, fr, l, tm⟩ : Pt) now = E2 at *
  simp only [vP, cP] at HW HR HRT HCH HD1 HD2
  simp only at hlt
  have HLT := hid hlt
  have HLL := hid hl
  clear hr hn hc hl h hlt h1 h2
  go_enter Try.func4, Try.ntmps4
  go_wp2_with fail
  refine (HW.out _ ((Below.refl _ _).alloc (Nat.le_refl _) _)).mono ?_
  rintro e w1 ⟨⟨u1, rfl, hu1⟩, b1⟩
  obtain ⟨a1, c1, rfl, hr1⟩ := nil_own hu1
  have HB1 := hid (of_alloc (box1 b1))
  have hq1 := box_below (box_new w #[.int .i64 kd, .int .i64 sz, .int .i64 rm, .int .i64 fr, .slice a l.length c, .int .i64 tm] 36) b1 (Nat.le_refl _)
  have HQ1 := hid hq1
  have HR1 := hid hr1
  obtain ⟨d0, d1, d2, d3, d4, d5⟩ := six_of (box_alloc hq1 (.cells #[.int .i64 0, .int .i64 0, .int .i64 0, .int .i64 0, .slice a1 0 c1, .int .i64 0] 36))
  have hlt1 := (Array.getElem?_eq_some_iff.1 hq1).1
  have nn1 : ¬ w.heap.size = w1.heap.size := by omega
  have nn2 : ¬ w1.heap.size = w.heap.size := by omega
  have HLT1 := hid hlt1
  clear b1 hu1 hr1 hq1 hlt1
  go_wp2_with fail
  refine (HR.out _ (HB1.out.alloc HB1.out.size _)).mono ?_
  rintro e w2 ⟨⟨u2, rfl, hu2⟩, b2⟩
  obtain ⟨a2, c2, rfl, hr2⟩ := nil_own hu2
  have HB2 := hid (HB1.out.trans ((of_alloc (box1 b2)).mono HB1.out.size))
  have hq2 := box_below (box_alloc HQ1.out _) b2 (Nat.le_refl _)
  have hx2 := box_below (box_new w1 _ _) b2 (Nat.le_refl _)
  have HQ2 := hid hq2
  have HX2 := hid hx2
  have HR12 := hid (HR1.out.below (of_alloc (box1 b2)) (Nat.le_refl _))
  have HR2 := hid hr2
  clear d0 d1 d2 d3 d4 d5
  obtain ⟨d0, d1, d2, d3, d4, d5⟩ := six_of (box_alloc hq2 (.cells #[.int .i64 0, .int .i64 0, .int .i64 0, .int .i64 0, .slice a2 0 c2, .int .i64 0] 36))
  have hlt2 := (Array.getElem?_eq_some_iff.1 hx2).1
  have HLT2 := hid hlt2
  have mm1 : ¬ w.heap.size = w2.heap.size := by have := HLT1.out; omega
  have mm2 : ¬ w2.heap.size = w.heap.size := by have := HLT1.out; omega
  have mm3 : ¬ w1.heap.size = w2.heap.size := by omega
  have mm4 : ¬ w2.heap.size = w1.heap.size := by omega
  clear b2 hu2 hr2 hq2 hx2 hlt2
  go_wp2_with fail
  refine (HRT.out _ (HB2.out.alloc HB2.out.size _)).mono ?_
  rintro e w3 ⟨rfl, b3⟩
  have HB3 := hid (HB2.out.trans ((of_alloc (box1 b3)).mono HB2.out.size))
  have hq3 := box_below (box_alloc HQ2.out _) b3 (Nat.le_refl _)
  have hx3 := box_below (box_alloc HX2.out _) b3 (Nat.le_refl _)
  have hy3 := box_below (box_new w2 _ _) b3 (Nat.le_refl _)
  have HQ3 := hid hq3
  have HX3 := hid hx3
  have HY3 := hid hy3
  have HS1 := hid (HR12.out.below (of_alloc (box1 b3)) (Nat.le_refl _))
  have HS2 := hid (HR2.out.below (of_alloc (box1 b3)) (Nat.le_refl _))
  clear d0 d1 d2 d3 d4 d5
  obtain ⟨d0, d1, d2, d3, d4, d5⟩ := six_of hq3
  clear b3 hq3 hx3 hy3 nn1 nn2 mm1 mm2 mm3 mm4
  go_wp2_with fail
  refine (HCH.out _ HB3.out).mono ?_
  rintro e w4 ⟨rfl, b4⟩
  have HB4 := hid (HB3.out.trans (b4.mono HB3.out.size))
  have HQ4 := hid (box_below HQ3.out b4 (Nat.le_refl _))
  have HX4 := hid (box_below HX3.out b4 (Nat.le_refl _))
  have HY4 := hid (box_below HY3.out b4 (Nat.le_refl _))
  have HT1 := hid (HS1.out.below b4 (Nat.le_refl _))
  have HT2 := hid (HS2.out.below b4 (Nat.le_refl _))
  clear d0 d1 d2 d3 d4 d5
  obtain ⟨d0, d1, d2, d3, d4, d5⟩ := six_of HQ4.out
  clear b4
  go_wp2_with fail
  refine (HD1.out _ HB4.out).mono ?_
  rintro e w5 ⟨⟨u3, rfl, htx, hbk⟩, b5⟩
  obtain ⟨a3, c3, rfl, hr3, _⟩ := htx
  have HB5 := hid (HB4.out.trans (b5.mono HB4.out.size))
  have hq5 := box_below HQ4.out b5 (Nat.le_refl _)
  have HQ5 := hid hq5
  have HX5 := hid (box_below HX4.out b5 (Nat.le_refl _))
  have HY5 := hid (box_below HY4.out b5 (Nat.le_refl _))
  have HT15 := hid (HT1.out.below b5 (Nat.le_refl _))
  have HT25 := hid (HT2.out.below b5 (Nat.le_refl _))
  have HR3 := hid hr3
  clear d0 d1 d2 d3 d4 d5 b5 hbk hr3
  have hlt5 := (Array.getElem?_eq_some_iff.1 hq5).1
  have HLT5 := hid hlt5
  have gw := two_below w5 (.cells #[.int .i64 0, .int .i64 0, .int .i64 0, .int .i64 0, .slice none 0 0, .int .i64 0] 36) (.cells #[.string e0, .bool false, .int .i64 E1] 44)
  have GW := hid gw
  obtain ⟨d0, d1, d2, d3, d4, d5⟩ := six_of (box_below hq5 gw (Nat.le_refl _))
  have nn1 : ¬ w.heap.size = w5.heap.size := by omega
  have nn2 : ¬ w5.heap.size = w.heap.size := by omega
  have nn3 : ¬ w.heap.size = w5.heap.size + 1 := by omega
  have nn4 : ¬ w5.heap.size + 1 = w.heap.size := by omega
  clear hq5 hlt5 gw
  go_wp2_with fail
  refine (HD2.out _ (HB5.out.trans (GW.out.mono HB5.out.size))).mono ?_
  rintro e w6 ⟨⟨u4, rfl, htx, hbk⟩, b6⟩
  obtain ⟨a4, c4, rfl, hr4, _⟩ := htx
  obtain ⟨t1, t2, t3, t4⟩ := two_ports b6
  have HB6 := hid (HB5.out.trans (t3.mono HB5.out.size))
  have hq6 := box_below HQ5.out t3 (Nat.le_refl _)
  have HX6 := hid (box_below HX5.out t3 (Nat.le_refl _))
  have HY6 := hid (box_below HY5.out t3 (Nat.le_refl _))
  have HT16 := hid (HT15.out.below t3 (Nat.le_refl _))
  have HT26 := hid (HT25.out.below t3 (Nat.le_refl _))
  have HR36 := hid (HR3.out.below t3 (Nat.le_refl _))
  have HR4 := hid hr4
  have HZ6 := hid t1
  have HA6 := hid t2
  have HS6 := hid t4
  have hlx := (Array.getElem?_eq_some_iff.1 HX6.out).1
  have hly := (Array.getElem?_eq_some_iff.1 HY6.out).1
  clear d0 d1 d2 d3 d4 d5 b6 hbk hr4 nn1 nn2 nn3 nn4 hq6 t1 t2 t3
  have hw6 := two_below w6 (.cells #[.int .i64 0, .int .i64 0, .int .i64 0, .int .i64 0, .slice none 0 0, .int .i64 0] 36) (.cells #[.string e0, .bool false, .int .i64 E2] 44)
  have GW6 := hid hw6
  obtain ⟨d0, d1, d2, d3, d4, d5⟩ := six_of (box_below HX6.out hw6 (Nat.le_refl _))
  obtain ⟨f0, f1, f2, f3, f4, f5⟩ := six_of (box_below HZ6.out hw6 (Nat.le_refl _))
  have nn1 : ¬ w1.heap.size = w6.heap.size := by omega
  have nn2 : ¬ w6.heap.size = w1.heap.size := by omega
  have nn3 : ¬ w1.heap.size = w6.heap.size + 1 := by omega
  have nn4 : ¬ w6.heap.size + 1 = w1.heap.size := by omega
  have nn5 : ¬ w5.heap.size = w6.heap.size := by omega
  have nn6 : ¬ w6.heap.size = w5.heap.size := by omega
  have nn7 : ¬ w5.heap.size = w6.heap.size + 1 := by omega
  have nn8 : ¬ w6.heap.size + 1 = w5.heap.size := by omega
  clear hw6 hlx hly t4
  go_wp2_with fail
  refine (same_yes 0 0 0 0 0 a1 none 0 c1 0 [] _ (HT16.out.below GW6.out (Nat.le_refl _)) (.inl rfl) rfl (by omega)).mono ?_
  rintro e w7 ⟨rfl, b7⟩
  obtain ⟨t1, t2, t3, t4⟩ := two_ports b7
  have HB7 := hid (HB6.out.trans (t3.mono HB6.out.size))
  clear d0 d1 d2 d3 d4 d5 f0 f1 f2 f3 f4 f5 nn1 nn2 nn3 nn4 nn5 nn6 nn7 nn8
  obtain ⟨d0, d1, d2, d3, d4, d5⟩ := six_of (box_below HY6.out t3 (Nat.le_refl _))
  obtain ⟨f0, f1, f2, f3, f4, f5⟩ := six_of t1
  obtain ⟨m0, m1, m2⟩ := three_of (box_below HA6.out t3 (Nat.le_refl _))
  have HA7 := hid t2
  have HT27 := hid (HT26.out.below t3 (Nat.le_refl _))
  have HR47 := hid (HR4.out.below t3 (Nat.le_refl _))
  clear b7 t1 t2 t3 t4
  go_wp2_with fail
  refine (same_yes 0 0 0 0 0 a2 none 0 c2 0 [] _ HT27.out (.inl rfl) rfl (by omega)).mono ?_
  rintro e w8 ⟨rfl, b8⟩
  have HB8 := hid (HB7.out.trans (b8.mono HB7.out.size))
  clear d0 d1 d2 d3 d4 d5 f0 f1 f2 f3 f4 f5 m0 m1 m2
  obtain ⟨m0, m1, m2⟩ := three_of (box_below HA7.out b8 (Nat.le_refl _))
  clear b8
  go_wp2_with fail
  go_ret
  exact ⟨rfl, HB8.out⟩
theorem wrQ_len (p : Pt) (s : ByteArray) (now : Int) (h : chk p = 0) : (wrQ p s now).texts.length ≤ 100000 := by
  obtain ⟨⟨k12, _, q1, q2⟩, ⟨f1, _⟩, _⟩ := chk_zero h
  have hl : p.texts.length ≤ 100 := by
    rcases k12 with q | q
    · have := (q1 q).1; omega
    · have := (q2 q).2.1; omega
  unfold wrQ
  split
  · unfold wrP
    split
    · simp
    · simp only [List.length_append, List.length_cons, List.length_nil]; omega
  · simp
theorem rdQ_len (p : Pt) (now : Int) (h : chk p = 0) : (rdQ p now).texts.length ≤ 100000 := by
  obtain ⟨⟨k12, _, q1, q2⟩, ⟨f1, _⟩, _⟩ := chk_zero h
  have hl : p.texts.length ≤ 100 := by
    rcases k12 with q | q
    · have := (q1 q).1; omega
    · have := (q2 q).2.1; omega
  unfold rdQ
  split
  · unfold rdP
    split
    · omega
    · simp only [List.length_drop]; omega
  · simp
theorem portSays_walk (kd sz rm fr : Int) (a : Option Addr) (len cap : Nat) (l : List ByteArray) (tm : Int) (s : ByteArray) (now : Int) (w : World) (hk : wf64 kd) (hp : RowsO.IsStr w a len cap l) (hn : wf64 now) :
    Calls Try.prog 4 #[.agg #[.int .i64 kd, .int .i64 sz, .int .i64 rm, .int .i64 fr, .slice a len cap, .int .i64 tm], .string s, .int .i64 now] w fun e w' => e = .returned (.bool true) ∧ Below w.heap.size w w' := by
  obtain ⟨rfl, hc, hm, hr, hz, _⟩ := hp
  have hl : l.length ≤ 9223372036854775807 := by unfold maxLen at hm; omega
  by_cases h : chk ⟨kd, sz, rm, fr, l, tm⟩ = 0
  · have hlt := And.intro (wrQ_len ⟨kd, sz, rm, fr, l, tm⟩ s now h) (rdQ_len ⟨kd, sz, rm, fr, l, tm⟩ now h)
    by_cases h1 : wrE ⟨kd, sz, rm, fr, l, tm⟩ s now = 0 <;> by_cases h2 : rdE ⟨kd, sz, rm, fr, l, tm⟩ now = 0
    · exact portSays_00 kd sz rm fr l tm a cap s now w hk hr hz hc hl h h1 h2 hlt
    · exact portSays_01 kd sz rm fr l tm a cap s now w hk hr hz hc hl h h1 h2 hlt
    · exact portSays_10 kd sz rm fr l tm a cap s now w hk hr hz hc hl h h1 h2 hlt
    · exact portSays_11 kd sz rm fr l tm a cap s now w hk hr hz hc hl h h1 h2 hlt
  · exact portSays_bad kd sz rm fr l tm a cap s now w hk hr hz hc hl h
end PortC
end Go.Proofs.Ytllfpbngfkimlaa
