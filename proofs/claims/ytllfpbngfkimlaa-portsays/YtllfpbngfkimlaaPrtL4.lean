/- The law PortSays. -/
import Derived.Test.YtllfpbngfkimlaaPrtV
import Derived.Test.YtllfpbngfkimlaaOpenPo
set_option linter.unusedVariables false
namespace Go.Proofs.Ytllfpbngfkimlaa
open Go.RowKit
open Go.Shelf Go.Sort
open SpanM SpanC IntsC
namespace PortC
open PrtM
theorem nil_own {w : World} {B : Nat} {u : Value} (h : OwnS w B u []) : ∃ a c, u = .slice a 0 c ∧ RdS w a [] := by
  obtain ⟨a, c, e, hr, _⟩ := own_rd h
  exact ⟨a, c, e, hr⟩
set_option maxRecDepth 20000 in
set_option maxHeartbeats 1600000 in
theorem portSays_bad (kd sz rm fr : Int) (l : List ByteArray) (tm : Int) (a : Option Addr) (c : Nat) (s : ByteArray) (now : Int) (w : World) (hk : wf64 kd) (hr : RdS w a l) (hn : a = none → l.length = 0 ∧ c = 0) (hc : l.length ≤ c) (hl : l.length ≤ 9223372036854775807) (h : chk ⟨kd, sz, rm, fr, l, tm⟩ ≠ 0) :
    Calls Try.prog 4 #[.agg #[.int .i64 kd, .int .i64 sz, .int .i64 rm, .int .i64 fr, .slice a l.length c, .int .i64 tm], .string s, .int .i64 now] w fun e w' => e = .returned (.bool true) ∧ Below w.heap.size w w' := by
  have HW := hid (fun wx (hb : Below w.heap.size w wx) => Write_any ⟨kd, sz, rm, fr, l, tm⟩ a c s now wx (hr.below hb (Nat.le_refl _)) hn)
  have HR := hid (fun wx (hb : Below w.heap.size w wx) => Read_any ⟨kd, sz, rm, fr, l, tm⟩ a c now wx (hr.below hb (Nat.le_refl _)) hc)
  have HRT := hid (fun wx (hb : Below w.heap.size w wx) => Right_any ⟨kd, sz, rm, fr, l, tm⟩ hk a c wx (hr.below hb (Nat.le_refl _)) hl)
  have HCH := hid (fun wx (hb : Below w.heap.size w wx) => Check_any ⟨kd, sz, rm, fr, l, tm⟩ a c wx (hr.below hb (Nat.le_refl _)))
  have e1 : wrE ⟨kd, sz, rm, fr, l, tm⟩ s now = chk ⟨kd, sz, rm, fr, l, tm⟩ := by unfold wrE; rw [if_pos h]
  have e2 : rdE ⟨kd, sz, rm, fr, l, tm⟩ now = chk ⟨kd, sz, rm, fr, l, tm⟩ := by unfold rdE; rw [if_pos h]
  have e3 : wrQ ⟨kd, sz, rm, fr, l, tm⟩ s now = zPt := by unfold wrQ; rw [if_neg (by rw [e1]; exact h)]
  have e4 : rdQ ⟨kd, sz, rm, fr, l, tm⟩ now = zPt := by unfold rdQ; rw [if_neg (by rw [e2]; exact h)]
  have e5 : rdX ⟨kd, sz, rm, fr, l, tm⟩ now = e0 := by unfold rdX; rw [if_neg (by rw [e2]; exact h)]
  have e6 : rdB ⟨kd, sz, rm, fr, l, tm⟩ now = false := by unfold rdB; rw [if_neg (by rw [e2]; exact h)]
  rw [e1, e3] at HW
  rw [e2, e4, e5, e6] at HR
  clear e1 e2 e3 e4 e5 e6
  simp only [vP, cP] at HW HR HRT HCH
  have hE : (chk ⟨kd, sz, rm, fr, l, tm⟩ != 0) = true := by simp [h]
  generalize chk ⟨kd, sz, rm, fr, l, tm⟩ = E at *
  generalize l.length = n at *
  clear hr hn hc hl h
  go_enter Try.func4, Try.ntmps4
  go_wp2_with fail
  refine (HW.out _ ((Below.refl _ _).alloc (Nat.le_refl _) _)).mono ?_
  rintro e w1 ⟨⟨u1, rfl, hu1⟩, b1⟩
  obtain ⟨a1, c1, rfl, hr1⟩ := nil_own hu1
  have HB1 := hid (of_alloc (box1 b1))
  have hq1 := box_below (box_new w #[.int .i64 kd, .int .i64 sz, .int .i64 rm, .int .i64 fr, .slice a n c, .int .i64 tm] 36) b1 (Nat.le_refl _)
  have HQ1 := hid hq1
  have HR1 := hid hr1
  obtain ⟨d0, d1, d2, d3, d4, d5⟩ := six_of (box_alloc hq1 (.cells #[.int .i64 0, .int .i64 0, .int .i64 0, .int .i64 0, .slice a1 0 c1, .int .i64 0] 36))
  have hlt1 := (Array.getElem?_eq_some_iff.1 hq1).1
  have nn1 : ¬ w.heap.size = w1.heap.size := by omega
  have nn2 : ¬ w1.heap.size = w.heap.size := by omega
  have HLT := hid hlt1
  clear b1 hu1 hr1 hq1 hlt1
  go_wp2_with fail
  refine (HR.out _ (HB1.out.alloc HB1.out.size _)).mono ?_
  rintro e w2 ⟨⟨u2, rfl, hu2⟩, b2⟩
  obtain ⟨a2, c2, rfl, hr2⟩ := nil_own hu2
  have HB2 := hid (HB1.out.trans ((of_alloc (box1 b2)).mono HB1.out.size))
  have hq2 := box_below (box_alloc HQ1.out _) b2 (Nat.le_refl _)
  have hx2 := box_below (box_new w1 _ _) b2 (Nat.le_refl _)
  have HQ2 := hid hq2
  have HX2 := hid hx2
  have HR12 := hid (HR1.out.below (of_alloc (box1 b2)) (Nat.le_refl _))
  have HR2 := hid hr2
  clear d0 d1 d2 d3 d4 d5
  obtain ⟨d0, d1, d2, d3, d4, d5⟩ := six_of (box_alloc hq2 (.cells #[.int .i64 0, .int .i64 0, .int .i64 0, .int .i64 0, .slice a2 0 c2, .int .i64 0] 36))
  have hlt2 := (Array.getElem?_eq_some_iff.1 hx2).1
  have HLT2 := hid hlt2
  have mm1 : ¬ w.heap.size = w2.heap.size := by have := HLT.out; omega
  have mm2 : ¬ w2.heap.size = w.heap.size := by have := HLT.out; omega
  have mm3 : ¬ w1.heap.size = w2.heap.size := by omega
  have mm4 : ¬ w2.heap.size = w1.heap.size := by omega
  clear b2 hu2 hr2 hq2 hx2 hlt2
  go_wp2_with fail
  refine (HRT.out _ (HB2.out.alloc HB2.out.size _)).mono ?_
  rintro e w3 ⟨rfl, b3⟩
  have HB3 := hid (HB2.out.trans ((of_alloc (box1 b3)).mono HB2.out.size))
  have hq3 := box_below (box_alloc HQ2.out _) b3 (Nat.le_refl _)
  have hx3 := box_below (box_alloc HX2.out _) b3 (Nat.le_refl _)
  have hy3 := box_below (box_new w2 _ _) b3 (Nat.le_refl _)
  have HQ3 := hid hq3
  have HX3 := hid hx3
  have HY3 := hid hy3
  have HS1 := hid (HR12.out.below (of_alloc (box1 b3)) (Nat.le_refl _))
  have HS2 := hid (HR2.out.below (of_alloc (box1 b3)) (Nat.le_refl _))
  clear d0 d1 d2 d3 d4 d5
  obtain ⟨d0, d1, d2, d3, d4, d5⟩ := six_of hq3
  clear b3 hq3 hx3 hy3
  go_wp2_with fail
  refine (HCH.out _ HB3.out).mono ?_
  rintro e w4 ⟨rfl, b4⟩
  have HB4 := hid (HB3.out.trans (b4.mono HB3.out.size))
  have HX4 := hid (box_below HX3.out b4 (Nat.le_refl _))
  have HY4 := hid (box_below HY3.out b4 (Nat.le_refl _))
  have HT1 := hid (HS1.out.below b4 (Nat.le_refl _))
  have HT2 := hid (HS2.out.below b4 (Nat.le_refl _))
  clear d0 d1 d2 d3 d4 d5
  obtain ⟨d0, d1, d2, d3, d4, d5⟩ := six_of HX4.out
  clear b4
  go_wp2_with fail
  refine (same_yes 0 0 0 0 0 a1 none 0 c1 0 [] w4 HT1.out (.inl rfl) rfl (by omega)).mono ?_
  rintro e w5 ⟨rfl, b5⟩
  have HB5 := hid (HB4.out.trans (b5.mono HB4.out.size))
  clear d0 d1 d2 d3 d4 d5
  obtain ⟨d0, d1, d2, d3, d4, d5⟩ := six_of (box_below HY4.out b5 (Nat.le_refl _))
  have HT25 := hid (HT2.out.below b5 (Nat.le_refl _))
  clear b5
  go_wp2_with fail
  refine (same_yes 0 0 0 0 0 a2 none 0 c2 0 [] w5 HT25.out (.inl rfl) rfl (by omega)).mono ?_
  rintro e w6 ⟨rfl, b6⟩
  have HB6 := hid (HB5.out.trans (b6.mono HB5.out.size))
  clear b6
  go_wp2_with fail
  go_ret
  exact ⟨rfl, HB6.out⟩
end PortC
end Go.Proofs.Ytllfpbngfkimlaa
