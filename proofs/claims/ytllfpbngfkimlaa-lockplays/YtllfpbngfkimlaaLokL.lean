/- The law LockPlays (gen_lokl.py writes this text). -/
import Derived.Test.YtllfpbngfkimlaaLokI
import Derived.Test.YtllfpbngfkimlaaLokF
import Derived.Test.YtllfpbngfkimlaaLokC
import Derived.Test.YtllfpbngfkimlaaLkT
import Derived.Test.YtllfpbngfkimlaaOpenWk
set_option linter.unusedVariables false
namespace Go.Proofs.Ytllfpbngfkimlaa
open Go.RowKit
open Go.Shelf Go.Sort
open SpanM SpanC IntsC
open RowsO hiding Wk
namespace LockC
open LockM
open NumC (Row)
abbrev st3k (w : World) (b : Nat) (x0 x1 x2 : Value) : World := ((w.setCell ⟨b, 0, none⟩ x0).setCell ⟨b, 1, none⟩ x1).setCell ⟨b, 2, none⟩ x2
theorem st3k_heap {w : World} {b T : Nat} {z0 z1 z2 x0 x1 x2 : Value} (h : w.heap[b]? = some (.cells #[z0, z1, z2] T)) : (st3k w b x0 x1 x2).heap[b]? = some (.cells #[x0, x1, x2] T) :=
  heap_setCell_same _ _ _ _ _ _ (heap_setCell_same _ _ _ _ _ _ (heap_setCell_same _ _ _ _ _ _ h))
theorem st3k_other {w : World} {b : Nat} (x0 x1 x2 : Value) {k : Nat} (h : k ≠ b) : (st3k w b x0 x1 x2).heap[k]? = w.heap[k]? := by
  unfold st3k
  rw [heap_setCell_other _ _ _ _ h, heap_setCell_other _ _ _ _ h, heap_setCell_other _ _ _ _ h]
theorem st3k_below {w W : World} {B b : Nat} {x0 x1 x2 : Value} (h : Below B w W) (hb : B ≤ b) : Below B w (st3k W b x0 x1 x2) :=
  ((h.setCell (p := ⟨b, 0, none⟩) hb _).setCell (p := ⟨b, 1, none⟩) hb _).setCell (p := ⟨b, 2, none⟩) hb _
theorem threeK {W : World} {b T : Nat} {x0 x1 x2 : Value} (h : W.heap[b]? = some (.cells #[x0, x1, x2] T)) : W.cell? ⟨b, 0, none⟩ = some x0 ∧ W.cell? ⟨b, 1, none⟩ = some x1 ∧ W.cell? ⟨b, 2, none⟩ = some x2 := ⟨box_cell h 0, box_cell h 1, box_cell h 2⟩
theorem alK {w w' : World} {o : Obj} (hb : Below (w.alloc o).heap.size (w.alloc o) w') : Below w.heap.size w w' := ((Below.refl _ w).alloc (Nat.le_refl _) o).trans (hb.mono (by rw [World.size_alloc]; omega))
theorem hasAtC : HasAtC := fun cm l a c hn => HasAt_any cm l a c hn
theorem nilK {w : World} {B : Nat} {u : Value} (h : OwnI w B u []) : ∃ a c, u = .slice a 0 c ∧ Row w a [] := by
  obtain ⟨a, c, e, hr, _⟩ := owni_row h
  exact ⟨a, c, e, hr⟩
set_option maxRecDepth 20000 in
set_option maxHeartbeats 1600000 in
theorem lockPlays_ok (l : List LockM.Wk) (n : Nat) (hn : n ≤ 20000) (hk : Oks l) (hc : wchk l = 0) (he : plyE l n = 0) (a : Option Addr) (c : Nat) (w : World) (hr : RowsO.Wks w a l) :
    Calls Try.prog 3 #[.slice a l.length c, .int .i64 n] w fun e w' => e = .returned (.bool true) ∧ Below w.heap.size w w' := by
  have HPL := hid (Play_any l n a c w hr)
  rw [show plyR l n = ranL (wks l) n by unfold plyR; rw [if_pos he, Int.toNat_natCast], show plyN l n = endL l n by unfold plyN; rw [if_pos he, Int.toNat_natCast], he] at HPL
  have HWR := hid (fun wx (hb : Below w.heap.size w wx) => WorksRight_any hasAtC l a c wx (hr.below hb (Nat.le_refl _)))
  rw [hc] at HWR
  have HPW := hid (fun wx (hb : Below w.heap.size w wx) => PlayedWorks_any l hk a c n hn wx (hr.below hb (Nat.le_refl _)))
  have HLR := hid (show (ranL (wks l) n).length ≤ 100000 by rw [ranL_len]; omega)
  have HLN := hid (show (endL l n).length ≤ 100000 by have := hk.1; simp [endL]; omega)
  have hbt : (0 : Int) ≤ (n : Int) ∧ (n : Int) ≤ 20000 := by omega
  generalize ranL (wks l) n = R at *
  generalize endL l n = N at *
  clear hr he hc hn
  go_enter Try.func3, Try.ntmps3
  go_wp2_with fail
  refine HPL.out.mono ?_
  rintro e w1 ⟨⟨v1, v2, rfl, ho1, ho2⟩, b1⟩
  obtain ⟨a1, c1, rfl, hr1, _⟩ := owni_row ho1
  obtain ⟨a2, c2, rfl, hr2, _⟩ := owni_row ho2
  have HB1 := hid b1
  have HR1 := hid hr1
  have HR2 := hid hr2
  clear b1 ho1 ho2 hr1 hr2
  go_wp2_with fail
  refine (HWR.out _ (HB1.out.alloc HB1.out.size _)).mono ?_
  rintro e w2 ⟨rfl, b2⟩
  have hb2 := alK b2
  have HB2 := hid (HB1.out.trans (hb2.mono HB1.out.size))
  have hx2 := box_below (box_new w1 _ _) b2 (Nat.le_refl _)
  have HX2 := hid hx2
  have HR12 := hid (Row.below HR1.out hb2 (Nat.le_refl _))
  have HR22 := hid (Row.below HR2.out hb2 (Nat.le_refl _))
  have hlt2 := (Array.getElem?_eq_some_iff.1 hx2).1
  have HLT2 := hid hlt2
  clear b2 hb2 hx2 hlt2
  go_wp2_with fail
  refine (btw_any _ _ _ _).mono ?_
  rintro e wb ⟨rfl, hwb⟩
  obtain rfl : w2 = wb := hwb.symm
  rw [decide_eq_true hbt]
  go_wp2_with fail
  refine (HPW.out _ (HB2.out.alloc HB2.out.size _)).mono ?_
  rintro e w4 ⟨⟨v3, v4, rfl, ho3, ho4⟩, b4⟩
  obtain ⟨a3, c3, rfl, hr3, _⟩ := owni_row ho3
  obtain ⟨a4, c4, rfl, hr4, _⟩ := owni_row ho4
  have hb4 := alK b4
  have hd4 := box_below (box_new w2 _ _) b4 (Nat.le_refl _)
  have HD4 := hid hd4
  have HX4 := hid (box_below HX2.out hb4 (Nat.le_refl _))
  have HB4 := hid (HB2.out.trans (hb4.mono HB2.out.size))
  have HR14 := hid (Row.below HR12.out hb4 (Nat.le_refl _))
  have HR24 := hid (Row.below HR22.out hb4 (Nat.le_refl _))
  have HO3 := hid (OwnI.base' ho3 (show w2.heap.size + 1 ≤ _ by rw [World.size_alloc]; exact Nat.le_refl _))
  have HO4 := hid (OwnI.base' ho4 (show w2.heap.size + 1 ≤ _ by rw [World.size_alloc]; exact Nat.le_refl _))
  have HBB := hid hb4
  obtain ⟨d0, d1, d2⟩ := threeK hd4
  have f0 := pFroz hd4 0
  have f1 := pFroz hd4 1
  have f2 := pFroz hd4 2
  clear b4 hb4 hd4 ho3 ho4 hr3 hr4
  go_upto_region 8 with fail
  obtain ⟨w5, hw5⟩ : ∃ y, y = st3k w4 w2.heap.size (.slice a3 R.length c3) (.slice a4 N.length c4) (.int .i64 0) := ⟨_, rfl⟩
  have hs5 : w5.heap.size = w4.heap.size := by rw [hw5]; simp
  have HX5 := hid (show w5.heap[w1.heap.size]? = some (.cells #[.slice a1 R.length c1, .slice a2 N.length c2, .int .i64 0] 25) by rw [hw5, st3k_other _ _ _ (by have := HLT2.out; omega)]; exact HX4.out)
  have HD5 := hid (show w5.heap[w2.heap.size]? = some (.cells #[.slice a3 R.length c3, .slice a4 N.length c4, .int .i64 0] 25) by rw [hw5]; exact st3k_heap HD4.out)
  have HB5 : Hid (Below w.heap.size w w5) := by rw [hw5]; exact st3k_below HB4.out HB2.out.size
  have HO35 := hid (show OwnI w5 (w2.heap.size + 1) (.slice a3 R.length c3) R by rw [hw5]; exact orow_heap HO3.out fun q e => st3k_other _ _ _ (by have h1 := (World.ownsRow.lt HO3.out q e).1; omega))
  have HO45 := hid (show OwnI w5 (w2.heap.size + 1) (.slice a4 N.length c4) N by rw [hw5]; exact orow_heap HO4.out fun q e => st3k_other _ _ _ (by have h1 := (World.ownsRow.lt HO4.out q e).1; omega))
  have hbs : Below w2.heap.size w2 w5 := by rw [hw5]; exact st3k_below HBB.out (Nat.le_refl _)
  have HR15 := hid (Row.below HR12.out hbs (Nat.le_refl _))
  have HR25 := hid (Row.below HR22.out hbs (Nat.le_refl _))
  obtain ⟨a9, c9, e9, hr35, _⟩ := owni_row HO35.out
  simp only [Value.slice.injEq] at e9
  obtain ⟨e91, _, e93⟩ := e9
  subst e91 e93
  obtain ⟨a8, c8, e8, hr45, _⟩ := owni_row HO45.out
  simp only [Value.slice.injEq] at e8
  obtain ⟨e81, _, e83⟩ := e8
  subst e81 e83
  have HR35 := hid hr35
  have HR45 := hid hr45
  simp only [st3k] at hw5
  rw [← hw5]
  clear hw5 hs5 d0 d1 d2 f0 f1 f2 hbs hr35 hr45
  obtain ⟨s0, s1, s2⟩ := threeK HX5.out
  obtain ⟨d0, d1, d2⟩ := threeK HD5.out
  go_wp2_with fail
  refine (iequal_any a1 a3 c1 c3 R R w5 HR15.out HR35.out HLR.out).mono ?_
  rintro e w6 ⟨rfl, b6⟩
  rw [decide_eq_true rfl]
  have HB6 := hid (HB5.out.trans (b6.mono HB5.out.size))
  have HX6 := hid (box_below HX5.out b6 (Nat.le_refl _))
  have HD6 := hid (box_below HD5.out b6 (Nat.le_refl _))
  have HR26 := hid (Row.below HR25.out b6 (Nat.le_refl _))
  have HR46 := hid (Row.below HR45.out b6 (Nat.le_refl _))
  clear s0 s1 s2 d0 d1 d2 b6
  obtain ⟨s0, s1, s2⟩ := threeK HX6.out
  obtain ⟨d0, d1, d2⟩ := threeK HD6.out
  go_wp2_with fail
  refine (iequal_any a2 a4 c2 c4 N N w6 HR26.out HR46.out HLN.out).mono ?_
  rintro e w7 ⟨rfl, b7⟩
  rw [decide_eq_true rfl]
  have HB7 := hid (HB6.out.trans (b7.mono HB6.out.size))
  clear s0 s1 s2 d0 d1 d2
  obtain ⟨s0, s1, s2⟩ := threeK (box_below HX6.out b7 (Nat.le_refl _))
  obtain ⟨d0, d1, d2⟩ := threeK (box_below HD6.out b7 (Nat.le_refl _))
  clear b7
  go_wp2_with fail
  go_ret
  exact ⟨rfl, HB7.out⟩
set_option maxRecDepth 20000 in
set_option maxHeartbeats 1600000 in
theorem lockPlays_form (l : List LockM.Wk) (u : Int) (hc : wchk l ≠ 0) (he : plyE l u ≠ 0) (a : Option Addr) (c : Nat) (w : World) (hr : RowsO.Wks w a l) :
    Calls Try.prog 3 #[.slice a l.length c, .int .i64 u] w fun e w' => e = .returned (.bool true) ∧ Below w.heap.size w w' := by
  have HPL := hid (Play_any l u a c w hr)
  rw [show plyR l u = [] by unfold plyR; rw [if_neg he], show plyN l u = [] by unfold plyN; rw [if_neg he]] at HPL
  have HWR := hid (fun wx (hb : Below w.heap.size w wx) => WorksRight_any hasAtC l a c wx (hr.below hb (Nat.le_refl _)))
  have e1 : plyE l u = wchk l := by unfold plyE; rw [if_pos hc]
  rw [e1] at HPL
  have hE : (wchk l == 0) = false := by simp [hc]
  generalize wchk l = E at *
  clear hr he hc e1
  go_enter Try.func3, Try.ntmps3
  go_wp2_with fail
  refine HPL.out.mono ?_
  rintro e w1 ⟨⟨v1, v2, rfl, ho1, ho2⟩, b1⟩
  obtain ⟨a1, c1, rfl, hr1⟩ := nilK ho1
  obtain ⟨a2, c2, rfl, hr2⟩ := nilK ho2
  have HB1 := hid b1
  have HR1 := hid hr1
  have HR2 := hid hr2
  clear b1 ho1 ho2 hr1 hr2
  go_wp2_with fail
  refine (HWR.out _ (HB1.out.alloc HB1.out.size _)).mono ?_
  rintro e w2 ⟨rfl, b2⟩
  have hb2 := alK b2
  have HB2 := hid (HB1.out.trans (hb2.mono HB1.out.size))
  have hx2 := box_below (box_new w1 _ _) b2 (Nat.le_refl _)
  have HX2 := hid hx2
  have HR12 := hid (Row.below HR1.out hb2 (Nat.le_refl _))
  have HR22 := hid (Row.below HR2.out hb2 (Nat.le_refl _))
  have hlt2 := (Array.getElem?_eq_some_iff.1 hx2).1
  have HLT2 := hid hlt2
  clear b2 hb2 hx2 hlt2
  go_upto_region 8 with fail
  obtain ⟨w5, hw5⟩ : ∃ y, y = w2.alloc (.cells #[.slice none 0 0, .slice none 0 0, .int .i64 0] 25) := ⟨_, rfl⟩
  have hbs : Below w2.heap.size w2 w5 := by rw [hw5]; exact (Below.refl _ _).alloc (Nat.le_refl _) _
  have HX5 := hid (box_below HX2.out hbs (Nat.le_refl _))
  have HD5 := hid (show w5.heap[w2.heap.size]? = some (.cells #[.slice none 0 0, .slice none 0 0, .int .i64 0] 25) by rw [hw5]; exact box_new w2 _ _)
  have HB5 := hid (HB2.out.trans (hbs.mono HB2.out.size))
  have HR15 := hid (Row.below HR12.out hbs (Nat.le_refl _))
  have HR25 := hid (Row.below HR22.out hbs (Nat.le_refl _))
  rw [← hw5]
  clear hw5 hbs
  obtain ⟨s0, s1, s2⟩ := threeK HX5.out
  obtain ⟨d0, d1, d2⟩ := threeK HD5.out
  go_wp2_with fail
  refine (iequal_any a1 none c1 0 [] [] w5 HR15.out (.inl rfl) (by simp)).mono ?_
  rintro e w6 ⟨rfl, b6⟩
  rw [decide_eq_true rfl]
  have HB6 := hid (HB5.out.trans (b6.mono HB5.out.size))
  have HX6 := hid (box_below HX5.out b6 (Nat.le_refl _))
  have HD6 := hid (box_below HD5.out b6 (Nat.le_refl _))
  have HR26 := hid (Row.below HR25.out b6 (Nat.le_refl _))
  clear s0 s1 s2 d0 d1 d2 b6
  obtain ⟨s0, s1, s2⟩ := threeK HX6.out
  obtain ⟨d0, d1, d2⟩ := threeK HD6.out
  go_wp2_with fail
  refine (iequal_any a2 none c2 0 [] [] w6 HR26.out (.inl rfl) (by simp)).mono ?_
  rintro e w7 ⟨rfl, b7⟩
  rw [decide_eq_true rfl]
  have HB7 := hid (HB6.out.trans (b7.mono HB6.out.size))
  clear s0 s1 s2 d0 d1 d2
  obtain ⟨s0, s1, s2⟩ := threeK (box_below HX6.out b7 (Nat.le_refl _))
  obtain ⟨d0, d1, d2⟩ := threeK (box_below HD6.out b7 (Nat.le_refl _))
  clear b7
  go_wp2_with fail
  go_ret
  exact ⟨rfl, HB7.out⟩
set_option maxRecDepth 20000 in
set_option maxHeartbeats 1600000 in
theorem lockPlays_arg (l : List LockM.Wk) (u : Int) (hc : wchk l = 0) (hu : ¬ (0 ≤ u ∧ u ≤ 20000)) (he : plyE l u ≠ 0) (a : Option Addr) (c : Nat) (w : World) (hr : RowsO.Wks w a l) :
    Calls Try.prog 3 #[.slice a l.length c, .int .i64 u] w fun e w' => e = .returned (.bool true) ∧ Below w.heap.size w w' := by
  have HPL := hid (Play_any l u a c w hr)
  rw [show plyR l u = [] by unfold plyR; rw [if_neg he], show plyN l u = [] by unfold plyN; rw [if_neg he]] at HPL
  have HWR := hid (fun wx (hb : Below w.heap.size w wx) => WorksRight_any hasAtC l a c wx (hr.below hb (Nat.le_refl _)))
  have e1 : plyE l u = 1 := by unfold plyE; rw [if_neg (by simp [hc]), if_neg hu]
  rw [e1] at HPL
  rw [hc] at HWR
  clear hr he hc e1
  go_enter Try.func3, Try.ntmps3
  go_wp2_with fail
  refine HPL.out.mono ?_
  rintro e w1 ⟨⟨v1, v2, rfl, ho1, ho2⟩, b1⟩
  obtain ⟨a1, c1, rfl, hr1⟩ := nilK ho1
  obtain ⟨a2, c2, rfl, hr2⟩ := nilK ho2
  have HB1 := hid b1
  have HR1 := hid hr1
  have HR2 := hid hr2
  clear b1 ho1 ho2 hr1 hr2
  go_wp2_with fail
  refine (HWR.out _ (HB1.out.alloc HB1.out.size _)).mono ?_
  rintro e w2 ⟨rfl, b2⟩
  have hb2 := alK b2
  have HB2 := hid (HB1.out.trans (hb2.mono HB1.out.size))
  have hx2 := box_below (box_new w1 _ _) b2 (Nat.le_refl _)
  have HX2 := hid hx2
  have HR12 := hid (Row.below HR1.out hb2 (Nat.le_refl _))
  have HR22 := hid (Row.below HR2.out hb2 (Nat.le_refl _))
  have hlt2 := (Array.getElem?_eq_some_iff.1 hx2).1
  have HLT2 := hid hlt2
  clear b2 hb2 hx2 hlt2
  go_wp2_with fail
  refine (btw_any _ _ _ _).mono ?_
  rintro e wb ⟨rfl, hwb⟩
  obtain rfl : w2 = wb := hwb.symm
  rw [decide_eq_false hu]
  go_upto_region 8 with fail
  obtain ⟨w5, hw5⟩ : ∃ y, y = w2.alloc (.cells #[.slice none 0 0, .slice none 0 0, .int .i64 0] 25) := ⟨_, rfl⟩
  have hbs : Below w2.heap.size w2 w5 := by rw [hw5]; exact (Below.refl _ _).alloc (Nat.le_refl _) _
  have HX5 := hid (box_below HX2.out hbs (Nat.le_refl _))
  have HD5 := hid (show w5.heap[w2.heap.size]? = some (.cells #[.slice none 0 0, .slice none 0 0, .int .i64 0] 25) by rw [hw5]; exact box_new w2 _ _)
  have HB5 := hid (HB2.out.trans (hbs.mono HB2.out.size))
  have HR15 := hid (Row.below HR12.out hbs (Nat.le_refl _))
  have HR25 := hid (Row.below HR22.out hbs (Nat.le_refl _))
  rw [← hw5]
  clear hw5 hbs
  obtain ⟨s0, s1, s2⟩ := threeK HX5.out
  obtain ⟨d0, d1, d2⟩ := threeK HD5.out
  go_wp2_with fail
  refine (iequal_any a1 none c1 0 [] [] w5 HR15.out (.inl rfl) (by simp)).mono ?_
  rintro e w6 ⟨rfl, b6⟩
  rw [decide_eq_true rfl]
  have HB6 := hid (HB5.out.trans (b6.mono HB5.out.size))
  have HX6 := hid (box_below HX5.out b6 (Nat.le_refl _))
  have HD6 := hid (box_below HD5.out b6 (Nat.le_refl _))
  have HR26 := hid (Row.below HR25.out b6 (Nat.le_refl _))
  clear s0 s1 s2 d0 d1 d2 b6
  obtain ⟨s0, s1, s2⟩ := threeK HX6.out
  obtain ⟨d0, d1, d2⟩ := threeK HD6.out
  go_wp2_with fail
  refine (iequal_any a2 none c2 0 [] [] w6 HR26.out (.inl rfl) (by simp)).mono ?_
  rintro e w7 ⟨rfl, b7⟩
  rw [decide_eq_true rfl]
  have HB7 := hid (HB6.out.trans (b7.mono HB6.out.size))
  clear s0 s1 s2 d0 d1 d2
  obtain ⟨s0, s1, s2⟩ := threeK (box_below HX6.out b7 (Nat.le_refl _))
  obtain ⟨d0, d1, d2⟩ := threeK (box_below HD6.out b7 (Nat.le_refl _))
  clear b7
  go_wp2_with fail
  go_ret
  exact ⟨rfl, HB7.out⟩
theorem lockPlays_walk (a0 : Option Addr) (len0 cap0 : Nat) (l0 : List RowsO.Wk) (u : Int) (w : World) (w0 : RowsO.IsWks w a0 len0 cap0 l0) (w1 : SpanC.wf64 u) :
    Calls Try.prog 3 #[.slice a0 len0 cap0, .int .i64 u] w fun e w' => e = .returned (.bool true) ∧ Below w.heap.size w w' := by
  obtain ⟨rfl, _, _, hr, _⟩ := w0
  by_cases he : plyE l0 u = 0
  · obtain ⟨hk, h0, h1⟩ := plyE_ok he
    obtain ⟨n, rfl⟩ : ∃ n : Nat, u = n := ⟨u.toNat, by omega⟩
    have hc : wchk l0 = 0 := by
      unfold plyE at he
      split at he
      · rename_i q; exact absurd he q
      · rename_i q; simpa using q
    exact lockPlays_ok l0 n (by omega) hk hc he a0 cap0 w hr
  · by_cases hc : wchk l0 = 0
    · refine lockPlays_arg l0 u hc (fun hu => he ?_) he a0 cap0 w hr
      unfold plyE
      rw [if_neg (by simp [hc]), if_pos hu]
    · exact lockPlays_form l0 u hc he a0 cap0 w hr
end LockC
end Go.Proofs.Ytllfpbngfkimlaa
