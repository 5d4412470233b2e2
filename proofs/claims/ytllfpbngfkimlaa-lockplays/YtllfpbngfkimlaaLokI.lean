/- The document's own answers about locks: PlayedWorks. -/
import Derived.Test.YtllfpbngfkimlaaLokB
import Derived.Test.YtllfpbngfkimlaaLokH
import Derived.Test.YtllfpbngfkimlaaLokG
import Derived.Test.YtllfpbngfkimlaaLokJ
import Derived.Test.YtllfpbngfkimlaaLockM4
import Derived.Test.YtllfpbngfkimlaaLkG
import Derived.Deep.CutRange
import Derived.Deep.RegionHeld3
set_option linter.unusedVariables false
namespace Go.Proofs.Ytllfpbngfkimlaa
open Go.RowKit
open Go.Shelf Go.Sort
open SpanM SpanC IntsC
open RowsO hiding Wk
namespace LockC
open LockM
open NumC (Row)
theorem below_drewN' (w : World) {n : Nat} : Below w.heap.size w (w.drewN n) := below_drewN (Below.refl _ _) n
theorem pFroz {w : World} {bx T : Nat} {c : Array Value} (h : w.heap[bx]? = some (.cells c T)) (j : Nat) : w.frozen? ⟨bx, j, none⟩ = false := by
  simp [World.frozen?, h]
theorem blk_newN {X W : World} {c : Obj} {m : Nat} (b : Below ((X.alloc c).drewN m).heap.size ((X.alloc c).drewN m) W) : W.heap[X.heap.size]? = some c := (b.block X.heap.size (by show X.heap.size < (X.alloc c).heap.size; rw [World.size_alloc]; omega)).trans (heap_alloc_new X c)
theorem urg_snoc (C : Int → Nat) (i : Nat) (h : List Int) (k : Int) : urg C i (h ++ [k]) = min (urg C i h) (C k) := by
  induction h with
  | nil => simp only [List.nil_append, urg]; omega
  | cons x r ih => simp only [List.cons_append, urg, ih]; omega
theorem urg_next (C : Int → Nat) (i : Nat) (H : List Int) (q : Nat) (h : q < H.length) : urg C i (H.take (q + 1)) = min (urg C i (H.take q)) (C (H.getD q 0)) := by
  rw [take_getD H q h, urg_snoc]
/-- what PlayedWorks has so far of who is best -/
def Chi (w : Wks) (t : Nat) (ran : Nat → Nat) (k : Nat) (v5 v6 : Value) : Prop :=
  (pick w t ran k = none ∧ v5 = .int .i64 (-1) ∧ v6 = .int .i64 0) ∨ ∃ b, b < w.n ∧ pick w t ran k = some b ∧ v5 = .int .i64 (b : Nat) ∧ v6 = .int .i64 ((w.u ran b : Nat) : Int)
section
variable {w : Wks} {t k : Nat} {v5 v6 : Value} {ran : Nat → Nat}
theorem Chi.skip (h : Chi w t ran k v5 v6) (hc : ¬ (w.came k ≤ t ∧ ran k < w.T k)) : Chi w t ran (k + 1) v5 v6 := by
  unfold Chi at *
  simp only [pick]
  rw [if_neg hc]
  exact h
theorem Chi.new (hp : pick w t ran k = none) (hk : k < w.n) (hc : w.came k ≤ t ∧ ran k < w.T k) : Chi w t ran (k + 1) (.int .i64 k) (.int .i64 ((w.u ran k : Nat) : Int)) := by
  refine .inr ⟨k, hk, ?_, rfl, rfl⟩
  simp only [pick]
  rw [if_pos hc, hp]
theorem Chi.take {b : Nat} (hp : pick w t ran k = some b) (hk : k < w.n) (hc : w.came k ≤ t ∧ ran k < w.T k) (hu : w.u ran k ≤ w.u ran b) : Chi w t ran (k + 1) (.int .i64 k) (.int .i64 ((w.u ran k : Nat) : Int)) := by
  refine .inr ⟨k, hk, ?_, rfl, rfl⟩
  simp only [pick]
  rw [if_pos hc, hp]
  simp only [if_pos hu]
theorem Chi.keep {b : Nat} (hp : pick w t ran k = some b) (hb : b < w.n) (hc : w.came k ≤ t ∧ ran k < w.T k) (hu : ¬ w.u ran k ≤ w.u ran b) : Chi w t ran (k + 1) (.int .i64 b) (.int .i64 ((w.u ran b : Nat) : Int)) := by
  refine .inr ⟨b, hb, ?_, rfl, rfl⟩
  simp only [pick]
  rw [if_pos hc, hp]
  simp only [if_neg hu]
end
/-- how often each has run -/
def cntL (l : List LockM.Wk) (t : Nat) : List Int := (List.range l.length).map fun i => ((st (wks l) t i : Nat) : Int)
theorem cntL_at (l : List LockM.Wk) (t : Nat) {i : Nat} (h : i < l.length) : (cntL l t).getD i 0 = ((st (wks l) t i : Nat) : Int) := by simp [cntL, List.getD, h]
theorem cntL_zero (l : List LockM.Wk) : cntL l 0 = List.replicate l.length 0 := by
  apply List.ext_getElem
  · simp [cntL]
  · intro i h1 h2
    simp [cntL, st]
theorem cntL_step {l : List LockM.Wk} {t b : Nat} (hw : who (wks l) t = some b) (hb : b < l.length) : cntL l (t + 1) = (cntL l t).set b (((st (wks l) t b : Nat) : Int) + 1) := by
  apply List.ext_getElem
  · simp [cntL]
  · intro i h1 h2
    have hi : i < l.length := by simpa [cntL] using h1
    rw [List.getElem_set]
    simp only [cntL, List.getElem_map, List.getElem_range, st_who hw]
    by_cases e : b = i
    · subst e; rw [if_pos rfl]; unfold upd; simp
    · rw [if_neg e]; unfold upd; rw [if_neg (fun q => e q.symm)]
theorem cntL_idle {l : List LockM.Wk} {t : Nat} (hw : who (wks l) t = none) : cntL l (t + 1) = cntL l t := by
  unfold cntL; rw [st_none hw]
set_option maxRecDepth 20000 in
set_option maxHeartbeats 4000000 in
theorem PlayedWorks_any (l : List LockM.Wk) (hk : Oks l) (a : Option Addr) (c : Nat) (u : Nat) (hu : u ≤ 20000) (w : World) (hr : RowsO.Wks w a l) :
    Calls Try.prog 13 #[.slice a l.length c, .int .i64 u] w fun e w' => (∃ vr ve, e = .returned (.agg #[vr, ve, .int .i64 0]) ∧ OwnI w' w.heap.size vr (ranL (wks l) u) ∧ OwnI w' w.heap.size ve (endL l u)) ∧ Below w.heap.size w w' := by
  have HR := hid hr
  have HK := hid hk
  have hl8 : l.length ≤ 8 := hk.1
  have hmk2 := run_make_row' (P := Try.prog) 23 3 (.int .i64 0) 8 Try.underlying23 infoInt rfl .i64 .i64 l.length (by omega) (by omega)
  clear hr hk
  go_enter Try.func13, Try.ntmps13
  go_wp2_with fail
  obtain ⟨i0, hi, hz0, hz1, hz2⟩ := info_parts infoU
  have Hi := hid hi
  have Hz0 := hid hz0
  have Hz1 := hid hz1
  have Hz2 := hid hz2
  clear hi hz0 hz1 hz2 hmk2
  have h0 : Below w.heap.size w ((((w.alloc (.cells #[.slice none 0 0, .slice none 0 0, .int .i64 0] 25)).alloc (.cells (madeCells #[.int .i64 0] l.length) 3)).alloc (.cells #[.slice none 0 0, vS (w.heap.size + 1) l.length l.length, .int .i64 0] 25)).alloc (.cells (madeCells #[.int .i64 0] l.length) 3)) := by go_grown
  have hsz : ((((w.alloc (.cells #[.slice none 0 0, .slice none 0 0, .int .i64 0] 25)).alloc (.cells (madeCells #[.int .i64 0] l.length) 3)).alloc (.cells #[.slice none 0 0, vS (w.heap.size + 1) l.length l.length, .int .i64 0] 25)).alloc (.cells (madeCells #[.int .i64 0] l.length) 3)).heap.size = w.heap.size + 4 := by simp only [World.size_alloc]
  obtain ⟨r0, r1, r2, r3⟩ := push4 w.heap (.cells #[.slice none 0 0, .slice none 0 0, .int .i64 0] 25) (.cells (madeCells #[.int .i64 0] l.length) 3) (.cells #[.slice none 0 0, vS (w.heap.size + 1) l.length l.length, .int .i64 0] 25) (.cells (madeCells #[.int .i64 0] l.length) 3)
  have HST := hid (fun (wu : World) hb => PM.start (wu := wu) (by omega) h0 hsz r0 r1 r2 r3 hb)
  have HSZ := hid hsz
  have HB0 := hid h0
  clear h0 hsz r0 r1 r2 r3
  simp only [vS] at HST HSZ HB0
  generalize ((((w.alloc (.cells #[.slice none 0 0, .slice none 0 0, .int .i64 0] 25)).alloc (.cells (madeCells #[.int .i64 0] l.length) 3)).alloc (.cells #[.slice none 0 0, .slice (some ⟨w.heap.size + 1, 0, none⟩) l.length l.length, .int .i64 0] 25)).alloc (.cells (madeCells #[.int .i64 0] l.length) 3)) = w3 at *
  rw [show w.heap.size + 1 + 1 + 1 = w.heap.size + 3 from rfl, show w.heap.size + 1 + 1 = w.heap.size + 2 from rfl]
  go_loopw [7, 31] (fun v7 v31 wr => ∃ (k : Nat) (us : List Ur), k ≤ l.length ∧ v31 = .int .i64 k ∧ us.length = k ∧ Hid (UT wr (w.heap.size + 4) v7 l us) ∧ Hid (Below w3.heap.size w3 wr)) (fun _ v31 _ => l.length - (intOf v31).toNat)
  case atStart => exact ⟨0, [], by omega, rfl, rfl, UT.nil _ _ _, Below.refl _ _⟩
  case round =>
    obtain ⟨k, us, hkl, rfl, hul, hut, hb⟩ := hrel
    have HBW := hid (HB0.out.trans (hb.out.mono (by have := HSZ.out; omega)))
    obtain ⟨a7, n7, hv7⟩ := hut.out.row.slice
    rw [hul] at hv7
    by_cases hlt : k < l.length
    · obtain ⟨b, off, rfl, _, d1, a1, c1, d2, d3, d4⟩ := (HR.out.below HBW.out (Nat.le_refl _)).at k hlt
      have j1 : (k : Int) < (l.length : Int) := by omega
      have hz : l.getD k zWk = l.getD k (0, []) := rfl
      have hac : acts l k = (l.getD k (0, [])).2 := rfl
      have HOK := hid (HK.out.at hlt)
      rw [hz] at d1 d2 d3 d4
      generalize l.getD k (0, []) = x at *
      obtain ⟨cm, la⟩ := x
      simp only at d1 d2 d3 d4 hac
      have HUN := hid (fun wx (hb : Below wr.heap.size wr wx) => Units_any cm la a1 c1 wx (d4.below hb (Nat.le_refl _)) HOK.out.many (fun x hx e => by
        obtain ⟨j, hj, rfl⟩ := List.getElem_of_mem hx
        rcases kind_of HOK.out.all hj with c | c | c
        · simp only at e c ⊢; omega
        · simp only at e c ⊢; omega
        · simp only at e c ⊢; omega))
      have HAC := hid hac
      have HWB := hid ((Below.refl wr.heap.size wr).alloc (Nat.le_refl _) (.cells #[.int .i64 cm, .slice a1 la.length c1] 70))
      have hsr := hb.out.size
      have hs3 := HSZ.out
      have HSR := hid (show w.heap.size + 4 ≤ wr.heap.size by omega)
      clear hac d4 hz hsr hs3
      subst hv7
      go_wp2_with fail
      refine (HUN.out _ HWB.out).mono ?_
      rintro e w5 ⟨⟨v5, rfl, ho5⟩, b5⟩
      have HB5 := hid (HWB.out.trans (b5.mono HWB.out.size))
      have HO5 := hid (OwnI.base' ho5 (show w.heap.size + 4 ≤ _ by rw [World.size_alloc]; have := HSR.out; omega))
      obtain ⟨a5, n5, k5, rfl⟩ := OwnI.slice ho5
      have HU5 := hid (hut.out.below HB5.out)
      have HRW := hid (show (w5.alloc (.cells #[.slice a5 n5 k5] 23)).ownsRow (w.heap.size + 4) 23 1 (.slice a7 k n7) k (EU.flat us) by
        have := World.ownsRow.alloc HU5.out.row (.cells #[.slice a5 n5 k5] 23)
        rw [hul] at this
        exact this)
      clear ho5 b5
      go_wp2_with (at_builtin; refine wpList_append_own _ rfl _ _ 77 rfl (w.heap.size + 4) 23 i0 (.slice none 0 0) 1 24 Try.underlying77 Hi.out Hz0.out Hz1.out Hz2.out rfl (by decide) _ _ _ rfl HRW.out ⟨w5.heap.size, 0, none⟩ 1 1 (EU.enc (a5, n5, k5)) rfl ?qc1 ?qc2 ?qc3 ?qc4 ?qc5 ?qc6 ?_)
      case qc1 => rfl
      case qc2 => exact World.news_of_block (heap_alloc_new w5 _)
      case qc3 => exact EU.h1 _
      case qc4 => unfold maxLen; omega
      case qc5 => omega
      case qc6 => rw [World.size_alloc]; have := HSR.out; have := HB5.out.size; omega
      intro v8 w8 hown8 hgrow8 hnil8
      have ho8 : RowG.Own EU 23 w8 (w.heap.size + 4) v8 (us ++ [(a5, n5, k5)]) := RowG.own_snoc hown8 rfl (by omega)
      have HU6 := hid (HU5.out.below ((Below.refl w5.heap.size w5).alloc (Nat.le_refl _) (.cells #[.slice a5 n5 k5] 23)))
      have HO6 := hid (show OwnI (w5.alloc (.cells #[.slice a5 n5 k5] 23)) (w.heap.size + 4) (.slice a5 n5 k5) (unitsI (acts l us.length)) by rw [hul, HAC.out]; exact World.ownsRow.alloc HO5.out _)
      have HU8 := hid (UT.put (x := (a5, n5, k5)) HU6.out HO6.out ho8 hgrow8)
      have HB8 := hid ((hb.out.trans ((HB5.out.alloc HB5.out.size (.cells #[.slice a5 n5 k5] 23)).mono hb.out.size)).grown hgrow8 (by rw [World.size_alloc]; have := HB5.out.size; have := hb.out.size; omega) (fun q e => by have := (HU6.out.row.lt q e).1; have := HSZ.out; omega))
      clear hown8 hgrow8 hnil8 ho8
      go_wp2_with fail
      go_roundw
      case rel => exact ⟨k + 1, us ++ [(a5, n5, k5)], by omega, by go_num, by simp [hul], HU8.out, HB8.out⟩
      case measure => simp [intOf]; omega
    · obtain rfl : k = l.length := by omega
      have HPM := hid (HST.out wr hb.out)
      subst hv7
      have HUT := hid hut.out
      have HUL := hid hul
      clear hut
      obtain ⟨wu, hwu⟩ : ∃ y, y = wr := ⟨_, rfl⟩
      subst hwu
      go_wp2_with fail
      go_loopw [42] (fun v42 wv => ∃ (t : Nat) (vr : Value), t ≤ u ∧ v42 = .int .i64 t ∧ Hid (PM w wu wv l.length vr (ranL (wks l) t) (endL l t) (cntL l t))) (fun v42 _ => u - (intOf v42).toNat)
      case atStart => exact ⟨0, _, by omega, rfl, (by rw [endL_zero HK.out, cntL_zero]; exact HPM.out)⟩
      case round =>
        obtain ⟨t, vr, htu, rfl, hp⟩ := hrel
        by_cases hlt2 : t < u
        · obtain ⟨wv, hwv⟩ : ∃ y, y = wr := ⟨_, rfl⟩
          subst hwv
          obtain ⟨ar, nr, kr, rfl⟩ := OwnI.slice hp.out.r
          have i1 : (t : Int) < (u : Int) := by omega
          go_wp2_with fail
          go_loopw [11, 12, 47] (fun v11 v12 v47 wx => ∃ i : Nat, i ≤ l.length ∧ v47 = .int .i64 i ∧ Hid (Chi (wks l) t (st (wks l) t) i v11 v12) ∧ Hid (Below wv.heap.size wv wx)) (fun _ _ v47 _ => l.length - (intOf v47).toNat)
          case atStart => exact ⟨0, by omega, rfl, (.inl ⟨rfl, rfl, rfl⟩ : Chi _ _ _ _ _ _), Below.refl _ _⟩
          case round =>
            obtain ⟨i, hil, rfl, hch, hbx⟩ := hrel
            obtain ⟨wx, hwx⟩ : ∃ y, y = wr := ⟨_, rfl⟩
            subst hwx
            have HPX := hid (hp.out.below hbx.out)
            by_cases hlt3 : i < l.length
            · have j1 : (i : Int) < (l.length : Int) := by omega
              obtain ⟨b, off, hab, _, d1, a1, c1, d2, d3, d4⟩ := (HR.out.below HPX.out.bel (Nat.le_refl _)).at i hlt3
              subst hab
              have hz : l.getD i zWk = l.getD i (0, []) := rfl
              have HAC := hid (show acts l i = (l.getD i (0, [])).2 from rfl)
              have HOK := hid (HK.out.at hlt3)
              have HCM := hid (show (wks l).came i = (l.getD i (0, [])).1.toNat from rfl)
              have HMO := hid (most l HK.out t i hlt3)
              have HTI := hid (show (wks l).T i = (units 0 (acts l i)).length from rfl)
              rw [hz] at d1 d2 d3 d4
              generalize l.getD i (0, []) = x at *
              obtain ⟨cm, la⟩ := x
              simp only at d1 d2 d3 d4 HAC HCM
              have HD4 := hid d4
              have HPY := hid (HPX.out.below ((Below.refl wx.heap.size wx).alloc (Nat.le_refl _) (.cells #[.int .i64 cm, .slice a1 la.length c1] 70)))
              have e0 := OwnI.cell HPY.out.c i (by have := HPY.out.lc; omega)
              rw [cntL_at l t hlt3] at e0
              obtain ⟨gu, ku, au, cu, ev, e1, e2⟩ := (HPY.out.units HUT.out).at i (by have := HUL.out; omega)
              simp only [Value.slice.injEq] at ev
              obtain ⟨rfl, -, -⟩ := ev
              have HE2 := hid e2
              rw [show (unitsI (acts l i)).length = (wks l).T i from unitsI_len _] at e1
              clear e2 d4 hz
              by_cases hc1 : (t : Int) < cm
              · have HCH := hid (hch.out.skip (by rintro ⟨q, _⟩; rw [HCM.out] at q; omega))
                go_wp2_with fail
                go_quiet (fail)
                go_wp2_with fail
                go_roundw
                case rel => exact ⟨i + 1, by omega, by go_num, HCH.out, below_drewN (hbx.out.alloc hbx.out.size _) _⟩
                case measure => simp [intOf]; omega
              · have hc1b : decide ((t : Int) < cm) = false := by simpa using hc1
                by_cases hc2 : st (wks l) t i = (wks l).T i
                · have HCH := hid (hch.out.skip (by rintro ⟨_, q⟩; omega))
                  have hc2b : (((st (wks l) t i : Nat) : Int) == (((wks l).T i : Nat) : Int)) = true := by rw [hc2]; simp
                  go_wp2_with fail
                  go_quiet (fail)
                  go_wp2_with fail
                  go_roundw
                  case rel => exact ⟨i + 1, by omega, by go_num, HCH.out, below_drewN (hbx.out.alloc hbx.out.size _) _⟩
                  case measure => simp [intOf]; omega
                · have hc2b : (((st (wks l) t i : Nat) : Int) == (((wks l).T i : Nat) : Int)) = false := by simp; omega
                  go_wp2_with fail
                  obtain ⟨wy, hwy⟩ : ∃ y, y = wx.alloc (.cells #[.int .i64 cm, .slice a1 la.length c1] 70) := ⟨_, rfl⟩
                  have HBY := hid (show Below wx.heap.size wx wy by rw [hwy]; exact (Below.refl _ _).alloc (Nat.le_refl _) _)
                  have HNW := hid (fun (W : World) (hb : Below wy.heap.size wy W) => (by
                    have hb2 : Below wx.heap.size wx W := HBY.out.trans (hb.mono HBY.out.size)
                    have hTl : (unitsI la).length = (wks l).T i := by rw [unitsI_len, ← HAC.out]; rfl
                    have q := HasNow_any cm la a1 c1 HOK.out.many HOK.out.all (by
                      have := unitsI_few (l := la) (fun x hx e => by
                        obtain ⟨j, hj, rfl⟩ := List.getElem_of_mem hx
                        rcases kind_of HOK.out.all hj with c | c | c
                        · simp only at e c ⊢; omega
                        · simp only at e c ⊢; omega
                        · simp only at e c ⊢; omega)
                      have := HOK.out.many
                      simp only at this
                      omega) au cu (st (wks l) t i) (by rw [hTl]; exact HMO.out) W (HD4.out.below hb2 (Nat.le_refl _)) (Row.below (by have q := HE2.out; rw [HAC.out, ← hwy] at q; exact q) hb (Nat.le_refl _))
                    rw [hTl] at q
                    exact q : Calls Try.prog 35 #[.agg #[.int .i64 cm, .slice a1 la.length c1], .slice au ((wks l).T i) cu, .int .i64 (st (wks l) t i)] W fun e w' => (∃ v, e = .returned v ∧ OwnI w' W.heap.size v (hasNow la (st (wks l) t i)) ∧ (hasNow la (st (wks l) t i)).length ≤ 30) ∧ Below W.heap.size W w'))
                  go_quiet (fail)
                  have y0 : wy.cell? ⟨wx.heap.size, 0, none⟩ = some (.int .i64 cm) := by rw [hwy]; exact box_cell (box_new wx _ _) 0
                  have y1 : wy.cell? ⟨wx.heap.size, 1, none⟩ = some (.slice a1 la.length c1) := by rw [hwy]; exact box_cell (box_new wx _ _) 1
                  rw [← hwy] at e0 e1 HPY ⊢
                  clear hwy HE2 d1 d2 d3
                  go_wp2_with fail
                  have HMEM := hid (show ∀ k ∈ hasNow la (st (wks l) t i), ceilI l k = ((ceil l k : Nat) : Int) from fun k hk => by
                    have := ceil_le (i := i) (by rw [HAC.out]; exact hasNow_took hk)
                    unfold ceilI
                    rw [if_pos (by omega)])
                  have HUU := hid (show (wks l).u (st (wks l) t) i = urg (ceil l) i (hasNow la (st (wks l) t i)) by rw [← HAC.out]; rfl)
                  have HCC := hid (show (wks l).came i ≤ t ∧ st (wks l) t i < (wks l).T i from ⟨by have := HCM.out; omega, by have := HMO.out; omega⟩)
                  generalize hasNow la (st (wks l) t i) = H at *
                  go_cut [47, 78, 79, 80] from 47 to 99 (fun v47 v78 v79 v80 wc => ∃ (ah : Option Addr) (ch : Nat), v47 = .int .i64 i ∧ v78 = .slice ah H.length ch ∧ v79 = .int .i64 H.length ∧ v80 = .int .i64 (0 : Int) ∧ Hid (Below wy.heap.size wy wc) ∧ Hid (Row wc ah H ∧ H.length ≤ 30 ∧ H.length ≤ ch))
                  case first =>
                    go_region_held3 (fun W => W.cell? ⟨wx.heap.size, 0, none⟩ = some (.int .i64 cm) ∧ W.cell? ⟨wx.heap.size, 1, none⟩ = some (.slice a1 la.length c1) ∧ W.cell? ⟨w.heap.size + 3, i, none⟩ = some (.int .i64 ((st (wks l) t i : Nat) : Int)) ∧ W.cell? ⟨gu, i, none⟩ = some (.slice au ((wks l).T i) cu)) (go_keep)
                      (first
                        | (go_at_call 35
                           refine (HNW.out _ ?_).mono ?_
                           · first | exact below_drewN' wy | exact (below_drewN' wy).drew
                           rintro e wh ⟨⟨vh, rfl, hoh, hlh⟩, hbh⟩
                           obtain ⟨ah, ch, rfl, hrh, hch2⟩ := owni_row hoh
                           have hbw : Below wy.heap.size wy wh := (below_drewN' wy).trans (hbh.mono (Nat.le_refl _))
                           have g0 := (hbw.cell (World.block_lt_of_cell? _ _ y0)).trans y0
                           have g1 := (hbw.cell (World.block_lt_of_cell? _ _ y1)).trans y1
                           have g2 := (hbw.cell (World.block_lt_of_cell? _ _ e0)).trans e0
                           have g3 := (hbw.cell (World.block_lt_of_cell? _ _ e1)).trans e1))
                    all_goals (go_wp2_with fail)
                    all_goals go_meet
                    all_goals exact ⟨ah, ch, rfl, rfl, rfl, rfl, hbw, hrh, hlh, hch2⟩
                  case rest =>
                    obtain ⟨ah, ch, rfl, rfl, rfl, rfl, hbz, hrz⟩ := hcut
                    obtain ⟨wz, hwz⟩ : ∃ y, y = wc := ⟨_, rfl⟩
                    subst hwz
                    have HPZ := hid (HPY.out.below hbz.out)
                    have hH30 := hrz.out.2.1
                    go_wp2_with fail
                    go_loopw [15, 80] (fun v15 v80 wr => ∃ q : Nat, q ≤ H.length ∧ v80 = .int .i64 q ∧ v15 = .int .i64 ((urg (ceil l) i (H.take q) : Nat) : Int) ∧ Hid (Below wz.heap.size wz wr)) (fun _ v80 _ => H.length - (intOf v80).toNat)
                    case atStart => exact ⟨0, by omega, rfl, rfl, Below.refl _ _⟩
                    case round =>
                      obtain ⟨q, hq, rfl, rfl, hbq⟩ := hrel
                      by_cases hlt4 : q < H.length
                      · have k1 : (q : Int) < (H.length : Int) := by omega
                        obtain ⟨b6, o6, hab, _, g1⟩ := Row.at (Row.below hrz.out.1 hbq.out (Nat.le_refl _)) q hlt4
                        subst hab
                        have HCE := hid (CeilingOf_any l (H.getD q 0) (some ⟨b, off, none⟩) c wr (HR.out.below (HPZ.out.bel.trans (hbq.out.mono (by have := HPZ.out.s1; have := HPZ.out.s2; omega))) (Nat.le_refl _)) (by omega) (fun x hx => by have := (HK.out.2 x hx).many; omega))
                        rw [HMEM.out _ (by simp [List.getD, hlt4])] at HCE
                        have HUN := hid (urg_next (ceil l) i H q hlt4)
                        generalize H.getD q 0 = kq at *
                        go_wp2_with (go_at_call 36; refine HCE.out.mono ?_; rintro e w6 ⟨rfl, hb6⟩; have HB6 := hid (hbq.out.trans (hb6.mono hbq.out.size)); clear hb6)
                        go_roundw
                        case rel => exact ⟨q + 1, by omega, by go_num, by rw [HUN.out]; congr 1; omega, HB6.out⟩
                        case measure => simp [intOf]; omega
                      · obtain rfl : q = H.length := by omega
                        rw [List.take_of_length_le (Nat.le_refl _), ← HUU.out]
                        have HBR := hid (hbx.out.trans ((HBY.out.trans ((hbz.out.trans (hbq.out.mono hbz.out.size)).mono HBY.out.size)).mono hbx.out.size))
                        rcases hch.out with ⟨hp0, rfl, rfl⟩ | ⟨bb, hbb, hp1, rfl, rfl⟩
                        · have HCH := hid (Chi.new hp0 hlt3 HCC.out)
                          clear hch hp0
                          go_wp2_with fail
                          go_roundw
                          case rel => exact ⟨i + 1, by omega, by go_num, HCH.out, HBR.out⟩
                          case measure => simp [intOf]; omega
                        · have n1 : ((bb : Int) < 0) = False := by simp
                          by_cases huu : (wks l).u (st (wks l) t) i ≤ (wks l).u (st (wks l) t) bb
                          · have HCH := hid (Chi.take hp1 hlt3 HCC.out huu)
                            have n2 : (((wks l).u (st (wks l) t) i : Nat) : Int) ≤ (((wks l).u (st (wks l) t) bb : Nat) : Int) := by omega
                            clear hch hp1
                            go_wp2_with fail
                            go_roundw
                            case rel => exact ⟨i + 1, by omega, by go_num, HCH.out, HBR.out⟩
                            case measure => simp [intOf]; omega
                          · have HCH := hid (Chi.keep hp1 hbb HCC.out huu)
                            have n2 : ¬ (((wks l).u (st (wks l) t) i : Nat) : Int) ≤ (((wks l).u (st (wks l) t) bb : Nat) : Int) := by omega
                            clear hch hp1
                            go_wp2_with fail
                            go_roundw
                            case rel => exact ⟨i + 1, by omega, by go_num, HCH.out, HBR.out⟩
                            case measure => simp [intOf]; omega
            · obtain rfl : i = l.length := by omega
              have HEND := hid (endL_step HK.out t)
              have t0 := box_cell HPX.out.tb 0
              have t1 := box_cell HPX.out.tb 1
              have t2 := box_cell HPX.out.tb 2
              simp [vS] at t0 t1 t2
              have tf := pFroz HPX.out.tb 0
              rcases hch.out with ⟨hp0, rfl, rfl⟩ | ⟨bb, hbb, hp1, rfl, rfl⟩
              · have hw : who (wks l) t = none := hp0
                have HWI := hid (show whoI (wks l) t = -1 by unfold whoI; rw [hw])
                have HCI := hid (cntL_idle hw)
                rw [hw] at HEND
                clear hch hp0 hw
                have HOA := hid (World.ownsRow.alloc HPX.out.r (.cells #[.int .i64 (-1)] 3))
                have HPA := hid (HPX.out.below ((Below.refl wx.heap.size wx).alloc (Nat.le_refl _) (.cells #[.int .i64 (-1)] 3)))
                go_wp2_with (at_builtin; refine wpList_appendI rfl _ _ rfl wu.heap.size _ (ranL (wks l) t) [(-1 : Int)] ⟨wx.heap.size, 0, none⟩ 1 1 rfl ?qc0 rfl rfl ?qc1 ?qc2 ?qc3 ?_)
                case qc0 => exact HOA.out
                case qc1 => intro j u h; exact h
                case qc2 => rw [ranL_len]; omega
                case qc3 => have := HPX.out.s2; omega
                intro v8 w8 hown8 hgrow8
                obtain ⟨a8, n8, k8, rfl⟩ := OwnI.slice hown8
                obtain ⟨q8, HP8'⟩ := HPA.out.put hgrow8 hown8
                have HP8 := hid HP8'
                have t8 := box_cell q8 0
                have f8 := pFroz q8 0
                simp [vS] at t8
                clear q8 HP8' hown8 hgrow8
                go_wp2_with fail
                go_roundw
                case rel => exact ⟨t + 1, _, by omega, by go_num, by rw [HEND.out, HCI.out, ranL_succ, HWI.out]; exact HP8.out⟩
                case measure => simp [intOf]; omega
              · have hw : who (wks l) t = some bb := hp1
                have hbl : bb < l.length := hbb
                have HWI := hid (whoI_eq.2 hw)
                have HCS := hid (cntL_step hw hbl)
                have hth := who_there hw
                have HFR := hid (fun (j : Nat) (hj : j < l.length) (hne : j ≠ bb) (k : Int) (hk : k ∈ (wks l).M bb (st (wks l) t bb)) => HK.out.never hw hj hne hk)
                rw [hw] at HEND
                clear hch hp1 hw t0 t1 t2 tf
                have j1 : (bb : Int) < (l.length : Int) := by omega
                obtain ⟨b, off, hab, _, d1, a1, c1, d2, d3, d4⟩ := (HR.out.below HPX.out.bel (Nat.le_refl _)).at bb hbl
                subst hab
                have hz : l.getD bb zWk = l.getD bb (0, []) := rfl
                have HAC := hid (show acts l bb = (l.getD bb (0, [])).2 from rfl)
                have HOK := hid (HK.out.at hbl)
                rw [hz] at d1 d2 d3 d4
                generalize l.getD bb (0, []) = x at *
                obtain ⟨cm, la⟩ := x
                simp only at d1 d2 d3 d4 HAC
                have e0 := OwnI.cell HPX.out.c bb (by have := HPX.out.lc; omega)
                rw [cntL_at l t hbl] at e0
                obtain ⟨gu, ku, au, cu, ev, e1, e2⟩ := (HPX.out.units HUT.out).at bb (by have := HUL.out; omega)
                simp only [Value.slice.injEq] at ev
                obtain ⟨rfl, -, -⟩ := ev
                have hrT : st (wks l) t bb < (units 0 la).length := by rw [← HAC.out]; exact hth.2.2
                rw [show unitsI (acts l bb) = unitsI la by rw [HAC.out]] at e1 e2
                obtain ⟨gq, oq, hau, _, e3⟩ := Row.at e2 (st (wks l) t bb) (by rw [unitsI_len]; exact hrT)
                subst hau
                rw [unitsI_at hrT] at e3
                rw [unitsI_len] at e1
                have HMV := hid (show (wks l).M bb (st (wks l) t bb) = (hasAt la ((units 0 la).getD (st (wks l) t bb) 0)).getD [] by rw [← HAC.out]; rfl)
                have hjl := units_lt hrT
                have hrTi : ((st (wks l) t bb : Nat) : Int) < (((units 0 la).length : Nat) : Int) := by omega
                generalize (units 0 la).getD (st (wks l) t bb) 0 = jj at *
                generalize (wks l).M bb (st (wks l) t bb) = MM at *
                have HHA := hid (fun (W : World) (hb : Below wx.heap.size wx W) => ((HasAt_any cm la a1 c1 HOK.out.many jj W (d4.below hb (Nat.le_refl _)) (by omega)).mono (by
                  rintro e w' ⟨hp, hb2⟩
                  have hm := HOK.out.many
                  simp only at hm
                  obtain ⟨v, q1, q2, q3⟩ := hp.now (hasAt_all HOK.out.all (by simp only; omega)) HMV.out (by omega)
                  exact ⟨⟨v, q1, q2, q3⟩, hb2⟩) : Calls Try.prog 31 #[.agg #[.int .i64 cm, .slice a1 la.length c1], .int .i64 jj] W fun e w' => (∃ v, e = .returned (.tuple #[v, .bool true]) ∧ OwnI w' W.heap.size v MM ∧ MM.length ≤ 30) ∧ Below W.heap.size W w'))
                have n1 : ¬ ((bb : Int) < 0) := by omega
                have n2 : (0 : Int) ≤ (bb : Int) := by omega
                have f1 := Lib.cell?_alloc_some (.cells #[.slice none 0 0] 23) d1
                have f2 := Lib.cell?_alloc_some (.cells #[.slice none 0 0] 23) d2
                have f3 := Lib.cell?_alloc_some (.cells #[.slice none 0 0] 23) e0
                have f4 := Lib.cell?_alloc_some (.cells #[.slice none 0 0] 23) e1
                have f5 := Lib.cell?_alloc_some (.cells #[.slice none 0 0] 23) e3
                clear d4 hz e2 d3
                go_wp2_with fail
                clear f1 f2 f3 f4 f5
                have hB1 : b < wx.heap.size := World.block_lt_of_cell? _ _ d1
                have hB2 : w.heap.size + 3 < wx.heap.size := World.block_lt_of_cell? _ _ e0
                have hB3 : gu < wx.heap.size := World.block_lt_of_cell? _ _ e1
                have hB4 : gq < wx.heap.size := World.block_lt_of_cell? _ _ e3
                have ne1 : ¬ b = wx.heap.size := by omega
                have ne2 : ¬ w.heap.size + 3 = wx.heap.size := by omega
                have ne3 : ¬ gu = wx.heap.size := by omega
                have ne4 : ¬ gq = wx.heap.size := by omega
                have ne5 : ¬ wx.heap.size = b := by omega
                have ne6 : ¬ wx.heap.size = w.heap.size + 3 := by omega
                have ne7 : ¬ wx.heap.size = gu := by omega
                have ne8 : ¬ wx.heap.size = gq := by omega
                clear hB1 hB2 hB3 hB4
                go_cut [18, 42] from 42 to 179 (fun v18 v42 wc => ∃ (D : Nat) (ah : Option Addr) (ch : Nat), v18 = .pointer (some ⟨D, 0, none⟩) ∧ v42 = .int .i64 t ∧ Hid (wc.heap[D]? = some (.cells #[.slice ah MM.length ch] 23) ∧ Below wx.heap.size wx wc ∧ Row wc ah MM ∧ MM.length ≤ 30 ∧ MM.length ≤ ch ∧ wx.heap.size ≤ D))
                case first =>
                  go_region_held3 (fun W => W.cell? ⟨b, off + bb * 2, none⟩ = some (.int .i64 cm) ∧ W.cell? ⟨b, off + bb * 2 + 1, none⟩ = some (.slice a1 la.length c1) ∧ W.cell? ⟨w.heap.size + 3, bb, none⟩ = some (.int .i64 ((st (wks l) t bb : Nat) : Int)) ∧ W.cell? ⟨gu, bb, none⟩ = some (.slice (some ⟨gq, oq, none⟩) (units 0 la).length cu) ∧ W.cell? ⟨gq, oq + st (wks l) t bb, none⟩ = some (.int .i64 (jj : Nat))) (go_keep)
                    (first
                      | (go_at_call 31
                         refine (HHA.out _ ?_).mono ?_
                         · exact (Below.refl wx.heap.size wx).drew
                         rintro e wh ⟨⟨vh, rfl, hoh, hlh⟩, hbh⟩
                         obtain ⟨ah, ch, rfl, hrh, hch2⟩ := owni_row hoh
                         have hbw : Below wx.heap.size wx wh := ((Below.refl wx.heap.size wx).drew).trans hbh
                         have g1 := (hbw.cell (World.block_lt_of_cell? _ _ d1)).trans d1
                         have g2 := (hbw.cell (World.block_lt_of_cell? _ _ d2)).trans d2
                         have g3 := (hbw.cell (World.block_lt_of_cell? _ _ e0)).trans e0
                         have g4 := (hbw.cell (World.block_lt_of_cell? _ _ e1)).trans e1
                         have g5 := (hbw.cell (World.block_lt_of_cell? _ _ e3)).trans e3)
                      | (go_at_call 31
                         refine (HHA.out _ ?_).mono ?_
                         · exact ((Below.refl wx.heap.size wx).alloc (Nat.le_refl _) _).drew
                         rintro e wh ⟨⟨vh, rfl, hoh, hlh⟩, hbh⟩
                         obtain ⟨ah, ch, rfl, hrh, hch2⟩ := owni_row hoh
                         have hbw : Below wx.heap.size wx wh := (((Below.refl wx.heap.size wx).alloc (Nat.le_refl _) _).drew).trans (hbh.mono (by simp))
                         have g1 := (hbw.cell (World.block_lt_of_cell? _ _ d1)).trans d1
                         have g2 := (hbw.cell (World.block_lt_of_cell? _ _ d2)).trans d2
                         have g3 := (hbw.cell (World.block_lt_of_cell? _ _ e0)).trans e0
                         have g4 := (hbw.cell (World.block_lt_of_cell? _ _ e1)).trans e1
                         have g5 := (hbw.cell (World.block_lt_of_cell? _ _ e3)).trans e3
                         have hn4 : wh.heap[wx.heap.size]? = some (.cells #[.slice none 0 0] 23) := (hbh.block wx.heap.size (by simp)).trans (heap_alloc_new wx _)
                         have n4 := pFroz hn4 0
                         have m4 := box_cell hn4 0))
                  · go_wp2_with fail
                    go_meet
                    exact ⟨wh.heap.size, ah, ch, rfl, rfl, heap_alloc_new wh _, hbw.alloc hbw.size _, Row.below hrh ((Below.refl wh.heap.size wh).alloc (Nat.le_refl _) _) (Nat.le_refl _), hlh, hch2, hbw.size⟩
                  · go_wp2_with fail
                    go_meet
                    have ho2 : OwnI (wh.setCell ⟨wx.heap.size, 0, none⟩ (.slice ah MM.length ch)) (wx.heap.size + 1) (.slice ah MM.length ch) MM := orow_heap (OwnI.base' hoh (show wx.heap.size + 1 ≤ (wx.alloc _).heap.size by rw [World.size_alloc]; exact Nat.le_refl _)) fun q e => heap_setCell_other _ _ _ _ (by have := (World.ownsRow.lt hoh q e).1; have h2 : (wx.alloc (.cells #[.slice none 0 0] 23)).drew.heap.size = wx.heap.size + 1 := World.size_alloc _ _; dsimp only; omega)
                    obtain ⟨a9, c9, e9, hr9, _⟩ := owni_row ho2
                    simp only [Value.slice.injEq] at e9
                    obtain ⟨rfl, _, rfl⟩ := e9
                    exact ⟨wx.heap.size, ah, ch, rfl, rfl, by rw [heap_setCell_same _ _ _ _ _ _ hn4]; rfl, hbw.setCell (p := ⟨wx.heap.size, 0, none⟩) (Nat.le_refl _) _, hr9, hlh, hch2, Nat.le_refl _⟩
                case rest =>
                  obtain ⟨D, ah, ch, rfl, rfl, hcq⟩ := hcut
                  obtain ⟨wq, hwq⟩ : ∃ y, y = wc := ⟨_, rfl⟩
                  subst hwq
                  have HPQ := hid (HPX.out.below hcq.out.2.1)
                  have HCQ := hid hcq.out
                  clear hcq
                  go_wp2_with fail
                  clear d1 d2 e0 e1 e3 ne1 ne2 ne3 ne4 ne5 ne6 ne7 ne8 hrTi j1
                  go_loopw [11, 122] (fun v11 v122 wr => ∃ i : Nat, i ≤ l.length ∧ v122 = .int .i64 i ∧ v11 = .int .i64 (bb : Nat) ∧ Hid (Below wq.heap.size wq wr)) (fun _ v122 _ => l.length - (intOf v122).toNat)
                  case atStart => exact ⟨0, by omega, rfl, rfl, Below.refl _ _⟩
                  case round =>
                    obtain ⟨i, hi5, rfl, rfl, hb5⟩ := hrel
                    obtain ⟨wy, hwy⟩ : ∃ y, y = wr := ⟨_, rfl⟩
                    subst hwy
                    have HPY := hid (HPQ.out.below hb5.out)
                    by_cases hlt5 : i < l.length
                    · have j2 : (i : Int) < (l.length : Int) := by omega
                      obtain ⟨b', off', hab, _, d1, a1', c1', d2, d3, d4⟩ := (HR.out.below HPY.out.bel (Nat.le_refl _)).at i hlt5
                      simp only [Option.some.injEq, Addr.mk.injEq, and_true] at hab
                      obtain ⟨hab1, hab2⟩ := hab
                      subst hab1
                      subst hab2
                      have hz : l.getD i zWk = l.getD i (0, []) := rfl
                      have HAC2 := hid (show acts l i = (l.getD i (0, [])).2 from rfl)
                      have HOK2 := hid (HK.out.at hlt5)
                      have HMO2 := hid (most l HK.out t i hlt5)
                      have HHI := hid (show (wks l).H i (st (wks l) t i) = hasNow (acts l i) (st (wks l) t i) from rfl)
                      rw [hz] at d1 d2 d3 d4
                      generalize l.getD i (0, []) = x at *
                      obtain ⟨cm2, la2⟩ := x
                      simp only at d1 d2 d3 d4 HAC2
                      have HD4 := hid d4
                      have HPZ := hid (HPY.out.below ((Below.refl wy.heap.size wy).alloc (Nat.le_refl _) (.cells #[.int .i64 cm2, .slice a1' la2.length c1'] 70)))
                      have e0 := OwnI.cell HPZ.out.c i (by have := HPZ.out.lc; omega)
                      rw [cntL_at l t hlt5] at e0
                      obtain ⟨gu2, ku2, au2, cu2, ev2, e1, e2⟩ := (HPZ.out.units HUT.out).at i (by have := HUL.out; omega)
                      simp only [Value.slice.injEq, Option.some.injEq, Addr.mk.injEq, and_true] at ev2
                      obtain ⟨rfl, -⟩ := ev2
                      have HE2 := hid e2
                      rw [show (unitsI (acts l i)).length = (wks l).T i from unitsI_len _] at e1
                      clear e2 d4 hz
                      by_cases hie : i = bb
                      · subst hie
                        go_wp2_with fail
                        go_quiet (fail)
                        go_wp2_with fail
                        exact ⟨⟨i + 1, by omega, by go_num, rfl, below_drewN (hb5.out.alloc hb5.out.size _) _⟩, by simp [intOf]; omega⟩
                      · have hieb : ((i : Int) != (bb : Int)) = true := by simp; omega
                        go_wp2_with fail
                        obtain ⟨wz, hwz⟩ : ∃ y, y = wy.alloc (.cells #[.int .i64 cm2, .slice a1' la2.length c1'] 70) := ⟨_, rfl⟩
                        have HBY := hid (show Below wy.heap.size wy wz by rw [hwz]; exact (Below.refl _ _).alloc (Nat.le_refl _) _)
                        have HNO := hid (show ∀ k ∈ hasNow la2 (st (wks l) t i), k ∉ MM from fun k hk hm => HFR.out i hlt5 hie k hm (by rw [HHI.out, HAC2.out]; exact hk))
                        have HNW := hid (fun (W : World) (hb : Below wz.heap.size wz W) => (by
                          have hb2 : Below wy.heap.size wy W := HBY.out.trans (hb.mono HBY.out.size)
                          have hTl : (unitsI la2).length = (wks l).T i := by rw [unitsI_len, ← HAC2.out]; rfl
                          have q := HasNow_any cm2 la2 a1' c1' HOK2.out.many HOK2.out.all (by
                            have := unitsI_few (l := la2) (fun x hx e => by
                              obtain ⟨j, hj, rfl⟩ := List.getElem_of_mem hx
                              rcases kind_of HOK2.out.all hj with c | c | c
                              · simp only at e c ⊢; omega
                              · simp only at e c ⊢; omega
                              · simp only at e c ⊢; omega)
                            have := HOK2.out.many
                            simp only at this
                            omega) au2 cu2 (st (wks l) t i) (by rw [hTl]; exact HMO2.out) W (HD4.out.below hb2 (Nat.le_refl _)) (Row.below (by have q := HE2.out; rw [HAC2.out, ← hwz] at q; exact q) hb (Nat.le_refl _))
                          rw [hTl] at q
                          exact q : Calls Try.prog 35 #[.agg #[.int .i64 cm2, .slice a1' la2.length c1'], .slice au2 ((wks l).T i) cu2, .int .i64 (st (wks l) t i)] W fun e w' => (∃ v, e = .returned v ∧ OwnI w' W.heap.size v (hasNow la2 (st (wks l) t i)) ∧ (hasNow la2 (st (wks l) t i)).length ≤ 30) ∧ Below W.heap.size W w'))
                        have HBQ := hid (hb5.out.trans (HBY.out.mono hb5.out.size))
                        have HCLH := hid (fun (W : World) (hb : Below wz.heap.size wz W) (ax : Option Addr) (cx : Nat) (hr : Row W ax (hasNow la2 (st (wks l) t i))) (h30 : (hasNow la2 (st (wks l) t i)).length ≤ 30) => clHas_any (hasNow la2 (st (wks l) t i)) MM HNO.out D ah ch ax cx W (box_cell (((HBQ.out.trans (hb.mono HBQ.out.size)).block D (Array.getElem?_eq_some_iff.1 HCQ.out.1).1).trans HCQ.out.1) 0) (Row.below HCQ.out.2.2.1 (HBQ.out.trans (hb.mono HBQ.out.size)) (Nat.le_refl _)) (by have := HCQ.out.2.2.2.1; omega) hr (by omega))
                        have y0 : wz.cell? ⟨wy.heap.size, 0, none⟩ = some (.int .i64 cm2) := by rw [hwz]; exact box_cell (box_new wy _ _) 0
                        have y1 : wz.cell? ⟨wy.heap.size, 1, none⟩ = some (.slice a1' la2.length c1') := by rw [hwz]; exact box_cell (box_new wy _ _) 1
                        rw [← hwz] at e0 e1 HPZ ⊢
                        clear hwz HE2 d1 d2 d3
                        go_region_held3 (fun W => W.cell? ⟨wy.heap.size, 0, none⟩ = some (.int .i64 cm2) ∧ W.cell? ⟨wy.heap.size, 1, none⟩ = some (.slice a1' la2.length c1') ∧ W.cell? ⟨w.heap.size + 3, i, none⟩ = some (.int .i64 ((st (wks l) t i : Nat) : Int)) ∧ W.cell? ⟨gu, i, none⟩ = some (.slice au2 ((wks l).T i) cu2)) (go_keep)
                          (first
                            | (go_at_call 35
                               refine (HNW.out _ ?_).mono ?_
                               · exact (Below.refl wz.heap.size wz).drew
                               rintro e wh ⟨⟨vh, rfl, hoh, hlh⟩, hbh⟩
                               obtain ⟨ax, cx, rfl, hrh, hcc⟩ := owni_row hoh
                               have hbw : Below wz.heap.size wz wh := ((Below.refl wz.heap.size wz).drew).trans hbh
                               have g0 := (hbw.cell (World.block_lt_of_cell? _ _ y0)).trans y0
                               have g1 := (hbw.cell (World.block_lt_of_cell? _ _ y1)).trans y1
                               have g2 := (hbw.cell (World.block_lt_of_cell? _ _ e0)).trans e0
                               have g3 := (hbw.cell (World.block_lt_of_cell? _ _ e1)).trans e1)
                            | (go_at_call 37
                               refine (HCLH.out _ ?_ ax cx ?_ hlh).mono ?_
                               · exact hbw
                               · exact hrh
                               rintro e wv ⟨rfl, hbv⟩
                               have hbx : Below wz.heap.size wz wv := hbw.trans (hbv.mono hbw.size)
                               have g0 := (hbx.cell (World.block_lt_of_cell? _ _ y0)).trans y0
                               have g1 := (hbx.cell (World.block_lt_of_cell? _ _ y1)).trans y1
                               have g2 := (hbx.cell (World.block_lt_of_cell? _ _ e0)).trans e0
                               have g3 := (hbx.cell (World.block_lt_of_cell? _ _ e1)).trans e1))
                        all_goals (
                          go_wp2_with fail
                          exact ⟨⟨i + 1, by omega, by go_num, rfl, HBQ.out.trans (hbx.mono HBQ.out.size)⟩, by simp [intOf]; omega⟩)
                    · obtain rfl : i = l.length := by omega
                      have t0 := box_cell HPY.out.tb 0
                      have t1 := box_cell HPY.out.tb 1
                      have t2 := box_cell HPY.out.tb 2
                      simp [vS] at t0 t1 t2
                      have tf := pFroz HPY.out.tb 0
                      have HOA := hid (World.ownsRow.alloc HPY.out.r (.cells #[.int .i64 ((bb : Nat) : Int)] 3))
                      have HPA := hid (HPY.out.below ((Below.refl wy.heap.size wy).alloc (Nat.le_refl _) (.cells #[.int .i64 ((bb : Nat) : Int)] 3)))
                      go_upto_region 37 with (at_builtin; refine wpList_appendI rfl _ _ rfl wu.heap.size _ (ranL (wks l) t) [((bb : Nat) : Int)] ⟨wy.heap.size, 0, none⟩ 1 1 rfl ?qc0 rfl rfl ?qc1 ?qc2 ?qc3 ?_)
                      case qc0 => exact HOA.out
                      case qc1 => exact World.news_of_block (heap_alloc_new wy _)
                      case qc2 => rw [ranL_len, List.length_singleton]; omega
                      case qc3 => rw [World.size_alloc]; have := HPY.out.s2; omega
                      intro v8 w8 hown8 hgrow8
                      obtain ⟨a8, n8, k8, rfl⟩ := OwnI.slice hown8
                      obtain ⟨q8, HP8'⟩ := HPA.out.put hgrow8 hown8
                      have HP8 := hid HP8'
                      have t8 := box_cell q8 0
                      have f8 := pFroz q8 0
                      simp [vS] at t8
                      clear q8 HP8' hown8 hgrow8
                      go_upto_region 37 with fail
                      obtain ⟨w9, hw9⟩ : ∃ y, y = w8.setCell ⟨w.heap.size + 2, 0, none⟩ (.slice a8 n8 k8) := ⟨_, rfl⟩
                      rw [← hw9] at HP8 ⊢
                      clear hw9 t8 f8
                      have e9 := OwnI.cell HP8.out.c bb (by have := HP8.out.lc; omega)
                      rw [cntL_at l t hbl] at e9
                      have f9 := OwnI.frozen HP8.out.c HP8.out.lc bb
                      have hst : st (wks l) t bb ≤ 3000 := by
                        have := unitsI_few (l := la) (fun x hx e => by
                          obtain ⟨j, hj, rfl⟩ := List.getElem_of_mem hx
                          rcases kind_of HOK.out.all hj with c | c | c
                          · simp only at e c ⊢; omega
                          · simp only at e c ⊢; omega
                          · simp only at e c ⊢; omega)
                        have h2 := HOK.out.many
                        simp only at h2
                        rw [unitsI_len] at this
                        omega
                      have jb : (bb : Int) < (l.length : Int) := by omega
                      have HP9 := hid (HP8.out.setC bb (((st (wks l) t bb : Nat) : Int) + 1))
                      have e10 := OwnI.cell HP9.out.c bb (by have := HP9.out.lc; omega)
                      rw [show ((cntL l t).set bb (((st (wks l) t bb : Nat) : Int) + 1)).getD bb 0 = ((st (wks l) t bb : Nat) : Int) + 1 by simp [List.getD, cntL, hbl]] at e10
                      rw [← HCS.out] at HP9
                      obtain ⟨gu2, ku2, au2, cu2, ev2, e11, _⟩ := (HP9.out.units HUT.out).at bb (by have := HUL.out; omega)
                      simp only [Value.slice.injEq, Option.some.injEq, Addr.mk.injEq, and_true] at ev2
                      obtain ⟨rfl, -⟩ := ev2
                      rw [show (unitsI (acts l bb)).length = (wks l).T bb from unitsI_len _] at e11
                      go_upto_region 38 with fail
                      obtain ⟨w10, hw10⟩ : ∃ y, y = w9.setCell ⟨w.heap.size + 3, bb, none⟩ (.int .i64 (((st (wks l) t bb : Nat) : Int) + 1)) := ⟨_, rfl⟩
                      rw [← hw10] at HP9 e10 e11 ⊢
                      clear hw10 e9 f9
                      have s0 := box_cell HP9.out.tb 0
                      have s1 := box_cell HP9.out.tb 1
                      have s2 := box_cell HP9.out.tb 2
                      simp [vS] at s0 s1 s2
                      have fe := OwnI.frozen HP9.out.e HP9.out.le bb
                      have ce := OwnI.cell HP9.out.e bb (by have := HP9.out.le; omega)
                      by_cases hT : st (wks l) t bb + 1 = (wks l).T bb
                      · have hTb : ((((st (wks l) t bb : Nat) : Int) + 1) == (((wks l).T bb : Nat) : Int)) = true := by simp; omega
                        go_quiet (fail)
                        go_wp2_with fail
                        go_roundw
                        case rel => exact ⟨t + 1, _, by omega, by go_num, by rw [HEND.out, if_pos hT, ranL_succ, HWI.out]; exact (HP9.out.below (below_drewN' w10)).setE bb _⟩
                        case measure => simp [intOf]; omega
                      · have hTb : ((((st (wks l) t bb : Nat) : Int) + 1) == (((wks l).T bb : Nat) : Int)) = false := by simp; omega
                        go_quiet (fail)
                        go_wp2_with fail
                        go_roundw
                        case rel => exact ⟨t + 1, _, by omega, by go_num, by rw [HEND.out, if_neg hT, ranL_succ, HWI.out]; exact HP9.out.below (below_drewN' w10)⟩
                        case measure => simp [intOf]; omega
        · obtain rfl : t = u := by omega
          obtain ⟨ar, nr, kr, rfl⟩ := OwnI.slice hp.out.r
          have t0 := box_cell hp.out.tb 0
          have t1 := box_cell hp.out.tb 1
          have t2 := box_cell hp.out.tb 2
          have r0 := box_cell hp.out.res 0
          have r1 := box_cell hp.out.res 1
          have r2 := box_cell hp.out.res 2
          simp [vS] at t0 t1 t2 r0 r1 r2
          have z0 := pFroz hp.out.res 0
          have z1 := pFroz hp.out.res 1
          have z2 := pFroz hp.out.res 2
          have i1 : ¬ (t : Int) < (t : Int) := by omega
          go_wp2_with fail
          obtain ⟨wf, hwf⟩ : ∃ y, y = ((wr.setCell ⟨w.heap.size, 0, none⟩ (.slice ar nr kr)).setCell ⟨w.heap.size, 1, none⟩ (vS (w.heap.size + 1) l.length l.length)).setCell ⟨w.heap.size, 2, none⟩ (.int .i64 0) := ⟨_, rfl⟩
          obtain ⟨q0, q1, q2, q3, q4, q5⟩ := hp.out.final wf hwf
          simp only [vS] at hwf q1
          rw [← hwf]
          clear hwf r0 r1 r2 z0 z1 z2 t0 t1 t2
          (try simp only [Exit.inBlock, Exit.then])
          refine bodyPost_ret (by simp [results, Try.results13, go_sem, q0, q1, q2]; try rfl) rfl ?_
          exact ⟨⟨_, _, rfl, q3, q4⟩, q5⟩
end LockC
end Go.Proofs.Ytllfpbngfkimlaa
