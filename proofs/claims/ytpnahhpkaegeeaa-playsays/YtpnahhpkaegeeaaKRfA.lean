/- Several texts, one behind the other: RfA. -/
import Derived.Test.YtpnahhpkaegeeaaKIdF
/- Contracts of the document's own answers about plays: FirstsRight, JobsOf, PlayRight. -/
set_option linter.unusedVariables false
namespace Go.Proofs.Ytpnahhpkaegeeaa
open Go.RowKit hiding tok
open SpanM SpanC TaskM PlayM
open RowsO hiding Tk
namespace PlayC
open TaskC (tk_snoc tk_mem)
open NumC (Row)
open RowG
theorem rfirsts_any (a b : Option Addr) (n : Nat) (ca cb : Nat) (f : List Int) (w : World) (hf : Row w b f) (hn : n ≤ 16) :
    Calls Try.prog 17 #[.slice a n ca, .slice b f.length cb] w fun e w' => e = .returned (.bool (decide (fstE n f = 0))) ∧ Below w.heap.size w w' := by
  by_cases hl : f.length = n
  · have HC := hid (fr_contains b cb f () w hf (by omega))
    have e : (f.any fun x => frq x ()) = !decide (fstE n f = 0) := by
      unfold fstE fstG
      rw [if_pos hl]
      by_cases h : ∀ x ∈ f, fok x
      · rw [if_pos h, decide_eq_true rfl]
        show _ = false
        rw [List.any_eq_false]
        intro x hx
        unfold frq
        simp [h x hx]
      · rw [if_neg h, decide_eq_false (by decide)]
        show _ = true
        rw [List.any_eq_true]
        have : ∃ x, x ∈ f ∧ ¬ fok x := Classical.byContradiction fun c => h fun x hx => Classical.byContradiction fun d => c ⟨x, hx, d⟩
        obtain ⟨x, hx, hq⟩ := this
        exact ⟨x, hx, by unfold frq; rw [decide_eq_true hq]⟩
    rw [e] at HC
    subst hl
    have hnn : ((f.length : Int) == (f.length : Int)) = true := by simp
    clear hf e
    generalize decide (fstE f.length f = 0) = D at *
    go_enter Try.func17, Try.ntmps17
    go_wp2_with (first | (go_at_call 51; refine HC.out.mono ?_; rintro e w1 ⟨rfl, b1⟩; have B1 := hid b1; clear b1))
    go_ret
    exact ⟨by cases D <;> rfl, B1.out⟩
  · have e : decide (fstE n f = 0) = false := by
      unfold fstE
      rw [if_neg hl]; rfl
    rw [e]
    have hnn : ((n : Int) == (f.length : Int)) = false := by rw [beq_eq_false_iff_ne]; omega
    clear hf e
    go_enter Try.func17, Try.ntmps17
    go_wp2_with fail
    go_ret
    exact ⟨rfl, Below.refl _ _⟩
/-- a job, as the document's answer lays it -/
def jd (P : Pl) (b : Nat × Nat) : Pl.Dn := (b.1, b.2, P.cm b.1 b.2, 0)
set_option maxRecDepth 20000 in
set_option maxHeartbeats 1600000 in
theorem rjobs_any (P : Pl) (hP : P.Ok) (a b : Option Addr) (cap cap' : Nat) (T : Int) (w : World) (hr : Tks w a P.l) (hf : Row w b P.f) (hl : P.l.length ≤ 16) (hfk : ∀ x ∈ P.f, fok x) (h1 : 0 ≤ T) (h2 : T ≤ 20000) :
    Calls Try.prog 53 #[.slice a P.l.length cap, .slice b P.f.length cap', .int .i64 T] w fun e w' => (∃ v, e = .returned (.tuple #[v, .bool (decide ((P.jobsL T).length ≤ 2000))]) ∧ OwnD w' w.heap.size v ((P.jobsL T).map (jd P))) ∧ Below w.heap.size w w' := by
  obtain ⟨i0, hi, hz0, hz1, hz2⟩ := info_parts infoD
  have Hi := hid hi
  have Hz0 := hid hz0
  have Hz1 := hid hz1
  have Hz2 := hid hz2
  clear hi hz0 hz1 hz2
  have HR := hid hr
  have HF := hid hf
  have HP := hid hP
  have HK := hid hfk
  have HL := hid hP.len
  have hbd := hid (Pl.jn_bd hP T)
  have HTN := hid (show T.toNat ≤ 20000 by omega)
  clear hr hf hP hfk
  go_enter Try.func53, Try.ntmps53
  go_wp2_with fail
  go_loopw [8, 14] (fun v8 v14 wr => ∃ (i : Nat), i ≤ P.l.length ∧ v14 = .int .i64 i ∧ OwnD wr w.heap.size v8 ((P.jn T i).map (jd P)) ∧ Below w.heap.size w wr) (fun _ v14 _ => P.l.length - (intOf v14).toNat)
  case atStart => exact ⟨0, by omega, rfl, Own.nil _ _ _ _, Below.refl _ _⟩
  case round =>
    obtain ⟨i, hk, rfl, ho, hb⟩ := hrel
    have HB := hid hb
    have hsz := hb.size
    have HO := hid ho
    obtain ⟨p7, c7, hv7⟩ := ho.slice
    by_cases hlt : i < P.l.length
    · obtain ⟨p, off, rfl, hbw, d1, d2, d3⟩ := (HR.out.below hb (Nat.le_refl _)).at i hlt
      obtain ⟨q, off2, rfl, hbw2, d4⟩ := Row.at HF.out i (by have := HL.out; omega)
      have HD4 := hid d4
      have hz : zTk = (0, 0, 0) := rfl
      have ht := HP.out.at hlt
      have hcz := cm_zero P i
      have hcm : ∀ k : Nat, P.cm i k = P.f.getD i 0 + (k : Int) * (P.tk i).2.1 := fun k => rfl
      have hfm := HK.out _ (in_mem (show i < P.f.length by have := HL.out; omega))
      have HCI := hid (fun k => Pl.cnt_iff HP.out hlt T k)
      have HLE := hid (fun k => (HP.out.come hlt k).1)
      have HCL := hid (Pl.cnt_le HP.out hlt T)
      have HJN := hid (hbd.out i (by omega))
      rw [hz] at d1 d2 d3
      rw [← Pl.tk_at] at d1 d2 d3
      clear hb ho hz d4
      generalize P.tk i = z at d1 d2 d3 ht hcm
      obtain ⟨m, e, d⟩ := z
      generalize P.f.getD i 0 = f at HD4 hfm hcm
      obtain ⟨p1, p2, p3, p4, p5, p6⟩ := ht
      obtain ⟨f1, f2⟩ := hfm
      simp only at d1 d2 d3 p1 p2 p3 p4 p5 p6 hcm
      have HCM := hid hcm
      have hsz1 : w.heap.size ≤ wr.heap.size := hsz
      have hif : (i : Int) < (P.f.length : Int) := by have := HL.out; omega
      clear hcz hcm
      subst hv7
      go_wp2_with fail
      obtain ⟨w0, hw0⟩ : ∃ x, x = wr := ⟨_, rfl⟩
      subst hw0
      go_loopw [8, 11] (fun v8 v11 wr => ∃ (k : Nat), k ≤ P.cnt i T ∧ v11 = .int .i64 k ∧ OwnD wr w.heap.size v8 ((P.jk T i k).map (jd P)) ∧ Below w.heap.size w wr ∧ wr.heap[w0.heap.size]? = some (.cells #[.int .i64 m, .int .i64 e, .int .i64 d] 67)) (fun _ v11 _ => P.cnt i T - (intOf v11).toNat)
      case atStart => exact ⟨0, by omega, rfl, by rw [Pl.jk_zero]; exact own_alloc HO.out _, HB.out.alloc hsz1 _, box_new _ _ _⟩
      case round =>
        obtain ⟨k, hk2, rfl, ho, hb, hbx⟩ := hrel
        have HB2 := hid hb
        have HO2 := hid ho
        have HX := hid hbx
        obtain ⟨p8, c8, hv8⟩ := ho.slice
        subst hv8
        have x1 := box_cell hbx 1
        simp at x1
        have y1 := (hb.cell hbw2).trans HD4.out
        have hbxl : w0.heap.size < wr.heap.size := (Array.getElem?_eq_some_iff.1 hbx).1
        have hqw : q < wr.heap.size := World.block_lt_of_cell? wr ⟨q, off2 + i, none⟩ y1
        have hkT : (k : Int) ≤ 20000 := by have := HCL.out; have := HTN.out; omega
        have hke0 : 0 ≤ (k : Int) * e := Int.mul_nonneg (by omega) (by omega)
        have hke1 : (k : Int) * e ≤ 20000 * 10000 := Int.mul_le_mul hkT p2 (by omega) (by omega)
        have hc := HCM.out k
        have wr1 : IntKind.i64.wrap ((k : Int) * e) = (k : Int) * e := by
          generalize (k : Int) * e = ke at *
          rw [IntKind.wrap_i64]; omega
        have wr2 : IntKind.i64.wrap (f + (k : Int) * e) = P.cm i k := by
          rw [hc]
          generalize (k : Int) * e = ke at *
          rw [IntKind.wrap_i64]; omega
        have HCT := hid (HCI.out k)
        have HJD := hid (show jd P (i, k) = ((i : Int), (k : Int), P.cm i k, 0) from rfl)
        generalize P.cm i k = cm at *
        clear ho hb hbx hc hke0 hke1
        by_cases hct : cm < T
        · have hkc : k < P.cnt i T := HCT.out.2 hct
          have HE : Hid ((P.jk T i (k + 1)).map (jd P) = (P.jk T i k).map (jd P) ++ [((i : Int), (k : Int), cm, 0)]) := by
            show _ = _
            rw [Pl.jk_succ, List.map_append, List.map_singleton, HJD.out]
          have hlen : ((P.jk T i k).map (jd P)).length ≤ 400000 := by
            rw [List.length_map, Pl.jk_len]
            have h5 := HJN.out
            have : i * T.toNat ≤ 16 * 20000 := Nat.mul_le_mul (by omega) HTN.out
            omega
          have hdc : decide (cm < T) = true := decide_eq_true hct
          have hne0 : some q ≠ Value.ownBlock (.slice p8 ((P.jk T i k).map (jd P)).length c8) := by
            intro e
            have := (Own.lt HO2.out _ e.symm).1
            omega
          have hne1 := own_ne HO2.out HX.out (by decide)
          generalize (P.jk T i k).map (jd P) = Z at *
          go_wp2_with fail
          go_quiet (fail)
          obtain ⟨V, hV⟩ : ∃ V, V = wr.drewN nq := ⟨_, rfl⟩
          rw [← hV]
          have bV : Below wr.heap.size wr V := by rw [hV]; exact below_drewN (Below.refl _ _) _
          have OV := hid (Own.below HO2.out bV (Nat.le_refl _))
          have BV := hid (bel_of HB2.out bV)
          have XV := hid (box_below HX.out bV (Nat.le_refl _))
          have hVs : V.heap.size = wr.heap.size := by rw [hV]; rfl
          clear hV x1 y1 bV
          have x1 := box_cell XV.out 1
          simp at x1
          have y1 := (BV.out.cell hbw2).trans HD4.out
          have hbxl' : w0.heap.size < V.heap.size := by omega
          have hqw' : q < V.heap.size := by omega
          have hwV : w.heap.size ≤ V.heap.size := BV.out.size
          clear hVs
          go_wp2_with fail
          have k1 : ∀ u ∈ ([.int .i64 i, .int .i64 k, .int .i64 cm, .int .i64 0] : List Value), u.oneCell' = true := by intro u hu; simp at hu; rcases hu with rfl | rfl | rfl | rfl <;> rfl
          have hown3 := World.ownsRow.drew (World.ownsRow.alloc (show V.ownsRow w.heap.size 40 4 (.slice p8 Z.length c8) Z.length (ED.flat Z) from OV.out) (.cells #[.int .i64 i, .int .i64 k, .int .i64 cm, .int .i64 0] 40))
          have hnews : ∀ (j : Nat) (u : Value), ([.int .i64 i, .int .i64 k, .int .i64 cm, .int .i64 0] : List Value)[j]? = some u → (V.alloc (.cells #[.int .i64 i, .int .i64 k, .int .i64 cm, .int .i64 0] 40)).drew.cell? ((⟨V.heap.size, 0, none⟩ : Addr).add j) = some u := World.news_of_block (heap_alloc_new V (.cells #[.int .i64 i, .int .i64 k, .int .i64 cm, .int .i64 0] 40))
          have nc : (V.alloc (.cells #[.int .i64 i, .int .i64 k, .int .i64 cm, .int .i64 0] 40)).drew.cell? ⟨q, off2 + i, none⟩ = some (.int .i64 f) := Lib.cell?_alloc_some _ y1
          have nd : (V.alloc (.cells #[.int .i64 i, .int .i64 k, .int .i64 cm, .int .i64 0] 40)).drew.cell? ⟨w0.heap.size, 1, none⟩ = some (.int .i64 e) := Lib.cell?_alloc_some _ x1
          have hs4 : (V.alloc (.cells #[.int .i64 i, .int .i64 k, .int .i64 cm, .int .i64 0] 40)).drew.heap.size = V.heap.size + 1 := by simp
          have hs5 : w.heap.size ≤ (V.alloc (.cells #[.int .i64 i, .int .i64 k, .int .i64 cm, .int .i64 0] 40)).drew.heap.size := by rw [hs4]; omega
          have k2 : Z.length + 1 ≤ maxLen := by unfold maxLen; omega
          have k3 : (Z.length + 1) * 32 ≤ 140737488355328 := by omega
          go_region_held3 (fun W => W.cell? ⟨q, off2 + i, none⟩ = some (.int .i64 f) ∧ W.cell? ⟨w0.heap.size, 1, none⟩ = some (.int .i64 e)) (go_keep)
            (first | (refine step_append_lies _ (by rfl) _ _ _ (by rfl) w.heap.size 40 i0 (.agg #[.int .i64 0, .int .i64 0, .int .i64 0, .int .i64 0]) 4 32 Try.underlying27 Hi.out Hz0.out Hz1.out Hz2.out rfl (by decide) _ Z.length (ED.flat Z) (by rfl) hown3 ⟨V.heap.size, 0, none⟩ 1 1 [.int .i64 i, .int .i64 k, .int .i64 cm, .int .i64 0] (by rfl) (by simp) hnews k1 (by decide) k2 k3 hs5 (V.heap.size + 1) hs4 ?_
                      intro g4 cp w7 hown hgrow hat hlt7
                      have y0 := hgrow.cell (a := ⟨q, off2 + i, none⟩) nc hne0
                      have y0' := hgrow.cell (a := ⟨w0.heap.size, 1, none⟩) nd hne1))
          have HO7 : Hid (OwnD w7 w.heap.size (.slice (some ⟨g4, 0, none⟩) (Z.length + 1) cp) (Z ++ [((i : Int), (k : Int), cm, 0)])) := own_snoc (E := ED) hown rfl rfl
          have HB7 := hid (BV.out.trans (Below.grown (Below.drew (Below.alloc (Below.refl w.heap.size V) (by omega) (.cells #[.int .i64 i, .int .i64 k, .int .i64 cm, .int .i64 0] 40))) hgrow (by rw [hs4]; omega) (fun k hk => (Own.lt OV.out k hk).1)))
          have HX7 := hid (box_grown (show ((V.alloc (.cells #[.int .i64 i, .int .i64 k, .int .i64 cm, .int .i64 0] 40)).drew).heap[w0.heap.size]? = some (.cells #[.int .i64 m, .int .i64 e, .int .i64 d] 67) from box_alloc XV.out _) hgrow hne1)
          clear hown hgrow hat hnews hown3 nc nd y0 y0' x1 y1
          go_wp2_with fail
          go_roundw
          case rel => exact ⟨k + 1, by omega, by go_num, by rw [HE.out]; exact HO7.out, HB7.out, HX7.out⟩
          case measure => simp [intOf]; omega
        · have hkc : k = P.cnt i T := by
            have := HCT.out.1
            by_cases h : k < P.cnt i T
            · exact absurd (this h) hct
            · omega
          have hdc : decide (cm < T) = false := decide_eq_false hct
          have HO4 : Hid (OwnD wr w.heap.size (.slice p8 ((P.jk T i k).map (jd P)).length c8) ((P.jn T (i + 1)).map (jd P))) := by
            show OwnD _ _ _ _
            rw [Pl.jn_succ, ← hkc]; exact HO2.out
          clear hkc
          generalize ((P.jk T i k).map (jd P)).length = n8 at *
          go_wp2_with fail
          go_quiet (fail)
          have HDR := hid (fun n => below_drewN (Below.refl wr.heap.size wr) n)
          clear x1 y1
          go_wp2_with fail
          go_roundw
          case rel => exact ⟨i + 1, by omega, by go_num, Own.below HO4.out (HDR.out _) (Nat.le_refl _), bel_of HB2.out (HDR.out _)⟩
          case measure => simp [intOf]; omega
    · obtain rfl : i = P.l.length := by omega
      rw [Pl.jn_all] at HO
      clear hb ho
      subst hv7
      have e : ((P.jn T P.l.length).map (jd P)).length = (P.jobsL T).length := by rw [Pl.jn_all, List.length_map]
      have HE := hid e
      rw [e] at HO ⊢
      clear e
      go_wp2_with fail
      go_ret2
      exact ⟨⟨_, by simp; omega, HO.out⟩, HB.out⟩
/-- what is told of firsts and until -/
def rgtE (P : Pl) (T : Int) : Int := if fstE P.l.length P.f = 0 then P.untE T else 4
set_option maxRecDepth 20000 in
set_option maxHeartbeats 1600000 in
theorem rright_any (P : Pl) (ht : ∀ x ∈ P.l, tok x) (a b : Option Addr) (cap cap' : Nat) (T : Int) (w : World) (hr : Tks w a P.l) (hf : Row w b P.f) (hl : P.l.length ≤ 16) :
    Calls Try.prog 19 #[.slice a P.l.length cap, .slice b P.f.length cap', .int .i64 T] w fun e w' => e = .returned (.int .i64 (rgtE P T)) ∧ Below w.heap.size w w' := by
  have H1 := hid (fun W (h : Below w.heap.size w W) => rfirsts_any a b P.l.length cap cap' P.f W (Row.below hf h (Nat.le_refl _)) hl)
  unfold rgtE
  by_cases h1 : fstE P.l.length P.f = 0
  · rw [if_pos h1]
    rw [decide_eq_true h1] at H1
    obtain ⟨g1, g2⟩ := fstE_zero h1
    by_cases h2 : 0 ≤ T ∧ T ≤ 20000
    · have hB : (Pl.bare P.l P.f).Ok := Pl.bare_ok ht g1 (fun x hx => (g2 x hx).1)
      have H3 := hid (fun W (h : Below w.heap.size w W) => rjobs_any (Pl.bare P.l P.f) hB a b cap cap' T W (hr.below h (Nat.le_refl _)) (Row.below hf h (Nat.le_refl _)) hl g2 h2.1 h2.2)
      have hj : (Pl.bare P.l P.f).jobsL T = P.jobsL T := rfl
      rw [hj] at H3
      have e : P.untE T = if (P.jobsL T).length ≤ 2000 then 0 else 2 := by
        unfold Pl.untE Pl.untG
        rw [if_pos h2]
        by_cases c : (P.jobsL T).length ≤ 2000
        · rw [if_neg (by omega), if_pos c]
        · rw [if_pos (by omega), if_neg c]
      rw [e]
      obtain ⟨t0, t1⟩ := h2
      have HBT := hid (fun W => NumC.between_yes T 0 20000 W t0 t1)
      simp only [show (Pl.bare P.l P.f).l = P.l from rfl, show (Pl.bare P.l P.f).f = P.f from rfl] at H3
      clear hr hf e hj hB h1 g1 g2
      by_cases c : (P.jobsL T).length ≤ 2000
      all_goals
        first | rw [if_pos c] | rw [if_neg c]
        first | rw [decide_eq_true c] at H3 | rw [decide_eq_false c] at H3
        clear c
        go_enter Try.func19, Try.ntmps19
        go_wp2_with fail
        refine (H1.out _ (Below.refl _ _)).mono ?_
        rintro e w1 ⟨rfl, b1⟩
        have B1 := hid b1
        clear b1
        go_wp2_with (first | (go_at_call 18; refine (HBT.out _).mono ?_; rintro e w' ⟨rfl, hw⟩; replace hw := hw.symm; subst hw))
        refine (H3.out _ B1.out).mono ?_
        rintro e w2 ⟨⟨v, rfl, _⟩, b2⟩
        have B2 := hid (bel_of B1.out b2)
        clear b2
        go_wp2_with fail
        go_ret
        exact ⟨rfl, B2.out⟩
    · have e : P.untE T = 1 := by unfold Pl.untE; rw [if_neg h2]
      rw [e]
      have HBT := hid (fun W => NumC.between_no T 0 20000 W h2)
      clear hr hf e h1 g1 g2 h2
      go_enter Try.func19, Try.ntmps19
      go_wp2_with fail
      refine (H1.out _ (Below.refl _ _)).mono ?_
      rintro e w1 ⟨rfl, b1⟩
      have B1 := hid b1
      clear b1
      go_wp2_with (first | (go_at_call 18; refine (HBT.out _).mono ?_; rintro e w' ⟨rfl, hw⟩; replace hw := hw.symm; subst hw))
      go_ret
      exact ⟨rfl, B1.out⟩
  · rw [if_neg h1]
    rw [decide_eq_false h1] at H1
    clear hr hf h1
    go_enter Try.func19, Try.ntmps19
    go_wp2_with fail
    refine (H1.out _ (Below.refl _ _)).mono ?_
    rintro e w1 ⟨rfl, b1⟩
    have B1 := hid b1
    clear b1
    go_wp2_with fail
    go_ret
    exact ⟨rfl, B1.out⟩
end PlayC
end Go.Proofs.Ytpnahhpkaegeeaa
