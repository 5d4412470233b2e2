/- Several texts, one behind the other: RepL5. -/
import Derived.Test.YtpnahhpkaegeeaaKRepR
import Derived.Test.YtpnahhpkaegeeaaKPlyC
/- The walk of ReplySays. -/
set_option linter.unusedVariables false
namespace Go.Proofs.Ytpnahhpkaegeeaa
open Go.RowKit hiding tok
open SpanM SupM SpanC TaskM PlayM RankM
open RowsO hiding Tk
namespace RepC
open TaskC (tchk tchk_zero tcheck_any tright_any tk_snoc tk_mem)
open NumC (Row)
open PlayC (Row.below box_cell box_alloc box_new box_below PB)
set_option maxRecDepth 20000 in
set_option maxHeartbeats 1600000 in
theorem says_err (l : List Tk) (i : Int) (s : Int) (sl : List Sp) (a c : Option Addr) (ca cc : Nat) (w : World) (hr : Tks w a l) (hs : Sps w c sl) (hca : l.length ≤ ca) (h : rchk l s sl ≠ 0) :
    Calls Try.prog 5 #[.slice a l.length ca, .int .i64 i, .agg #[.int .i64 s, .slice c sl.length cc]] w fun e w' => e = .returned (.bool true) ∧ Below w.heap.size w w' := by
  have H1 := hid (fun W (h : Below w.heap.size w W) => Reply_any l i s sl a c ca cc W (hr.below h (Nat.le_refl _)) (hs.below h (Nat.le_refl _)) hca)
  have H2 := hid (fun W (h : Below w.heap.size w W) => Table_any l s sl a c ca cc W (hr.below h (Nat.le_refl _)) (hs.below h (Nat.le_refl _)) hca)
  have H3 := hid (fun W (h : Below w.heap.size w W) => tright_any a ca l W (hr.below h (Nat.le_refl _)))
  have H4 := hid (fun W (h : Below w.heap.size w W) => right_any s c cc sl W (hs.below h (Nat.le_refl _)))
  have e1 : rplE l i s sl = rchk l s sl := by unfold rplE; rw [if_neg h]
  have e2 : rplV l i s sl = 0 := by unfold rplV; rw [if_neg (fun x => h x.1)]
  have e3 : tblL l s sl = [] := by unfold tblL; rw [if_neg h]
  rw [e1, e2] at H1
  rw [e3] at H2
  have hcase : ((tchk l == 0) = false ∧ rchk l s sl = tchk l) ∨ ((tchk l == 0) = true ∧ tchk l = 0 ∧ rchk l s sl = chk s sl) := by
    by_cases c : tchk l = 0
    · exact .inr ⟨by simp [c], c, by unfold rchk; rw [if_pos c]⟩
    · exact .inl ⟨by simp [c], by unfold rchk; rw [if_neg c]⟩
  have hne : (rchk l s sl != 0) = true := by simpa using h
  clear hr hs e1 e2 e3 h
  generalize rchk l s sl = R at *
  generalize tchk l = TC at *
  generalize chk s sl = SC at *
  go_enter Try.func5, Try.ntmps5
  go_wp2_with fail
  refine (H1.out _ (PB.start w _).bel).mono ?_
  rintro e w1 ⟨rfl, b1⟩
  have B1 := hid ((PB.start w #[.int .i64 s, .slice c sl.length cc]).step b1)
  have x0 := box_cell B1.out.set 0
  have x1 := box_cell B1.out.set 1
  simp at x0 x1
  clear b1
  go_wp2_with fail
  refine (H2.out _ B1.out.bel).mono ?_
  rintro e w2 ⟨⟨v, rfl, ho⟩, b2⟩
  have B2 := hid (B1.out.step b2)
  obtain ⟨at_, ct, rfl, hrt, _⟩ := OwnI.row ho
  clear ho b2 hrt x0 x1
  go_wp2_with fail
  refine (H3.out _ B2.out.bel).mono ?_
  rintro e w3 ⟨rfl, b3⟩
  have B3 := hid (B2.out.step b3)
  have x0 := box_cell B3.out.set 0
  have x1 := box_cell B3.out.set 1
  simp at x0 x1
  clear b3
  rcases hcase with ⟨g1, rfl⟩ | ⟨g1, rfl, rfl⟩
  · go_wp2_with fail
    go_ret
    exact ⟨by first | rfl | simp, B3.out.bel⟩
  · go_wp2_with fail
    refine (H4.out _ B3.out.bel).mono ?_
    rintro e w4 ⟨rfl, b4⟩
    have B4 := hid (B3.out.step b4)
    clear b4 x0 x1
    go_wp2_with fail
    go_ret
    exact ⟨by first | rfl | simp, B4.out.bel⟩
set_option maxRecDepth 20000 in
set_option maxHeartbeats 1600000 in
theorem says_ok (l : List Tk) (i : Int) (s : Int) (sl : List Sp) (a c : Option Addr) (ca cc : Nat) (w : World) (hr : Tks w a l) (hs : Sps w c sl) (hca : l.length ≤ ca) (h : rchk l s sl = 0) :
    Calls Try.prog 5 #[.slice a l.length ca, .int .i64 i, .agg #[.int .i64 s, .slice c sl.length cc]] w fun e w' => e = .returned (.bool true) ∧ Below w.heap.size w w' := by
  obtain ⟨k1, k2⟩ := rchk_zero h
  have hl16 := (tchk_zero k1).1
  have H1 := hid (fun W (h : Below w.heap.size w W) => Reply_any l i s sl a c ca cc W (hr.below h (Nat.le_refl _)) (hs.below h (Nat.le_refl _)) hca)
  have H2 := hid (fun W (h : Below w.heap.size w W) => Table_any l s sl a c ca cc W (hr.below h (Nat.le_refl _)) (hs.below h (Nat.le_refl _)) hca)
  have H3 := hid (fun W (h : Below w.heap.size w W) => tright_any a ca l W (hr.below h (Nat.le_refl _)))
  have H4 := hid (fun W (h : Below w.heap.size w W) => right_any s c cc sl W (hs.below h (Nat.le_refl _)))
  have H5 := hid (fun W (n : Nat) (hn : n < l.length) (h : Below w.heap.size w W) => rreplyOf_any l n s sl a c ca cc W (hr.below h (Nat.le_refl _)) (hs.below h (Nat.le_refl _)) hca k1 k2 hn)
  have e3 : tblL l s sl = tbl l s sl l.length := by unfold tblL; rw [if_pos h]
  have HTL := hid (show (tblL l s sl).length = l.length by rw [e3, tbl_len])
  have HTA := hid (fun n (hn : n < l.length) => (by rw [e3]; exact tbl_at l s sl hn : (tblL l s sl).getD n 0 = repV l n s sl))
  have hcase : (¬ (0 ≤ i ∧ i ≤ (l.length : Int) - 1) ∧ rplV l i s sl = 0 ∧ rplE l i s sl = 7) ∨ (∃ n : Nat, i = n ∧ n < l.length ∧ ((repV l n s sl = 0 ∧ rplV l i s sl = 0 ∧ rplE l i s sl = 11) ∨ (0 < repV l n s sl ∧ rplV l i s sl = repV l n s sl ∧ rplE l i s sl = 0))) := by
    by_cases c : 0 ≤ i ∧ i < l.length
    · refine .inr ⟨i.toNat, by omega, by omega, ?_⟩
      unfold rplV rplE
      rw [if_pos ⟨h, c⟩, if_pos h, if_pos c]
      by_cases z : repV l i.toNat s sl = 0
      · exact .inl ⟨z, z, repE_none z⟩
      · refine .inr ⟨?_, rfl, repE_some z⟩
        have := (rep_pos (S := lst s sl) (p := l.take i.toNat) (x := l.getD i.toNat zTk) z).2.1
        show 0 < rep _ _ _
        omega
    · refine .inl ⟨by omega, ?_, ?_⟩
      · unfold rplV; rw [if_neg (fun x => c x.2)]
      · unfold rplE; rw [if_pos h, if_neg c]
  rw [k1] at H3
  rw [k2] at H4
  rw [h] at H2
  have HCS := hid hcase
  clear hr hs e3 h k1 k2 hcase
  generalize tblL l s sl = TB at *
  generalize rplV l i s sl = RV at *
  generalize rplE l i s sl = RE at *
  go_enter Try.func5, Try.ntmps5
  go_wp2_with fail
  refine (H1.out _ (PB.start w _).bel).mono ?_
  rintro e w1 ⟨rfl, b1⟩
  have B1 := hid ((PB.start w #[.int .i64 s, .slice c sl.length cc]).step b1)
  have x0 := box_cell B1.out.set 0
  have x1 := box_cell B1.out.set 1
  simp at x0 x1
  clear b1
  go_wp2_with fail
  refine (H2.out _ B1.out.bel).mono ?_
  rintro e w2 ⟨⟨v, rfl, ho⟩, b2⟩
  have B2 := hid (B1.out.step b2)
  obtain ⟨at_, ct, rfl, hrt, _⟩ := OwnI.row ho
  have RT2 := hid hrt
  clear ho b2 hrt x0 x1
  go_wp2_with fail
  refine (H3.out _ B2.out.bel).mono ?_
  rintro e w3 ⟨rfl, b3⟩
  have B3 := hid (B2.out.step b3)
  have RT3 := hid (Row.below RT2.out b3 (Nat.le_refl _))
  have x0 := box_cell B3.out.set 0
  have x1 := box_cell B3.out.set 1
  simp at x0 x1
  clear b3
  go_wp2_with fail
  refine (H4.out _ B3.out.bel).mono ?_
  rintro e w4 ⟨rfl, b4⟩
  have B4 := hid (B3.out.step b4)
  have RT4 := hid (Row.below RT3.out b4 (Nat.le_refl _))
  clear b4 x0 x1
  have hlq : ((TB.length : Int) != (l.length : Int)) = false := by rw [HTL.out]; simp
  rw [HTL.out] at hlq ⊢
  go_wp2_with fail
  go_loopw [63] (fun v63 wr => ∃ k : Nat, k ≤ l.length ∧ v63 = .int .i64 k ∧ PB w wr #[.int .i64 s, .slice c sl.length cc] ∧ Row wr at_ TB) (fun v63 _ => l.length - (intOf v63).toNat)
  case atStart => exact ⟨0, by omega, rfl, B4.out, RT4.out⟩
  case round =>
    obtain ⟨k, hk, rfl, hb, hrow⟩ := hrel
    have B := hid hb
    have RT := hid hrow
    by_cases hlt : k < l.length
    · obtain ⟨p, off, hpa, _, d1⟩ := PlayC.Row.at hrow k (by rw [HTL.out]; exact hlt)
      rw [HTA.out k hlt] at d1
      have HRK := hid (fun W (h : Below w.heap.size w W) => H5.out W k hlt h)
      have hki : (k : Int) < (l.length : Int) := by omega
      subst hpa
      generalize repV l k s sl = V at *
      have y1 := box_cell B.out.set 0
      have y2 := box_cell B.out.set 1
      simp at y1 y2
      have p0 := BelowOf.cell y1
      have p1 := BelowOf.cell y2
      have p2 := BelowOf.cell d1
      have LV := hid B.out.bel
      clear hb hrow y1 y2 d1
      go_wp2_with fail
      refine wp_region_quiet_below (by kernel_rfl) (by kernel_rfl) ?_
      repeat (first | go_big_quiet_step (first | (go_at_call 27; rename_i pp; exact Calls.below_of pp (HRK.out _ (bel_of LV.out pp.hb)))) | quiet_step (first | (go_at_call 27; rename_i pp; exact Calls.below_of pp (HRK.out _ (bel_of LV.out pp.hb)))))
      refine wpQuiet_nil ?_
      rintro w5 ⟨pp, hpp⟩
      have b5 := pp.hb
      rw [← hpp] at b5
      have B5 := hid (B.out.step b5)
      have RT5 := hid (Row.below RT.out b5 (Nat.le_refl _))
      clear hpp pp p0 p1 p2 b5
      go_wp2_with fail
      go_roundw
      case rel => exact ⟨k + 1, by omega, by go_num, B5.out, RT5.out⟩
      case measure => simp [intOf]; omega
    · clear hb hrow
      rcases HCS.out with ⟨g1, rfl, rfl⟩ | ⟨n, rfl, hn, hc⟩
      · have HBT := hid (NumC.between_no i 0 ((l.length : Int) - 1) wr g1)
        clear g1
        go_wp2_with (first | (go_at_call 18; refine HBT.out.mono ?_; rintro e w' ⟨rfl, hw⟩; replace hw := hw.symm; subst hw))
        go_ret
        exact ⟨by first | rfl | simp, B.out.bel⟩
      · have HBT := hid (NumC.between_yes n 0 ((l.length : Int) - 1) wr (by omega) (by omega))
        have HRN := hid (H5.out wr n hn B.out.bel)
        have x0 := box_cell B.out.set 0
        have x1 := box_cell B.out.set 1
        simp at x0 x1
        generalize repV l n s sl = V at *
        rcases hc with ⟨rfl, rfl, rfl⟩ | ⟨v0, rfl, rfl⟩
        all_goals
          go_wp2_with (first | (go_at_call 18; refine HBT.out.mono ?_; rintro e w' ⟨rfl, hw⟩; replace hw := hw.symm; subst hw))
          refine HRN.out.mono ?_
          rintro e w6 ⟨rfl, b6⟩
          have B6 := hid (B.out.step b6)
          clear b6 x0 x1
          go_wp2_with fail
          go_ret
          exact ⟨by first | rfl | simp, B6.out.bel⟩
theorem replySays_walk (a0 : Option Addr) (len0 cap0 : Nat) (l0 : List TaskM.Tk) (n1 : Int) (s2 : Int) (a2 : Option Addr) (len2 cap2 : Nat) (l2 : List Sp) (w : World)
    (w0 : RowsO.IsTks w a0 len0 cap0 l0) (w1 : SpanC.wf64 n1) (x2 : SpanC.wf64 s2) (w2 : SpanC.IsSps w a2 len2 cap2 l2) :
    Calls Try.prog 5 #[.slice a0 len0 cap0, .int .i64 n1, .agg #[.int .i64 s2, .slice a2 len2 cap2]] w fun e w' => e = .returned (.bool true) ∧ Below w.heap.size w w' := by
  obtain ⟨rfl, hc, _, hr, _⟩ := w0
  obtain ⟨rfl, _, _, hs, _⟩ := w2
  by_cases h : rchk l0 s2 l2 = 0
  · exact says_ok l0 n1 s2 l2 a0 a2 cap0 cap2 w hr hs hc h
  · exact says_err l0 n1 s2 l2 a0 a2 cap0 cap2 w hr hs hc h
end RepC
end Go.Proofs.Ytpnahhpkaegeeaa
