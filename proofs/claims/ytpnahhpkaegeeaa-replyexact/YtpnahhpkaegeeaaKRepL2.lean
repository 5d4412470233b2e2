/- Several texts, one behind the other: RepL2. -/
import Derived.Test.YtpnahhpkaegeeaaKRepL1
/- The walk of ReplyHolds. -/
set_option linter.unusedVariables false
namespace Go.Proofs.Ytpnahhpkaegeeaa
open Go.RowKit hiding tok
open SpanM SupM SpanC TaskM PlayM RankM
open RowsO hiding Tk
namespace RepC
open TaskC (tchk tchk_zero tcheck_any tk_snoc tk_mem)
open NumC (Row)
open RowG
open PlayC (Row.below box_cell box_alloc box_new PB plE plE_rt' late_any play_any plD plN ED EL lates_any ltE ltD late_lt plD_wf lt2 OwnD OwnL)
/-- what is known of a job that was done -/
def DoneK (N : Nat) (TB : List Int) (x : Pl.Dn) : Prop := ∃ i : Nat, i < N ∧ x.1 = (i : Int) ∧ (0 < TB.getD i 0 → x.2.2.2 - x.2.2.1 ≤ TB.getD i 0) ∧ 0 ≤ x.2.2.1 ∧ x.2.2.1 ≤ 30000 ∧ 0 ≤ x.2.2.2 ∧ x.2.2.2 ≤ 30000
/-- .. that was late -/
def LateK (N : Nat) (TB : List Int) (x : Int × Int) : Prop := ∃ i : Nat, i < N ∧ x.1 = (i : Int) ∧ ¬ 0 < TB.getD i 0
theorem rep_nat {S : Int → Int} {p : List Tk} {x : Tk} (h : rep S p x ≠ 0) : Enough S p x ((rep S p x).toNat : Nat) ∧ ((rep S p x).toNat : Int) = rep S p x := by
  obtain ⟨r1, r2, r3, _⟩ := rep_pos h
  have e : (((rep S p x).toNat : Nat) : Int) = rep S p x := by omega
  exact ⟨by rw [e]; exact r1, e⟩
theorem done_k {l : List Tk} {f : List Int} {s : Int} {sl : List Sp} {T : Int} (h : plE ⟨l, f, s, sl, 2⟩ T = 0) (hk : rchk l s sl = 0) : ∀ x ∈ plD ⟨l, f, s, sl, 2⟩ T, DoneK l.length (tblL l s sl) x := by
  have hR := plE_rt' h
  intro x hx
  unfold plD at hx
  rw [if_pos h] at hx
  have hx' := hx
  obtain ⟨t, i, k, a1, a2, a3, a4, rfl⟩ := (Pl.mem_outs hR.ok _ x).1 hx
  have hi : i < l.length := a3.1.1
  have c0 := (hR.ok.come hi k).2
  have c1 := a3.1.2.1
  have h5 := hR.t1
  have hT : tblL l s sl = tbl l s sl l.length := by unfold tblL; rw [if_pos hk]
  refine ⟨i, hi, rfl, fun hp => ?_, by simp only; omega, by simp only; omega, by simp only; omega, by simp only; omega⟩
  rw [hT, tbl_at l s sl hi] at hp ⊢
  have hne : rep (lst s sl) (l.take i) (l.getD i zTk) ≠ 0 := fun c => by
    have : repV l i s sl = 0 := c
    omega
  obtain ⟨e1, e2⟩ := rep_nat hne
  have := Pl.reply_done (P := ⟨l, f, s, sl, 2⟩) hR.ok (by simp) (i := i) hi e1 hx' rfl
  show _ ≤ rep (lst s sl) (l.take i) (l.getD i zTk)
  omega
theorem late_k {l : List Tk} {f : List Int} {s : Int} {sl : List Sp} {T : Int} (h : plE ⟨l, f, s, sl, 2⟩ T = 0) (hk : rchk l s sl = 0) : ∀ x ∈ ltD ⟨l, f, s, sl, 2⟩ T (plD ⟨l, f, s, sl, 2⟩ T), LateK l.length (tblL l s sl) x := by
  have hR := plE_rt' h
  have ht : ((T.toNat : Nat) : Int) = T := by have := hR.t0; omega
  rw [(late_lt h).2]
  intro x hx
  obtain ⟨⟨i, k⟩, hb, rfl⟩ := List.mem_map.1 hx
  rw [← ht] at hb
  simp only [Int.toNat_natCast] at hb
  obtain ⟨hi, h1, h2, h3⟩ := (Pl.mem_lates hR.ok).1 hb
  have hT : tblL l s sl = tbl l s sl l.length := by unfold tblL; rw [if_pos hk]
  refine ⟨i, hi, rfl, fun hp => ?_⟩
  rw [hT, tbl_at l s sl hi] at hp
  have hne : rep (lst s sl) (l.take i) (l.getD i zTk) ≠ 0 := fun c => by
    have : repV l i s sl = 0 := c
    omega
  obtain ⟨e1, e2⟩ := rep_nat hne
  exact h3 (Pl.reply_nolate (P := ⟨l, f, s, sl, 2⟩) hR.ok (by simp) (i := i) hi e1 h2)
theorem holds_len {l : List Tk} {f : List Int} {s : Int} {sl : List Sp} {T : Int} (h : plE ⟨l, f, s, sl, 2⟩ T = 0) (hk : rchk l s sl = 0) : l.length ≤ 16 ∧ (tblL l s sl).length = l.length ∧ (plD ⟨l, f, s, sl, 2⟩ T).length ≤ 100000 ∧ (ltD ⟨l, f, s, sl, 2⟩ T (plD ⟨l, f, s, sl, 2⟩ T)).length ≤ 100000 := by
  have hR := plE_rt' h
  have ht : ((T.toNat : Nat) : Int) = T := by have := hR.t0; omega
  refine ⟨hR.l16, by unfold tblL; rw [if_pos hk, tbl_len], ?_, ?_⟩
  · unfold plD
    rw [if_pos h]
    have := PlayC.outs_few hR.ok T.toNat
    rw [ht] at this
    have := hR.few
    omega
  · rw [(late_lt h).2, List.length_map]
    unfold Pl.lates
    have := List.length_filter_le (fun b => decide ((⟨l, f, s, sl, 2⟩ : Pl).du b.1 b.2 ≤ T) && !(⟨l, f, s, sl, 2⟩ : Pl).told ((⟨l, f, s, sl, 2⟩ : Pl).outs T.toNat) b.1 b.2) ((⟨l, f, s, sl, 2⟩ : Pl).jobsL T)
    have := hR.few
    omega
set_option maxRecDepth 20000 in
set_option maxHeartbeats 1600000 in
theorem holds_err (l : List Tk) (f : List Int) (s : Int) (sl : List Sp) (T : Int) (a b c : Option Addr) (ca cb cc : Nat) (w : World) (hr : Tks w a l) (hf : Row w b f) (hs : Sps w c sl) (hca : l.length ≤ ca) (h : ¬ (rchk l s sl = 0 ∧ plE ⟨l, f, s, sl, 2⟩ T = 0)) :
    Calls Try.prog 10 #[.slice a l.length ca, .agg #[.int .i64 s, .slice c sl.length cc], .slice b f.length cb, .int .i64 T] w fun e w' => e = .returned (.bool true) ∧ Below w.heap.size w w' := by
  have H1 := hid (fun W (h : Below w.heap.size w W) => Table_any l s sl a c ca cc W (hr.below h (Nat.le_refl _)) (hs.below h (Nat.le_refl _)) hca)
  have H2 := hid (fun W (h : Below w.heap.size w W) => play_any ⟨l, f, s, sl, 2⟩ T a b c ca cb cc W (hr.below h (Nat.le_refl _)) (Row.below hf h (Nat.le_refl _)) (hs.below h (Nat.le_refl _)))
  simp only at H2
  have hcase : (rchk l s sl != 0) = true ∨ ((rchk l s sl != 0) = false ∧ (plE ⟨l, f, s, sl, 2⟩ T != 0) = true) := by
    by_cases h1 : rchk l s sl = 0
    · have h2 : plE ⟨l, f, s, sl, 2⟩ T ≠ 0 := fun c => h ⟨h1, c⟩
      exact .inr ⟨by simp [h1], by simpa using h2⟩
    · exact .inl (by simpa using h1)
  clear hr hf hs h
  generalize rchk l s sl = E1 at *
  generalize plE ⟨l, f, s, sl, 2⟩ T = E2 at *
  generalize tblL l s sl = TB at *
  generalize plD ⟨l, f, s, sl, 2⟩ T = D at *
  generalize plN ⟨l, f, s, sl, 2⟩ T = NN at *
  go_enter Try.func10, Try.ntmps10
  go_wp2_with fail
  refine (H1.out _ (PB.start w _).bel).mono ?_
  rintro e w1 ⟨⟨v, rfl, ho⟩, b1⟩
  have B1 := hid ((PB.start w #[.int .i64 s, .slice c sl.length cc]).step b1)
  have x0 := box_cell B1.out.set 0
  have x1 := box_cell B1.out.set 1
  simp at x0 x1
  clear ho b1
  go_wp2_with fail
  refine (H2.out _ B1.out.bel).mono ?_
  rintro e w2 ⟨⟨vd, rfl, hod⟩, b2⟩
  have B2 := hid (B1.out.step b2)
  clear hod b2 x0 x1
  go_wp2_with fail
  refine (rlives _).mono ?_
  rintro e w3 ⟨rfl, b3⟩
  have B3 := hid (B2.out.step b3)
  clear b3
  rcases hcase with h1 | ⟨h1, h2⟩
  all_goals
    go_wp2_with fail
    refine (rlives _).mono ?_
    rintro e w4 ⟨rfl, b4⟩
    have B4 := hid (B3.out.step b4)
    clear b4
    go_wp2_with fail
    go_ret
    exact ⟨rfl, B4.out.bel⟩
set_option maxRecDepth 20000 in
set_option maxHeartbeats 1600000 in
theorem holds_ok (l : List Tk) (f : List Int) (s : Int) (sl : List Sp) (T : Int) (a b c : Option Addr) (ca cb cc : Nat) (w : World) (hr : Tks w a l) (hf : Row w b f) (hs : Sps w c sl) (hca : l.length ≤ ca) (h1 : rchk l s sl = 0) (h2 : plE ⟨l, f, s, sl, 2⟩ T = 0) :
    Calls Try.prog 10 #[.slice a l.length ca, .agg #[.int .i64 s, .slice c sl.length cc], .slice b f.length cb, .int .i64 T] w fun e w' => e = .returned (.bool true) ∧ Below w.heap.size w w' := by
  have H1 := hid (fun W (h : Below w.heap.size w W) => Table_any l s sl a c ca cc W (hr.below h (Nat.le_refl _)) (hs.below h (Nat.le_refl _)) hca)
  have H2 := hid (fun W (h : Below w.heap.size w W) => play_any ⟨l, f, s, sl, 2⟩ T a b c ca cb cc W (hr.below h (Nat.le_refl _)) (Row.below hf h (Nat.le_refl _)) (hs.below h (Nat.le_refl _)))
  have H3 := hid (fun W (h : Below w.heap.size w W) (ad : Option Addr) (cd : Nat) (hd : Rd ED W ad (plD ⟨l, f, s, sl, 2⟩ T)) => lates_any ⟨l, f, s, sl, 2⟩ T a b ad ca cb cd (plD ⟨l, f, s, sl, 2⟩ T) W (hr.below h (Nat.le_refl _)) (Row.below hf h (Nat.le_refl _)) hd (plD_wf ⟨l, f, s, sl, 2⟩ T))
  simp only at H2 H3
  rw [h1] at H1
  rw [h2] at H2
  rw [(late_lt h2).1] at H3
  have KD := hid (done_k h2 h1)
  have KL := hid (late_k h2 h1)
  obtain ⟨n1, n2, n3, n4⟩ := holds_len h2 h1
  have N2 := hid n2
  have N3 := hid n3
  have N4 := hid n4
  clear hr hf hs h1 h2 n2 n3 n4
  generalize ltD ⟨l, f, s, sl, 2⟩ T (plD ⟨l, f, s, sl, 2⟩ T) = L at *
  generalize tblL l s sl = TB at *
  generalize plD ⟨l, f, s, sl, 2⟩ T = D at *
  generalize plN ⟨l, f, s, sl, 2⟩ T = NN at *
  go_enter Try.func10, Try.ntmps10
  go_wp2_with fail
  refine (H1.out _ (PB.start w _).bel).mono ?_
  rintro e w1 ⟨⟨v, rfl, ho⟩, b1⟩
  have B1 := hid ((PB.start w #[.int .i64 s, .slice c sl.length cc]).step b1)
  have x0 := box_cell B1.out.set 0
  have x1 := box_cell B1.out.set 1
  simp at x0 x1
  obtain ⟨at_, ct, rfl, hrt, _⟩ := OwnI.row ho
  have RT1 := hid hrt
  clear ho b1 hrt
  go_wp2_with fail
  refine (H2.out _ B1.out.bel).mono ?_
  rintro e w2 ⟨⟨vd, rfl, hod⟩, b2⟩
  have B2 := hid (B1.out.step b2)
  obtain ⟨ad, cd, rfl, hrd, _⟩ := hod.rd
  have RT2 := hid (Row.below RT1.out b2 (Nat.le_refl _))
  have RD2 := hid hrd
  clear hod b2 x0 x1 hrd
  go_wp2_with fail
  refine (rlives _).mono ?_
  rintro e w3 ⟨rfl, b3⟩
  have B3 := hid (B2.out.step b3)
  have RT3 := hid (Row.below RT2.out b3 (Nat.le_refl _))
  have RD3 := hid (Rd.below RD2.out b3 (Nat.le_refl _))
  clear b3
  go_wp2_with fail
  go_loopw [49] (fun v49 wr => ∃ k : Nat, k ≤ D.length ∧ v49 = .int .i64 k ∧ Below w3.heap.size w3 wr) (fun v49 _ => D.length - (intOf v49).toNat)
  case atStart => exact ⟨0, by omega, rfl, Below.refl _ _⟩
  case round =>
    obtain ⟨k, hk, rfl, hb⟩ := hrel
    have HB := hid hb
    have hsz := hb.size
    by_cases hlt : k < D.length
    · obtain ⟨p, off, rfl, hc⟩ := (RD3.out.below hb (Nat.le_refl _)).at k hlt
      obtain ⟨i, hi, hx1, hx2, y1, y2, y3, y4⟩ := KD.out _ (List.getElem_mem hlt)
      generalize D[k] = x at *
      obtain ⟨q, qo, rfl, _, ht⟩ := PlayC.Row.at (Row.below RT3.out hb (Nat.le_refl _)) i (by rw [N2.out]; exact hi)
      obtain ⟨z0, z1, z2, z3⟩ := x
      have a0 := hc 0 (by decide); have a1 := hc 1 (by decide); have a2 := hc 2 (by decide); have a3 := hc 3 (by decide)
      simp [ED] at a0 a1 a2 a3
      simp only at hx1 hx2 y1 y2 y3 y4
      subst hx1
      have i1 : (i : Int) < (TB.length : Int) := by rw [N2.out]; omega
      have i2 : (k : Int) < (D.length : Int) := by omega
      have i3 := N3.out
      generalize TB.getD i 0 = tv at *
      clear hc hb
      have hcase : ¬ 0 < tv ∨ (0 < tv ∧ ¬ tv < z3 - z2) := by
        by_cases h0 : 0 < tv
        · have := hx2 h0
          exact .inr ⟨h0, by omega⟩
        · exact .inl h0
      clear hx2
      rcases hcase with g1 | ⟨g1, g2⟩
      all_goals
        go_wp2_with fail
        go_roundw
        case rel => exact ⟨k + 1, by omega, by go_num, HB.out.alloc hsz _⟩
        case measure => simp [intOf]; omega
    · obtain rfl : k = D.length := by omega
      have HBL := hid ((B3.out.bel).trans (hb.mono B3.out.bel.size))
      have HR3 := hid (H3.out wr HBL.out ad cd (RD3.out.below hb (Nat.le_refl _)))
      have RT4 := hid (Row.below RT3.out hb (Nat.le_refl _))
      clear hb
      go_wp2_with fail
      refine HR3.out.mono ?_
      rintro e w5 ⟨⟨vl, rfl, hol⟩, b5⟩
      obtain ⟨al, cl, rfl, hrl, _⟩ := hol.rd
      have HB5 := hid (bel_of HBL.out b5)
      have RT5 := hid (Row.below RT4.out b5 (Nat.le_refl _))
      have RL5 := hid hrl
      clear hol b5 hrl
      go_wp2_with fail
      go_loopw [80] (fun v80 wr => ∃ k : Nat, k ≤ L.length ∧ v80 = .int .i64 k ∧ Below w5.heap.size w5 wr) (fun v80 _ => L.length - (intOf v80).toNat)
      case atStart => exact ⟨0, by omega, rfl, Below.refl _ _⟩
      case round =>
        obtain ⟨k, hk, rfl, hb⟩ := hrel
        have HB6 := hid hb
        have hsz6 := hb.size
        by_cases hlt : k < L.length
        · obtain ⟨p, off, rfl, hc⟩ := (RL5.out.below hb (Nat.le_refl _)).at k hlt
          obtain ⟨i, hi, hx1, hx2⟩ := KL.out _ (List.getElem_mem hlt)
          generalize L[k] = x at *
          obtain ⟨q, qo, rfl, _, ht⟩ := PlayC.Row.at (Row.below RT5.out hb (Nat.le_refl _)) i (by rw [N2.out]; exact hi)
          obtain ⟨z0, z1⟩ := x
          have a0 := hc 0 (by decide); have a1 := hc 1 (by decide)
          simp [EL] at a0 a1
          simp only at hx1
          subst hx1
          have i1 : (i : Int) < (TB.length : Int) := by rw [N2.out]; omega
          have i2 : (k : Int) < (L.length : Int) := by omega
          have i3 := N4.out
          generalize TB.getD i 0 = tv at *
          clear hc hb
          go_wp2_with fail
          go_roundw
          case rel => exact ⟨k + 1, by omega, by go_num, HB6.out.alloc hsz6 _⟩
          case measure => simp [intOf]; omega
        · have HB7 := hid (HB5.out.trans (hb.mono HB5.out.size))
          clear hb
          go_wp2_with fail
          go_ret
          exact ⟨rfl, HB7.out⟩
theorem replyHolds_walk (a0 : Option Addr) (len0 cap0 : Nat) (l0 : List TaskM.Tk) (s1 : Int) (a1 : Option Addr) (len1 cap1 : Nat) (l1 : List Sp) (a2 : Option Addr) (len2 cap2 : Nat) (l2 : List Int) (n3 : Int) (w : World)
    (w0 : RowsO.IsTks w a0 len0 cap0 l0) (x1 : SpanC.wf64 s1) (w1 : SpanC.IsSps w a1 len1 cap1 l1) (w2 : RowsO.IsIns w a2 len2 cap2 l2) (w3 : SpanC.wf64 n3) :
    Calls Try.prog 10 #[.slice a0 len0 cap0, .agg #[.int .i64 s1, .slice a1 len1 cap1], .slice a2 len2 cap2, .int .i64 n3] w fun e w' => e = .returned (.bool true) ∧ Below w.heap.size w w' := by
  obtain ⟨rfl, hc, _, hr, _⟩ := w0
  obtain ⟨rfl, _, _, hs, _⟩ := w1
  obtain ⟨rfl, _, _, hf, _⟩ := w2
  by_cases h : rchk l0 s1 l1 = 0 ∧ plE ⟨l0, l2, s1, l1, 2⟩ n3 = 0
  · exact holds_ok l0 l2 s1 l1 n3 a0 a2 a1 cap0 cap2 cap1 w hr hf hs hc h.1 h.2
  · exact holds_err l0 l2 s1 l1 n3 a0 a2 a1 cap0 cap2 cap1 w hr hf hs hc h
end RepC
end Go.Proofs.Ytpnahhpkaegeeaa
