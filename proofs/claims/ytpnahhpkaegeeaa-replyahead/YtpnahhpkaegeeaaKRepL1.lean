/- Several texts, one behind the other: RepL1. -/
import Derived.Test.YtpnahhpkaegeeaaPkS
import Derived.Test.YtpnahhpkaegeeaaPkR
/- The walk of ReplyFits. -/
set_option linter.unusedVariables false
namespace Go.Proofs.Ytpnahhpkaegeeaa
open Go.RowKit hiding tok
open SpanM SupM SpanC TaskM PlayM RankM
open RowsO hiding Tk
namespace RepC
open TaskC (tchk tchk_zero tcheck_any tk_snoc tk_mem)
open NumC (Row)
open RowG
open PlayC (Row.below box_cell box_alloc box_new PB plE plE_rt' late_any)
set_option maxRecDepth 20000 in
set_option maxHeartbeats 1600000 in
theorem iindex_any (a : Option Addr) (cap : Nat) (l : List Int) (v : Int) (w : World) (hr : Row w a l) (hl : l.length ≤ 100000) :
    Calls Try.prog 67 #[.slice a l.length cap, .int .i64 v] w fun e w' => (∃ i : Int, e = .returned (.int .i64 i) ∧ decide (0 ≤ i) = decide (v ∈ l)) ∧ Below w.heap.size w w' := by
  have HR := hid hr
  clear hr
  go_enter Try.func67, Try.ntmps67
  go_wp2_with fail
  go_loopw [8] (fun v8 wr => ∃ (k : Nat), k ≤ l.length ∧ v8 = .int .i64 k ∧ Hid (v ∉ l.take k) ∧ Below w.heap.size w wr) (fun v8 _ => l.length - (intOf v8).toNat)
  case atStart => exact ⟨0, by omega, rfl, (by simp : v ∉ l.take 0), Below.refl _ _⟩
  case round =>
    obtain ⟨k, hk, rfl, hg, hb⟩ := hrel
    have HB := hid hb
    by_cases hlt : k < l.length
    · obtain ⟨b, off, rfl, _, d1⟩ := PlayC.Row.at (Row.below HR.out hb (Nat.le_refl _)) k hlt
      have hd := PlayC.in_snoc l k hlt
      have hmem := PlayC.in_mem hlt
      have i1 : (k : Int) < (l.length : Int) := by omega
      clear hb
      generalize l.getD k 0 = z at d1 hd hmem
      have HD := hid hd
      have HM := hid hmem
      clear hd hmem
      by_cases hz : v = z
      · have e1 : (v == z) = true := by simp [hz]
        have HX : Hid (v ∈ l) := by rw [hz]; exact HM.out
        clear hz
        go_wp2_with fail
        go_ret
        exact ⟨⟨_, rfl, by rw [decide_eq_true HX.out, decide_eq_true (by omega)]⟩, HB.out⟩
      · have e1 : (v == z) = false := by simp [hz]
        have HX : Hid (v ∉ l.take (k + 1)) := by
          show v ∉ _
          rw [HD.out]
          intro h
          rcases List.mem_append.1 h with h | h
          · exact hg.out h
          · simp at h; exact hz h
        clear hz
        go_wp2_with fail
        go_roundw
        case rel => exact ⟨k + 1, by omega, by go_num, HX, HB.out⟩
        case measure => simp [intOf]; omega
    · have HX : Hid (v ∉ l) := by
        have := hg.out
        rwa [List.take_of_length_le (by omega)] at this
      clear hb
      go_wp2_with fail
      go_ret
      exact ⟨⟨_, rfl, by rw [decide_eq_false HX.out]; simp⟩, HB.out⟩
theorem icontains_any (a : Option Addr) (cap : Nat) (l : List Int) (v : Int) (w : World) (hr : Row w a l) (hl : l.length ≤ 100000) :
    Calls Try.prog 40 #[.slice a l.length cap, .int .i64 v] w fun e w' => e = .returned (.bool (decide (v ∈ l))) ∧ Below w.heap.size w w' := by
  have HI := hid (iindex_any a cap l v w hr hl)
  generalize decide (v ∈ l) = M at *
  clear hr
  go_enter Try.func40, Try.ntmps40
  go_wp2_with (go_at_call 67; refine Calls.mono HI.out ?_; rintro e w' ⟨⟨i, rfl, hi⟩, hb⟩; have hi' := hid hi; clear hi)
  go_ret
  exact ⟨by rw [← hi'.out]; rfl, hb⟩
theorem idx0 (w : World) : (Instr.index 77 (.agg #[.int .i64 2, .int .i64 1]) (.int .i64 0)).run Try.prog w = .ok (.int .i64 2) w := by kernel_rfl
theorem idx1 (w : World) : (Instr.index 77 (.agg #[.int .i64 2, .int .i64 1]) (.int .i64 1)).run Try.prog w = .ok (.int .i64 1) w := by kernel_rfl
theorem all_no {l : List Tk} {f : List Int} {s : Int} {sl : List Sp} {T p : Int} (h : plE ⟨l, f, s, sl, p⟩ T = 0) (hr : ∀ i, i < l.length → repV l i s sl ≠ 0) : (⟨l, f, s, sl, p⟩ : Pl).lates ((⟨l, f, s, sl, p⟩ : Pl).outs T.toNat) T = [] := by
  have hR := plE_rt' h
  have ht : ((T.toNat : Nat) : Int) = T := by have := hR.t0; omega
  have k4 := Pl.all_reply hR.ok hr T.toNat
  rw [ht] at k4
  exact k4
theorem tbl_mem {l : List Tk} {s : Int} {sl : List Sp} (h : (0 : Int) ∉ tbl l s sl l.length) : ∀ i, i < l.length → repV l i s sl ≠ 0 := by
  intro i hi e
  refine h ?_
  rw [← e, ← tbl_at l s sl hi]
  exact PlayC.in_mem (by rw [tbl_len]; exact hi)
theorem tblL_len (l : List Tk) (s : Int) (sl : List Sp) (hk : rchk l s sl = 0) : (tblL l s sl).length ≤ 100000 := by
  unfold tblL
  rw [if_pos hk, tbl_len]
  have := (tchk_zero (rchk_zero hk).1).1
  omega
set_option maxRecDepth 20000 in
set_option maxHeartbeats 1600000 in
theorem replyFits_any (l : List Tk) (f : List Int) (s : Int) (sl : List Sp) (T : Int) (a b c : Option Addr) (ca cb cc : Nat) (w : World) (hr : Tks w a l) (hf : Row w b f) (hs : Sps w c sl) (hca : l.length ≤ ca) :
    Calls Try.prog 13 #[.slice a l.length ca, .agg #[.int .i64 s, .slice c sl.length cc], .slice b f.length cb, .int .i64 T] w fun e w' => e = .returned (.bool true) ∧ Below w.heap.size w w' := by
  have H1 := hid (fun W (h : Below w.heap.size w W) => Table_any l s sl a c ca cc W (hr.below h (Nat.le_refl _)) (hs.below h (Nat.le_refl _)) hca)
  have H2 := hid (fun W p (h : Below w.heap.size w W) => late_any ⟨l, f, s, sl, p⟩ T a b c ca cb cc W (hr.below h (Nat.le_refl _)) (Row.below hf h (Nat.le_refl _)) (hs.below h (Nat.le_refl _)))
  have HLN := hid (fun h => tblL_len l s sl h)
  have HNO := hid (fun (hk : rchk l s sl = 0) (h : (0 : Int) ∉ tblL l s sl) p (h2 : plE ⟨l, f, s, sl, p⟩ T = 0) => all_no h2 (tbl_mem (by unfold tblL at h; rw [if_pos hk] at h; exact h)))
  simp only at H2
  clear hr hf hs
  generalize tblL l s sl = TB at *
  by_cases hk : rchk l s sl = 0
  · rw [hk] at H1
    have HN := hid (HNO.out hk)
    have HL := hid (HLN.out hk)
    clear HNO HLN hk
    go_enter Try.func13, Try.ntmps13
    go_wp2_with fail
    refine (H1.out _ (PB.start w _).bel).mono ?_
    rintro e w1 ⟨⟨v, rfl, ho⟩, b1⟩
    have B1 := hid ((PB.start w #[.int .i64 s, .slice c sl.length cc]).step b1)
    obtain ⟨ad, cd, rfl, hrd, _⟩ := OwnI.row ho
    have HRD := hid hrd
    clear ho b1 hrd
    go_wp2_with fail
    refine (rlives _).mono ?_
    rintro e w2 ⟨rfl, b2⟩
    have B2 := hid (B1.out.step b2)
    have HC := hid (icontains_any ad cd TB 0 w2 (Row.below HRD.out b2 (Nat.le_refl _)) HL.out)
    clear b2
    by_cases hz : (0 : Int) ∈ TB
    · rw [decide_eq_true hz] at HC
      clear hz HN
      go_wp2_with fail
      refine HC.out.mono ?_
      rintro e w3 ⟨rfl, b3⟩
      have B3 := hid (B2.out.step b3)
      clear b3
      go_wp2_with fail
      refine (rlives _).mono ?_
      rintro e w4 ⟨rfl, b4⟩
      have B4 := hid (B3.out.step b4)
      clear b4
      go_wp2_with fail
      go_ret
      exact ⟨rfl, B4.out.bel⟩
    · rw [decide_eq_false hz] at HC
      have HNN := hid (HN.out hz)
      clear hz HN
      go_wp2_with fail
      refine HC.out.mono ?_
      rintro e w3 ⟨rfl, b3⟩
      have B3 := hid (B2.out.step b3)
      clear b3
      go_wp2_with fail
      go_loopw [33] (fun v33 wr => ∃ k : Nat, k ≤ 2 ∧ v33 = .int .i64 k ∧ PB w wr #[.int .i64 s, .slice c sl.length cc]) (fun v33 _ => 2 - (intOf v33).toNat)
      case atStart => exact ⟨0, by omega, rfl, B3.out⟩
      case round =>
        obtain ⟨k, hk, rfl, hb⟩ := hrel
        have B := hid hb
        have hcase : k = 0 ∨ k = 1 ∨ k = 2 := by omega
        rcases hcase with rfl | rfl | rfl
        · have x0 := box_cell B.out.set 0
          have x1 := box_cell B.out.set 1
          simp at x0 x1
          have HK := hid (H2.out wr 2 B.out.bel)
          have HE := hid (HNN.out 2)
          have hix := fun W => idx0 W
          clear hb
          go_wp2_with fail
          refine HK.out.mono ?_
          rintro e w5 ⟨⟨n, q, rfl, q1, q2⟩, b5⟩
          have B5 := hid (B.out.step b5)
          have hq : q = false ∨ (q = true ∧ n = 0) := by
            by_cases hE : plE ⟨l, f, s, sl, 2⟩ T = 0
            · obtain ⟨e1, e2⟩ := q2 hE
              exact .inr ⟨e1, by rw [e2, HE.out hE]; rfl⟩
            · exact .inl (q1 hE)
          clear q1 q2 b5 x0 x1
          rcases hq with rfl | ⟨rfl, rfl⟩
          all_goals
            go_wp2_with fail
            go_roundw
            case rel => exact ⟨1, by omega, by go_num, B5.out⟩
            case measure => simp [intOf]
        · have x0 := box_cell B.out.set 0
          have x1 := box_cell B.out.set 1
          simp at x0 x1
          have HK := hid (H2.out wr 1 B.out.bel)
          have HE := hid (HNN.out 1)
          have hix := fun W => idx1 W
          clear hb
          go_wp2_with fail
          refine HK.out.mono ?_
          rintro e w5 ⟨⟨n, q, rfl, q1, q2⟩, b5⟩
          have B5 := hid (B.out.step b5)
          have hq : q = false ∨ (q = true ∧ n = 0) := by
            by_cases hE : plE ⟨l, f, s, sl, 1⟩ T = 0
            · obtain ⟨e1, e2⟩ := q2 hE
              exact .inr ⟨e1, by rw [e2, HE.out hE]; rfl⟩
            · exact .inl (q1 hE)
          clear q1 q2 b5 x0 x1
          rcases hq with rfl | ⟨rfl, rfl⟩
          all_goals
            go_wp2_with fail
            go_roundw
            case rel => exact ⟨2, by omega, by go_num, B5.out⟩
            case measure => simp [intOf]
        · clear hb
          go_wp2_with fail
          go_ret
          exact ⟨rfl, B.out.bel⟩
  · have hn : (rchk l s sl != 0) = true := by simpa using hk
    clear HNO HLN hk
    generalize rchk l s sl = E at *
    go_enter Try.func13, Try.ntmps13
    go_wp2_with fail
    refine (H1.out _ (PB.start w _).bel).mono ?_
    rintro e w1 ⟨⟨v, rfl, ho⟩, b1⟩
    have B1 := hid ((PB.start w #[.int .i64 s, .slice c sl.length cc]).step b1)
    clear ho b1
    go_wp2_with fail
    refine (rlives _).mono ?_
    rintro e w2 ⟨rfl, b2⟩
    have B2 := hid (B1.out.step b2)
    clear b2
    go_wp2_with fail
    refine (rlives _).mono ?_
    rintro e w4 ⟨rfl, b4⟩
    have B4 := hid (B2.out.step b4)
    clear b4
    go_wp2_with fail
    go_ret
    exact ⟨rfl, B4.out.bel⟩
theorem replyFits_walk (a0 : Option Addr) (len0 cap0 : Nat) (l0 : List TaskM.Tk) (s1 : Int) (a1 : Option Addr) (len1 cap1 : Nat) (l1 : List Sp) (a2 : Option Addr) (len2 cap2 : Nat) (l2 : List Int) (n3 : Int) (w : World)
    (w0 : RowsO.IsTks w a0 len0 cap0 l0) (x1 : SpanC.wf64 s1) (w1 : SpanC.IsSps w a1 len1 cap1 l1) (w2 : RowsO.IsIns w a2 len2 cap2 l2) (w3 : SpanC.wf64 n3) :
    Calls Try.prog 13 #[.slice a0 len0 cap0, .agg #[.int .i64 s1, .slice a1 len1 cap1], .slice a2 len2 cap2, .int .i64 n3] w fun e w' => e = .returned (.bool true) ∧ Below w.heap.size w w' := by
  obtain ⟨rfl, hc, _, hr, _⟩ := w0
  obtain ⟨rfl, _, _, hs, _⟩ := w1
  obtain ⟨rfl, _, _, hf, _⟩ := w2
  exact replyFits_any l0 l2 s1 l1 n3 a0 a2 a1 cap0 cap2 cap1 w hr hf hs hc
end RepC
end Go.Proofs.Ytpnahhpkaegeeaa
