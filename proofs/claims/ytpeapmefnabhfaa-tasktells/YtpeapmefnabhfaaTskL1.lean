/- The walk of TaskTells. -/
import Derived.Test.YtpeapmefnabhfaaTskU
set_option linter.unusedVariables false
namespace Go.Proofs.Ytpeapmefnabhfaa
open Go.RowKit hiding tok
open SpanM SupM SpanC TaskM
open RowsO hiding Tk
namespace TaskC
set_option maxHeartbeats 1000000 in
theorem tells_err (a : Option Addr) (cap : Nat) (l : List Tk) (n : Int) (w : World) (hr : Tks w a l) (hk : tchk l ≠ 0) :
    Calls Try.prog 3 #[.slice a l.length cap, .int .i64 n] w fun e w' => e = .returned (.bool true) ∧ Below w.heap.size w w' := by
  have H1 := hid (fun W (h : Below w.heap.size w W) => round_any a cap l W (hr.below h (Nat.le_refl _)))
  have H2 := hid (fun W (h : Below w.heap.size w W) => use_any a cap l W (hr.below h (Nat.le_refl _)))
  have H3 := hid (fun W (h : Below w.heap.size w W) => Demand_any a cap l n W (hr.below h (Nat.le_refl _)))
  have H4 := hid (fun W (h : Below w.heap.size w W) => tright_any a cap l W (hr.below h (Nat.le_refl _)))
  have H5 := hid (fun W (h : Below w.heap.size w W) => tcheck_any a cap l W (hr.below h (Nat.le_refl _)))
  have e1 : roundE l = tchk l := by unfold roundE; rw [if_neg hk]
  have e2 : roundV l = 0 := roundE_err (by rw [e1]; exact hk)
  have e3 : useV l = 0 := by unfold useV; rw [if_neg (by rw [e1]; exact hk)]
  have e4 : demE l n = tchk l := by unfold demE; rw [if_neg hk]
  have e5 : demV l n = 0 := by unfold demV; rw [if_neg (by rw [e4]; exact hk)]
  rw [e1, e2] at H1 H2
  rw [e3] at H2
  rw [e4, e5] at H3
  have hne : (tchk l != 0) = true := by simp [hk]
  clear hr hk e1 e2 e3 e4 e5
  generalize tchk l = c at *
  go_enter Try.func3, Try.ntmps3
  go_wp2_with fail
  refine (H1.out _ (Below.refl _ _)).mono ?_
  rintro e w1 ⟨rfl, b⟩
  have HB1 : Hid (Below w.heap.size w w1) := bel_of (Below.refl _ _) b
  clear b
  go_wp2_with fail
  refine (H2.out _ HB1.out).mono ?_
  rintro e w2 ⟨rfl, b⟩
  have HB2 : Hid (Below w.heap.size w w2) := bel_of HB1.out b
  clear b
  go_wp2_with fail
  refine (H3.out _ HB2.out).mono ?_
  rintro e w3 ⟨rfl, b⟩
  have HB3 : Hid (Below w.heap.size w w3) := bel_of HB2.out b
  clear b
  go_wp2_with fail
  refine (H4.out _ HB3.out).mono ?_
  rintro e w4 ⟨rfl, b⟩
  have HB4 : Hid (Below w.heap.size w w4) := bel_of HB3.out b
  clear b
  go_wp2_with fail
  refine (H5.out _ HB4.out).mono ?_
  rintro e w5 ⟨rfl, b⟩
  have HB5 : Hid (Below w.heap.size w w5) := bel_of HB4.out b
  clear b
  go_wp2_with fail
  go_ret
  exact ⟨by first | rfl | simp, HB5.out⟩
set_option maxHeartbeats 1000000 in
theorem tells_in_ok (a : Option Addr) (cap : Nat) (l : List Tk) (n : Int) (w : World) (hr : Tks w a l) (hk : tchk l = 0) (hn : 0 ≤ n ∧ n ≤ 1099511627776) (he : rndE l = 0) :
    Calls Try.prog 3 #[.slice a l.length cap, .int .i64 n] w fun e w' => e = .returned (.bool true) ∧ Below w.heap.size w w' := by
  have H1 := hid (fun W (h : Below w.heap.size w W) => round_any a cap l W (hr.below h (Nat.le_refl _)))
  have H2 := hid (fun W (h : Below w.heap.size w W) => use_any a cap l W (hr.below h (Nat.le_refl _)))
  have H3 := hid (fun W (h : Below w.heap.size w W) => Demand_any a cap l n W (hr.below h (Nat.le_refl _)))
  have H4 := hid (fun W (h : Below w.heap.size w W) => tright_any a cap l W (hr.below h (Nat.le_refl _)))
  have H5 := hid (fun W (h : Below w.heap.size w W) => tcheck_any a cap l W (hr.below h (Nat.le_refl _)))
  obtain ⟨hl, hg⟩ := tchk_zero hk
  have e1 : roundE l = rndE l := by unfold roundE; rw [if_pos hk]
  have e2 : roundV l = rnd l := by unfold roundV; rw [if_pos hk]
  have H7 := hid (fun W (h : Below w.heap.size w W) => rround_any a cap l W (hr.below h (Nat.le_refl _)) hl hg)
  have e4 : demE l n = 0 := demE_of hk hn.1 hn.2
  rw [e4, demV_of e4] at H3
  have H6 := hid (fun W (h : Below w.heap.size w W) => rdemand_any a cap l n W (hr.below h (Nat.le_refl _)) hl hg hn.1 hn.2)
  rw [hk] at H4 H5
  rw [e1, e2] at H1 H2
  have e6 : useV l = use (rnd l) l := by unfold useV; rw [if_pos (by rw [e1]; exact he), e2]
  rw [e6] at H2
  rw [he] at H1 H2
  obtain ⟨r1, r2⟩ : 1 ≤ rnd l ∧ rnd l ≤ 1099511627776 := by
    rcases rnd_cases hg with ⟨_, _, r⟩ | ⟨e, _⟩
    · exact r
    · omega
  have HR := hid hr
  have HG := hid hg
  clear hr hg hk he e1 e2 e4 e6
  generalize rnd l = R at *
  have hR0 : (R == 0) = false := by simp; omega
  obtain ⟨n1, n2⟩ := hn
  generalize dem l n = d at *
  go_enter Try.func3, Try.ntmps3
  go_wp2_with fail
  refine (H1.out _ (Below.refl _ _)).mono ?_
  rintro e w1 ⟨rfl, b⟩
  have HB1 : Hid (Below w.heap.size w w1) := bel_of (Below.refl _ _) b
  clear b
  go_wp2_with fail
  refine (H2.out _ HB1.out).mono ?_
  rintro e w2 ⟨rfl, b⟩
  have HB2 : Hid (Below w.heap.size w w2) := bel_of HB1.out b
  clear b
  go_wp2_with fail
  refine (H3.out _ HB2.out).mono ?_
  rintro e w3 ⟨rfl, b⟩
  have HB3 : Hid (Below w.heap.size w w3) := bel_of HB2.out b
  clear b
  go_wp2_with fail
  refine (H4.out _ HB3.out).mono ?_
  rintro e w4 ⟨rfl, b⟩
  have HB4 : Hid (Below w.heap.size w w4) := bel_of HB3.out b
  clear b
  go_wp2_with fail
  refine (H5.out _ HB4.out).mono ?_
  rintro e w5 ⟨rfl, b⟩
  have HB5 : Hid (Below w.heap.size w w5) := bel_of HB4.out b
  clear b
  go_wp2_with fail
  refine (NumC.between_yes _ _ _ _ (by omega) (by omega)).mono ?_
  rintro e w6 ⟨rfl, hw⟩
  replace hw := hw.symm; subst hw
  go_wp2_with fail
  refine (H6.out _ HB5.out).mono ?_
  rintro e w6 ⟨rfl, b⟩
  have HB6 : Hid (Below w.heap.size w w6) := bel_of HB5.out b
  clear b
  go_wp2_with fail
  refine (H7.out _ HB6.out).mono ?_
  rintro e w7 ⟨rfl, b⟩
  have HB7 : Hid (Below w.heap.size w w7) := bel_of HB6.out b
  clear b
  go_wp2_with fail
  go_loopw [14, 112] (fun vA vI wr => ∃ (k : Nat) (c : Int), k ≤ l.length ∧ vA = .int .i64 c ∧ vI = .int .i64 k ∧ Hid (c = use R (l.take k)) ∧ 0 ≤ c ∧ c ≤ k * 1099511627776 ∧ Below w.heap.size w wr) (fun _ vI _ => l.length - (intOf vI).toNat)
  case atStart => exact ⟨0, 0, by omega, rfl, rfl, by show _ = _; simp [use], by omega, by omega, HB7.out⟩
  case round =>
    obtain ⟨k, c, hk, rfl, rfl, hA, c0, c1, hb⟩ := hrel
    have HB := hid hb
    have hsz := hb.size
    by_cases hlt : k < l.length
    · obtain ⟨b, off, rfl, hbw, d1, d2, d3⟩ := (HR.out.below hb (Nat.le_refl _)).at k hlt
      have hd := tk_snoc l k hlt
      have hmem := HG.out _ (tk_mem hlt)
      clear hb
      generalize l.getD k zTk = z at d1 d2 d3 hd hmem
      have hj := use_bd hmem (show 0 ≤ R by omega)
      obtain ⟨m, e, d⟩ := z
      obtain ⟨p1, p2, p3, p4, p5, p6⟩ := hmem
      have HD : Hid (c + R / e * m = use R (l.take (k + 1))) := by
        show _ = _
        rw [hd, use_snoc, hA.out]
      simp only at d1 d2 d3 p1 p2 p3 p4 p5 p6 hj
      obtain ⟨j0, j1, j2, j3⟩ := hj
      rw [Int.mul_comm] at j2 j3
      clear hd
      have ez : (e == 0) = false := by simp; omega
      have ez2 : e ≠ 0 := by omega
      generalize hJ : R / e = J at *
      go_wp2_with fail
      go_quiet (fail)
      go_wp2_with fail
      go_roundw
      case rel => exact ⟨k + 1, _, by omega, rfl, by go_num, by first | exact HD | (show _ = _; have := HD.out; omega), by omega, by omega, below_drewN (HB.out.alloc hsz _) _⟩
      case measure => simp [intOf]; omega
    · have he : l.take k = l := List.take_of_length_le (by omega)
      rw [he] at hA
      have hA' := hA.out
      clear hb hA
      subst hA'
      go_wp2_with fail
      go_ret
      exact ⟨by first | rfl | simp, HB.out⟩
set_option maxHeartbeats 1000000 in
theorem tells_in_full (a : Option Addr) (cap : Nat) (l : List Tk) (n : Int) (w : World) (hr : Tks w a l) (hk : tchk l = 0) (hn : 0 ≤ n ∧ n ≤ 1099511627776) (he : rndE l ≠ 0) :
    Calls Try.prog 3 #[.slice a l.length cap, .int .i64 n] w fun e w' => e = .returned (.bool true) ∧ Below w.heap.size w w' := by
  have H1 := hid (fun W (h : Below w.heap.size w W) => round_any a cap l W (hr.below h (Nat.le_refl _)))
  have H2 := hid (fun W (h : Below w.heap.size w W) => use_any a cap l W (hr.below h (Nat.le_refl _)))
  have H3 := hid (fun W (h : Below w.heap.size w W) => Demand_any a cap l n W (hr.below h (Nat.le_refl _)))
  have H4 := hid (fun W (h : Below w.heap.size w W) => tright_any a cap l W (hr.below h (Nat.le_refl _)))
  have H5 := hid (fun W (h : Below w.heap.size w W) => tcheck_any a cap l W (hr.below h (Nat.le_refl _)))
  obtain ⟨hl, hg⟩ := tchk_zero hk
  have e1 : roundE l = rndE l := by unfold roundE; rw [if_pos hk]
  have e2 : roundV l = rnd l := by unfold roundV; rw [if_pos hk]
  have H7 := hid (fun W (h : Below w.heap.size w W) => rround_any a cap l W (hr.below h (Nat.le_refl _)) hl hg)
  have e4 : demE l n = 0 := demE_of hk hn.1 hn.2
  rw [e4, demV_of e4] at H3
  have H6 := hid (fun W (h : Below w.heap.size w W) => rdemand_any a cap l n W (hr.below h (Nat.le_refl _)) hl hg hn.1 hn.2)
  rw [hk] at H4 H5
  rw [e1, e2] at H1 H2
  obtain ⟨r1, r2⟩ : rndE l = 6 ∧ rnd l = 0 := by
    rcases rnd_cases hg with ⟨e, _⟩ | ⟨e, r, _⟩
    · exact absurd e he
    · exact ⟨e, r⟩
  have e6 : useV l = 0 := by unfold useV; rw [if_neg (by rw [e1]; exact he)]
  rw [e6] at H2
  rw [r1, r2] at H1 H2
  rw [r2] at H7
  clear hr hg hk he e1 e2 e4 e6 r1 r2
  obtain ⟨n1, n2⟩ := hn
  generalize dem l n = d at *
  go_enter Try.func3, Try.ntmps3
  go_wp2_with fail
  refine (H1.out _ (Below.refl _ _)).mono ?_
  rintro e w1 ⟨rfl, b⟩
  have HB1 : Hid (Below w.heap.size w w1) := bel_of (Below.refl _ _) b
  clear b
  go_wp2_with fail
  refine (H2.out _ HB1.out).mono ?_
  rintro e w2 ⟨rfl, b⟩
  have HB2 : Hid (Below w.heap.size w w2) := bel_of HB1.out b
  clear b
  go_wp2_with fail
  refine (H3.out _ HB2.out).mono ?_
  rintro e w3 ⟨rfl, b⟩
  have HB3 : Hid (Below w.heap.size w w3) := bel_of HB2.out b
  clear b
  go_wp2_with fail
  refine (H4.out _ HB3.out).mono ?_
  rintro e w4 ⟨rfl, b⟩
  have HB4 : Hid (Below w.heap.size w w4) := bel_of HB3.out b
  clear b
  go_wp2_with fail
  refine (H5.out _ HB4.out).mono ?_
  rintro e w5 ⟨rfl, b⟩
  have HB5 : Hid (Below w.heap.size w w5) := bel_of HB4.out b
  clear b
  go_wp2_with fail
  refine (NumC.between_yes _ _ _ _ (by omega) (by omega)).mono ?_
  rintro e w6 ⟨rfl, hw⟩
  replace hw := hw.symm; subst hw
  go_wp2_with fail
  refine (H6.out _ HB5.out).mono ?_
  rintro e w6 ⟨rfl, b⟩
  have HB6 : Hid (Below w.heap.size w w6) := bel_of HB5.out b
  clear b
  go_wp2_with fail
  refine (H7.out _ HB6.out).mono ?_
  rintro e w7 ⟨rfl, b⟩
  have HB7 : Hid (Below w.heap.size w w7) := bel_of HB6.out b
  clear b
  go_wp2_with fail
  go_ret
  exact ⟨by first | rfl | simp, HB7.out⟩
set_option maxHeartbeats 1000000 in
theorem tells_out_ok (a : Option Addr) (cap : Nat) (l : List Tk) (n : Int) (w : World) (hr : Tks w a l) (hk : tchk l = 0) (hn : ¬ (0 ≤ n ∧ n ≤ 1099511627776)) (he : rndE l = 0) :
    Calls Try.prog 3 #[.slice a l.length cap, .int .i64 n] w fun e w' => e = .returned (.bool true) ∧ Below w.heap.size w w' := by
  have H1 := hid (fun W (h : Below w.heap.size w W) => round_any a cap l W (hr.below h (Nat.le_refl _)))
  have H2 := hid (fun W (h : Below w.heap.size w W) => use_any a cap l W (hr.below h (Nat.le_refl _)))
  have H3 := hid (fun W (h : Below w.heap.size w W) => Demand_any a cap l n W (hr.below h (Nat.le_refl _)))
  have H4 := hid (fun W (h : Below w.heap.size w W) => tright_any a cap l W (hr.below h (Nat.le_refl _)))
  have H5 := hid (fun W (h : Below w.heap.size w W) => tcheck_any a cap l W (hr.below h (Nat.le_refl _)))
  obtain ⟨hl, hg⟩ := tchk_zero hk
  have e1 : roundE l = rndE l := by unfold roundE; rw [if_pos hk]
  have e2 : roundV l = rnd l := by unfold roundV; rw [if_pos hk]
  have H7 := hid (fun W (h : Below w.heap.size w W) => rround_any a cap l W (hr.below h (Nat.le_refl _)) hl hg)
  have e4 : demE l n = 1 := by unfold demE; rw [if_pos hk, if_neg hn]
  have e5 : demV l n = 0 := by unfold demV; rw [if_neg (by omega)]
  rw [e4, e5] at H3
  clear e5
  rw [hk] at H4 H5
  rw [e1, e2] at H1 H2
  have e6 : useV l = use (rnd l) l := by unfold useV; rw [if_pos (by rw [e1]; exact he), e2]
  rw [e6] at H2
  rw [he] at H1 H2
  obtain ⟨r1, r2⟩ : 1 ≤ rnd l ∧ rnd l ≤ 1099511627776 := by
    rcases rnd_cases hg with ⟨_, _, r⟩ | ⟨e, _⟩
    · exact r
    · omega
  have HR := hid hr
  have HG := hid hg
  clear hr hg hk he e1 e2 e4 e6
  generalize rnd l = R at *
  have hR0 : (R == 0) = false := by simp; omega
  go_enter Try.func3, Try.ntmps3
  go_wp2_with fail
  refine (H1.out _ (Below.refl _ _)).mono ?_
  rintro e w1 ⟨rfl, b⟩
  have HB1 : Hid (Below w.heap.size w w1) := bel_of (Below.refl _ _) b
  clear b
  go_wp2_with fail
  refine (H2.out _ HB1.out).mono ?_
  rintro e w2 ⟨rfl, b⟩
  have HB2 : Hid (Below w.heap.size w w2) := bel_of HB1.out b
  clear b
  go_wp2_with fail
  refine (H3.out _ HB2.out).mono ?_
  rintro e w3 ⟨rfl, b⟩
  have HB3 : Hid (Below w.heap.size w w3) := bel_of HB2.out b
  clear b
  go_wp2_with fail
  refine (H4.out _ HB3.out).mono ?_
  rintro e w4 ⟨rfl, b⟩
  have HB4 : Hid (Below w.heap.size w w4) := bel_of HB3.out b
  clear b
  go_wp2_with fail
  refine (H5.out _ HB4.out).mono ?_
  rintro e w5 ⟨rfl, b⟩
  have HB5 : Hid (Below w.heap.size w w5) := bel_of HB4.out b
  clear b
  go_wp2_with fail
  refine (NumC.between_no _ _ _ _ hn).mono ?_
  rintro e w6 ⟨rfl, hw⟩
  replace hw := hw.symm; subst hw
  go_wp2_with fail
  refine (H7.out _ HB5.out).mono ?_
  rintro e w6 ⟨rfl, b⟩
  have HB6 : Hid (Below w.heap.size w w6) := bel_of HB5.out b
  clear b
  go_wp2_with fail
  go_loopw [14, 112] (fun vA vI wr => ∃ (k : Nat) (c : Int), k ≤ l.length ∧ vA = .int .i64 c ∧ vI = .int .i64 k ∧ Hid (c = use R (l.take k)) ∧ 0 ≤ c ∧ c ≤ k * 1099511627776 ∧ Below w.heap.size w wr) (fun _ vI _ => l.length - (intOf vI).toNat)
  case atStart => exact ⟨0, 0, by omega, rfl, rfl, by show _ = _; simp [use], by omega, by omega, HB6.out⟩
  case round =>
    obtain ⟨k, c, hk, rfl, rfl, hA, c0, c1, hb⟩ := hrel
    have HB := hid hb
    have hsz := hb.size
    by_cases hlt : k < l.length
    · obtain ⟨b, off, rfl, hbw, d1, d2, d3⟩ := (HR.out.below hb (Nat.le_refl _)).at k hlt
      have hd := tk_snoc l k hlt
      have hmem := HG.out _ (tk_mem hlt)
      clear hb
      generalize l.getD k zTk = z at d1 d2 d3 hd hmem
      have hj := use_bd hmem (show 0 ≤ R by omega)
      obtain ⟨m, e, d⟩ := z
      obtain ⟨p1, p2, p3, p4, p5, p6⟩ := hmem
      have HD : Hid (c + R / e * m = use R (l.take (k + 1))) := by
        show _ = _
        rw [hd, use_snoc, hA.out]
      simp only at d1 d2 d3 p1 p2 p3 p4 p5 p6 hj
      obtain ⟨j0, j1, j2, j3⟩ := hj
      rw [Int.mul_comm] at j2 j3
      clear hd
      have ez : (e == 0) = false := by simp; omega
      have ez2 : e ≠ 0 := by omega
      generalize hJ : R / e = J at *
      go_wp2_with fail
      go_quiet (fail)
      go_wp2_with fail
      go_roundw
      case rel => exact ⟨k + 1, _, by omega, rfl, by go_num, by first | exact HD | (show _ = _; have := HD.out; omega), by omega, by omega, below_drewN (HB.out.alloc hsz _) _⟩
      case measure => simp [intOf]; omega
    · have he : l.take k = l := List.take_of_length_le (by omega)
      rw [he] at hA
      have hA' := hA.out
      clear hb hA
      subst hA'
      go_wp2_with fail
      go_ret
      exact ⟨by first | rfl | simp, HB.out⟩
set_option maxHeartbeats 1000000 in
theorem tells_out_full (a : Option Addr) (cap : Nat) (l : List Tk) (n : Int) (w : World) (hr : Tks w a l) (hk : tchk l = 0) (hn : ¬ (0 ≤ n ∧ n ≤ 1099511627776)) (he : rndE l ≠ 0) :
    Calls Try.prog 3 #[.slice a l.length cap, .int .i64 n] w fun e w' => e = .returned (.bool true) ∧ Below w.heap.size w w' := by
  have H1 := hid (fun W (h : Below w.heap.size w W) => round_any a cap l W (hr.below h (Nat.le_refl _)))
  have H2 := hid (fun W (h : Below w.heap.size w W) => use_any a cap l W (hr.below h (Nat.le_refl _)))
  have H3 := hid (fun W (h : Below w.heap.size w W) => Demand_any a cap l n W (hr.below h (Nat.le_refl _)))
  have H4 := hid (fun W (h : Below w.heap.size w W) => tright_any a cap l W (hr.below h (Nat.le_refl _)))
  have H5 := hid (fun W (h : Below w.heap.size w W) => tcheck_any a cap l W (hr.below h (Nat.le_refl _)))
  obtain ⟨hl, hg⟩ := tchk_zero hk
  have e1 : roundE l = rndE l := by unfold roundE; rw [if_pos hk]
  have e2 : roundV l = rnd l := by unfold roundV; rw [if_pos hk]
  have H7 := hid (fun W (h : Below w.heap.size w W) => rround_any a cap l W (hr.below h (Nat.le_refl _)) hl hg)
  have e4 : demE l n = 1 := by unfold demE; rw [if_pos hk, if_neg hn]
  have e5 : demV l n = 0 := by unfold demV; rw [if_neg (by omega)]
  rw [e4, e5] at H3
  clear e5
  rw [hk] at H4 H5
  rw [e1, e2] at H1 H2
  obtain ⟨r1, r2⟩ : rndE l = 6 ∧ rnd l = 0 := by
    rcases rnd_cases hg with ⟨e, _⟩ | ⟨e, r, _⟩
    · exact absurd e he
    · exact ⟨e, r⟩
  have e6 : useV l = 0 := by unfold useV; rw [if_neg (by rw [e1]; exact he)]
  rw [e6] at H2
  rw [r1, r2] at H1 H2
  rw [r2] at H7
  clear hr hg hk he e1 e2 e4 e6 r1 r2
  go_enter Try.func3, Try.ntmps3
  go_wp2_with fail
  refine (H1.out _ (Below.refl _ _)).mono ?_
  rintro e w1 ⟨rfl, b⟩
  have HB1 : Hid (Below w.heap.size w w1) := bel_of (Below.refl _ _) b
  clear b
  go_wp2_with fail
  refine (H2.out _ HB1.out).mono ?_
  rintro e w2 ⟨rfl, b⟩
  have HB2 : Hid (Below w.heap.size w w2) := bel_of HB1.out b
  clear b
  go_wp2_with fail
  refine (H3.out _ HB2.out).mono ?_
  rintro e w3 ⟨rfl, b⟩
  have HB3 : Hid (Below w.heap.size w w3) := bel_of HB2.out b
  clear b
  go_wp2_with fail
  refine (H4.out _ HB3.out).mono ?_
  rintro e w4 ⟨rfl, b⟩
  have HB4 : Hid (Below w.heap.size w w4) := bel_of HB3.out b
  clear b
  go_wp2_with fail
  refine (H5.out _ HB4.out).mono ?_
  rintro e w5 ⟨rfl, b⟩
  have HB5 : Hid (Below w.heap.size w w5) := bel_of HB4.out b
  clear b
  go_wp2_with fail
  refine (NumC.between_no _ _ _ _ hn).mono ?_
  rintro e w6 ⟨rfl, hw⟩
  replace hw := hw.symm; subst hw
  go_wp2_with fail
  refine (H7.out _ HB5.out).mono ?_
  rintro e w6 ⟨rfl, b⟩
  have HB6 : Hid (Below w.heap.size w w6) := bel_of HB5.out b
  clear b
  go_wp2_with fail
  go_ret
  exact ⟨by first | rfl | simp, HB6.out⟩
theorem taskTells_walk (a : Option Addr) (len cap : Nat) (l : List Tk) (n : Int) (w : World) (h : IsTks w a len cap l) (hn : wf64 n) :
    Calls Try.prog 3 #[.slice a len cap, .int .i64 n] w fun e w' => e = .returned (.bool true) ∧ Below w.heap.size w w' := by
  obtain ⟨rfl, h1, h2, hr, _, _⟩ := h
  by_cases hk : tchk l = 0
  · by_cases hi : 0 ≤ n ∧ n ≤ 1099511627776
    · by_cases he : rndE l = 0
      · exact tells_in_ok a cap l n w hr hk hi he
      · exact tells_in_full a cap l n w hr hk hi he
    · by_cases he : rndE l = 0
      · exact tells_out_ok a cap l n w hr hk hi he
      · exact tells_out_full a cap l n w hr hk hi he
  · exact tells_err a cap l n w hr hk
end TaskC
end Go.Proofs.Ytpeapmefnabhfaa
