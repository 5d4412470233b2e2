/- Several texts, one behind the other: PlyL8. -/
import Derived.Test.YtpnahhpkaegeeaaKPjW
import Derived.Test.YtpnahhpkaegeeaaPkR
/- The walk of PlaySays (written by gen_ps.py). -/
set_option linter.unusedVariables false
namespace Go.Proofs.Ytpnahhpkaegeeaa
open Go.RowKit hiding tok
open SpanM SpanC TaskM PlayM
open RowsO hiding Tk
namespace PlayC
open NumC (Row)
open RowG
open TaskC (tchk tchk_zero tright_any)
variable (P : Pl) (T : Int) (a b c : Option Addr) (ca cb cc : Nat) (w : World)
set_option maxRecDepth 20000 in
set_option maxHeartbeats 1000000 in
theorem psays_a (hr : Tks w a P.l) (hf : Row w b P.f) (hs : Sps w c P.sl) (h1 : tchk P.l ≠ 0) :
    Calls Try.prog 3 #[.slice a P.l.length ca, .agg #[.int .i64 P.size, .slice c P.sl.length cc], .slice b P.f.length cb, .int .i64 P.pol, .int .i64 T] w fun e w' => e = .returned (.bool true) ∧ Below w.heap.size w w' := by
  have H1 := hid (fun W (h : Below w.heap.size w W) => play_any P T a b c ca cb cc W (hr.below h (Nat.le_refl _)) (Row.below hf h (Nat.le_refl _)) (hs.below h (Nat.le_refl _)))
  have H2 := hid (fun W (h : Below w.heap.size w W) => tright_any a ca P.l W (hr.below h (Nat.le_refl _)))
  have H3 := hid (fun W (h : Below w.heap.size w W) => right_any P.size c cc P.sl W (hs.below h (Nat.le_refl _)))
  have hE : plE P T = tchk P.l := by unfold plE; rw [if_neg h1]
  have hne : plE P T ≠ 0 := by rw [hE]; exact h1
  have hD : plD P T = [] := by unfold plD; rw [if_neg hne]
  have hN : plN P T = 0 := by unfold plN; rw [if_neg hne]
  rw [hE, hD, hN] at H1
  clear hne hE hD hN
  have q1 : (tchk P.l == 0) = false := by simp [h1]
  have q2 : (tchk P.l != 0) = true := by simp [h1]
  generalize tchk P.l = z at *
  clear hr hf hs h1
  go_enter Try.func3, Try.ntmps3
  go_wp2_with fail
  refine (H1.out _ (PB.start w _).bel).mono ?_
  rintro e w1 ⟨⟨v, rfl, ho⟩, b1⟩
  have B1 := hid ((PB.start w #[.int .i64 P.size, .slice c P.sl.length cc]).step b1)
  obtain ⟨ad, cd, rfl, hrd, _⟩ := ho.rd
  have R1 := hid hrd
  clear b1 ho hrd
  go_wp2_with fail
  refine (H2.out _ B1.out.bel).mono ?_
  rintro e w2 ⟨rfl, b2⟩
  have B2 := hid (B1.out.step b2)
  have R2 := hid (Rd.below R1.out b2 (Nat.le_refl _))
  have x0 := box_cell B2.out.set 0
  have x1 := box_cell B2.out.set 1
  simp at x0 x1
  clear b2
  go_wp2_with fail
  go_ret
  exact ⟨by first | rfl | simp, B2.out.bel⟩
set_option maxRecDepth 20000 in
set_option maxHeartbeats 1000000 in
theorem psays_b (hr : Tks w a P.l) (hf : Row w b P.f) (hs : Sps w c P.sl) (h1 : tchk P.l = 0) (h2 : chk P.size P.sl ≠ 0) :
    Calls Try.prog 3 #[.slice a P.l.length ca, .agg #[.int .i64 P.size, .slice c P.sl.length cc], .slice b P.f.length cb, .int .i64 P.pol, .int .i64 T] w fun e w' => e = .returned (.bool true) ∧ Below w.heap.size w w' := by
  have H1 := hid (fun W (h : Below w.heap.size w W) => play_any P T a b c ca cb cc W (hr.below h (Nat.le_refl _)) (Row.below hf h (Nat.le_refl _)) (hs.below h (Nat.le_refl _)))
  have H2 := hid (fun W (h : Below w.heap.size w W) => tright_any a ca P.l W (hr.below h (Nat.le_refl _)))
  have H3 := hid (fun W (h : Below w.heap.size w W) => right_any P.size c cc P.sl W (hs.below h (Nat.le_refl _)))
  have hE : plE P T = chk P.size P.sl := by unfold plE; rw [if_pos h1, if_neg h2]
  have hne : plE P T ≠ 0 := by rw [hE]; exact h2
  have hD : plD P T = [] := by unfold plD; rw [if_neg hne]
  have hN : plN P T = 0 := by unfold plN; rw [if_neg hne]
  rw [hE, hD, hN] at H1
  clear hne hE hD hN
  rw [h1] at H2
  have q1 : (chk P.size P.sl == 0) = false := by simp [h2]
  have q2 : (chk P.size P.sl != 0) = true := by simp [h2]
  generalize chk P.size P.sl = z at *
  clear hr hf hs h1 h2
  go_enter Try.func3, Try.ntmps3
  go_wp2_with fail
  refine (H1.out _ (PB.start w _).bel).mono ?_
  rintro e w1 ⟨⟨v, rfl, ho⟩, b1⟩
  have B1 := hid ((PB.start w #[.int .i64 P.size, .slice c P.sl.length cc]).step b1)
  obtain ⟨ad, cd, rfl, hrd, _⟩ := ho.rd
  have R1 := hid hrd
  clear b1 ho hrd
  go_wp2_with fail
  refine (H2.out _ B1.out.bel).mono ?_
  rintro e w2 ⟨rfl, b2⟩
  have B2 := hid (B1.out.step b2)
  have R2 := hid (Rd.below R1.out b2 (Nat.le_refl _))
  have x0 := box_cell B2.out.set 0
  have x1 := box_cell B2.out.set 1
  simp at x0 x1
  clear b2
  go_wp2_with fail
  refine (H3.out _ B2.out.bel).mono ?_
  rintro e w3 ⟨rfl, b3⟩
  have B3 := hid (B2.out.step b3)
  have R3 := hid (Rd.below R2.out b3 (Nat.le_refl _))
  clear b3
  clear x0 x1
  go_wp2_with fail
  go_ret
  exact ⟨by first | rfl | simp, B3.out.bel⟩
set_option maxRecDepth 20000 in
set_option maxHeartbeats 1000000 in
theorem psays_c (hr : Tks w a P.l) (hf : Row w b P.f) (hs : Sps w c P.sl) (h1 : tchk P.l = 0) (h2 : chk P.size P.sl = 0) (h3 : fstE P.l.length P.f ≠ 0) :
    Calls Try.prog 3 #[.slice a P.l.length ca, .agg #[.int .i64 P.size, .slice c P.sl.length cc], .slice b P.f.length cb, .int .i64 P.pol, .int .i64 T] w fun e w' => e = .returned (.bool true) ∧ Below w.heap.size w w' := by
  have H1 := hid (fun W (h : Below w.heap.size w W) => play_any P T a b c ca cb cc W (hr.below h (Nat.le_refl _)) (Row.below hf h (Nat.le_refl _)) (hs.below h (Nat.le_refl _)))
  have H2 := hid (fun W (h : Below w.heap.size w W) => tright_any a ca P.l W (hr.below h (Nat.le_refl _)))
  have H3 := hid (fun W (h : Below w.heap.size w W) => right_any P.size c cc P.sl W (hs.below h (Nat.le_refl _)))
  have H4 := hid (fun W (h : Below w.heap.size w W) => rfirsts_any a b P.l.length ca cb P.f W (Row.below hf h (Nat.le_refl _)) (tchk_zero h1).1)
  have H6 := hid (fun W (h : Below w.heap.size w W) => rright_any P (tchk_zero h1).2 a b ca cb T W (hr.below h (Nat.le_refl _)) (Row.below hf h (Nat.le_refl _)) (tchk_zero h1).1)
  have h34 : fstE P.l.length P.f = 4 := (fstE_cases _ _).resolve_left h3
  have hE : plE P T = 4 := by unfold plE; rw [if_pos h1, if_pos h2, if_neg h3, h34]
  have hne : plE P T ≠ 0 := by rw [hE]; exact by decide
  have hD : plD P T = [] := by unfold plD; rw [if_neg hne]
  have hN : plN P T = 0 := by unfold plN; rw [if_neg hne]
  rw [hE, hD, hN] at H1
  clear hne hE hD hN
  rw [h1] at H2
  rw [h2] at H3
  rw [decide_eq_false h3] at H4
  have hg : rgtE P T = 4 := by unfold rgtE; rw [if_neg h3]
  rw [hg] at H6
  clear hr hf hs h1 h2 h3 h34 hg
  go_enter Try.func3, Try.ntmps3
  go_wp2_with fail
  refine (H1.out _ (PB.start w _).bel).mono ?_
  rintro e w1 ⟨⟨v, rfl, ho⟩, b1⟩
  have B1 := hid ((PB.start w #[.int .i64 P.size, .slice c P.sl.length cc]).step b1)
  obtain ⟨ad, cd, rfl, hrd, _⟩ := ho.rd
  have R1 := hid hrd
  clear b1 ho hrd
  go_wp2_with fail
  refine (H2.out _ B1.out.bel).mono ?_
  rintro e w2 ⟨rfl, b2⟩
  have B2 := hid (B1.out.step b2)
  have R2 := hid (Rd.below R1.out b2 (Nat.le_refl _))
  have x0 := box_cell B2.out.set 0
  have x1 := box_cell B2.out.set 1
  simp at x0 x1
  clear b2
  go_wp2_with fail
  refine (H3.out _ B2.out.bel).mono ?_
  rintro e w3 ⟨rfl, b3⟩
  have B3 := hid (B2.out.step b3)
  have R3 := hid (Rd.below R2.out b3 (Nat.le_refl _))
  clear b3
  clear x0 x1
  go_wp2_with fail
  refine (H4.out _ B3.out.bel).mono ?_
  rintro e w4 ⟨rfl, b4⟩
  have B4 := hid (B3.out.step b4)
  have R4 := hid (Rd.below R3.out b4 (Nat.le_refl _))
  clear b4
  go_wp2_with fail
  refine (H6.out _ B4.out.bel).mono ?_
  rintro e w5 ⟨rfl, b5⟩
  have B5 := hid (B4.out.step b5)
  have R5 := hid (Rd.below R4.out b5 (Nat.le_refl _))
  clear b5
  go_wp2_with fail
  go_ret
  exact ⟨by first | rfl | simp, B5.out.bel⟩
set_option maxRecDepth 20000 in
set_option maxHeartbeats 1000000 in
theorem psays_d (hr : Tks w a P.l) (hf : Row w b P.f) (hs : Sps w c P.sl) (h1 : tchk P.l = 0) (h2 : chk P.size P.sl = 0) (h3 : fstE P.l.length P.f = 0) (h4 : ¬ (P.pol = 1 ∨ P.pol = 2)) :
    Calls Try.prog 3 #[.slice a P.l.length ca, .agg #[.int .i64 P.size, .slice c P.sl.length cc], .slice b P.f.length cb, .int .i64 P.pol, .int .i64 T] w fun e w' => e = .returned (.bool true) ∧ Below w.heap.size w w' := by
  have H1 := hid (fun W (h : Below w.heap.size w W) => play_any P T a b c ca cb cc W (hr.below h (Nat.le_refl _)) (Row.below hf h (Nat.le_refl _)) (hs.below h (Nat.le_refl _)))
  have H2 := hid (fun W (h : Below w.heap.size w W) => tright_any a ca P.l W (hr.below h (Nat.le_refl _)))
  have H3 := hid (fun W (h : Below w.heap.size w W) => right_any P.size c cc P.sl W (hs.below h (Nat.le_refl _)))
  have H4 := hid (fun W (h : Below w.heap.size w W) => rfirsts_any a b P.l.length ca cb P.f W (Row.below hf h (Nat.le_refl _)) (tchk_zero h1).1)
  have hE : plE P T = 1 := by unfold plE; rw [if_pos h1, if_pos h2, if_pos h3, if_neg h4]
  have hne : plE P T ≠ 0 := by rw [hE]; exact by decide
  have hD : plD P T = [] := by unfold plD; rw [if_neg hne]
  have hN : plN P T = 0 := by unfold plN; rw [if_neg hne]
  rw [hE, hD, hN] at H1
  clear hne hE hD hN
  rw [h1] at H2
  rw [h2] at H3
  rw [decide_eq_true h3] at H4
  have HBT := hid (fun W => NumC.between_no P.pol 1 2 W (by omega))
  clear hr hf hs h1 h2 h3 h4
  go_enter Try.func3, Try.ntmps3
  go_wp2_with fail
  refine (H1.out _ (PB.start w _).bel).mono ?_
  rintro e w1 ⟨⟨v, rfl, ho⟩, b1⟩
  have B1 := hid ((PB.start w #[.int .i64 P.size, .slice c P.sl.length cc]).step b1)
  obtain ⟨ad, cd, rfl, hrd, _⟩ := ho.rd
  have R1 := hid hrd
  clear b1 ho hrd
  go_wp2_with fail
  refine (H2.out _ B1.out.bel).mono ?_
  rintro e w2 ⟨rfl, b2⟩
  have B2 := hid (B1.out.step b2)
  have R2 := hid (Rd.below R1.out b2 (Nat.le_refl _))
  have x0 := box_cell B2.out.set 0
  have x1 := box_cell B2.out.set 1
  simp at x0 x1
  clear b2
  go_wp2_with fail
  refine (H3.out _ B2.out.bel).mono ?_
  rintro e w3 ⟨rfl, b3⟩
  have B3 := hid (B2.out.step b3)
  have R3 := hid (Rd.below R2.out b3 (Nat.le_refl _))
  clear b3
  clear x0 x1
  go_wp2_with fail
  refine (H4.out _ B3.out.bel).mono ?_
  rintro e w4 ⟨rfl, b4⟩
  have B4 := hid (B3.out.step b4)
  have R4 := hid (Rd.below R3.out b4 (Nat.le_refl _))
  clear b4
  go_wp2_with (first | (go_at_call 18; refine (HBT.out _).mono ?_; rintro e w' ⟨rfl, hw⟩; replace hw := hw.symm; subst hw))
  go_ret
  exact ⟨by first | rfl | simp, B4.out.bel⟩
set_option maxRecDepth 20000 in
set_option maxHeartbeats 1000000 in
theorem psays_e (hr : Tks w a P.l) (hf : Row w b P.f) (hs : Sps w c P.sl) (h1 : tchk P.l = 0) (h2 : chk P.size P.sl = 0) (h3 : fstE P.l.length P.f = 0) (h4 : P.pol = 1 ∨ P.pol = 2) (h5 : P.untE T ≠ 0) :
    Calls Try.prog 3 #[.slice a P.l.length ca, .agg #[.int .i64 P.size, .slice c P.sl.length cc], .slice b P.f.length cb, .int .i64 P.pol, .int .i64 T] w fun e w' => e = .returned (.bool true) ∧ Below w.heap.size w w' := by
  have H1 := hid (fun W (h : Below w.heap.size w W) => play_any P T a b c ca cb cc W (hr.below h (Nat.le_refl _)) (Row.below hf h (Nat.le_refl _)) (hs.below h (Nat.le_refl _)))
  have H2 := hid (fun W (h : Below w.heap.size w W) => tright_any a ca P.l W (hr.below h (Nat.le_refl _)))
  have H3 := hid (fun W (h : Below w.heap.size w W) => right_any P.size c cc P.sl W (hs.below h (Nat.le_refl _)))
  have H4 := hid (fun W (h : Below w.heap.size w W) => rfirsts_any a b P.l.length ca cb P.f W (Row.below hf h (Nat.le_refl _)) (tchk_zero h1).1)
  have H6 := hid (fun W (h : Below w.heap.size w W) => rright_any P (tchk_zero h1).2 a b ca cb T W (hr.below h (Nat.le_refl _)) (Row.below hf h (Nat.le_refl _)) (tchk_zero h1).1)
  have hE : plE P T = P.untE T := by unfold plE; rw [if_pos h1, if_pos h2, if_pos h3, if_pos h4]
  have hne : plE P T ≠ 0 := by rw [hE]; exact h5
  have hD : plD P T = [] := by unfold plD; rw [if_neg hne]
  have hN : plN P T = 0 := by unfold plN; rw [if_neg hne]
  rw [hE, hD, hN] at H1
  clear hne hE hD hN
  rw [h1] at H2
  rw [h2] at H3
  rw [decide_eq_true h3] at H4
  have hg : rgtE P T = P.untE T := by unfold rgtE; rw [if_pos h3]
  rw [hg] at H6
  have q2 : (P.untE T != 0) = true := by simp [h5]
  have HBT := hid (fun W => NumC.between_yes P.pol 1 2 W (by omega) (by omega))
  generalize P.untE T = z at *
  clear hr hf hs h1 h2 h3 h4 h5 hg
  go_enter Try.func3, Try.ntmps3
  go_wp2_with fail
  refine (H1.out _ (PB.start w _).bel).mono ?_
  rintro e w1 ⟨⟨v, rfl, ho⟩, b1⟩
  have B1 := hid ((PB.start w #[.int .i64 P.size, .slice c P.sl.length cc]).step b1)
  obtain ⟨ad, cd, rfl, hrd, _⟩ := ho.rd
  have R1 := hid hrd
  clear b1 ho hrd
  go_wp2_with fail
  refine (H2.out _ B1.out.bel).mono ?_
  rintro e w2 ⟨rfl, b2⟩
  have B2 := hid (B1.out.step b2)
  have R2 := hid (Rd.below R1.out b2 (Nat.le_refl _))
  have x0 := box_cell B2.out.set 0
  have x1 := box_cell B2.out.set 1
  simp at x0 x1
  clear b2
  go_wp2_with fail
  refine (H3.out _ B2.out.bel).mono ?_
  rintro e w3 ⟨rfl, b3⟩
  have B3 := hid (B2.out.step b3)
  have R3 := hid (Rd.below R2.out b3 (Nat.le_refl _))
  clear b3
  clear x0 x1
  go_wp2_with fail
  refine (H4.out _ B3.out.bel).mono ?_
  rintro e w4 ⟨rfl, b4⟩
  have B4 := hid (B3.out.step b4)
  have R4 := hid (Rd.below R3.out b4 (Nat.le_refl _))
  clear b4
  go_wp2_with (first | (go_at_call 18; refine (HBT.out _).mono ?_; rintro e w' ⟨rfl, hw⟩; replace hw := hw.symm; subst hw))
  refine (H6.out _ B4.out.bel).mono ?_
  rintro e w5 ⟨rfl, b5⟩
  have B5 := hid (B4.out.step b5)
  have R5 := hid (Rd.below R4.out b5 (Nat.le_refl _))
  clear b5
  go_wp2_with fail
  go_ret
  exact ⟨by first | rfl | simp, B5.out.bel⟩
set_option maxRecDepth 20000 in
set_option maxHeartbeats 1000000 in
theorem psays_f (hr : Tks w a P.l) (hf : Row w b P.f) (hs : Sps w c P.sl) (h : plE P T = 0) :
    Calls Try.prog 3 #[.slice a P.l.length ca, .agg #[.int .i64 P.size, .slice c P.sl.length cc], .slice b P.f.length cb, .int .i64 P.pol, .int .i64 T] w fun e w' => e = .returned (.bool true) ∧ Below w.heap.size w w' := by
  have H1 := hid (fun W (h : Below w.heap.size w W) => play_any P T a b c ca cb cc W (hr.below h (Nat.le_refl _)) (Row.below hf h (Nat.le_refl _)) (hs.below h (Nat.le_refl _)))
  have H2 := hid (fun W (h : Below w.heap.size w W) => tright_any a ca P.l W (hr.below h (Nat.le_refl _)))
  have H3 := hid (fun W (h : Below w.heap.size w W) => right_any P.size c cc P.sl W (hs.below h (Nat.le_refl _)))
  obtain ⟨h1, h2, h3, h4, h5⟩ := plE_all h
  have H4 := hid (fun W (h : Below w.heap.size w W) => rfirsts_any a b P.l.length ca cb P.f W (Row.below hf h (Nat.le_refl _)) (tchk_zero h1).1)
  have H6 := hid (fun W (h : Below w.heap.size w W) => rright_any P (tchk_zero h1).2 a b ca cb T W (hr.below h (Nat.le_refl _)) (Row.below hf h (Nat.le_refl _)) (tchk_zero h1).1)
  have hR := plE_rt' h
  have H7 := hid (fun W (h : Below w.heap.size w W) => rplayed_any P T a b c ca cb cc W (hr.below h (Nat.le_refl _)) (Row.below hf h (Nat.le_refl _)) (hs.below h (Nat.le_refl _)) hR)
  have hD : plD P T = P.outs T.toNat := by unfold plD; rw [if_pos h]
  have hN : plN P T = P.idles T.toNat := by unfold plN; rw [if_pos h]
  have HDL := hid (show (P.outs T.toNat).length ≤ 20000 by
    have := outs_bd P hR.ok T.toNat
    have := hR.t0
    have := hR.t1
    omega)
  rw [h, hD, hN] at H1
  rw [h1] at H2
  rw [h2] at H3
  rw [decide_eq_true h3] at H4
  have hg : rgtE P T = 0 := by unfold rgtE; rw [if_pos h3, h5]
  rw [hg] at H6
  have HBT := hid (fun W => NumC.between_yes P.pol 1 2 W (by omega) (by omega))
  generalize P.outs T.toNat = D at *
  generalize P.idles T.toNat = NN at *
  clear hr hf hs h h1 h2 h3 h4 h5 hg hR hD hN
  go_enter Try.func3, Try.ntmps3
  go_wp2_with fail
  refine (H1.out _ (PB.start w _).bel).mono ?_
  rintro e w1 ⟨⟨v, rfl, ho⟩, b1⟩
  have B1 := hid ((PB.start w #[.int .i64 P.size, .slice c P.sl.length cc]).step b1)
  obtain ⟨ad, cd, rfl, hrd, _⟩ := ho.rd
  have R1 := hid hrd
  clear b1 ho hrd
  go_wp2_with fail
  refine (H2.out _ B1.out.bel).mono ?_
  rintro e w2 ⟨rfl, b2⟩
  have B2 := hid (B1.out.step b2)
  have R2 := hid (Rd.below R1.out b2 (Nat.le_refl _))
  have x0 := box_cell B2.out.set 0
  have x1 := box_cell B2.out.set 1
  simp at x0 x1
  clear b2
  go_wp2_with fail
  refine (H3.out _ B2.out.bel).mono ?_
  rintro e w3 ⟨rfl, b3⟩
  have B3 := hid (B2.out.step b3)
  have R3 := hid (Rd.below R2.out b3 (Nat.le_refl _))
  clear b3
  clear x0 x1
  go_wp2_with fail
  refine (H4.out _ B3.out.bel).mono ?_
  rintro e w4 ⟨rfl, b4⟩
  have B4 := hid (B3.out.step b4)
  have R4 := hid (Rd.below R3.out b4 (Nat.le_refl _))
  clear b4
  go_wp2_with (first | (go_at_call 18; refine (HBT.out _).mono ?_; rintro e w' ⟨rfl, hw⟩; replace hw := hw.symm; subst hw))
  refine (H6.out _ B4.out.bel).mono ?_
  rintro e w5 ⟨rfl, b5⟩
  have B5 := hid (B4.out.step b5)
  have R5 := hid (Rd.below R4.out b5 (Nat.le_refl _))
  clear b5
  have x0 := box_cell B5.out.set 0
  have x1 := box_cell B5.out.set 1
  simp at x0 x1
  go_wp2_with fail
  refine (H7.out _ B5.out.bel).mono ?_
  rintro e w6 ⟨⟨v6, rfl, ho6⟩, b6⟩
  have B6 := hid (B5.out.step b6)
  have R6 := hid (Rd.below R5.out b6 (Nat.le_refl _))
  obtain ⟨a6, c6, rfl, hr6, _⟩ := ho6.rd
  have HEQ := hid (equal_any ad a6 cd c6 D D w6 R6.out hr6 (by have := HDL.out; omega))
  rw [decide_eq_true rfl] at HEQ
  clear ho6 b6 hr6 x0 x1
  go_wp2_with fail
  refine HEQ.out.mono ?_
  rintro e w7 ⟨rfl, b7⟩
  have B7 := hid (B6.out.step b7)
  clear b7
  go_wp2_with fail
  go_ret
  exact ⟨by first | rfl | simp, B7.out.bel⟩
theorem playSays_walk (a0 : Option Addr) (len0 cap0 : Nat) (l0 : List TaskM.Tk) (s1 : Int) (a1 : Option Addr) (len1 cap1 : Nat) (l1 : List Sp) (a2 : Option Addr) (len2 cap2 : Nat) (l2 : List Int) (n3 n4 : Int) (w : World)
    (w0 : RowsO.IsTks w a0 len0 cap0 l0) (x1 : SpanC.wf64 s1) (w1 : SpanC.IsSps w a1 len1 cap1 l1) (w2 : RowsO.IsIns w a2 len2 cap2 l2) (w3 : SpanC.wf64 n3) (w4 : SpanC.wf64 n4) :
    Calls Try.prog 3 #[.slice a0 len0 cap0, .agg #[.int .i64 s1, .slice a1 len1 cap1], .slice a2 len2 cap2, .int .i64 n3, .int .i64 n4] w fun e w' => e = .returned (.bool true) ∧ Below w.heap.size w w' := by
  obtain ⟨rfl, _, _, hr, _⟩ := w0
  obtain ⟨rfl, _, _, hs, _⟩ := w1
  obtain ⟨rfl, _, _, hf, _⟩ := w2
  by_cases h1 : tchk l0 = 0
  · by_cases h2 : chk s1 l1 = 0
    · by_cases h3 : fstE l0.length l2 = 0
      · by_cases h4 : n3 = 1 ∨ n3 = 2
        · by_cases h5 : (⟨l0, l2, s1, l1, n3⟩ : Pl).untE n4 = 0
          · refine psays_f ⟨l0, l2, s1, l1, n3⟩ n4 a0 a2 a1 cap0 cap2 cap1 w hr hf hs ?_
            have e1 : (⟨l0, l2, s1, l1, n3⟩ : Pl).l = l0 := rfl
            unfold plE
            rw [if_pos h1, if_pos h2, if_pos h3, if_pos h4, h5]
          · exact psays_e ⟨l0, l2, s1, l1, n3⟩ n4 a0 a2 a1 cap0 cap2 cap1 w hr hf hs h1 h2 h3 h4 h5
        · exact psays_d ⟨l0, l2, s1, l1, n3⟩ n4 a0 a2 a1 cap0 cap2 cap1 w hr hf hs h1 h2 h3 h4
      · exact psays_c ⟨l0, l2, s1, l1, n3⟩ n4 a0 a2 a1 cap0 cap2 cap1 w hr hf hs h1 h2 h3
    · exact psays_b ⟨l0, l2, s1, l1, n3⟩ n4 a0 a2 a1 cap0 cap2 cap1 w hr hf hs h1 h2
  · exact psays_a ⟨l0, l2, s1, l1, n3⟩ n4 a0 a2 a1 cap0 cap2 cap1 w hr hf hs h1
end PlayC
end Go.Proofs.Ytpnahhpkaegeeaa
