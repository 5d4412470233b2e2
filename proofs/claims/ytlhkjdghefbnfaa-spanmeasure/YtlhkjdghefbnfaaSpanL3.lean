/- The walk of SpanMeasure. -/
import Derived.Test.YtlhkjdghefbnfaaSpanK
set_option linter.unusedVariables false
namespace Go.Proofs.Ytlhkjdghefbnfaa
open Go.RowKit
open SpanM
namespace SpanC
theorem idx6_0 (x0 x1 x2 x3 x4 x5 x6 x7 x8 x9 x10 x11 : Value) (w : World) : (Instr.index 51 (.agg #[x0, x1, x2, x3, x4, x5, x6, x7, x8, x9, x10, x11]) (.int .i64 0)).run Try.prog w = .ok (.agg #[x0, x1]) w := by kernel_rfl
theorem idx6_1 (x0 x1 x2 x3 x4 x5 x6 x7 x8 x9 x10 x11 : Value) (w : World) : (Instr.index 51 (.agg #[x0, x1, x2, x3, x4, x5, x6, x7, x8, x9, x10, x11]) (.int .i64 1)).run Try.prog w = .ok (.agg #[x2, x3]) w := by kernel_rfl
theorem idx6_2 (x0 x1 x2 x3 x4 x5 x6 x7 x8 x9 x10 x11 : Value) (w : World) : (Instr.index 51 (.agg #[x0, x1, x2, x3, x4, x5, x6, x7, x8, x9, x10, x11]) (.int .i64 2)).run Try.prog w = .ok (.agg #[x4, x5]) w := by kernel_rfl
theorem idx6_3 (x0 x1 x2 x3 x4 x5 x6 x7 x8 x9 x10 x11 : Value) (w : World) : (Instr.index 51 (.agg #[x0, x1, x2, x3, x4, x5, x6, x7, x8, x9, x10, x11]) (.int .i64 3)).run Try.prog w = .ok (.agg #[x6, x7]) w := by kernel_rfl
theorem idx6_4 (x0 x1 x2 x3 x4 x5 x6 x7 x8 x9 x10 x11 : Value) (w : World) : (Instr.index 51 (.agg #[x0, x1, x2, x3, x4, x5, x6, x7, x8, x9, x10, x11]) (.int .i64 4)).run Try.prog w = .ok (.agg #[x8, x9]) w := by kernel_rfl
theorem idx6_5 (x0 x1 x2 x3 x4 x5 x6 x7 x8 x9 x10 x11 : Value) (w : World) : (Instr.index 51 (.agg #[x0, x1, x2, x3, x4, x5, x6, x7, x8, x9, x10, x11]) (.int .i64 5)).run Try.prog w = .ok (.agg #[x10, x11]) w := by kernel_rfl
/-- what is summed up behind k sets -/
def mk6 (a b c d e : Int) : Nat → Int
  | 0 => 0
  | 1 => a
  | 2 => a + b
  | 3 => a + b - c
  | 4 => a + b - c - d
  | 5 => e
  | _ => e + c
set_option maxRecDepth 20000 in
set_option maxHeartbeats 4000000 in
theorem measure_any (sA sB f t : Int) (aA aB : Option Addr) (cA cB : Nat) (lA lB : List Sp) (w : World) (spA : Sps w aA lA) (spB : Sps w aB lB) (nzA : aA = none → cA = 0) (nzB : aB = none → cB = 0) (mlA : lA.length ≤ maxLen) (mlB : lB.length ≤ maxLen) :
    Calls Try.prog 7 #[.agg #[.int .i64 sA, .slice aA lA.length cA], .agg #[.int .i64 sB, .slice aB lB.length cB], .int .i64 f, .int .i64 t] w fun e w' => e = .returned (.bool true) ∧ Below w.heap.size w w' := by
  have KA0 := hid ((Cell.new (s := sA) spA nzA mlA).alloc (.cells #[.int .i64 sB, .slice aB lB.length cB] 24))
  have KB0 := hid (Cell.new' (b := w.heap.size + 1) (s := sB) (W := w.alloc (.cells #[.int .i64 sA, .slice aA lA.length cA] 24)) (by simp) (spB.below (Below.alloc (Below.refl _ _) (Nat.le_refl _) _) (Nat.le_refl _)) nzB mlB)
  have E0 := hid (Below.alloc (Below.alloc (Below.refl w.heap.size w) (Nat.le_refl _) (.cells #[.int .i64 sA, .slice aA lA.length cA] 24)) (by simp) (.cells #[.int .i64 sB, .slice aB lB.length cB] 24))
  clear spA spB nzA nzB mlA mlB
  go_enter Try.func7, Try.ntmps7
  go_wp2_with fail
  refine (both_says KA0.out KB0.out).mono ?_
  rintro e w1 ⟨⟨s1, a1, c1, r1, er1, rfl, hs1, hn1, hm1, hA1⟩, b1⟩
  have Q1 := hid hA1
  have KA_1 := hid (KA0.out.step b1)
  have KB_1 := hid (KB0.out.step b1)
  have E_1 := hid (bel_of E0.out b1)
  have S1 := hid hs1
  have N1 := hid hn1
  have M1 := hid hm1
  clear hs1 hn1 hm1 hA1 b1
  obtain ⟨ltA, ftA0, ftA1, _, _, _⟩ := KA_1.out
  obtain ⟨ltB, ftB0, ftB1, _, _, _⟩ := KB_1.out
  go_wp2_with fail
  refine (either_says (KA_1.out.alloc _) (KB_1.out.alloc _)).mono ?_
  rintro e w2 ⟨⟨s2, a2, c2, r2, er2, rfl, hs2, hn2, hm2, hA2⟩, b2⟩
  clear ltA ftA0 ftA1 ltB ftB0 ftB1
  have Q2 := hid hA2
  have KA_2 := hid ((KA_1.out.alloc _).step b2)
  have KB_2 := hid ((KB_1.out.alloc _).step b2)
  have K1_2 := hid ((Cell.new S1.out N1.out M1.out).step b2)
  have E_2 := hid (bel_of (Below.alloc E_1.out E_1.out.size _) b2)
  have S2 := hid hs2
  have N2 := hid hn2
  have M2 := hid hm2
  clear hs2 hn2 hm2 hA2 b2
  obtain ⟨ltA, ftA0, ftA1, _, _, _⟩ := KA_2.out
  go_wp2_with fail
  refine (not_says (KA_2.out.alloc _)).mono ?_
  rintro e w3 ⟨⟨s3, a3, c3, r3, er3, rfl, hs3, hn3, hm3, hA3⟩, b3⟩
  clear ltA ftA0 ftA1
  have Q3 := hid hA3
  have KA_3 := hid ((KA_2.out.alloc _).step b3)
  have KB_3 := hid ((KB_2.out.alloc _).step b3)
  have K1_3 := hid ((K1_2.out.alloc _).step b3)
  have K2_3 := hid ((Cell.new S2.out N2.out M2.out).step b3)
  have E_3 := hid (bel_of (Below.alloc E_2.out E_2.out.size _) b3)
  have S3 := hid hs3
  have N3 := hid hn3
  have M3 := hid hm3
  clear hs3 hn3 hm3 hA3 b3
  have D : (er1 = 0 ∧ er2 = 0 ∧ er3 = 0 ∧ 0 ≤ f ∧ f ≤ t ∧ t ≤ 1099511627776) ∨ er1 ≠ 0 ∨ (er1 = 0 ∧ er2 ≠ 0) ∨ (er1 = 0 ∧ er2 = 0 ∧ er3 ≠ 0) ∨ (er1 = 0 ∧ er2 = 0 ∧ er3 = 0 ∧ f < 0) ∨ (er1 = 0 ∧ er2 = 0 ∧ er3 = 0 ∧ 0 ≤ f ∧ t < f) ∨ (er1 = 0 ∧ er2 = 0 ∧ er3 = 0 ∧ 0 ≤ f ∧ f ≤ t ∧ 1099511627776 < t) := by omega
  rcases D with ⟨rfl, rfl, rfl, f1, f2, f3⟩ | d | ⟨rfl, d⟩ | ⟨rfl, rfl, d⟩ | ⟨rfl, rfl, rfl, d⟩ | ⟨rfl, rfl, rfl, d, d'⟩ | ⟨rfl, rfl, rfl, d, d', d2⟩
  · skip
    go_wp2_with fail
    refine (lives _).mono ?_
    rintro e w4 ⟨rfl, b4⟩
    have KA_4 := hid ((KA_3.out.alloc _).step b4)
    have KB_4 := hid ((KB_3.out.alloc _).step b4)
    have K1_4 := hid ((K1_3.out.alloc _).step b4)
    have K2_4 := hid ((K2_3.out.alloc _).step b4)
    have K3_4 := hid ((Cell.new S3.out N3.out M3.out).step b4)
    have E_4 := hid (bel_of (Below.alloc E_3.out E_3.out.size _) b4)
    clear b4
    obtain ⟨lt1, ft10, ft11, _, _, _⟩ := K1_4.out
    obtain ⟨lt2, ft20, ft21, _, _, _⟩ := K2_4.out
    obtain ⟨ltA, ftA0, ftA1, _, _, _⟩ := KA_4.out
    obtain ⟨ltB, ftB0, ftB1, _, _, _⟩ := KB_4.out
    obtain ⟨lt3, ft30, ft31, _, _, _⟩ := K3_4.out
    obtain ⟨rfl, q1, k1, m1⟩ := Q1.out.ok0
    obtain ⟨rfl, _, k2, m2⟩ := Q2.out.ok0
    obtain ⟨rfl, _, k3, m3⟩ := Q3.out.ok0
    obtain ⟨kA, kB, rfl⟩ := chk2_zero q1
    obtain ⟨z1, z2, _, gA⟩ := chk_zero kA
    have gB := (chk_zero kB).2.2.2
    have g1 := (chk_zero k1).2.2.2
    have g2 := (chk_zero k2).2.2.2
    have g3 := (chk_zero k3).2.2.2
    have e1 := cb_sum (f := f) (t := t) z1 f1 f2 g1 g2 gA gB (fun u => by rw [m1, m2]; cases mem lA u <;> cases mem lB u <;> rfl)
    have e2 := cb_all (f := f) (t := t) z1 f1 f2 g3 gA m3
    have b1 := cb_mono' (f := f) (t := t) z1 g1 f1 f2
    have b2 := cb_mono' (f := f) (t := t) z1 g2 f1 f2
    have bA := cb_mono' (f := f) (t := t) z1 gA f1 f2
    have bB := cb_mono' (f := f) (t := t) z1 gB f1 f2
    have b3 := cb_mono' (f := f) (t := t) z1 g3 f1 f2
    have C1 := hid (fun W (h : Below w4.heap.size w4 W) => count_ok _ f t a1 c1 r1 W (K1_4.out.sp.below h (Nat.le_refl _)) k1 f1 f2 f3)
    have C2 := hid (fun W (h : Below w4.heap.size w4 W) => count_ok _ f t a2 c2 r2 W (K2_4.out.sp.below h (Nat.le_refl _)) k2 f1 f2 f3)
    have C3 := hid (fun W (h : Below w4.heap.size w4 W) => count_ok _ f t a3 c3 r3 W (K3_4.out.sp.below h (Nat.le_refl _)) k3 f1 f2 f3)
    have CA := hid (fun W (h : Below w4.heap.size w4 W) => count_ok _ f t aA cA lA W (KA_4.out.sp.below h (Nat.le_refl _)) kA f1 f2 f3)
    have CB := hid (fun W (h : Below w4.heap.size w4 W) => count_ok _ f t aB cB lB W (KB_4.out.sp.below h (Nat.le_refl _)) kB f1 f2 f3)
    clear q1 k1 k2 k3 kA kB gA gB g1 g2 g3 m1 m2 m3 Q1 Q2 Q3
    generalize cb _ r1 t - cb _ r1 f = X1 at *
    generalize cb _ r2 t - cb _ r2 f = X2 at *
    generalize cb _ r3 t - cb _ r3 f = X3 at *
    generalize cb _ lA t - cb _ lA f = XA at *
    generalize cb _ lB t - cb _ lB f = XB at *
    have t1 : (X1 + X2 - XA - XB != 0) = false := by rw [bne_eq_false_iff_eq]; omega
    have t2 : (X3 + XA == t - f) = true := by rw [beq_iff_eq]; omega
    obtain ⟨b10, b11⟩ := b1
    obtain ⟨b20, b21⟩ := b2
    obtain ⟨bA0, bA1⟩ := bA
    obtain ⟨bB0, bB1⟩ := bB
    obtain ⟨b30, b31⟩ := b3
    clear e1 e2
    go_wp2_with fail
    clear lt1 ft10 ft11 lt2 ft20 ft21 ltA ftA0 ftA1 ltB ftB0 ftB1 lt3 ft30 ft31
    go_loopw [15, 72] (fun v15 v72 wr => ∃ k : Nat, k ≤ 6 ∧ v72 = .int .i64 k ∧ v15 = .int .i64 (mk6 X1 X2 XA XB X3 k) ∧ Below w4.heap.size w4 wr) (fun _ v72 _ => 6 - (intOf v72).toNat)
    case atStart => exact ⟨0, by omega, rfl, rfl, Below.refl _ _⟩
    case round =>
      obtain ⟨k, hk, rfl, rfl, hb⟩ := hrel
      have HB := hid hb
      have hsz := hb.size
      clear hb
      have hc : k = 0 ∨ k = 1 ∨ k = 2 ∨ k = 3 ∨ k = 4 ∨ k = 5 ∨ k = 6 := by omega
      rcases hc with rfl | rfl | rfl | rfl | rfl | rfl | rfl
      · have e0 : mk6 X1 X2 XA XB X3 0 = 0 := rfl
        rw [e0]
        have ix := idx6_0
        go_wp2_with fail
        refine (C1.out _ (Below.alloc HB.out hsz _)).mono ?_
        rintro e w9 ⟨rfl, b9⟩
        have HB9 := hid (bel_of (Below.alloc HB.out hsz _) b9)
        clear b9
        go_wp2_with fail
        go_roundw
        case rel => exact ⟨0 + 1, by omega, by go_num, by (first | rfl | (simp [mk6])), HB9.out⟩
        case measure => simp [intOf]
      · have e0 : mk6 X1 X2 XA XB X3 1 = X1 := rfl
        rw [e0]
        have ix := idx6_1
        go_wp2_with fail
        refine (C2.out _ (Below.alloc HB.out hsz _)).mono ?_
        rintro e w9 ⟨rfl, b9⟩
        have HB9 := hid (bel_of (Below.alloc HB.out hsz _) b9)
        clear b9
        go_wp2_with fail
        go_roundw
        case rel => exact ⟨1 + 1, by omega, by go_num, by (first | rfl | (simp [mk6])), HB9.out⟩
        case measure => simp [intOf]
      · have e0 : mk6 X1 X2 XA XB X3 2 = X1 + X2 := rfl
        rw [e0]
        have ix := idx6_2
        go_wp2_with fail
        refine (CA.out _ (Below.alloc HB.out hsz _)).mono ?_
        rintro e w9 ⟨rfl, b9⟩
        have HB9 := hid (bel_of (Below.alloc HB.out hsz _) b9)
        clear b9
        go_wp2_with fail
        go_roundw
        case rel => exact ⟨2 + 1, by omega, by go_num, by (first | rfl | (simp [mk6])), HB9.out⟩
        case measure => simp [intOf]
      · have e0 : mk6 X1 X2 XA XB X3 3 = X1 + X2 - XA := rfl
        rw [e0]
        have ix := idx6_3
        go_wp2_with fail
        refine (CB.out _ (Below.alloc HB.out hsz _)).mono ?_
        rintro e w9 ⟨rfl, b9⟩
        have HB9 := hid (bel_of (Below.alloc HB.out hsz _) b9)
        clear b9
        go_wp2_with fail
        go_roundw
        case rel => exact ⟨3 + 1, by omega, by go_num, by (first | rfl | (simp [mk6])), HB9.out⟩
        case measure => simp [intOf]
      · have e0 : mk6 X1 X2 XA XB X3 4 = X1 + X2 - XA - XB := rfl
        rw [e0]
        have ix := idx6_4
        go_wp2_with fail
        refine (C3.out _ (Below.alloc HB.out hsz _)).mono ?_
        rintro e w9 ⟨rfl, b9⟩
        have HB9 := hid (bel_of (Below.alloc HB.out hsz _) b9)
        clear b9
        go_wp2_with fail
        go_roundw
        case rel => exact ⟨4 + 1, by omega, by go_num, by (first | rfl | (simp [mk6])), HB9.out⟩
        case measure => simp [intOf]
      · have e0 : mk6 X1 X2 XA XB X3 5 = X3 := rfl
        rw [e0]
        have ix := idx6_5
        go_wp2_with fail
        refine (CA.out _ (Below.alloc HB.out hsz _)).mono ?_
        rintro e w9 ⟨rfl, b9⟩
        have HB9 := hid (bel_of (Below.alloc HB.out hsz _) b9)
        clear b9
        go_wp2_with fail
        go_roundw
        case rel => exact ⟨5 + 1, by omega, by go_num, by (first | rfl | (simp [mk6])), HB9.out⟩
        case measure => simp [intOf]
      · have e0 : mk6 X1 X2 XA XB X3 6 = X3 + XA := rfl
        rw [e0]
        go_wp2_with fail
        go_ret
        exact ⟨by (first | rfl | simp only [t2]), bel_of E_4.out HB.out⟩
  · skip
    have d0 : (er1 != 0) = true := by simp [d]
    clear d
    go_wp2_with fail
    refine (lives _).mono ?_
    rintro e w4 ⟨rfl, b4⟩
    have KA_4 := hid ((KA_3.out.alloc _).step b4)
    have KB_4 := hid ((KB_3.out.alloc _).step b4)
    have K1_4 := hid ((K1_3.out.alloc _).step b4)
    have K2_4 := hid ((K2_3.out.alloc _).step b4)
    have K3_4 := hid ((Cell.new S3.out N3.out M3.out).step b4)
    have E_4 := hid (bel_of (Below.alloc E_3.out E_3.out.size _) b4)
    clear b4
    go_wp2_with fail
    refine (lives _).mono ?_
    rintro e w5 ⟨rfl, b5⟩
    have KA_5 := hid (KA_4.out.step b5)
    have KB_5 := hid (KB_4.out.step b5)
    have K1_5 := hid (K1_4.out.step b5)
    have K2_5 := hid (K2_4.out.step b5)
    have K3_5 := hid (K3_4.out.step b5)
    have E_5 := hid (bel_of E_4.out b5)
    clear b5
    go_wp2_with fail
    go_ret
    exact ⟨by first | rfl | simp, E_5.out⟩
  · skip
    have d0 : (er2 != 0) = true := by simp [d]
    clear d
    go_wp2_with fail
    refine (lives _).mono ?_
    rintro e w4 ⟨rfl, b4⟩
    have KA_4 := hid ((KA_3.out.alloc _).step b4)
    have KB_4 := hid ((KB_3.out.alloc _).step b4)
    have K1_4 := hid ((K1_3.out.alloc _).step b4)
    have K2_4 := hid ((K2_3.out.alloc _).step b4)
    have K3_4 := hid ((Cell.new S3.out N3.out M3.out).step b4)
    have E_4 := hid (bel_of (Below.alloc E_3.out E_3.out.size _) b4)
    clear b4
    go_wp2_with fail
    refine (lives _).mono ?_
    rintro e w5 ⟨rfl, b5⟩
    have KA_5 := hid (KA_4.out.step b5)
    have KB_5 := hid (KB_4.out.step b5)
    have K1_5 := hid (K1_4.out.step b5)
    have K2_5 := hid (K2_4.out.step b5)
    have K3_5 := hid (K3_4.out.step b5)
    have E_5 := hid (bel_of E_4.out b5)
    clear b5
    go_wp2_with fail
    go_ret
    exact ⟨by first | rfl | simp, E_5.out⟩
  · skip
    have d0 : (er3 != 0) = true := by simp [d]
    clear d
    go_wp2_with fail
    refine (lives _).mono ?_
    rintro e w4 ⟨rfl, b4⟩
    have KA_4 := hid ((KA_3.out.alloc _).step b4)
    have KB_4 := hid ((KB_3.out.alloc _).step b4)
    have K1_4 := hid ((K1_3.out.alloc _).step b4)
    have K2_4 := hid ((K2_3.out.alloc _).step b4)
    have K3_4 := hid ((Cell.new S3.out N3.out M3.out).step b4)
    have E_4 := hid (bel_of (Below.alloc E_3.out E_3.out.size _) b4)
    clear b4
    go_wp2_with fail
    refine (lives _).mono ?_
    rintro e w5 ⟨rfl, b5⟩
    have KA_5 := hid (KA_4.out.step b5)
    have KB_5 := hid (KB_4.out.step b5)
    have K1_5 := hid (K1_4.out.step b5)
    have K2_5 := hid (K2_4.out.step b5)
    have K3_5 := hid (K3_4.out.step b5)
    have E_5 := hid (bel_of E_4.out b5)
    clear b5
    go_wp2_with fail
    go_ret
    exact ⟨by first | rfl | simp, E_5.out⟩
  · skip
    go_wp2_with fail
    refine (lives _).mono ?_
    rintro e w4 ⟨rfl, b4⟩
    have KA_4 := hid ((KA_3.out.alloc _).step b4)
    have KB_4 := hid ((KB_3.out.alloc _).step b4)
    have K1_4 := hid ((K1_3.out.alloc _).step b4)
    have K2_4 := hid ((K2_3.out.alloc _).step b4)
    have K3_4 := hid ((Cell.new S3.out N3.out M3.out).step b4)
    have E_4 := hid (bel_of (Below.alloc E_3.out E_3.out.size _) b4)
    clear b4
    go_wp2_with fail
    refine (lives _).mono ?_
    rintro e w5 ⟨rfl, b5⟩
    have KA_5 := hid (KA_4.out.step b5)
    have KB_5 := hid (KB_4.out.step b5)
    have K1_5 := hid (K1_4.out.step b5)
    have K2_5 := hid (K2_4.out.step b5)
    have K3_5 := hid (K3_4.out.step b5)
    have E_5 := hid (bel_of E_4.out b5)
    clear b5
    go_wp2_with fail
    go_ret
    exact ⟨by first | rfl | simp, E_5.out⟩
  · skip
    go_wp2_with fail
    refine (lives _).mono ?_
    rintro e w4 ⟨rfl, b4⟩
    have KA_4 := hid ((KA_3.out.alloc _).step b4)
    have KB_4 := hid ((KB_3.out.alloc _).step b4)
    have K1_4 := hid ((K1_3.out.alloc _).step b4)
    have K2_4 := hid ((K2_3.out.alloc _).step b4)
    have K3_4 := hid ((Cell.new S3.out N3.out M3.out).step b4)
    have E_4 := hid (bel_of (Below.alloc E_3.out E_3.out.size _) b4)
    clear b4
    go_wp2_with fail
    refine (lives _).mono ?_
    rintro e w5 ⟨rfl, b5⟩
    have KA_5 := hid (KA_4.out.step b5)
    have KB_5 := hid (KB_4.out.step b5)
    have K1_5 := hid (K1_4.out.step b5)
    have K2_5 := hid (K2_4.out.step b5)
    have K3_5 := hid (K3_4.out.step b5)
    have E_5 := hid (bel_of E_4.out b5)
    clear b5
    go_wp2_with fail
    go_ret
    exact ⟨by first | rfl | simp, E_5.out⟩
  · skip
    go_wp2_with fail
    refine (lives _).mono ?_
    rintro e w4 ⟨rfl, b4⟩
    have KA_4 := hid ((KA_3.out.alloc _).step b4)
    have KB_4 := hid ((KB_3.out.alloc _).step b4)
    have K1_4 := hid ((K1_3.out.alloc _).step b4)
    have K2_4 := hid ((K2_3.out.alloc _).step b4)
    have K3_4 := hid ((Cell.new S3.out N3.out M3.out).step b4)
    have E_4 := hid (bel_of (Below.alloc E_3.out E_3.out.size _) b4)
    clear b4
    go_wp2_with fail
    refine (lives _).mono ?_
    rintro e w5 ⟨rfl, b5⟩
    have KA_5 := hid (KA_4.out.step b5)
    have KB_5 := hid (KB_4.out.step b5)
    have K1_5 := hid (K1_4.out.step b5)
    have K2_5 := hid (K2_4.out.step b5)
    have K3_5 := hid (K3_4.out.step b5)
    have E_5 := hid (bel_of E_4.out b5)
    clear b5
    go_wp2_with fail
    go_ret
    exact ⟨by first | rfl | simp, E_5.out⟩
theorem spanMeasure_walk (sA : Int) (aA : Option Addr) (lenA cA : Nat) (lA : List Sp) (sB : Int) (aB : Option Addr) (lenB cB : Nat) (lB : List Sp) (f t : Int) (w : World) (h1 : wf64 sA) (h2 : IsSps w aA lenA cA lA) (h3 : wf64 sB) (h4 : IsSps w aB lenB cB lB) (h5 : wf64 f) (h6 : wf64 t) :
    Calls Try.prog 7 #[.agg #[.int .i64 sA, .slice aA lenA cA], .agg #[.int .i64 sB, .slice aB lenB cB], .int .i64 f, .int .i64 t] w fun e w' => e = .returned (.bool true) ∧ Below w.heap.size w w' := by
  obtain ⟨rfl, x1, x2, x3, x4, _⟩ := h2
  obtain ⟨rfl, y1, y2, y3, y4, _⟩ := h4
  exact measure_any sA sB f t aA aB cA cB lA lB w x3 y3 (fun h => (x4 h).2) (fun h => (y4 h).2) (Nat.le_trans x1 x2) (Nat.le_trans y1 y2)
end SpanC
end Go.Proofs.Ytlhkjdghefbnfaa
