/- The walk of SpanAlgebra. -/
import Derived.Test.YtlhkjdghefbnfaaSpanK
set_option linter.unusedVariables false
namespace Go.Proofs.Ytlhkjdghefbnfaa
open Go.RowKit
open SpanM
namespace SpanC
theorem same_cells {W : World} {b1 b2 : Nat} {s : Int} {a1 a2 : Option Addr} {c1 c2 : Nat} {l : List Sp} (h1 : Cell W b1 s a1 c1 l) (h2 : Cell W b2 s a2 c2 l) :
    Calls Try.prog 20 #[.agg #[.int .i64 s, .slice a1 l.length c1], .agg #[.int .i64 s, .slice a2 l.length c2]] W fun e w' => e = .returned (.bool true) ∧ Below W.heap.size W w' := by
  have := same_any s s a1 a2 c1 c2 l l W h1.sp h2.sp h1.ml h2.ml
  rwa [decide_eq_true ⟨rfl, rfl⟩] at this
theorem equal_cell {W : World} {b g : Nat} {s u v : Int} {a : Option Addr} {c : Nat} (h : Cell W b s a c [(u, v)]) (h1 : W.cell? ⟨g, 0, none⟩ = some (.int .i64 u)) (h2 : W.cell? ⟨g, 1, none⟩ = some (.int .i64 v)) :
    Calls Try.prog 33 #[.slice a 1 c, .slice (some ⟨g, 0, none⟩) 1 1] W fun e w' => e = .returned (.bool true) ∧ Below W.heap.size W w' := by
  have hq : Sps W (some ⟨g, 0, none⟩) [(u, v)] := by
    refine .inr ⟨_, 0, rfl, fun i hi => ?_⟩
    match i, hi with
    | 0, _ => exact ⟨h1, h2⟩
  have := equal_below a (some ⟨g, 0, none⟩) c 1 [(u, v)] [(u, v)] W h.sp hq (by simp [maxLen]) (by simp [maxLen])
  rwa [decide_eq_true rfl] at this
set_option maxRecDepth 20000 in
set_option maxHeartbeats 8000000 in
theorem algebra_any (sA sB : Int) (aA aB : Option Addr) (cA cB : Nat) (lA lB : List Sp) (w : World) (spA : Sps w aA lA) (spB : Sps w aB lB) (nzA : aA = none → cA = 0) (nzB : aB = none → cB = 0) (mlA : lA.length ≤ maxLen) (mlB : lB.length ≤ maxLen) :
    Calls Try.prog 6 #[.agg #[.int .i64 sA, .slice aA lA.length cA], .agg #[.int .i64 sB, .slice aB lB.length cB]] w fun e w' => e = .returned (.bool true) ∧ Below w.heap.size w w' := by
  have KA0 := hid ((Cell.new (s := sA) spA nzA mlA).alloc (.cells #[.int .i64 sB, .slice aB lB.length cB] 24))
  have KB0 := hid (Cell.new' (b := w.heap.size + 1) (s := sB) (W := w.alloc (.cells #[.int .i64 sA, .slice aA lA.length cA] 24)) (by simp) (spB.below (Below.alloc (Below.refl _ _) (Nat.le_refl _) _) (Nat.le_refl _)) nzB mlB)
  have E0 := hid (Below.alloc (Below.alloc (Below.refl w.heap.size w) (Nat.le_refl _) (.cells #[.int .i64 sA, .slice aA lA.length cA] 24)) (by simp) (.cells #[.int .i64 sB, .slice aB lB.length cB] 24))
  clear spA spB nzA nzB mlA mlB
  go_enter Try.func6, Try.ntmps6
  go_wp2_with fail
  refine (both_says KA0.out KB0.out).mono ?_
  rintro e w1 ⟨⟨s1, a1, c1, r1, er1, rfl, hs1, hn1, hm1, hA1⟩, b1⟩
  have Q1 := hid hA1
  have KA_1 := hid (KA0.out.step b1)
  have KB_1 := hid (KB0.out.step b1)
  have E_1 := hid (bel_of E0.out b1)
  have S1 := hid hs1
  have N1 := hid hn1
  have M1 := hid hm1
  clear hs1 hn1 hm1 hA1 b1
  obtain ⟨ltA, ftA0, ftA1, _, _, _⟩ := KA_1.out
  obtain ⟨ltB, ftB0, ftB1, _, _, _⟩ := KB_1.out
  go_wp2_with fail
  refine (both_says (KB_1.out.alloc _) (KA_1.out.alloc _)).mono ?_
  rintro e w2 ⟨⟨s2, a2, c2, r2, er2, rfl, hs2, hn2, hm2, hA2⟩, b2⟩
  clear ltA ftA0 ftA1 ltB ftB0 ftB1
  have Q2 := hid hA2
  have KA_2 := hid ((KA_1.out.alloc _).step b2)
  have KB_2 := hid ((KB_1.out.alloc _).step b2)
  have K1_2 := hid ((Cell.new S1.out N1.out M1.out).step b2)
  have E_2 := hid (bel_of (Below.alloc E_1.out E_1.out.size _) b2)
  have S2 := hid hs2
  have N2 := hid hn2
  have M2 := hid hm2
  clear hs2 hn2 hm2 hA2 b2
  obtain ⟨ltA, ftA0, ftA1, _, _, _⟩ := KA_2.out
  obtain ⟨ltB, ftB0, ftB1, _, _, _⟩ := KB_2.out
  go_wp2_with fail
  refine (either_says (KA_2.out.alloc _) (KB_2.out.alloc _)).mono ?_
  rintro e w3 ⟨⟨s3, a3, c3, r3, er3, rfl, hs3, hn3, hm3, hA3⟩, b3⟩
  clear ltA ftA0 ftA1 ltB ftB0 ftB1
  have Q3 := hid hA3
  have KA_3 := hid ((KA_2.out.alloc _).step b3)
  have KB_3 := hid ((KB_2.out.alloc _).step b3)
  have K1_3 := hid ((K1_2.out.alloc _).step b3)
  have K2_3 := hid ((Cell.new S2.out N2.out M2.out).step b3)
  have E_3 := hid (bel_of (Below.alloc E_2.out E_2.out.size _) b3)
  have S3 := hid hs3
  have N3 := hid hn3
  have M3 := hid hm3
  clear hs3 hn3 hm3 hA3 b3
  obtain ⟨ltA, ftA0, ftA1, _, _, _⟩ := KA_3.out
  go_wp2_with fail
  refine (not_says (KA_3.out.alloc _)).mono ?_
  rintro e w4 ⟨⟨s4, a4, c4, r4, er4, rfl, hs4, hn4, hm4, hA4⟩, b4⟩
  clear ltA ftA0 ftA1
  have Q4 := hid hA4
  have KA_4 := hid ((KA_3.out.alloc _).step b4)
  have KB_4 := hid ((KB_3.out.alloc _).step b4)
  have K1_4 := hid ((K1_3.out.alloc _).step b4)
  have K2_4 := hid ((K2_3.out.alloc _).step b4)
  have K3_4 := hid ((Cell.new S3.out N3.out M3.out).step b4)
  have E_4 := hid (bel_of (Below.alloc E_3.out E_3.out.size _) b4)
  have S4 := hid hs4
  have N4 := hid hn4
  have M4 := hid hm4
  clear hs4 hn4 hm4 hA4 b4
  obtain ⟨ltB, ftB0, ftB1, _, _, _⟩ := KB_4.out
  go_wp2_with fail
  refine (not_says (KB_4.out.alloc _)).mono ?_
  rintro e w5 ⟨⟨s5, a5, c5, r5, er5, rfl, hs5, hn5, hm5, hA5⟩, b5⟩
  clear ltB ftB0 ftB1
  have Q5 := hid hA5
  have KA_5 := hid ((KA_4.out.alloc _).step b5)
  have KB_5 := hid ((KB_4.out.alloc _).step b5)
  have K1_5 := hid ((K1_4.out.alloc _).step b5)
  have K2_5 := hid ((K2_4.out.alloc _).step b5)
  have K3_5 := hid ((K3_4.out.alloc _).step b5)
  have K4_5 := hid ((Cell.new S4.out N4.out M4.out).step b5)
  have E_5 := hid (bel_of (Below.alloc E_4.out E_4.out.size _) b5)
  have S5 := hid hs5
  have N5 := hid hn5
  have M5 := hid hm5
  clear hs5 hn5 hm5 hA5 b5
  have hsw := Q1.out.same Q2.out chk2_comm (fun h => ⟨(chk2_zero h).2.2, fun t => Bool.and_comm _ _⟩)
  have HSW := hid hsw
  clear hsw
  have D : (er1 = 0 ∧ er3 = 0 ∧ er4 = 0 ∧ er5 = 0) ∨ er1 ≠ 0 ∨ (er1 = 0 ∧ er3 ≠ 0) ∨ (er1 = 0 ∧ er3 = 0 ∧ er4 ≠ 0) ∨ (er1 = 0 ∧ er3 = 0 ∧ er4 = 0 ∧ er5 ≠ 0) := by omega
  rcases D with ⟨rfl, rfl, rfl, rfl⟩ | d | ⟨rfl, d⟩ | ⟨rfl, rfl, d⟩ | ⟨rfl, rfl, rfl, d⟩
  · skip
    obtain rfl : er2 = 0 := HSW.out.1.1 rfl
    obtain ⟨ha2, hb2⟩ := HSW.out.2 rfl
    obtain ⟨h1, q1, k1, m1⟩ := Q1.out.ok0
    obtain ⟨h3, _, k3, m3⟩ := Q3.out.ok0
    obtain ⟨h4, _, k4, m4⟩ := Q4.out.ok0
    obtain ⟨h5, _, k5, m5⟩ := Q5.out.ok0
    obtain ⟨kA, kB, h0⟩ := chk2_zero q1
    subst h0
    subst ha2
    subst hb2
    replace h1 := h1.symm
    replace h3 := h3.symm
    replace h4 := h4.symm
    replace h5 := h5.symm
    subst h1
    subst h3
    subst h4
    subst h5
    have RA := fun u => chk_range kA u
    have RB := fun u => chk_range kB u
    have H := hid (And.intro kA (And.intro kB (And.intro k1 (And.intro k3 (And.intro k4 k5)))))
    have HM := hid (And.intro m1 (And.intro m3 (And.intro m4 (And.intro m5 (And.intro RA RB)))))
    clear kA kB k1 k3 k4 k5 m1 m3 m4 m5 q1 RA RB Q1 Q2 Q3 Q4 Q5 HSW
    go_wp2_with fail
    refine (lives _).mono ?_
    rintro e w6 ⟨rfl, b6⟩
    have KA_6 := hid ((KA_5.out.alloc _).step b6)
    have KB_6 := hid ((KB_5.out.alloc _).step b6)
    have K1_6 := hid ((K1_5.out.alloc _).step b6)
    have K2_6 := hid ((K2_5.out.alloc _).step b6)
    have K3_6 := hid ((K3_5.out.alloc _).step b6)
    have K4_6 := hid ((K4_5.out.alloc _).step b6)
    have K5_6 := hid ((Cell.new S5.out N5.out M5.out).step b6)
    have E_6 := hid (bel_of (Below.alloc E_5.out E_5.out.size _) b6)
    clear b6
    obtain ⟨lt4, ft40, ft41, _, _, _⟩ := K4_6.out
    go_wp2_with fail
    refine (not_says K4_6.out).mono ?_
    rintro e w7 ⟨⟨s6, a6, c6, r6, er6, rfl, hs6, hn6, hm6, hA6⟩, b7⟩
    clear lt4 ft40 ft41
    have Q6 := hid hA6
    have KA_7 := hid (KA_6.out.step b7)
    have KB_7 := hid (KB_6.out.step b7)
    have K1_7 := hid (K1_6.out.step b7)
    have K2_7 := hid (K2_6.out.step b7)
    have K3_7 := hid (K3_6.out.step b7)
    have K4_7 := hid (K4_6.out.step b7)
    have K5_7 := hid (K5_6.out.step b7)
    have E_7 := hid (bel_of E_6.out b7)
    have S6 := hid hs6
    have N6 := hid hn6
    have M6 := hid hm6
    clear hs6 hn6 hm6 hA6 b7
    obtain ⟨ltA, ftA0, ftA1, _, _, _⟩ := KA_7.out
    obtain ⟨lt4, ft40, ft41, _, _, _⟩ := K4_7.out
    obtain ⟨rfl, hs6, hr6⟩ := Q6.out.is (r0 := lA) H.out.2.2.2.2.1 H.out.1 (fun u => by
      obtain ⟨_, _, m4, _, RA, _⟩ := HM.out
      unfold notP
      rw [m4 u, notP, RA u]
      cases decide (0 ≤ u ∧ u < sA) <;> cases mem lA u <;> rfl)
    replace hr6 := hr6.symm
    replace hs6 := hs6.symm
    subst hr6
    subst hs6
    clear Q6
    go_wp2_with fail
    refine (both_says (KA_7.out.alloc _) (K4_7.out.alloc _)).mono ?_
    rintro e w8 ⟨⟨s7, a7, c7, r7, er7, rfl, hs7, hn7, hm7, hA7⟩, b8⟩
    clear ltA ftA0 ftA1 lt4 ft40 ft41
    have Q7 := hid hA7
    have KA_8 := hid ((KA_7.out.alloc _).step b8)
    have KB_8 := hid ((KB_7.out.alloc _).step b8)
    have K1_8 := hid ((K1_7.out.alloc _).step b8)
    have K2_8 := hid ((K2_7.out.alloc _).step b8)
    have K3_8 := hid ((K3_7.out.alloc _).step b8)
    have K4_8 := hid ((K4_7.out.alloc _).step b8)
    have K5_8 := hid ((K5_7.out.alloc _).step b8)
    have K6_8 := hid ((Cell.new S6.out N6.out M6.out).step b8)
    have E_8 := hid (bel_of (Below.alloc E_7.out E_7.out.size _) b8)
    have S7 := hid hs7
    have N7 := hid hn7
    have M7 := hid hm7
    clear hs7 hn7 hm7 hA7 b8
    obtain ⟨ltA, ftA0, ftA1, _, _, _⟩ := KA_8.out
    obtain ⟨lt4, ft40, ft41, _, _, _⟩ := K4_8.out
    obtain ⟨rfl, hs7, hr7⟩ := Q7.out.is (r0 := []) (chk2_of H.out.1 H.out.2.2.2.2.1) (chk_of (chk_zero H.out.1).1 (chk_zero H.out.1).2.1 (by simp) rfl) (fun u => by
      obtain ⟨_, _, m4, _, RA, _⟩ := HM.out
      rw [m4 u, notP]
      cases decide (0 ≤ u ∧ u < sA) <;> cases mem lA u <;> rfl)
    replace hr7 := hr7.symm
    replace hs7 := hs7.symm
    subst hr7
    subst hs7
    clear Q7
    go_wp2_with fail
    refine (either_says (KA_8.out.alloc _) (K4_8.out.alloc _)).mono ?_
    rintro e w9 ⟨⟨s8, a8, c8, r8, er8, rfl, hs8, hn8, hm8, hA8⟩, b9⟩
    clear ltA ftA0 ftA1 lt4 ft40 ft41
    have Q8 := hid hA8
    have KA_9 := hid ((KA_8.out.alloc _).step b9)
    have KB_9 := hid ((KB_8.out.alloc _).step b9)
    have K1_9 := hid ((K1_8.out.alloc _).step b9)
    have K2_9 := hid ((K2_8.out.alloc _).step b9)
    have K3_9 := hid ((K3_8.out.alloc _).step b9)
    have K4_9 := hid ((K4_8.out.alloc _).step b9)
    have K5_9 := hid ((K5_8.out.alloc _).step b9)
    have K6_9 := hid ((K6_8.out.alloc _).step b9)
    have K7_9 := hid ((Cell.new S7.out N7.out M7.out).step b9)
    have E_9 := hid (bel_of (Below.alloc E_8.out E_8.out.size _) b9)
    have S8 := hid hs8
    have N8 := hid hn8
    have M8 := hid hm8
    clear hs8 hn8 hm8 hA8 b9
    obtain ⟨ltA, ftA0, ftA1, _, _, _⟩ := KA_9.out
    obtain ⟨lt1, ft10, ft11, _, _, _⟩ := K1_9.out
    obtain ⟨rfl, hs8, hr8⟩ := Q8.out.is (r0 := [(0, sA)]) (chk2_of H.out.1 H.out.2.2.2.2.1) (chk_of (chk_zero H.out.1).1 (chk_zero H.out.1).2.1 (by simp) (good_cons.2 ⟨by simp, by have := (chk_zero H.out.1).1; simp; omega, by simp, rfl⟩)) (fun u => by
      obtain ⟨_, _, m4, _, RA, _⟩ := HM.out
      rw [m4 u, notP, mem_cons, RA u]
      simp only [mem_nil, Bool.or_false]
      cases decide (0 ≤ u ∧ u < sA) <;> cases mem lA u <;> rfl)
    replace hr8 := hr8.symm
    replace hs8 := hs8.symm
    subst hr8
    subst hs8
    clear Q8
    go_wp2_with fail
    refine (either_says (KA_9.out.alloc _) (K1_9.out.alloc _)).mono ?_
    rintro e w10 ⟨⟨s9, a9, c9, r9, er9, rfl, hs9, hn9, hm9, hA9⟩, b10⟩
    clear ltA ftA0 ftA1 lt1 ft10 ft11
    have Q9 := hid hA9
    have KA_10 := hid ((KA_9.out.alloc _).step b10)
    have KB_10 := hid ((KB_9.out.alloc _).step b10)
    have K1_10 := hid ((K1_9.out.alloc _).step b10)
    have K2_10 := hid ((K2_9.out.alloc _).step b10)
    have K3_10 := hid ((K3_9.out.alloc _).step b10)
    have K4_10 := hid ((K4_9.out.alloc _).step b10)
    have K5_10 := hid ((K5_9.out.alloc _).step b10)
    have K6_10 := hid ((K6_9.out.alloc _).step b10)
    have K7_10 := hid ((K7_9.out.alloc _).step b10)
    have K8_10 := hid ((Cell.new S8.out N8.out M8.out).step b10)
    have E_10 := hid (bel_of (Below.alloc E_9.out E_9.out.size _) b10)
    have S9 := hid hs9
    have N9 := hid hn9
    have M9 := hid hm9
    clear hs9 hn9 hm9 hA9 b10
    obtain ⟨ltA, ftA0, ftA1, _, _, _⟩ := KA_10.out
    obtain ⟨lt3, ft30, ft31, _, _, _⟩ := K3_10.out
    obtain ⟨rfl, hs9, hr9⟩ := Q9.out.is (r0 := lA) (chk2_of H.out.1 H.out.2.2.1) H.out.1 (fun u => by
      obtain ⟨m1, _⟩ := HM.out
      rw [m1 u]
      cases mem lA u <;> simp)
    replace hr9 := hr9.symm
    replace hs9 := hs9.symm
    subst hr9
    subst hs9
    clear Q9
    go_wp2_with fail
    refine (both_says (KA_10.out.alloc _) (K3_10.out.alloc _)).mono ?_
    rintro e w11 ⟨⟨s10, a10, c10, r10, er10, rfl, hs10, hn10, hm10, hA10⟩, b11⟩
    clear ltA ftA0 ftA1 lt3 ft30 ft31
    have Q10 := hid hA10
    have KA_11 := hid ((KA_10.out.alloc _).step b11)
    have KB_11 := hid ((KB_10.out.alloc _).step b11)
    have K1_11 := hid ((K1_10.out.alloc _).step b11)
    have K2_11 := hid ((K2_10.out.alloc _).step b11)
    have K3_11 := hid ((K3_10.out.alloc _).step b11)
    have K4_11 := hid ((K4_10.out.alloc _).step b11)
    have K5_11 := hid ((K5_10.out.alloc _).step b11)
    have K6_11 := hid ((K6_10.out.alloc _).step b11)
    have K7_11 := hid ((K7_10.out.alloc _).step b11)
    have K8_11 := hid ((K8_10.out.alloc _).step b11)
    have K9_11 := hid ((Cell.new S9.out N9.out M9.out).step b11)
    have E_11 := hid (bel_of (Below.alloc E_10.out E_10.out.size _) b11)
    have S10 := hid hs10
    have N10 := hid hn10
    have M10 := hid hm10
    clear hs10 hn10 hm10 hA10 b11
    obtain ⟨lt1, ft10, ft11, _, _, _⟩ := K1_11.out
    obtain ⟨lt2, ft20, ft21, _, _, _⟩ := K2_11.out
    obtain ⟨lt6, ft60, ft61, _, _, _⟩ := K6_11.out
    obtain ⟨ltA, ftA0, ftA1, _, _, _⟩ := KA_11.out
    obtain ⟨lt7, ft70, ft71, _, _, _⟩ := K7_11.out
    obtain ⟨lt9, ft90, ft91, _, _, _⟩ := K9_11.out
    obtain ⟨rfl, hs10, hr10⟩ := Q10.out.is (r0 := lA) (chk2_of H.out.1 H.out.2.2.2.1) H.out.1 (fun u => by
      obtain ⟨_, m3, _⟩ := HM.out
      rw [m3 u]
      cases mem lA u <;> simp)
    replace hr10 := hr10.symm
    replace hs10 := hs10.symm
    subst hr10
    subst hs10
    clear Q10
    go_wp2_with fail
    refine (same_cells (K1_11.out.alloc _) (K2_11.out.alloc _)).mono ?_
    rintro e w12 ⟨rfl, b12⟩
    clear lt1 ft10 ft11 lt2 ft20 ft21 lt6 ft60 ft61 ltA ftA0 ftA1 lt7 ft70 ft71 lt9 ft90 ft91
    have KA_12 := hid ((KA_11.out.alloc _).step b12)
    have KB_12 := hid ((KB_11.out.alloc _).step b12)
    have K1_12 := hid ((K1_11.out.alloc _).step b12)
    have K2_12 := hid ((K2_11.out.alloc _).step b12)
    have K3_12 := hid ((K3_11.out.alloc _).step b12)
    have K4_12 := hid ((K4_11.out.alloc _).step b12)
    have K5_12 := hid ((K5_11.out.alloc _).step b12)
    have K6_12 := hid ((K6_11.out.alloc _).step b12)
    have K7_12 := hid ((K7_11.out.alloc _).step b12)
    have K8_12 := hid ((K8_11.out.alloc _).step b12)
    have K9_12 := hid ((K9_11.out.alloc _).step b12)
    have K10_12 := hid ((Cell.new S10.out N10.out M10.out).step b12)
    have E_12 := hid (bel_of (Below.alloc E_11.out E_11.out.size _) b12)
    clear b12
    obtain ⟨lt6, ft60, ft61, _, _, _⟩ := K6_12.out
    obtain ⟨ltA, ftA0, ftA1, _, _, _⟩ := KA_12.out
    go_wp2_with fail
    refine (same_cells K6_12.out KA_12.out).mono ?_
    rintro e w13 ⟨rfl, b13⟩
    clear lt6 ft60 ft61 ltA ftA0 ftA1
    have KA_13 := hid (KA_12.out.step b13)
    have KB_13 := hid (KB_12.out.step b13)
    have K1_13 := hid (K1_12.out.step b13)
    have K2_13 := hid (K2_12.out.step b13)
    have K3_13 := hid (K3_12.out.step b13)
    have K4_13 := hid (K4_12.out.step b13)
    have K5_13 := hid (K5_12.out.step b13)
    have K6_13 := hid (K6_12.out.step b13)
    have K7_13 := hid (K7_12.out.step b13)
    have K8_13 := hid (K8_12.out.step b13)
    have K9_13 := hid (K9_12.out.step b13)
    have K10_13 := hid (K10_12.out.step b13)
    have E_13 := hid (bel_of E_12.out b13)
    clear b13
    obtain ⟨lt7, ft70, ft71, _, _, _⟩ := K7_13.out
    obtain ⟨lt9, ft90, ft91, _, _, _⟩ := K9_13.out
    obtain ⟨ltA, ftA0, ftA1, _, _, _⟩ := KA_13.out
    go_wp2_with fail
    refine (same_cells K9_13.out KA_13.out).mono ?_
    rintro e w14 ⟨rfl, b14⟩
    clear lt7 ft70 ft71 lt9 ft90 ft91 ltA ftA0 ftA1
    have KA_14 := hid (KA_13.out.step b14)
    have KB_14 := hid (KB_13.out.step b14)
    have K1_14 := hid (K1_13.out.step b14)
    have K2_14 := hid (K2_13.out.step b14)
    have K3_14 := hid (K3_13.out.step b14)
    have K4_14 := hid (K4_13.out.step b14)
    have K5_14 := hid (K5_13.out.step b14)
    have K6_14 := hid (K6_13.out.step b14)
    have K7_14 := hid (K7_13.out.step b14)
    have K8_14 := hid (K8_13.out.step b14)
    have K9_14 := hid (K9_13.out.step b14)
    have K10_14 := hid (K10_13.out.step b14)
    have E_14 := hid (bel_of E_13.out b14)
    clear b14
    obtain ⟨lt10, ft100, ft101, _, _, _⟩ := K10_14.out
    obtain ⟨ltA, ftA0, ftA1, _, _, _⟩ := KA_14.out
    go_wp2_with fail
    refine (same_cells K10_14.out KA_14.out).mono ?_
    rintro e w15 ⟨rfl, b15⟩
    clear lt10 ft100 ft101 ltA ftA0 ftA1
    have KA_15 := hid (KA_14.out.step b15)
    have KB_15 := hid (KB_14.out.step b15)
    have K1_15 := hid (K1_14.out.step b15)
    have K2_15 := hid (K2_14.out.step b15)
    have K3_15 := hid (K3_14.out.step b15)
    have K4_15 := hid (K4_14.out.step b15)
    have K5_15 := hid (K5_14.out.step b15)
    have K6_15 := hid (K6_14.out.step b15)
    have K7_15 := hid (K7_14.out.step b15)
    have K8_15 := hid (K8_14.out.step b15)
    have K9_15 := hid (K9_14.out.step b15)
    have K10_15 := hid (K10_14.out.step b15)
    have E_15 := hid (bel_of E_14.out b15)
    clear b15
    obtain ⟨lt8, ft80, ft81, _, _, _⟩ := K8_15.out
    obtain ⟨ltA, ftA0, ftA1, _, _, _⟩ := KA_15.out
    go_wp2_with fail
    refine (equal_cell (K8_15.out.alloc _) (World.cell?_alloc_at _ _ _ _ rfl) (World.cell?_alloc_at _ _ _ _ rfl)).mono ?_
    rintro e w16 ⟨rfl, b16⟩
    clear lt8 ft80 ft81 ltA ftA0 ftA1
    have K1_16 := hid ((K1_15.out.alloc _).step b16)
    have K4_16 := hid ((K4_15.out.alloc _).step b16)
    have K5_16 := hid ((K5_15.out.alloc _).step b16)
    have E_16 := hid (bel_of (Below.alloc E_15.out E_15.out.size _) b16)
    clear b16
    obtain ⟨lt1, ft10, ft11, _, _, _⟩ := K1_16.out
    go_wp2_with fail
    refine (not_says K1_16.out).mono ?_
    rintro e w17 ⟨⟨s11, a11, c11, r11, er11, rfl, hs11, hn11, hm11, hA11⟩, b17⟩
    clear lt1 ft10 ft11
    have Q11 := hid hA11
    have K4_17 := hid (K4_16.out.step b17)
    have K5_17 := hid (K5_16.out.step b17)
    have E_17 := hid (bel_of E_16.out b17)
    have S11 := hid hs11
    have N11 := hid hn11
    have M11 := hid hm11
    clear hs11 hn11 hm11 hA11 b17
    obtain ⟨lt4, ft40, ft41, _, _, _⟩ := K4_17.out
    obtain ⟨lt5, ft50, ft51, _, _, _⟩ := K5_17.out
    go_wp2_with fail
    refine (either_says (K4_17.out.alloc _) (K5_17.out.alloc _)).mono ?_
    rintro e w18 ⟨⟨s12, a12, c12, r12, er12, rfl, hs12, hn12, hm12, hA12⟩, b18⟩
    clear lt4 ft40 ft41 lt5 ft50 ft51
    have Q12 := hid hA12
    have K11_18 := hid ((Cell.new S11.out N11.out M11.out).step b18)
    have E_18 := hid (bel_of (Below.alloc E_17.out E_17.out.size _) b18)
    have S12 := hid hs12
    have N12 := hid hn12
    have M12 := hid hm12
    clear hs12 hn12 hm12 hA12 b18
    obtain ⟨lt11, ft110, ft111, _, _, _⟩ := K11_18.out
    have D2 : er11 ≠ 0 ∨ (er11 = 0 ∧ er12 ≠ 0) ∨ (er11 = 0 ∧ er12 = 0) := by omega
    rcases D2 with d | ⟨rfl, d⟩ | ⟨rfl, rfl⟩
    · have d0 : (er11 != 0) = true := by simp [d]
      clear d
      go_wp2_with fail
      go_ret
      exact ⟨by first | rfl | simp, Below.alloc E_18.out E_18.out.size _⟩
    · have d0 : (er12 != 0) = true := by simp [d]
      clear d
      go_wp2_with fail
      go_ret
      exact ⟨by first | rfl | simp, Below.alloc E_18.out E_18.out.size _⟩
    · have hsame := Q11.out.same Q12.out (Iff.intro (fun _ => chk2_of H.out.2.2.2.2.1 H.out.2.2.2.2.2) (fun _ => H.out.2.2.1)) (fun _ => ⟨rfl, fun u => by
        obtain ⟨m1, _, m4, m5, RA, RB⟩ := HM.out
        rw [notP, m1 u, m4 u, m5 u, notP, notP]
        cases decide (0 ≤ u ∧ u < sA) <;> cases mem lA u <;> cases mem lB u <;> rfl⟩)
      obtain ⟨h1, h2⟩ := hsame.2 rfl
      subst h1
      subst h2
      clear hsame Q11 Q12
      go_wp2_with fail
      refine (same_cells (K11_18.out.alloc _) (Cell.new S12.out N12.out M12.out)).mono ?_
      rintro e w19 ⟨rfl, b19⟩
      clear lt11 ft110 ft111
      have K11_19 := hid ((K11_18.out.alloc _).step b19)
      have K12_19 := hid ((Cell.new S12.out N12.out M12.out).step b19)
      have E_19 := hid (bel_of (Below.alloc E_18.out E_18.out.size _) b19)
      clear b19
      go_wp2_with fail
      go_ret
      exact ⟨by first | rfl | simp, E_19.out⟩
  · skip
    have d0 : (er1 != 0) = true := by simp [d]
    have d1 : er2 ≠ 0 := fun h => d (HSW.out.1.2 h)
    have d2 : (er1 == 0) = false := by simp [d]
    have d3 : (er2 == 0) = false := by simp [d1]
    clear d1 d
    go_wp2_with fail
    refine (lives _).mono ?_
    rintro e w6 ⟨rfl, b6⟩
    have KA_6 := hid ((KA_5.out.alloc _).step b6)
    have KB_6 := hid ((KB_5.out.alloc _).step b6)
    have K1_6 := hid ((K1_5.out.alloc _).step b6)
    have K2_6 := hid ((K2_5.out.alloc _).step b6)
    have K3_6 := hid ((K3_5.out.alloc _).step b6)
    have K4_6 := hid ((K4_5.out.alloc _).step b6)
    have K5_6 := hid ((Cell.new S5.out N5.out M5.out).step b6)
    have E_6 := hid (bel_of (Below.alloc E_5.out E_5.out.size _) b6)
    clear b6
    go_wp2_with fail
    refine (lives _).mono ?_
    rintro e w7 ⟨rfl, b7⟩
    have KA_7 := hid (KA_6.out.step b7)
    have KB_7 := hid (KB_6.out.step b7)
    have K1_7 := hid (K1_6.out.step b7)
    have K2_7 := hid (K2_6.out.step b7)
    have K3_7 := hid (K3_6.out.step b7)
    have K4_7 := hid (K4_6.out.step b7)
    have K5_7 := hid (K5_6.out.step b7)
    have E_7 := hid (bel_of E_6.out b7)
    clear b7
    go_wp2_with fail
    go_ret
    exact ⟨by first | rfl | simp, E_7.out⟩
  · skip
    have d0 : (er3 != 0) = true := by simp [d]
    obtain rfl : er2 = 0 := HSW.out.1.1 rfl
    clear d
    go_wp2_with fail
    refine (lives _).mono ?_
    rintro e w6 ⟨rfl, b6⟩
    have KA_6 := hid ((KA_5.out.alloc _).step b6)
    have KB_6 := hid ((KB_5.out.alloc _).step b6)
    have K1_6 := hid ((K1_5.out.alloc _).step b6)
    have K2_6 := hid ((K2_5.out.alloc _).step b6)
    have K3_6 := hid ((K3_5.out.alloc _).step b6)
    have K4_6 := hid ((K4_5.out.alloc _).step b6)
    have K5_6 := hid ((Cell.new S5.out N5.out M5.out).step b6)
    have E_6 := hid (bel_of (Below.alloc E_5.out E_5.out.size _) b6)
    clear b6
    go_wp2_with fail
    refine (lives _).mono ?_
    rintro e w7 ⟨rfl, b7⟩
    have KA_7 := hid (KA_6.out.step b7)
    have KB_7 := hid (KB_6.out.step b7)
    have K1_7 := hid (K1_6.out.step b7)
    have K2_7 := hid (K2_6.out.step b7)
    have K3_7 := hid (K3_6.out.step b7)
    have K4_7 := hid (K4_6.out.step b7)
    have K5_7 := hid (K5_6.out.step b7)
    have E_7 := hid (bel_of E_6.out b7)
    clear b7
    go_wp2_with fail
    go_ret
    exact ⟨by first | rfl | simp, E_7.out⟩
  · skip
    have d0 : (er4 != 0) = true := by simp [d]
    obtain rfl : er2 = 0 := HSW.out.1.1 rfl
    clear d
    go_wp2_with fail
    refine (lives _).mono ?_
    rintro e w6 ⟨rfl, b6⟩
    have KA_6 := hid ((KA_5.out.alloc _).step b6)
    have KB_6 := hid ((KB_5.out.alloc _).step b6)
    have K1_6 := hid ((K1_5.out.alloc _).step b6)
    have K2_6 := hid ((K2_5.out.alloc _).step b6)
    have K3_6 := hid ((K3_5.out.alloc _).step b6)
    have K4_6 := hid ((K4_5.out.alloc _).step b6)
    have K5_6 := hid ((Cell.new S5.out N5.out M5.out).step b6)
    have E_6 := hid (bel_of (Below.alloc E_5.out E_5.out.size _) b6)
    clear b6
    go_wp2_with fail
    refine (lives _).mono ?_
    rintro e w7 ⟨rfl, b7⟩
    have KA_7 := hid (KA_6.out.step b7)
    have KB_7 := hid (KB_6.out.step b7)
    have K1_7 := hid (K1_6.out.step b7)
    have K2_7 := hid (K2_6.out.step b7)
    have K3_7 := hid (K3_6.out.step b7)
    have K4_7 := hid (K4_6.out.step b7)
    have K5_7 := hid (K5_6.out.step b7)
    have E_7 := hid (bel_of E_6.out b7)
    clear b7
    go_wp2_with fail
    go_ret
    exact ⟨by first | rfl | simp, E_7.out⟩
  · skip
    have d0 : (er5 != 0) = true := by simp [d]
    obtain rfl : er2 = 0 := HSW.out.1.1 rfl
    clear d
    go_wp2_with fail
    refine (lives _).mono ?_
    rintro e w6 ⟨rfl, b6⟩
    have KA_6 := hid ((KA_5.out.alloc _).step b6)
    have KB_6 := hid ((KB_5.out.alloc _).step b6)
    have K1_6 := hid ((K1_5.out.alloc _).step b6)
    have K2_6 := hid ((K2_5.out.alloc _).step b6)
    have K3_6 := hid ((K3_5.out.alloc _).step b6)
    have K4_6 := hid ((K4_5.out.alloc _).step b6)
    have K5_6 := hid ((Cell.new S5.out N5.out M5.out).step b6)
    have E_6 := hid (bel_of (Below.alloc E_5.out E_5.out.size _) b6)
    clear b6
    go_wp2_with fail
    refine (lives _).mono ?_
    rintro e w7 ⟨rfl, b7⟩
    have KA_7 := hid (KA_6.out.step b7)
    have KB_7 := hid (KB_6.out.step b7)
    have K1_7 := hid (K1_6.out.step b7)
    have K2_7 := hid (K2_6.out.step b7)
    have K3_7 := hid (K3_6.out.step b7)
    have K4_7 := hid (K4_6.out.step b7)
    have K5_7 := hid (K5_6.out.step b7)
    have E_7 := hid (bel_of E_6.out b7)
    clear b7
    go_wp2_with fail
    go_ret
    exact ⟨by first | rfl | simp, E_7.out⟩
theorem spanAlgebra_walk (sA : Int) (aA : Option Addr) (lenA cA : Nat) (lA : List Sp) (sB : Int) (aB : Option Addr) (lenB cB : Nat) (lB : List Sp) (w : World) (h1 : wf64 sA) (h2 : IsSps w aA lenA cA lA) (h3 : wf64 sB) (h4 : IsSps w aB lenB cB lB) :
    Calls Try.prog 6 #[.agg #[.int .i64 sA, .slice aA lenA cA], .agg #[.int .i64 sB, .slice aB lenB cB]] w fun e w' => e = .returned (.bool true) ∧ Below w.heap.size w w' := by
  obtain ⟨rfl, x1, x2, x3, x4, _⟩ := h2
  obtain ⟨rfl, y1, y2, y3, y4, _⟩ := h4
  exact algebra_any sA sB aA aB cA cB lA lB w x3 y3 (fun h => (x4 h).2) (fun h => (y4 h).2) (Nat.le_trans x1 x2) (Nat.le_trans y1 y2)
end SpanC
end Go.Proofs.Ytlhkjdghefbnfaa
