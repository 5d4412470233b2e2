/- TableWants. -/
import Derived.Test.YtgehdpohiphcpaaTabP2
import Derived.Test.YtgehdpohiphcpaaTabD2
import Derived.Test.YtgehdpohiphcpaaTabM5
import Derived.Test.YtgehdpohiphcpaaTabE
import Derived.Test.YtgehdpohiphcpaaTabZ
import Derived.Test.YtgehdpohiphcpaaTabO2
set_option linter.unusedVariables false
namespace Go.Proofs.Ytgehdpohiphcpaa
open Go.RowKit
open SpanM SpanC TabM
namespace TabC
/-- a table that lies in a block of a law's own -/
structure CellT (W : World) (b : Nat) (s : Int) (a : Option Addr) (c : Nat) (r : List Win) : Prop where
  lt : b < W.heap.size
  c0 : W.cell? ⟨b, 0, none⟩ = some (.int .i64 s)
  c1 : W.cell? ⟨b, 1, none⟩ = some (.slice a r.length c)
  sp : Wns W a r
  ml : r.length ≤ maxLen
theorem CellT.step {W W' : World} {b : Nat} {s : Int} {a : Option Addr} {c : Nat} {r : List Win} (h : CellT W b s a c r) (hb : Below W.heap.size W W') : CellT W' b s a c r where
  lt := Nat.lt_of_lt_of_le h.lt hb.size
  c0 := (hb.cell h.lt).trans h.c0
  c1 := (hb.cell h.lt).trans h.c1
  sp := h.sp.below hb (Nat.le_refl _)
  ml := h.ml
theorem CellT.alloc {W : World} {b : Nat} {s : Int} {a : Option Addr} {c : Nat} {r : List Win} (h : CellT W b s a c r) (o : Obj) : CellT (W.alloc o) b s a c r := h.step (Below.alloc (Below.refl _ _) (Nat.le_refl _) _)
theorem CellT.new {W : World} {s : Int} {a : Option Addr} {c : Nat} {r : List Win} (h : Wns W a r) (ml : r.length ≤ maxLen) : CellT (W.alloc (.cells #[.int .i64 s, .slice a r.length c] 24)) W.heap.size s a c r where
  lt := by simp
  c0 := World.cell?_alloc_at _ _ _ _ rfl
  c1 := World.cell?_alloc_at _ _ _ _ rfl
  sp := h.below (Below.alloc (Below.refl _ _) (Nat.le_refl _) _) (Nat.le_refl _)
  ml := ml
theorem bx_step {w2 W W' : World} {o : Obj} (h : Below (w2.heap.size + 1) (w2.alloc o) W) (hb : Below W.heap.size W W') : Below (w2.heap.size + 1) (w2.alloc o) W' :=
  h.trans (hb.mono (by have := h.size; simpa using this))
theorem bx_al {w2 W W' : World} {o o' : Obj} (h : Below (w2.heap.size + 1) (w2.alloc o) W) (hb : Below (W.alloc o').heap.size (W.alloc o') W') : Below (w2.heap.size + 1) (w2.alloc o) W' :=
  bel_al h (by have := h.size; simpa using this) hb
theorem CellT.via {w2 W : World} {o : Obj} {b : Nat} {s : Int} {a : Option Addr} {c : Nat} {r : List Win} (h : CellT w2 b s a c r) (hb : Below (w2.heap.size + 1) (w2.alloc o) W) : CellT W b s a c r :=
  (h.alloc o).step (by simpa using hb)
theorem sameT_true {W : World} {b1 b2 : Nat} {s : Int} {a1 a2 : Option Addr} {c1 c2 : Nat} {r : List Win} (h1 : CellT W b1 s a1 c1 r) (h2 : CellT W b2 s a2 c2 r) :
    Calls Try.prog 21 #[.agg #[.int .i64 s, .slice a1 r.length c1], .agg #[.int .i64 s, .slice a2 r.length c2]] W fun e w' => e = .returned (.bool true) ∧ Below W.heap.size W w' := by
  have := sameT_any s s a1 a2 c1 c2 r r W h1.sp h2.sp h1.ml h2.ml
  rwa [decide_eq_true ⟨rfl, rfl⟩] at this
set_option maxRecDepth 20000 in
set_option maxHeartbeats 3200000 in
theorem tableWants_run (frame : Int) (a : Option Addr) (cap : Nat) (l : List Wnt) (k r t : Int) (w : World) (hr : Wts w a l) (nz : a = none → cap = 0) :
    Calls Try.prog 8 #[.int .i64 frame, .slice a l.length cap, .int .i64 k, .int .i64 r, .int .i64 t] w fun e w' => e = .returned (.bool true) ∧ Below w.heap.size w w' := by
  have HWL := hid (fun W (h : Below w.heap.size w W) => hr.below h (Nat.le_refl _))
  have NZ := hid nz
  have HM0 := hid (make_says frame a cap l w hr)
  clear hr nz
  go_enter Try.func8, Try.ntmps8
  go_wp2_with fail
  refine HM0.out.mono ?_
  rintro e w1 ⟨⟨s, a1, c1, ys, er, rfl, hw1, hm1, hP⟩, b1⟩
  have CT1 := hid (CellT.new (s := s) (c := c1) hw1 hm1)
  have B1 := hid b1
  clear hw1 hm1 b1
  go_wp2_with fail
  refine (tlives _).mono ?_
  rintro e w2 ⟨rfl, b2⟩
  have CT2 := hid (CT1.out.step b2)
  have B2 : Hid (Below w.heap.size w w2) := bel_al B1.out B1.out.size b2
  have hww := B2.out.size
  have hs2 := b2.size
  simp only [World.size_alloc] at hs2
  clear b2
  have LEAVE : Hid (∀ W, Below w.heap.size w W → Calls Try.prog 33 #[] W fun e w' => e = .returned (.bool true) ∧ Below w.heap.size w w') := fun W hb => (tlives W).mono fun e w' ⟨he, h⟩ => ⟨he, bel_of hb h⟩
  rcases hP with ⟨rfl, hss, hk, hA, hp, ht0⟩ | ⟨hne, rfl, rfl, _⟩
  · have hss2 := hss.symm
    clear hss
    subst hss2
    obtain ⟨s1, s2, s3, s4, s5⟩ := wchk_zero hk
    have HF := hid s4
    have HK := hid hk
    have HA := hid hA
    have HP := hid hp
    have HT0 := hid ht0
    clear hk hA hp ht0 s4 s5
    by_cases hk0 : k < 0
    · go_wp2_with fail
      refine (LEAVE.out _ B2.out).mono ?_
      rintro e w3 ⟨rfl, b3⟩
      go_wp2_with fail
      go_ret
      exact ⟨rfl, b3⟩
    · by_cases hkl : (l.length : Int) ≤ k
      · go_wp2_with fail
        refine (LEAVE.out _ B2.out).mono ?_
        rintro e w3 ⟨rfl, b3⟩
        go_wp2_with fail
        go_ret
        exact ⟨rfl, b3⟩
      · obtain ⟨K, rfl⟩ : ∃ K : Nat, k = K := ⟨k.toNat, by omega⟩
        have hKl : K < l.length := by omega
        obtain ⟨b, off, rfl, hbw, d1, d2, d3, d4⟩ := (HWL.out w2 B2.out).at K hKl
        have hfit := HF.out (l.getD K z4) (by simp [List.getD, hKl])
        have hsp : l = l.take K ++ l.getD K z4 :: l.drop (K + 1) := by rw [← drop_get z4 l K hKl, List.take_append_drop]
        have hmem : l.getD K z4 ∈ l := by simp [List.getD, hKl]
        have htl : (l.take K).length = K := by rw [List.length_take]; omega
        generalize l.getD K z4 = z at d1 d2 d3 d4 hfit hsp hmem
        obtain ⟨o, f, n, e⟩ := z
        have HFIT := hid hfit
        have HSP := hid hsp
        have HMEM := hid hmem
        have HTL := hid htl
        obtain ⟨⟨e1, e2, e3⟩, ⟨o1, o2⟩, ⟨n1, n2⟩, f1, f2⟩ := hfit
        simp only at d1 d2 d3 d4 e1 e2 o1 o2 n1 n2 f1 f2
        clear e3 hsp hmem htl
        by_cases hr0 : r < 0
        · go_wp2_with fail
          go_ret
          exact ⟨rfl, by have := B2.out; go_grown⟩
        · by_cases hr1 : 1000000 < r
          · go_wp2_with fail
            go_ret
            exact ⟨rfl, by have := B2.out; go_grown⟩
          · by_cases ht0 : t < 0
            · go_wp2_with fail
              go_ret
              exact ⟨rfl, by have := B2.out; go_grown⟩
            · by_cases htn : n ≤ t
              · go_wp2_with fail
                go_ret
                exact ⟨rfl, by have := B2.out; go_grown⟩
              · have m0 : 0 ≤ r * e := Int.mul_nonneg (by omega) (by omega)
                have m1 : r * e ≤ 1000000 * 1000000 := Int.mul_le_mul (by omega) (by omega) (by omega) (by omega)
                have m2 : r * e ≤ 1000000000000 := by omega
                have hown := want_own (r := r) (t := t) s1 HMEM.out HFIT.out HP.out (wgood_apart (tchk_zero HT0.out).2.2.2) (by omega) (by omega) (by simp only; omega)
                simp only at hown
                have HOW := hid (fun W (hw : Wns W a1 ys) => owner_ok frame (r * e + f + t) a1 c1 ys W hw HT0.out (by omega) (by omega))
                rw [hown] at HOW
                clear m1 hown
                have BX0 : Hid (Below (w2.heap.size + 1) (w2.alloc (.cells #[.int .i64 o, .int .i64 f, .int .i64 n, .int .i64 e] 66)) (w2.alloc (.cells #[.int .i64 o, .int .i64 f, .int .i64 n, .int .i64 e] 66))) := Below.refl _ _
                have t0 := CT2.out.c0
                have t1 := CT2.out.c1
                have tl := CT2.out.lt
                go_wp2_with fail
                refine (HOW.out _ (CT2.out.via BX0.out).sp).mono ?_
                rintro e' w3 ⟨rfl, b3⟩
                have BX3 := hid (box1 b3)
                clear b3 t0 t1 d1 d2 d3 d4
                go_wp2_with fail
                refine (cloneT_any _ cap l w3 (HWL.out w3 (B2.out.trans ((of_alloc BX3.out).mono B2.out.size))) NZ.out s3).mono ?_
                rintro e' w4 ⟨⟨v4, rfl, ho4⟩, b4⟩
                have BX4 := hid (bx_step BX3.out b4)
                have HO4 := hid ho4
                have hs4 := b4.size
                have hs3 := BX3.out.size
                simp only [World.size_alloc] at hs3
                obtain ⟨p4, n4, c4, hv4⟩ := ho4.slice
                subst hv4
                clear ho4 b4
                go_wp2_with fail
                refine (reverseT_any _ w3.heap.size l w4 HO4.out hs4).mono ?_
                rintro e' w5 ⟨rfl, ho5, b5⟩
                have BX5 := hid (BX4.out.trans (b5.mono hs3))
                obtain ⟨a5, c5, hv5, hw5⟩ := ho5.wts
                simp only [Value.slice.injEq] at hv5
                obtain ⟨rfl, rfl, rfl⟩ := hv5
                have HM5 := hid (make_says frame p4 c4 l.reverse w5 hw5)
                clear ho5 b5 hw5
                have HRV : Hid (wchk frame l.reverse = 0 ∧ Apart (wins frame l.reverse)) := ⟨wchk_perm (List.reverse_perm l).symm HK.out, HA.out.perm (wins_perm (List.reverse_perm l).symm)⟩
                have HRP : Hid ((wins frame l.reverse).Perm (wins frame l)) := wins_perm (List.reverse_perm l)
                generalize hlr : l.reverse = lr at *
                clear hlr
                go_wp2_with fail
                refine HM5.out.mono ?_
                rintro e' w6 ⟨⟨s6, a6, c6, ys6, er6, rfl, hw6, hm6, hP6⟩, b6⟩
                obtain ⟨rfl, hs6, hp6, ht6⟩ := hP6.ok HRV.out.1 HRV.out.2
                have hs6' := hs6.symm
                clear hs6
                subst hs6'
                have hy6 : ys6 = ys := good_one (tchk_zero ht6).2.2.2 (tchk_zero HT0.out).2.2.2 ((hp6.trans HRP.out).trans HP.out.symm)
                subst hy6
                have BX6 := hid (bx_step BX5.out b6)
                have CU6 := hid (CellT.new (s := frame) (c := c6) hw6 hm6)
                have BX6' := hid (bx_al BX6.out (Below.refl _ (w6.alloc (.cells #[.int .i64 frame, .slice a6 ys6.length c6] 24))))
                clear b6 hw6 hm6 hP6 hp6 ht6
                obtain ⟨P, Q, hPQ, hPl⟩ : ∃ P Q, l = P ++ (o, f, n, e) :: Q ∧ P.length = K := ⟨_, _, HSP.out, HTL.out⟩
                have hlen : (P ++ (o, f, n, e) :: Q).length ≤ 200 := by rw [← hPQ]; exact s3
                have HKL : Hid (wchk frame (P ++ Q) = 0 ∧ Apart (wins frame (P ++ Q))) := ⟨wchk_less (by rw [← hPQ]; exact HK.out), apart_less (by rw [← hPQ]; exact HA.out)⟩
                have HAL : Hid (Apart (wins frame (P ++ (o, f, n, e) :: Q))) := by rw [← hPQ]; exact HA.out
                have HPQ := hid hPQ
                have HPL := hid hPl
                clear hPQ hPl
                have hs6 := BX6'.out.size
                simp only [World.size_alloc] at hs6
                go_wp2_with fail
                refine (cloneT_any _ cap l _ (HWL.out _ (B2.out.trans ((of_alloc BX6'.out).mono hww))) NZ.out s3).mono ?_
                rintro e' w7 ⟨⟨v7, rfl, ho7⟩, b7⟩
                have B7 := hid b7
                have BX7 := hid (bx_step BX6'.out b7)
                have hg7 : ∃ g c7, v7 = .slice (some ⟨g, 0, none⟩) l.length c7 := by
                  rcases ho7.form with ⟨_, h0⟩ | ⟨g, c7, h0, _⟩
                  · rw [h0] at hKl; simp at hKl
                  · exact ⟨g, c7, h0⟩
                obtain ⟨g, c7, rfl⟩ := hg7
                have hdel : Calls Try.prog 38 #[.slice (some ⟨g, 0, none⟩) l.length c7, .int .i64 K, .int .i64 ((K : Int) + 1)] w7 fun e w' => e = .returned (.slice (some ⟨g, 0, none⟩) (P ++ Q).length c7) ∧ OwnT w' (w6.heap.size + 1) (.slice (some ⟨g, 0, none⟩) (P ++ Q).length c7) (P ++ Q) ∧ Below (w6.heap.size + 1) w7 w' := by
                  have h0 : OwnT w7 (w6.heap.size + 1) (.slice (some ⟨g, 0, none⟩) (P ++ (o, f, n, e) :: Q).length c7) (P ++ (o, f, n, e) :: Q) := by rw [← HPQ.out]; simpa using ho7
                  have := deleteT_any (w6.heap.size + 1) g c7 P Q (o, f, n, e) w7 h0 (by have := b7.size; simpa using this) hlen
                  rw [← HPQ.out, HPL.out] at this
                  exact this
                have HDEL := hid hdel
                clear hdel ho7 b7
                go_wp2_with fail
                refine HDEL.out.mono ?_
                rintro e' w8 ⟨rfl, ho8, b8⟩
                have hB8 : Below (w6.alloc (.cells #[.int .i64 frame, .slice a6 ys6.length c6] 24)).heap.size (w6.alloc (.cells #[.int .i64 frame, .slice a6 ys6.length c6] 24)) w8 := B7.out.trans (by simpa using b8)
                have BX8 := hid (bx_step BX6'.out hB8)
                have CU8 := hid (CU6.out.step hB8)
                obtain ⟨a8, c8, hv8, hw8⟩ := ho8.wts
                simp only [Value.slice.injEq] at hv8
                obtain ⟨rfl, _, rfl⟩ := hv8
                have HM8 := hid (make_says frame _ c7 (P ++ Q) w8 hw8)
                clear ho8 b8 hB8 hw8
                generalize hPQ2 : P ++ Q = PQ at *
                have HPQ2 := hid hPQ2
                clear hPQ2
                go_wp2_with fail
                refine HM8.out.mono ?_
                rintro e' w9 ⟨⟨s9, a9, c9, ys9, er9, rfl, hw9, hm9, hP9⟩, b9⟩
                obtain ⟨rfl, hs9, hp9, ht9⟩ := hP9.ok HKL.out.1 HKL.out.2
                have hs9' := hs9.symm
                clear hs9
                subst hs9'
                have hnone := want_none (r := r) (t := t) (ys := ys9) s1 HFIT.out (by rw [HPQ2.out]; exact hp9) HAL.out (by omega) (by omega) (by simp only; omega)
                simp only at hnone
                have HOW9 := hid (fun W (hw : Wns W a9 ys9) => owner_ok frame (r * e + f + t) a9 c9 ys9 W hw ht9 (by omega) (by omega))
                rw [hnone] at HOW9
                have BX9 := hid (bx_step BX8.out b9)
                have CU9 := hid (CU8.out.step b9)
                have CV9 := hid (CellT.new (s := frame) (c := c9) hw9 hm9)
                have x1 : w9.cell? ⟨w2.heap.size, 1, none⟩ = some (.int .i64 f) := boxc BX9.out 1
                have x3 : w9.cell? ⟨w2.heap.size, 3, none⟩ = some (.int .i64 e) := boxc BX9.out 3
                have hs9 := BX9.out.size
                simp only [World.size_alloc] at hs9
                have hx9 : w2.heap.size < w9.heap.size := by omega
                clear b9 hw9 hm9 hP9 hp9 ht9 hnone
                go_wp2_with fail
                refine (HOW9.out _ CV9.out.sp).mono ?_
                rintro e' w10 ⟨rfl, b10⟩
                have BX10 := hid (bx_al BX9.out b10)
                have CU10 := hid ((CU9.out.alloc (.cells #[.int .i64 frame, .slice a9 ys9.length c9] 24)).step b10)
                have CT10 := hid (CT2.out.via BX10.out)
                have x0 : w10.cell? ⟨w2.heap.size, 0, none⟩ = some (.int .i64 o) := boxc BX10.out 0
                have u0 := CU10.out.c0
                have u1 := CU10.out.c1
                have v0 := CT10.out.c0
                have v1 := CT10.out.c1
                have qo : (o == o) = true := by simp
                clear b10 x1 x3
                go_wp2_with fail
                refine (sameT_true CU10.out CT10.out).mono ?_
                rintro e' w11 ⟨rfl, b11⟩
                go_wp2_with fail
                go_ret
                exact ⟨by first | rfl | simp, bel_of (B2.out.trans ((of_alloc BX10.out).mono hww)) b11⟩
  · have hne2 : (er != 0) = true := by simp [hne]
    go_wp2_with fail
    refine (LEAVE.out _ B2.out).mono ?_
    rintro e w3 ⟨rfl, b3⟩
    go_wp2_with fail
    go_ret
    exact ⟨rfl, b3⟩
theorem tableWants_walk (frame : Int) (a : Option Addr) (len cap : Nat) (l : List Wnt) (k r t : Int) (w : World) (wf : wf64 frame) (h : IsWts w a len cap l) (wk : wf64 k) (wr : wf64 r) (wt : wf64 t) :
    Calls Try.prog 8 #[.int .i64 frame, .slice a len cap, .int .i64 k, .int .i64 r, .int .i64 t] w fun e w' => e = .returned (.bool true) ∧ Below w.heap.size w w' := by
  obtain ⟨rfl, _, _, hr, nz⟩ := h
  exact tableWants_run frame a cap l k r t w hr (fun h => (nz h).2)
end TabC
end Go.Proofs.Ytgehdpohiphcpaa
