/- The walk of SpanOf. -/
import Derived.Test.YtlhkjdghefbnfaaSpanZ
import Derived.Test.YtlhkjdghefbnfaaSpanL4
set_option linter.unusedVariables false
namespace Go.Proofs.Ytlhkjdghefbnfaa
open Go.RowKit
open SpanM
namespace SpanC
set_option maxRecDepth 20000 in
set_option maxHeartbeats 4000000 in
theorem spanOf_err (size at' : Int) (a : Option Addr) (c : Nat) (l : List Sp) (w : World) (hs : Sps w a l) (hk : ofE size l ≠ 0) :
    Calls Try.prog 10 #[.int .i64 size, .slice a l.length c, .int .i64 at'] w fun e w' => e = .returned (.bool true) ∧ Below w.heap.size w w' := by
  have HS := hid hs
  clear hs
  go_enter Try.func10, Try.ntmps10
  go_wp2_with fail
  refine (of_tells HS.out).mono ?_
  rintro e w1 ⟨⟨s1, a1, c1, r1, er1, rfl, hs1, hn1, hm1, hA1⟩, b1⟩
  have hq : er1 ≠ 0 ∧ s1 = 0 ∧ r1 = [] := by
    rcases hA1 with ⟨h, _⟩ | ⟨h1, h2, h3, h4⟩
    · exact absurd h hk
    · exact ⟨by rw [h2]; exact h1, h3, h4⟩
  obtain ⟨h1, rfl, rfl⟩ := hq
  have d0 : (er1 != 0) = true := by simp [h1]
  have K1 := hid (Cell.new (s := 0) hs1 hn1 hm1)
  have E1 := hid b1
  clear h1 hA1 hs1 hn1 hm1 b1 hk
  go_wp2_with fail
  refine (lives _).mono ?_
  rintro e w2 ⟨rfl, b2⟩
  have K2 := hid (K1.out.step b2)
  have E2 := hid (bel_of (Below.alloc E1.out E1.out.size _) b2)
  clear b2
  go_wp2_with fail
  refine (lives _).mono ?_
  rintro e w3 ⟨rfl, b3⟩
  have K3 := hid (K2.out.step b3)
  have E3 := hid (bel_of E2.out b3)
  clear b3
  obtain ⟨y1, y2, y3, _, _, _⟩ := K3.out
  go_wp2_with fail
  refine (same_any 0 0 a1 none c1 0 [] [] _ (.inl rfl) (.inl rfl) (by simp) (by simp)).mono ?_
  rintro e w4 ⟨rfl, b4⟩
  have E4 := hid (bel_of E3.out b4)
  clear b4
  go_wp2_with fail
  go_ret
  exact ⟨by first | rfl | simp, E4.out⟩
set_option maxRecDepth 20000 in
set_option maxHeartbeats 2000000 in
theorem spanOf_ok (size at' : Int) (a : Option Addr) (c : Nat) (l : List Sp) (w : World) (hs : Sps w a l) (nz : a = none → c = 0) (hk : ofE size l = 0) :
    Calls Try.prog 10 #[.int .i64 size, .slice a l.length c, .int .i64 at'] w fun e w' => e = .returned (.bool true) ∧ Below w.heap.size w w' := by
  obtain ⟨i0, hi, hz0, hz1, hz2⟩ := info_parts infoSp
  have Hi := hid hi
  have Hz0 := hid hz0
  have Hz1 := hid hz1
  have Hz2 := hid hz2
  clear hi hz0 hz1 hz2
  obtain ⟨s1', s2', s3', s4'⟩ := ofE_zero hk
  have FX := hid s4'
  have HS := hid hs
  have NZ := hid nz
  clear hs nz s4'
  go_enter Try.func10, Try.ntmps10
  go_wp2_with fail
  refine (of_tells HS.out).mono ?_
  rintro e w1 ⟨⟨s1, a1, c1, r1, er1, rfl, hs1, hn1, hm1, hA1⟩, b1⟩
  have hq : er1 = 0 ∧ s1 = size ∧ chk size r1 = 0 ∧ ∀ u, mem r1 u = mem l u := by
    rcases hA1 with ⟨_, h1, h2, h3, h4⟩ | ⟨h, _⟩
    · exact ⟨h1, h2, h3, h4⟩
    · exact absurd hk h
  obtain ⟨rfl, h0, h1, h2⟩ := hq
  replace h0 := h0.symm
  subst h0
  have C1 := hid h1
  have M1x := hid h2
  have FR : Hid (ofE size r1 = 0) := ofE_of s1' s2' (chk_zero h1).2.2.1 (fun x hx => by have := good_each (chk_zero h1).2.2.2 x hx; omega)
  have K1 := hid (Cell.new (s := size) hs1 hn1 hm1)
  have E1 := hid b1
  clear hA1 hs1 hn1 hm1 b1 hk h1 h2
  go_wp2_with fail
  refine (lives _).mono ?_
  rintro e w2 ⟨rfl, b2⟩
  have K2 := hid (K1.out.step b2)
  have E2 := hid (bel_of (Below.alloc E1.out E1.out.size _) b2)
  clear b2
  go_wp2_with fail
  refine (clone_any a c l _ (HS.out.below E2.out (Nat.le_refl _)) NZ.out (by omega)).mono ?_
  rintro e w3 ⟨⟨v3, rfl, ho3⟩, b3⟩
  have K3 := hid (K2.out.step b3)
  have E3 := hid (bel_of E2.out b3)
  have O3 := hid ho3
  have hsz3 := b3.size
  have HB3 := hid b3
  clear b3
  obtain ⟨p3, n3, q3, hv3⟩ := ho3.slice
  subst hv3
  clear ho3
  go_wp2_with fail
  refine (reverse_any _ w2.heap.size l _ O3.out hsz3).mono ?_
  rintro e w4 ⟨rfl, ho4, b4⟩
  have b4x := hid b4
  have K4 := hid (K2.out.step (HB3.out.trans b4))
  have E4 := hid (bel_of E2.out (HB3.out.trans b4))
  have O4 := hid ho4
  have hn3 : n3 = l.reverse.length := by
    rcases ho4.form with ⟨e0, e1⟩ | ⟨g, cp, e0, _⟩
    · simp only [Value.slice.injEq] at e0; rw [e1]; exact e0.2.1
    · simp only [Value.slice.injEq] at e0; exact e0.2.1
  have hmm : ∀ u, mem l.reverse u = mem l u := mem_reverse l
  have hfx : ∀ x ∈ l.reverse, 0 ≤ x.1 ∧ x.1 ≤ x.2 ∧ x.2 ≤ size := fun x hx => FX.out x (List.mem_reverse.1 hx)
  have hll : l.reverse.length ≤ 200 := by rw [List.length_reverse]; exact s3'
  generalize l.reverse = L at *
  have HMM := hid hmm
  have HFX := hid hfx
  clear hmm hfx b4 ho4 O3 K1 K3 E1 E3 FX
  subst hn3
  have hsz4 := HB3.out.size
  have hsz5 := b4x.out.size
  go_wp2_with fail
  go_loopw [9, 40] (fun v9 v40 wr => ∃ k : Nat, k ≤ L.length ∧ v9 = .slice p3 L.length q3 ∧ v40 = .int .i64 k ∧ Below w4.heap.size w4 wr) (fun _ v40 _ => L.length - (intOf v40).toNat)
  case atStart => exact ⟨0, by omega, rfl, rfl, Below.refl _ _⟩
  case round =>
    obtain ⟨k, hk, rfl, rfl, hb⟩ := hrel
    have HB := hid hb
    have OR := hid (O4.out.below hb (Nat.le_refl _))
    have hszr := hb.size
    by_cases hlt : k < L.length
    · obtain ⟨g, hp3, hg2, hgr⟩ : ∃ g, p3 = some ⟨g, 0, none⟩ ∧ w2.heap.size ≤ g ∧ g < wr.heap.size := by
        rcases OR.out.form with ⟨_, e1⟩ | ⟨g, cp, e0, e1, e2, _⟩
        · rw [e1] at hlt; simp at hlt
        · simp only [Value.slice.injEq] at e0; exact ⟨g, e0.1, e1, e2⟩
      subst hp3
      have d1 := World.ownsRow.cellAt OR.out (k * 2) (by omega)
      have d2 := World.ownsRow.cellAt OR.out (k * 2 + 1) (by omega)
      have d3 := World.ownsRow.frozenAt OR.out (k * 2 + 1)
      rw [(flat_at L k hlt).1] at d1
      rw [(flat_at L k hlt).2] at d2
      have hsplit : L = L.take k ++ L.getD k (0, 0) :: L.drop (k + 1) := by
        rw [← drop_get L k hlt, List.take_append_drop]
      have hmemx : L.getD k (0, 0) ∈ L := by simp [List.getD, hlt]
      generalize L.getD k (0, 0) = z at d1 d2 hsplit hmemx
      obtain ⟨f, t⟩ := z
      simp only at d1 d2
      have HSP := hid hsplit
      have hfit := HFX.out _ hmemx
      simp only at hfit
      clear hsplit hmemx hb
      have C : (f < at' ∧ at' < t ∧ L.length < 200) ∨ ¬ f < at' ∨ (f < at' ∧ ¬ at' < t) ∨ (f < at' ∧ at' < t ∧ ¬ L.length < 200) := by omega
      rcases C with ⟨o1, o2, o3⟩ | o1 | ⟨o1, o2⟩ | ⟨o1, o2, o3⟩
      · have o4 : (L.length : Int) < 200 := by omega
        have htl : (L.take k).length = k := by simp; omega
        have hLL : L.length = (L.take k ++ (f, t) :: L.drop (k + 1)).length := by rw [← HSP.out]
        have OS : Hid (Own (wr.setCell ⟨g, k * 2 + 1, none⟩ (.int .i64 at')) w2.heap.size (.slice (some ⟨g, 0, none⟩) L.length q3) (L.take k ++ (f, at') :: L.drop (k + 1))) := by
          have h0 : Own wr w2.heap.size (.slice (some ⟨g, 0, none⟩) L.length q3) (L.take k ++ (f, t) :: L.drop (k + 1)) := by rw [← HSP.out]; exact OR.out
          have h1 := h0.setAt at' hLL
          rw [htl] at h1
          exact h1
        have hL2 : (L.take k ++ (f, at') :: L.drop (k + 1)).length = L.length := by rw [hLL]; simp
        have FM : Hid (ofE size (L.take k ++ (f, at') :: L.drop (k + 1) ++ [(at', t)]) = 0) := by
          refine ofE_of s1' s2' (by rw [List.length_append, hL2]; simp; omega) fun x hx => ?_
          rcases List.mem_append.1 hx with hx | hx
          · rcases List.mem_append.1 hx with hx | hx
            · exact HFX.out x (List.mem_of_mem_take hx)
            · rcases List.mem_cons.1 hx with rfl | hx
              · simp only; omega
              · exact HFX.out x (List.mem_of_mem_drop hx)
          · simp at hx; subst hx; simp only; omega
        have MEQ : Hid (∀ u, mem (L.take k ++ (f, at') :: L.drop (k + 1) ++ [(at', t)]) u = mem l u) := by
          intro u
          have h := mem_cut (L.take k) (L.drop (k + 1)) (f, t) at' u (by simp only; omega) (by simp only; omega)
          rw [h, ← HSP.out]
          exact HMM.out u
        have HL2 := hid hL2
        clear hL2 hLL htl
        go_wp2_with (at_builtin; refine wpList_append_own _ rfl _ _ 22 rfl w2.heap.size 30 i0 (.agg #[.int .i64 0, .int .i64 0]) 2 16 Try.underlying22 Hi.out Hz0.out Hz1.out Hz2.out rfl (by decide) _ L.length (flat (L.take k ++ (f, at') :: L.drop (k + 1))) rfl ?qc0 ⟨wr.heap.size + 1, 0, none⟩ 1 1 [.int .i64 at', .int .i64 t] ?qcx ?qc1 ?qc2 ?qc3 ?qc4 ?qc5 ?qc6 ?_)
        case qc0 => exact World.ownsRow.alloc (World.ownsRow.alloc (by have h : (wr.setCell _ _).ownsRow _ _ _ _ (L.take k ++ (f, at') :: L.drop (k + 1)).length _ := OS.out; rw [HL2.out] at h; exact h) _) _
        case qcx => rfl
        case qc1 => simp
        case qc2 =>
          intro j u hj
          match j, hj with
          | 0, hj => simp at hj; subst hj; exact World.cell?_alloc_at _ _ _ _ (by simp)
          | 1, hj => simp at hj; subst hj; exact World.cell?_alloc_at _ _ _ _ (by simp)
          | j + 2, hj => simp at hj
        case qc3 => intro u hu; simp at hu; rcases hu with rfl | rfl <;> rfl
        case qc4 => unfold maxLen; omega
        case qc5 => omega
        case qc6 => simp; omega
        intro v' w7 hown hgrow hnil
        have HO7 : Hid (Own w7 w2.heap.size v' (L.take k ++ (f, at') :: L.drop (k + 1) ++ [(at', t)])) := by
          show w7.ownsRow _ _ _ _ _ _
          rw [flat_append, List.length_append, HL2.out]
          exact hown
        have HB7 : Hid (Below w2.heap.size w4 w7) := ((HB.out.mono (by omega)).trans (Below.setCell (Below.refl _ _) (by simpa using hg2) _)).trans (Below.grown (Below.alloc (Below.alloc (Below.refl _ _) (by simp; omega) _) (by simp; omega) _) hgrow (by simp; omega) (fun k hk => by simp [Value.ownBlock] at hk; omega))
        have K1x := hid (K2.out.step ((HB3.out.trans (b4x.out)).trans HB7.out))
        have EX := hid (bel_of E2.out ((HB3.out.trans (b4x.out)).trans HB7.out))
        generalize L.take k ++ (f, at') :: L.drop (k + 1) ++ [(at', t)] = MM at HO7 FM MEQ
        obtain ⟨am, cm, rfl, hspm, _, _⟩ := HO7.out.full
        have SPM := hid hspm
        clear hown hgrow hnil hspm
        go_wp2_with fail
        refine (of_tells SPM.out).mono ?_
        rintro e w21 ⟨⟨sb, ab, cb, rb, erb, rfl, hsb, hnb, hmb, hAb⟩, b21⟩
        have Qb := hid hAb
        have K1_21 := hid (K1x.out.step b21)
        have E_21 := hid (bel_of EX.out b21)
        have Sb := hid hsb
        have Nb := hid hnb
        have Mb := hid hmb
        clear hsb hnb hmb hAb b21
        obtain ⟨lt1, ft10, ft11, _, _, _⟩ := K1_21.out
        obtain ⟨rfl, hsb, hrb⟩ := Qb.out.is (r0 := r1) FM.out C1.out (fun u => (M1x.out u).trans (MEQ.out u).symm)
        replace hsb := hsb.symm
        replace hrb := hrb.symm
        subst hrb
        subst hsb
        clear Qb
        go_wp2_with fail
        refine (of_tells (K1_21.out.alloc _).sp).mono ?_
        rintro e w22 ⟨⟨sc, ac, cc, rc, erc, rfl, hsc, hnc, hmc, hAc⟩, b22⟩
        clear lt1 ft10 ft11
        have Qc := hid hAc
        have K1_22 := hid ((K1_21.out.alloc _).step b22)
        have Kb_22 := hid ((Cell.new Sb.out Nb.out Mb.out).step b22)
        have E_22 := hid (bel_of (Below.alloc E_21.out E_21.out.size _) b22)
        have Sc := hid hsc
        have Nc := hid hnc
        have Mc := hid hmc
        clear hsc hnc hmc hAc b22
        obtain ⟨lt1, ft10, ft11, _, _, _⟩ := K1_22.out
        obtain ⟨rfl, hsc, hrc⟩ := Qc.out.is (r0 := r1) FR.out C1.out (fun u => rfl)
        replace hsc := hsc.symm
        replace hrc := hrc.symm
        subst hrc
        subst hsc
        clear Qc
        go_wp2_with fail
        refine (check_ok size a1 c1 r1 _ (K1_22.out.alloc _).sp C1.out).mono ?_
        rintro e w23 ⟨rfl, b23⟩
        clear lt1 ft10 ft11
        have K1_23 := hid ((K1_22.out.alloc _).step b23)
        have Kb_23 := hid ((Kb_22.out.alloc _).step b23)
        have Kc_23 := hid ((Cell.new Sc.out Nc.out Mc.out).step b23)
        have E_23 := hid (bel_of (Below.alloc E_22.out E_22.out.size _) b23)
        clear b23
        obtain ⟨ltb, ftb0, ftb1, _, _, _⟩ := Kb_23.out
        obtain ⟨lt1, ft10, ft11, _, _, _⟩ := K1_23.out
        go_wp2_with fail
        refine (same_cells Kb_23.out K1_23.out).mono ?_
        rintro e w24 ⟨rfl, b24⟩
        clear ltb ftb0 ftb1 lt1 ft10 ft11
        have K1_24 := hid (K1_23.out.step b24)
        have Kb_24 := hid (Kb_23.out.step b24)
        have Kc_24 := hid (Kc_23.out.step b24)
        have E_24 := hid (bel_of E_23.out b24)
        clear b24
        obtain ⟨ltc, ftc0, ftc1, _, _, _⟩ := Kc_24.out
        obtain ⟨lt1, ft10, ft11, _, _, _⟩ := K1_24.out
        go_wp2_with fail
        refine (same_cells Kc_24.out K1_24.out).mono ?_
        rintro e w25 ⟨rfl, b25⟩
        clear ltc ftc0 ftc1 lt1 ft10 ft11
        have K1_25 := hid (K1_24.out.step b25)
        have Kb_25 := hid (Kb_24.out.step b25)
        have Kc_25 := hid (Kc_24.out.step b25)
        have E_25 := hid (bel_of E_24.out b25)
        clear b25
        go_wp2_with fail
        go_ret
        exact ⟨by first | rfl | simp, E_25.out⟩
      all_goals
        go_wp2_with fail
        go_roundw
        case rel => exact ⟨k + 1, by omega, rfl, by go_num, Below.alloc HB.out hszr _⟩
        case measure => simp [intOf]; omega
    · have K1x := hid (K4.out.step hb)
      have EX := hid (bel_of E4.out hb)
      have FM : Hid (ofE size L = 0) := ofE_of s1' s2' hll HFX.out
      have MEQ := hid HMM.out
      obtain ⟨am, cm, hv, hspm, _, _⟩ := OR.out.full
      simp only [Value.slice.injEq] at hv
      obtain ⟨rfl, _, rfl⟩ := hv
      have SPM := hid hspm
      clear hb hspm
      go_wp2_with fail
      refine (of_tells SPM.out).mono ?_
      rintro e w21 ⟨⟨sb, ab, cb, rb, erb, rfl, hsb, hnb, hmb, hAb⟩, b21⟩
      have Qb := hid hAb
      have K1_21 := hid (K1x.out.step b21)
      have E_21 := hid (bel_of EX.out b21)
      have Sb := hid hsb
      have Nb := hid hnb
      have Mb := hid hmb
      clear hsb hnb hmb hAb b21
      obtain ⟨lt1, ft10, ft11, _, _, _⟩ := K1_21.out
      obtain ⟨rfl, hsb, hrb⟩ := Qb.out.is (r0 := r1) FM.out C1.out (fun u => (M1x.out u).trans (MEQ.out u).symm)
      replace hsb := hsb.symm
      replace hrb := hrb.symm
      subst hrb
      subst hsb
      clear Qb
      go_wp2_with fail
      refine (of_tells (K1_21.out.alloc _).sp).mono ?_
      rintro e w22 ⟨⟨sc, ac, cc, rc, erc, rfl, hsc, hnc, hmc, hAc⟩, b22⟩
      clear lt1 ft10 ft11
      have Qc := hid hAc
      have K1_22 := hid ((K1_21.out.alloc _).step b22)
      have Kb_22 := hid ((Cell.new Sb.out Nb.out Mb.out).step b22)
      have E_22 := hid (bel_of (Below.alloc E_21.out E_21.out.size _) b22)
      have Sc := hid hsc
      have Nc := hid hnc
      have Mc := hid hmc
      clear hsc hnc hmc hAc b22
      obtain ⟨lt1, ft10, ft11, _, _, _⟩ := K1_22.out
      obtain ⟨rfl, hsc, hrc⟩ := Qc.out.is (r0 := r1) FR.out C1.out (fun u => rfl)
      replace hsc := hsc.symm
      replace hrc := hrc.symm
      subst hrc
      subst hsc
      clear Qc
      go_wp2_with fail
      refine (check_ok size a1 c1 r1 _ (K1_22.out.alloc _).sp C1.out).mono ?_
      rintro e w23 ⟨rfl, b23⟩
      clear lt1 ft10 ft11
      have K1_23 := hid ((K1_22.out.alloc _).step b23)
      have Kb_23 := hid ((Kb_22.out.alloc _).step b23)
      have Kc_23 := hid ((Cell.new Sc.out Nc.out Mc.out).step b23)
      have E_23 := hid (bel_of (Below.alloc E_22.out E_22.out.size _) b23)
      clear b23
      obtain ⟨ltb, ftb0, ftb1, _, _, _⟩ := Kb_23.out
      obtain ⟨lt1, ft10, ft11, _, _, _⟩ := K1_23.out
      go_wp2_with fail
      refine (same_cells Kb_23.out K1_23.out).mono ?_
      rintro e w24 ⟨rfl, b24⟩
      clear ltb ftb0 ftb1 lt1 ft10 ft11
      have K1_24 := hid (K1_23.out.step b24)
      have Kb_24 := hid (Kb_23.out.step b24)
      have Kc_24 := hid (Kc_23.out.step b24)
      have E_24 := hid (bel_of E_23.out b24)
      clear b24
      obtain ⟨ltc, ftc0, ftc1, _, _, _⟩ := Kc_24.out
      obtain ⟨lt1, ft10, ft11, _, _, _⟩ := K1_24.out
      go_wp2_with fail
      refine (same_cells Kc_24.out K1_24.out).mono ?_
      rintro e w25 ⟨rfl, b25⟩
      clear ltc ftc0 ftc1 lt1 ft10 ft11
      have K1_25 := hid (K1_24.out.step b25)
      have Kb_25 := hid (Kb_24.out.step b25)
      have Kc_25 := hid (Kc_24.out.step b25)
      have E_25 := hid (bel_of E_24.out b25)
      clear b25
      go_wp2_with fail
      go_ret
      exact ⟨by first | rfl | simp, E_25.out⟩
theorem spanOf_walk (size : Int) (a : Option Addr) (len cap : Nat) (l : List Sp) (at' : Int) (w : World) (h1 : wf64 size) (h : IsSps w a len cap l) (h2 : wf64 at') :
    Calls Try.prog 10 #[.int .i64 size, .slice a len cap, .int .i64 at'] w fun e w' => e = .returned (.bool true) ∧ Below w.heap.size w w' := by
  obtain ⟨rfl, x1, x2, x3, x4, _⟩ := h
  by_cases hk : ofE size l = 0
  · exact spanOf_ok size at' a cap l w x3 (fun h => (x4 h).2) hk
  · exact spanOf_err size at' a cap l w x3 hk
end SpanC
end Go.Proofs.Ytlhkjdghefbnfaa
