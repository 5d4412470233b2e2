/- Several texts, one behind the other: LtR. -/
import Derived.Test.YtpnahhpkaegeeaaKRfA
import Derived.Test.YtpnahhpkaegeeaaKIdL
import Derived.Test.YtpnahhpkaegeeaaPkR
import Derived.Deep.CutRange
/- Contract of the document's own answer about late jobs: LatesOf. -/
set_option linter.unusedVariables false
namespace Go.Proofs.Ytpnahhpkaegeeaa
open Go.RowKit hiding tok
open SpanM SpanC TaskM PlayM
open RowsO hiding Tk
namespace PlayC
open NumC (Row)
open RowG
theorem told_any (P : Pl) (dn : List Pl.Dn) (i k : Nat) : (dn.any fun x => ltq x (i : Int) (k : Int) (P.du i k)) = P.told dn i k := rfl
set_option maxRecDepth 20000 in
set_option maxHeartbeats 1600000 in
theorem rlates_any (P : Pl) (hP : P.Ok) (a b c : Option Addr) (cap cap' cc : Nat) (T : Int) (dn : List Pl.Dn) (w : World) (hr : Tks w a P.l) (hf : Row w b P.f) (hd : Rd ED w c dn) (hl : P.l.length ≤ 16) (hfk : ∀ x ∈ P.f, fok x) (h1 : 0 ≤ T) (h2 : T ≤ 20000) (hj : (P.jobsL T).length ≤ 2000) (hdn : dn.length ≤ 10000) :
    Calls Try.prog 24 #[.slice a P.l.length cap, .slice b P.f.length cap', .slice c dn.length cc, .int .i64 T] w fun e w' => (∃ v, e = .returned v ∧ OwnL w' w.heap.size v ((P.lates dn T).map lt2)) ∧ Below w.heap.size w w' := by
  obtain ⟨i0, hi, hz0, hz1, hz2⟩ := info_parts infoL
  have Hi := hid hi
  have Hz0 := hid hz0
  have Hz1 := hid hz1
  have Hz2 := hid hz2
  clear hi hz0 hz1 hz2
  have H1 := hid (fun W (h : Below w.heap.size w W) => rjobs_any P hP a b cap cap' T W (hr.below h (Nat.le_refl _)) (Row.below hf h (Nat.le_refl _)) hl hfk h1 h2)
  rw [decide_eq_true hj] at H1
  have HR := hid hr
  have HDN := hid hd
  have HP := hid hP
  have HK := hid hfk
  have HJ := hid hj
  have HALL := hid (lst_all P T dn)
  have HNX := hid (fun k (h : k < (P.jobsL T).length) => lst_next P T dn h)
  have HLN := hid (fun k => lst_len P T dn k hj rfl)
  have HM := hid (fun b (hb : b ∈ P.jobsL T) => (Pl.mem_jobsL (i := b.1) (k := b.2) hP).1 hb)
  have h0 : lst P T dn 0 = [] := rfl
  have HL0 := hid h0
  clear hr hf hd hP hfk hj h0
  go_enter Try.func24, Try.ntmps24
  go_wp2_with fail
  refine (H1.out _ (Below.refl _ _)).mono ?_
  rintro e w1 ⟨⟨v, rfl, ho⟩, b1⟩
  obtain ⟨av, cv, rfl⟩ := ho.slice
  have B1 := hid b1
  have RV := hid ho
  rw [List.length_map] at RV ⊢
  clear ho b1
  generalize hJL : P.jobsL T = JL at *
  clear hJL
  go_wp2_with fail
  go_loopw [11, 24] (fun v11 v24 wr => ∃ k : Nat, k ≤ JL.length ∧ v24 = .int .i64 k ∧ OwnL wr w.heap.size v11 (lst P T dn k) ∧ OwnD wr w.heap.size (.slice av JL.length cv) (JL.map (jd P)) ∧ Below w.heap.size w wr) (fun _ v24 _ => JL.length - (intOf v24).toNat)
  case atStart => exact ⟨0, by omega, rfl, by rw [HL0.out]; exact Own.nil _ _ _ _, RV.out, B1.out⟩
  case round =>
    obtain ⟨k, hk, rfl, ho, hrv, hb⟩ := hrel
    have HO := hid ho
    have RV2 := hid hrv
    have HB := hid hb
    obtain ⟨p8, c8, hv8⟩ := ho.slice
    subst hv8
    have hJ := HJ.out
    by_cases hlt : k < JL.length
    · have hrd : Rd ED wr av (JL.map (jd P)) := by
        obtain ⟨a', c', ev, hrd, _⟩ := hrv.rd
        injection ev with e1 _ _
        rw [e1]; exact hrd
      obtain ⟨pv, ov, rfl, hc⟩ := hrd.at k (by rw [List.length_map]; exact hlt)
      obtain ⟨hi, hcmT⟩ := HM.out _ (List.getElem_mem hlt)
      have hnx := HNX.out k hlt
      rw [List.getElem_map] at hc
      generalize JL[k] = bj at *
      obtain ⟨i, j⟩ := bj
      simp only at hi hcmT hnx
      obtain ⟨bt, ot, rfl, hbt, d1, d2, d3⟩ := HR.out.at i hi
      have HD3 := hid d3
      have hok := HP.out.at hi
      have hcm0 := (HP.out.come hi j)
      have hz : zTk = (0, 0, 0) := rfl
      rw [hz, ← Pl.tk_at] at HD3
      have hdu : P.du i j = P.cm i j + (P.tk i).2.2 := rfl
      have hjd : jd P (i, j) = ((i : Int), (j : Int), P.cm i j, 0) := rfl
      rw [hjd] at hc
      have a0 := hc 0 (by decide); have a1 := hc 1 (by decide); have a2 := hc 2 (by decide); have a3 := hc 3 (by decide)
      simp [ED] at a0 a1 a2 a3
      have HTD := hid (told_any P dn i j)
      have hlen := HLN.out k
      obtain ⟨p1, p2, p3, p4, p5, p6⟩ := hok
      generalize P.told dn i j = tld at *
      generalize hDU : P.du i j = du at *
      generalize P.cm i j = cm at *
      generalize (P.tk i).2.2 = td at *
      have hpv : pv < wr.heap.size := World.block_lt_of_cell? wr _ a0
      have ii : (i : Int) < (P.l.length : Int) := by omega
      have kk : (k : Int) < (JL.length : Int) := by omega
      have wr1 : IntKind.i64.wrap (cm + td) = du := by rw [IntKind.wrap_i64]; omega
      have HNXT := hid hnx
      have hsz := hb.size
      clear hDU hdu hjd hc ho hrv hrd hb d1 d2 d3 hz hnx p1 p2 p5 p6
      generalize lst P T dn k = Z at *
      go_wp2_with fail
      -- the job's box
      have hbV : Below wr.heap.size wr (wr.alloc (.cells #[.int .i64 i, .int .i64 j, .int .i64 cm, .int .i64 0] 40)) := (Below.refl _ _).alloc (Nat.le_refl _) _
      have hVb := box_new wr #[.int .i64 i, .int .i64 j, .int .i64 cm, .int .i64 0] 40
      have OV := hid (Own.below HO.out hbV (Nat.le_refl _))
      have RVV := hid (Own.below RV2.out hbV (Nat.le_refl _))
      have BV := hid (bel_of HB.out hbV)
      have hxs : wr.heap.size < (wr.alloc (.cells #[.int .i64 i, .int .i64 j, .int .i64 cm, .int .i64 0] 40)).heap.size := by rw [World.size_alloc]; omega
      generalize wr.alloc (.cells #[.int .i64 i, .int .i64 j, .int .i64 cm, .int .i64 0] 40) = V at *
      generalize hX : wr.heap.size = X at *
      clear a0 a1 a2 a3 hbV hpv hX
      have v0 := box_cell hVb 0; have v1 := box_cell hVb 1; have v2 := box_cell hVb 2
      simp at v0 v1 v2
      have y3 := (BV.out.cell hbt).trans HD3.out
      have hbtV : bt < V.heap.size := World.block_lt_of_cell? V _ y3
      have HVB := hid hVb
      clear hVb
      go_region_held3 (fun W => W.cell? ⟨X, 2, none⟩ = some (.int .i64 cm) ∧ W.cell? ⟨X, 0, none⟩ = some (.int .i64 i) ∧ W.cell? ⟨bt, ot + i * 3 + 2, none⟩ = some (.int .i64 td)) (go_keep) (fail)
      obtain ⟨V2, hV2⟩ : ∃ V2, V2 = (V.alloc (.cells #[.int .i64 du] 3)).drew := ⟨_, rfl⟩
      rw [← hV2]
      have bV2 : Below V.heap.size V V2 := by rw [hV2]; exact ((Below.refl _ _).alloc (Nat.le_refl _) _).drew
      have hYb : V2.heap[V.heap.size]? = some (.cells #[.int .i64 du] 3) := by rw [hV2]; exact box_new V _ _
      have B2 := hid (bel_of BV.out bV2)
      have O2 := hid (Own.below OV.out bV2 (Nat.le_refl _))
      have R2 := hid (Own.below RVV.out bV2 (Nat.le_refl _))
      have hXb := box_below HVB.out bV2 (Nat.le_refl _)
      have hys : V.heap.size < V2.heap.size := (Array.getElem?_eq_some_iff.1 hYb).1
      have hxs2 : X < V2.heap.size := by omega
      have HXB := hid hXb
      have c0 := box_cell hXb 0; have c1 := box_cell hXb 1; have c2 := box_cell hYb 0
      simp at c0 c1 c2
      have HC := hid (lt_contains c cc dn i j du X V.heap.size V2 (HDN.out.below B2.out (Nat.le_refl _)) (by omega) hxs2 hys c0 c1 c2)
      rw [HTD.out] at HC
      clear hV2 bV2 hYb hXb v0 v1 v2 y3
      generalize V.heap.size = Y at *
      by_cases hdt : du ≤ T
      · cases tld with
        | true =>
          have HZ := hid (HNXT.out.trans (if_neg (by simp)))
          clear c0 c1
          go_wp2_with (first | (go_at_call 56; refine HC.out.mono ?_; rintro e w9 ⟨rfl, b9⟩; have B9 := hid (bel_of B2.out b9); have O9 := hid (Own.below O2.out b9 (Nat.le_refl _)); have R9 := hid (Own.below R2.out b9 (Nat.le_refl _)); clear b9 c2))
          go_roundw
          case rel => exact ⟨k + 1, by omega, by go_num, by rw [HZ.out]; exact O9.out, R9.out, B9.out⟩
          case measure => simp [intOf]; omega
        | false =>
          have HZ := hid (HNXT.out.trans (if_pos ⟨hdt, rfl⟩))
          clear c0 c1
          go_upto_region 8 with (first | (go_at_call 56; refine HC.out.mono ?_; rintro e w9 ⟨rfl, b9⟩; have B9 := hid (bel_of B2.out b9); have O9 := hid (Own.below O2.out b9 (Nat.le_refl _)); have R9 := hid (Own.below R2.out b9 (Nat.le_refl _)); have X9 := hid (box_below HXB.out b9 (Nat.le_refl _)); clear b9 c2))
          have c0 := box_cell X9.out 0; have c1 := box_cell X9.out 1
          simp at c0 c1
          have hs9 : w.heap.size ≤ w9.heap.size := B9.out.size
          go_wp2_with (at_builtin; refine wpList_append_own _ rfl _ _ 42 rfl w.heap.size 47 i0 (.agg #[.int .i64 0, .int .i64 0]) 2 16 Try.underlying42 Hi.out Hz0.out Hz1.out Hz2.out rfl (by decide) _ Z.length (EL.flat Z) rfl ?qc0 ⟨w9.heap.size, 0, none⟩ 1 1 (EL.enc ((i : Int), (j : Int))) ?qcx ?qc1 ?qc2 ?qc3 ?qc4 ?qc5 ?qc6 ?_)
          case qc0 => exact World.ownsRow.alloc O9.out _
          case qcx => rfl
          case qc1 => rfl
          case qc2 =>
            intro q u hq
            match q, hq with
            | 0, hq => simp [EL] at hq; subst hq; exact World.cell?_alloc_at _ _ _ _ (by simp)
            | 1, hq => simp [EL] at hq; subst hq; exact World.cell?_alloc_at _ _ _ _ (by simp)
            | q + 2, hq => simp [EL] at hq
          case qc3 => exact EL.h1 _
          case qc4 => unfold maxLen; omega
          case qc5 => omega
          case qc6 => simp; omega
          intro v' w10 hown hgrow hnil
          have HO10 : Hid (OwnL w10 w.heap.size v' (Z ++ [((i : Int), (j : Int))])) := own_snoc hown rfl rfl
          have HB10 := hid (B9.out.trans (Below.grown (Below.alloc (Below.refl w.heap.size w9) hs9 (.cells #[.int .i64 i, .int .i64 j] 47)) hgrow (by simp; omega) (fun q hq => (Own.lt O9.out q hq).1)))
          have HR10 := hid (Own.kept (own_alloc R9.out (.cells #[.int .i64 i, .int .i64 j] 47)) hgrow (own_apart (own_alloc R9.out (.cells #[.int .i64 i, .int .i64 j] 47)) (own_alloc O9.out (.cells #[.int .i64 i, .int .i64 j] 47)) (by decide)))
          clear hown hgrow hnil c0 c1
          go_wp2_with fail
          go_roundw
          case rel => exact ⟨k + 1, by omega, by go_num, by rw [HZ.out]; exact HO10.out, HR10.out, HB10.out⟩
          case measure => simp [intOf]; omega
      · have HZ := hid (HNXT.out.trans (if_neg (fun h => hdt h.1)))
        clear c0 c1
        go_wp2_with fail
        go_roundw
        case rel => exact ⟨k + 1, by omega, by go_num, by rw [HZ.out]; exact O2.out, R2.out, B2.out⟩
        case measure => simp [intOf]; omega
    · obtain rfl : k = JL.length := by omega
      clear ho hrv hb
      go_wp2_with fail
      go_ret
      exact ⟨⟨_, rfl, by rw [← HALL.out]; exact HO.out⟩, HB.out⟩
end PlayC
end Go.Proofs.Ytpnahhpkaegeeaa
