/- Several texts, one behind the other: PlyL5. -/
import Derived.Test.YtpnahhpkaegeeaaKPlyL4
import Derived.Test.YtpnahhpkaegeeaaPkM
import Derived.Deep.CutRange
/- The walk of PlayWork. -/
set_option linter.unusedVariables false
namespace Go.Proofs.Ytpnahhpkaegeeaa
open Go.RowKit hiding tok
open SpanM SupM SpanC TaskM PlayM
open RowsO hiding Tk
namespace PlayC
open NumC (Row)
open RowG
open TaskC (tchk tchk_zero)
/-- how many of each task are done -/
def nxs (n : Nat) (d : List Pl.Dn) : List Int := (List.range n).map fun i : Nat => ((Pl.ofTask d (i : Int) : Nat) : Int)
theorem nxs_len (n : Nat) (d : List Pl.Dn) : (nxs n d).length = n := by simp [nxs]
theorem nxs_nil (n : Nat) : nxs n [] = List.replicate n 0 := by
  apply List.ext_getElem
  · simp [nxs]
  · intro j h1 h2; simp [nxs, Pl.ofTask]
theorem nxs_at {n : Nat} {d : List Pl.Dn} {i : Nat} (h : i < n) : (nxs n d).getD i 0 = (Pl.ofTask d (i : Int) : Int) := by simp [nxs, List.getD, h]
theorem ofTask_snoc (d : List Pl.Dn) (x : Pl.Dn) (i : Int) : Pl.ofTask (d ++ [x]) i = Pl.ofTask d i + if x.1 = i then 1 else 0 := by
  unfold Pl.ofTask
  rw [List.countP_append, List.countP_singleton]
  simp
theorem nxs_snoc {n : Nat} {d : List Pl.Dn} {x : Pl.Dn} {i : Nat} (h : x.1 = (i : Int)) : nxs n (d ++ [x]) = (nxs n d).set i ((Pl.ofTask d (i : Int) : Int) + 1) := by
  apply List.ext_getElem
  · simp [nxs]
  · intro j h1 h2
    rw [List.getElem_set]
    by_cases c : i = j
    · subst c
      rw [if_pos rfl]
      simp only [nxs, List.getElem_map, List.getElem_range, ofTask_snoc, if_pos h]
      omega
    · rw [if_neg c]
      have : ¬ x.1 = (j : Int) := by omega
      simp only [nxs, List.getElem_map, List.getElem_range, ofTask_snoc, if_neg this]
      omega
/-- what is known of the k-th job that is done -/
structure WkK (P : Pl) (T : Int) (D : List Pl.Dn) (k : Nat) (x : Pl.Dn) (i j : Nat) : Prop where
  hi : i < P.l.length
  h1 : x.1 = (i : Int)
  h2 : x.2.1 = (j : Int)
  ho : (j : Int) = (Pl.ofTask (D.take k) (i : Int) : Int)
  hc : x.2.2.1 = P.f.getD i 0 + (j : Int) * (P.tk i).2.1
  c0 : 0 ≤ x.2.2.1
  c1 : x.2.2.1 < x.2.2.2
  c2 : x.2.2.2 ≤ 20000
  hl : (P.tk i).1 ≤ cb P.size P.sl x.2.2.2 - cb P.size P.sl x.2.2.1
  hk : ∀ h : 0 < k, ∀ h2 : k - 1 < D.length, (D[k - 1]).2.2.2 < x.2.2.2
theorem wk_k {P : Pl} {T : Int} (h : plE P T = 0) {k : Nat} (hk : k < (plD P T).length) : ∃ i j, WkK P T (plD P T) k (plD P T)[k] i j := by
  have hR := plE_rt' h
  have hD : plD P T = P.outs T.toNat := by unfold plD; rw [if_pos h]
  have ht : ((T.toNat : Nat) : Int) = T := by have := hR.t0; omega
  have hm : (plD P T)[k] ∈ P.outs T.toNat := by rw [← hD]; exact List.getElem_mem hk
  obtain ⟨i, j, a1, a2, a3, a4, a5, a6, a7, a8⟩ := Pl.took_long hR.ok hm
  have ord := Pl.outs_order hR.ok T.toNat
  rw [← hD] at ord
  obtain ⟨o1, o2⟩ := ord ((plD P T).take k) (plD P T)[k] ((plD P T).drop (k + 1)) (by rw [← List.drop_eq_getElem_cons hk, List.take_append_drop])
  have := hR.t1
  refine ⟨i, j, a1, a2, a3, ?_, a4, by omega, by omega, by omega, a8, fun h0 h2 => ?_⟩
  · rw [← a3, o1, a2]
  · exact o2 _ (List.mem_take_iff_getElem.2 ⟨k - 1, by omega, rfl⟩)
theorem wk_end {P : Pl} {T : Int} (h : plE P T = 0) : P.wk (plD P T) + plN P T ≤ cb P.size P.sl T - cb P.size P.sl 0 := by
  have hR := plE_rt' h
  have hD : plD P T = P.outs T.toNat := by unfold plD; rw [if_pos h]
  have hN : plN P T = P.idles T.toNat := by unfold plN; rw [if_pos h]
  have ht : ((T.toNat : Nat) : Int) = T := by have := hR.t0; omega
  have a := Pl.work_le hR.ok T.toNat
  have e : av P.on T.toNat = cb P.size P.sl (T.toNat : Int) := av_cb hR.ok.s1 hR.ok.sg T.toNat
  have e0 : av P.on 0 = cb P.size P.sl ((0 : Nat) : Int) := av_cb hR.ok.s1 hR.ok.sg 0
  rw [ht] at e
  rw [hD, hN]
  have : av P.on 0 = 0 := rfl
  simp only [Int.natCast_zero] at e0
  omega
theorem plD_err {P : Pl} {T : Int} (h : plE P T ≠ 0) : plD P T = [] := by unfold plD; rw [if_neg h]
theorem rd_row {α : Type} {E : Enc α} {w w' : World} {a : Option Addr} {l : List α} {g : Nat} (h : Rd E w a l) (hg : w.grownBy w' (some g)) (hne : ∀ q, a = some q → q.block ≠ g) : Rd E w' a l := by
  rcases h with rfl | ⟨b, off, rfl, h⟩
  · exact .inl rfl
  · refine .inr ⟨b, off, rfl, fun i j hi hj => ?_⟩
    have h1 := h i j hi hj
    have hb : b ≠ g := hne _ rfl
    rw [List.getElem?_eq_getElem (by rw [E.hk]; exact hj)] at h1 ⊢
    exact hg.cell h1 (by simpa using hb)
variable (P : Pl) (T : Int) (a b c : Option Addr) (ca cb' cc : Nat) (w : World)
set_option maxRecDepth 20000 in
set_option maxHeartbeats 1600000 in
theorem work_err (hr : Tks w a P.l) (hf : Row w b P.f) (hs : Sps w c P.sl) (h : plE P T ≠ 0) :
    Calls Try.prog 8 #[.slice a P.l.length ca, .agg #[.int .i64 P.size, .slice c P.sl.length cc], .slice b P.f.length cb', .int .i64 P.pol, .int .i64 T] w fun e w' => e = .returned (.bool true) ∧ Below w.heap.size w w' := by
  have H1 := hid (fun W (h : Below w.heap.size w W) => play_any P T a b c ca cb' cc W (hr.below h (Nat.le_refl _)) (Row.below hf h (Nat.le_refl _)) (hs.below h (Nat.le_refl _)))
  rw [plD_err h] at H1
  have hn : (plE P T != 0) = true := by simpa using h
  clear hr hf hs h
  generalize plE P T = E at *
  generalize plN P T = NN at *
  go_enter Try.func8, Try.ntmps8
  go_wp2_with fail
  refine (H1.out _ (PB.start w _).bel).mono ?_
  rintro e w1 ⟨⟨v, rfl, ho⟩, b1⟩
  have B1 := hid ((PB.start w #[.int .i64 P.size, .slice c P.sl.length cc]).step b1)
  obtain ⟨av, cv, rfl⟩ := ho.slice
  clear b1 ho
  go_wp2_with fail
  refine (plives _).mono ?_
  rintro e w2 ⟨rfl, b2⟩
  have B2 := hid (B1.out.step b2)
  clear b2
  go_wp2_with fail
  refine (plives _).mono ?_
  rintro e w3 ⟨rfl, b3⟩
  have B3 := hid (B2.out.step b3)
  clear b3
  go_wp2_with fail
  go_ret
  exact ⟨by first | rfl | simp, B3.out.bel⟩
set_option maxRecDepth 20000 in
set_option maxHeartbeats 4000000 in
theorem work_ok (hr : Tks w a P.l) (hf : Row w b P.f) (hs : Sps w c P.sl) (h : plE P T = 0) :
    Calls Try.prog 8 #[.slice a P.l.length ca, .agg #[.int .i64 P.size, .slice c P.sl.length cc], .slice b P.f.length cb', .int .i64 P.pol, .int .i64 T] w fun e w' => e = .returned (.bool true) ∧ Below w.heap.size w w' := by
  have hR := plE_rt' h
  have H1 := hid (fun W (h : Below w.heap.size w W) => play_any P T a b c ca cb' cc W (hr.below h (Nat.le_refl _)) (Row.below hf h (Nat.le_refl _)) (hs.below h (Nat.le_refl _)))
  have H2 := hid (fun W f t (h : Below w.heap.size w W) (h1 : 0 ≤ f) (h2 : f ≤ t) (h3 : t ≤ 20000) => count_ok P.size f t c cc P.sl W (hs.below h (Nat.le_refl _)) hR.ck h1 h2 (by omega))
  have HKK := hid (fun k (hk : k < (plD P T).length) => wk_k h hk)
  have HEND := hid (wk_end h)
  have HDL := hid (show (plD P T).length ≤ 20000 by
    unfold plD
    rw [if_pos h]
    have := outs_bd P hR.ok T.toNat
    have := hR.t0
    have := hR.t1
    omega)
  have HCB := hid (cb_le hR.ck hR.t0 (by have := hR.t1; omega))
  have hNN : 0 ≤ plN P T ∧ plN P T ≤ 20000 := by
    unfold plN
    rw [if_pos h]
    have := idles_bd P hR.ok T.toNat
    have := hR.t0
    have := hR.t1
    omega
  rw [h] at H1
  have HR := hid hr
  have HF := hid hf
  have HOK := hid hR.ok
  have t0 := hR.t0
  have t1 := hR.t1
  have hl16 := hR.l16
  obtain ⟨i0, hi, hz0, hz1, hz2⟩ := info_parts infoInt
  have Hi := hid hi
  have Hz0 := hid hz0
  have Hz1 := hid hz1
  have Hz2 := hid hz2
  clear hr hf hs h hR hi hz0 hz1 hz2
  generalize plD P T = D at *
  generalize plN P T = NN at *
  obtain ⟨n0, n1⟩ := hNN
  go_enter Try.func8, Try.ntmps8
  go_wp2_with fail
  refine (H1.out _ (PB.start w _).bel).mono ?_
  rintro e w1 ⟨⟨v, rfl, ho⟩, b1⟩
  have B1 := hid ((PB.start w #[.int .i64 P.size, .slice c P.sl.length cc]).step b1)
  obtain ⟨ad, cd, rfl, hrd, _⟩ := ho.rd
  have RD1 := hid hrd
  clear b1 ho hrd
  go_wp2_with fail
  refine (plives _).mono ?_
  rintro e w2 ⟨rfl, b2⟩
  have B2 := hid (B1.out.step b2)
  have RD2 := hid (Rd.below RD1.out b2 (Nat.le_refl _))
  have x0 := box_cell B2.out.set 0
  have x1 := box_cell B2.out.set 1
  simp at x0 x1
  clear b2
  go_wp2_with fail
  refine (H2.out w2 0 T B2.out.bel (by omega) t0 t1).mono ?_
  rintro e w3 ⟨rfl, b3⟩
  have B3 := hid (B2.out.step b3)
  have RD3 := hid (Rd.below RD2.out b3 (Nat.le_refl _))
  have hs3 := B3.out.sz
  have HS3 := hid hs3
  clear b3 x0 x1
  generalize hCT : cb P.size P.sl T - cb P.size P.sl 0 = CT at *
  clear hCT
  go_wp2_with (at_make; refine wpList_make_full _ rfl _ _ 26 rfl (w.heap.size + 1) 3 i0 (.int .i64 0) 1 Try.underlying26 Hi.out Hz0.out Hz1.out _ _ _ _ P.l.length rfl rfl ?qd1 ?qd2 ?qd3 ?qd4 ?qd5 ?_)
  case qd1 => rfl
  case qd2 => rfl
  case qd3 => rw [Hz2.out]; omega
  case qd4 => unfold maxLen; omega
  case qd5 => exact HS3.out
  intro w4 hown hgrow
  have HO4 : Hid (OwnI w4 (w.heap.size + 1) (.slice (some ⟨w3.heap.size, 0, none⟩) P.l.length P.l.length) (nxs P.l.length (D.take 0))) := by
    show OwnI _ _ _ _
    rw [List.take_zero, nxs_nil]
    exact ownI_made hown
  have b4 : Below w3.heap.size w3 w4 := Below.grown (Below.refl _ _) hgrow (Nat.le_refl _) (fun k hk => by simp at hk)
  have B4 := hid (B3.out.step b4)
  have RD4 := hid (Rd.below RD3.out b4 (Nat.le_refl _))
  have HRD : Hid (∀ q, ad = some q → D.length ≠ 0 → q.block < w3.heap.size) := by
    intro q hq hd
    rcases RD3.out with h | ⟨b, off, e1, h⟩
    · rw [h] at hd; simp at hd
    · have h0 := h 0 0 (by omega) (by decide)
      rw [hq] at e1
      injection e1 with e1
      subst e1
      have hlen := ED.hk D[0]
      rw [List.getElem?_eq_getElem (by rw [hlen]; decide)] at h0
      exact World.block_lt_of_cell? w3 _ h0
  clear hown hgrow b4
  generalize w3.heap.size = g at *
  have hg : w.heap.size + 1 ≤ g := HS3.out
  go_wp2_with fail
  go_loopw [16, 56] (fun v16 v56 wr => ∃ (k : Nat) (wk : Int), k ≤ D.length ∧ v16 = .int .i64 wk ∧ v56 = .int .i64 k ∧ Hid (wk = P.wk (D.take k)) ∧ 0 ≤ wk ∧ wk ≤ k * 10000 ∧ OwnI wr (w.heap.size + 1) (.slice (some ⟨g, 0, none⟩) P.l.length P.l.length) (nxs P.l.length (D.take k)) ∧ Rd ED wr ad D ∧ PB w wr #[.int .i64 P.size, .slice c P.sl.length cc]) (fun _ v56 _ => D.length - (intOf v56).toNat)
  case atStart => exact ⟨0, 0, by omega, rfl, rfl, (by rfl : (0 : Int) = P.wk (D.take 0)), by omega, by omega, HO4.out, RD4.out, B4.out⟩
  case round =>
    obtain ⟨k, wk, hk, rfl, rfl, hW, wk0, wk1, ho, hrd, hb⟩ := hrel
    have B := hid hb
    have HO := hid ho
    have RD := hid hrd
    have hD20 := HDL.out
    by_cases hlt : k < D.length
    · obtain ⟨pd, od, rfl, hc⟩ := Rd.at hrd k hlt
      obtain ⟨i, j, K⟩ := HKK.out k hlt
      have htk : D.take (k + 1) = D.take k ++ [D[k]] := List.take_succ_eq_append_getElem hlt
      have hpd := HRD.out _ rfl (by omega)
      have hpv : k = 0 ∨ ∃ m z3', k = m + 1 ∧ wr.cell? ⟨pd, od + m * 4 + 3, none⟩ = some (.int .i64 z3') ∧ z3' < D[k].2.2.2 ∧ m < D.length := by
        by_cases h0 : k = 0
        · exact .inl h0
        · obtain ⟨m, rfl⟩ : ∃ m, k = m + 1 := ⟨k - 1, by omega⟩
          obtain ⟨pd', od', e1, hc'⟩ := Rd.at hrd m (by omega)
          injection e1 with e1
          injection e1 with e1 e2
          subst e1 e2
          have h3 := hc' 3 (by decide)
          have h4 := K.hk (by omega) (by omega)
          simp [ED] at h3
          exact .inr ⟨m, _, rfl, h3, h4, by omega⟩
      have HPV := hid hpv
      obtain ⟨K1, K2, K3, K4, K5, K6, K7, K8, K9, _⟩ := K
      generalize D[k] = x at *
      obtain ⟨z0, z1, z2, z3⟩ := x
      have a0 := hc 0 (by decide); have a1 := hc 1 (by decide); have a2 := hc 2 (by decide); have a3 := hc 3 (by decide)
      simp [ED] at a0 a1 a2 a3
      simp only at K2 K3 K5 K6 K7 K8 K9 htk
      subst K2 K3
      obtain ⟨bt, ot, rfl, hbt, d1, d2, d3⟩ := HR.out.at i K1
      obtain ⟨bf, of', rfl, hbf, d4⟩ := Row.at HF.out i (by have := HOK.out.len; omega)
      have hz : zTk = (0, 0, 0) := rfl
      rw [hz] at d1 d2 d3
      rw [← Pl.tk_at] at d1 d2 d3
      have hok := HOK.out.at K1
      have HWN := hid (show P.wk (D.take (k + 1)) = P.wk (D.take k) + (P.tk i).1 by rw [htk, Pl.wk_snoc]; simp)
      have y0 := OwnI.cell ho i (by rw [nxs_len]; exact K1)
      rw [nxs_at K1, ← K4] at y0
      have y1 := ownI_frozen ho (by rw [nxs_len]) i
      have hgs : g < wr.heap.size := World.block_lt_of_cell? wr ⟨g, i, none⟩ y0
      have hpw : pd < wr.heap.size := World.block_lt_of_cell? wr _ a0
      have HST := hid (ownI_set ho (by rw [nxs_len]) i ((j : Int) + 1))
      have HNX := hid (show nxs P.l.length (D.take (k + 1)) = (nxs P.l.length (D.take k)).set i ((j : Int) + 1) by rw [htk, nxs_snoc rfl, ← K4])
      have HFL := hid (show i < P.f.length by have := HOK.out.len; omega)
      have il : (i : Int) < (P.l.length : Int) := by omega
      have kl : (k : Int) < (D.length : Int) := by omega
      generalize P.tk i = t at *
      obtain ⟨tm, te, td⟩ := t
      obtain ⟨p1, p2, p3, p4, p5, p6⟩ := hok
      generalize hf00 : P.f.getD i 0 = f0 at *
      simp only at d1 d2 d3 p1 p2 p3 p4 p5 p6 K5 K9 HWN
      clear hc ho hrd hb htk hz K4
      have g1 : decide ((i : Int) < 0) = false := by simp
      have g2 : decide ((P.l.length : Int) ≤ (i : Int)) = false := by rw [decide_eq_false_iff_not]; omega
      have g2' : decide (P.l.length ≤ i) = false := by rw [decide_eq_false_iff_not]; omega
      have g3 : ((j : Int) != (j : Int)) = false := by simp
      have hf0 := HOK.out.first i
      rw [hf00] at hf0
      have hjb : 0 ≤ (j : Int) * te := Int.mul_nonneg (by omega) (by omega)
      have wr2 : IntKind.i64.wrap ((j : Int) * te) = (j : Int) * te := by
        generalize (j : Int) * te = jt at *
        rw [IntKind.wrap_i64]; omega
      have wr3 : IntKind.i64.wrap (f0 + (j : Int) * te) = z2 := by
        rw [← K5]
        generalize (j : Int) * te = jt at *
        rw [IntKind.wrap_i64]; omega
      have g6 : (z2 != z2) = false := by simp
      have K5' := hid K5
      have HF0 := hid hf0
      clear K5 hf00 hf0 hjb
      have hj2 : (j : Int) ≤ 20000 := by
        have h1 := K5'.out
        have h2 := Int.mul_le_mul_of_nonneg_left p1 (show (0 : Int) ≤ j by omega)
        have h3 := HF0.out
        generalize (j : Int) * te = jt at *
        omega
      have HD1 := hid d1
      have HD2 := hid d2
      have HD3 := hid d3
      have HD4 := hid d4
      have HST' := HO
      have HTB := hid (⟨p1, p2, p5, p6, p4⟩ : 1 ≤ te ∧ te ≤ 10000 ∧ 1 ≤ tm ∧ tm ≤ td ∧ td ≤ te)
      have HWW := hid wk1
      clear d1 d2 d3 d4 HST y1
      rcases HPV.out with h0 | ⟨m, z3', hm, m1, m2, m3⟩
      · have g4 : decide ((0 : Int) < (k : Int)) = false := by rw [decide_eq_false_iff_not]; omega
        have g4' : decide (0 < k) = false := by rw [decide_eq_false_iff_not]; omega
        clear h0
        go_wp2_with fail
        go_quiet (fail)
        clear g4 g4'
        obtain ⟨V, hV⟩ : ∃ V, V = (wr.alloc (.cells #[.int .i64 i, .int .i64 j, .int .i64 z2, .int .i64 z3] 40)).drewN nq := ⟨_, rfl⟩
        rw [← hV]
        have bV : Below wr.heap.size wr V := by rw [hV]; exact below_drewN ((Below.refl _ _).alloc (Nat.le_refl _) _) _
        have hVb : V.heap[wr.heap.size]? = some (.cells #[.int .i64 i, .int .i64 j, .int .i64 z2, .int .i64 z3] 40) := by rw [hV]; exact box_new _ _ _
        have BV := hid (B.out.step bV)
        have OV := hid (OwnI.below HO.out bV (Nat.le_refl _))
        have RV := hid (Rd.below RD.out bV (Nat.le_refl _))
        have y2 := (bV.cell (World.block_lt_of_cell? _ _ y0)).trans y0
        have y1 := ownI_frozen OV.out (by rw [nxs_len]) i
        have v0 := box_cell hVb 0; have v1 := box_cell hVb 1; have v2 := box_cell hVb 2; have v3 := box_cell hVb 3
        simp at v0 v1 v2 v3
        have HVB := hid hVb
        have HST := hid (ownI_set OV.out (by rw [nxs_len]) i ((j : Int) + 1))
        clear hV y0 bV hVb a0 a1 a2 a3
        go_upto_region 13 with fail
        obtain ⟨o9, g9⟩ := HST.out
        obtain ⟨V2, hV2⟩ : ∃ V2, V2 = V.setCell ⟨g, i, none⟩ (.int .i64 ((j : Int) + 1)) := ⟨_, rfl⟩
        rw [← hV2] at o9 g9 ⊢
        have B9 := hid (BV.out.row g9 (fun q hq => by simp at hq; omega))
        have hb9 := box_grown HVB.out g9 (by simp; omega)
        have R9 := hid (rd_row RV.out g9 (fun q hq => by injection hq with hq; subst hq; show pd ≠ g; omega))
        rw [← HNX.out] at o9
        have O9 := hid o9
        have HB9 := hid hb9
        have e1 := (B9.out.bel.cell hbt).trans HD1.out
        have e2 := (B9.out.bel.cell hbt).trans HD2.out
        have e3 := (B9.out.bel.cell hbt).trans HD3.out
        have u0 := box_cell hb9 0; have u2 := box_cell hb9 2; have u3 := box_cell hb9 3
        simp at u0 u2 u3
        have x0 := box_cell B9.out.set 0
        have x1 := box_cell B9.out.set 1
        simp at x0 x1
        have hxs : w.heap.size < V2.heap.size := by have := B9.out.sz; omega
        have hws : wr.heap.size < V2.heap.size := (Array.getElem?_eq_some_iff.1 hb9).1
        clear hV2 g9 o9 hb9 y2 y1 v0 v1 v2 v3
        go_wp2_with fail
        have hal := (Below.refl V2.heap.size V2).alloc (Nat.le_refl _) (.cells #[.int .i64 tm, .int .i64 te, .int .i64 td] 67)
        refine (H2.out _ z2 z3 (B9.out.step hal).bel (by omega) (by omega) (by omega)).mono ?_
        rintro e w6 ⟨rfl, b6⟩
        have bT : Below V2.heap.size V2 w6 := bel_of hal b6
        have hTb := box_below (box_new V2 #[.int .i64 tm, .int .i64 te, .int .i64 td] 67) b6 (Nat.le_refl _)
        have hDb := box_below HB9.out bT (Nat.le_refl _)
        have B10 := hid (B9.out.step bT)
        have O10 := hid (OwnI.below O9.out bT (Nat.le_refl _))
        have R10 := hid (Rd.below R9.out bT (Nat.le_refl _))
        have e4 := (B10.out.bel.cell hbf).trans HD4.out
        have HDR := hid (fun n => below_drewN (Below.refl w6.heap.size w6) n)
        clear e1 e2 e3 u0 u2 u3 x0 x1 hal b6 bT
        have t0' := box_cell hTb 0; have t1' := box_cell hTb 1
        have u0 := box_cell hDb 0; have u1 := box_cell hDb 1; have u2 := box_cell hDb 2
        simp at t0' t1' u0 u1 u2
        clear hTb hDb
        have g7 : decide (cb P.size P.sl z3 - cb P.size P.sl z2 < tm) = false := by rw [decide_eq_false_iff_not]; omega
        generalize cb P.size P.sl z3 - cb P.size P.sl z2 = kc at *
        have hfl := HFL.out
        have hfi : (i : Int) < (P.f.length : Int) := by omega
        go_wp2_with fail
        go_quiet (fail)
        go_wp2_with fail
        go_roundw
        case rel =>
          have hTT := HTB.out
          exact ⟨k + 1, wk + tm, by omega, by go_num, by go_num, (by rw [HWN.out, hW.out] : wk + tm = P.wk (D.take (k + 1))), by omega, by have := HWW.out; omega, OwnI.below O10.out (HDR.out _) (Nat.le_refl _), Rd.below R10.out (HDR.out _) (Nat.le_refl _), B10.out.step (HDR.out _)⟩
        case measure => simp [intOf]; omega
      · simp only at m2
        have g4 : decide ((0 : Int) < (k : Int)) = true := by rw [decide_eq_true_eq]; omega
        have g4' : decide (0 < k) = true := by rw [decide_eq_true_eq]; omega
        have g5 : decide (z3 ≤ z3') = false := by rw [decide_eq_false_iff_not]; omega
        have wr1 : IntKind.i64.wrap ((k : Int) - 1) = (m : Int) := by rw [IntKind.wrap_i64]; omega
        have m4 : (m : Int) < (D.length : Int) := by omega
        clear hm
        go_wp2_with fail
        go_quiet (fail)
        clear g4 g4' g5 wr1 m4 m1
        obtain ⟨V, hV⟩ : ∃ V, V = (wr.alloc (.cells #[.int .i64 i, .int .i64 j, .int .i64 z2, .int .i64 z3] 40)).drewN nq := ⟨_, rfl⟩
        rw [← hV]
        have bV : Below wr.heap.size wr V := by rw [hV]; exact below_drewN ((Below.refl _ _).alloc (Nat.le_refl _) _) _
        have hVb : V.heap[wr.heap.size]? = some (.cells #[.int .i64 i, .int .i64 j, .int .i64 z2, .int .i64 z3] 40) := by rw [hV]; exact box_new _ _ _
        have BV := hid (B.out.step bV)
        have OV := hid (OwnI.below HO.out bV (Nat.le_refl _))
        have RV := hid (Rd.below RD.out bV (Nat.le_refl _))
        have y2 := (bV.cell (World.block_lt_of_cell? _ _ y0)).trans y0
        have y1 := ownI_frozen OV.out (by rw [nxs_len]) i
        have v0 := box_cell hVb 0; have v1 := box_cell hVb 1; have v2 := box_cell hVb 2; have v3 := box_cell hVb 3
        simp at v0 v1 v2 v3
        have HVB := hid hVb
        have HST := hid (ownI_set OV.out (by rw [nxs_len]) i ((j : Int) + 1))
        clear hV y0 bV hVb a0 a1 a2 a3
        go_upto_region 13 with fail
        obtain ⟨o9, g9⟩ := HST.out
        obtain ⟨V2, hV2⟩ : ∃ V2, V2 = V.setCell ⟨g, i, none⟩ (.int .i64 ((j : Int) + 1)) := ⟨_, rfl⟩
        rw [← hV2] at o9 g9 ⊢
        have B9 := hid (BV.out.row g9 (fun q hq => by simp at hq; omega))
        have hb9 := box_grown HVB.out g9 (by simp; omega)
        have R9 := hid (rd_row RV.out g9 (fun q hq => by injection hq with hq; subst hq; show pd ≠ g; omega))
        rw [← HNX.out] at o9
        have O9 := hid o9
        have HB9 := hid hb9
        have e1 := (B9.out.bel.cell hbt).trans HD1.out
        have e2 := (B9.out.bel.cell hbt).trans HD2.out
        have e3 := (B9.out.bel.cell hbt).trans HD3.out
        have u0 := box_cell hb9 0; have u2 := box_cell hb9 2; have u3 := box_cell hb9 3
        simp at u0 u2 u3
        have x0 := box_cell B9.out.set 0
        have x1 := box_cell B9.out.set 1
        simp at x0 x1
        have hxs : w.heap.size < V2.heap.size := by have := B9.out.sz; omega
        have hws : wr.heap.size < V2.heap.size := (Array.getElem?_eq_some_iff.1 hb9).1
        clear hV2 g9 o9 hb9 y2 y1 v0 v1 v2 v3
        go_wp2_with fail
        have hal := (Below.refl V2.heap.size V2).alloc (Nat.le_refl _) (.cells #[.int .i64 tm, .int .i64 te, .int .i64 td] 67)
        refine (H2.out _ z2 z3 (B9.out.step hal).bel (by omega) (by omega) (by omega)).mono ?_
        rintro e w6 ⟨rfl, b6⟩
        have bT : Below V2.heap.size V2 w6 := bel_of hal b6
        have hTb := box_below (box_new V2 #[.int .i64 tm, .int .i64 te, .int .i64 td] 67) b6 (Nat.le_refl _)
        have hDb := box_below HB9.out bT (Nat.le_refl _)
        have B10 := hid (B9.out.step bT)
        have O10 := hid (OwnI.below O9.out bT (Nat.le_refl _))
        have R10 := hid (Rd.below R9.out bT (Nat.le_refl _))
        have e4 := (B10.out.bel.cell hbf).trans HD4.out
        have HDR := hid (fun n => below_drewN (Below.refl w6.heap.size w6) n)
        clear e1 e2 e3 u0 u2 u3 x0 x1 hal b6 bT
        have t0' := box_cell hTb 0; have t1' := box_cell hTb 1
        have u0 := box_cell hDb 0; have u1 := box_cell hDb 1; have u2 := box_cell hDb 2
        simp at t0' t1' u0 u1 u2
        clear hTb hDb
        have g7 : decide (cb P.size P.sl z3 - cb P.size P.sl z2 < tm) = false := by rw [decide_eq_false_iff_not]; omega
        generalize cb P.size P.sl z3 - cb P.size P.sl z2 = kc at *
        have hfl := HFL.out
        have hfi : (i : Int) < (P.f.length : Int) := by omega
        go_wp2_with fail
        go_quiet (fail)
        go_wp2_with fail
        go_roundw
        case rel =>
          have hTT := HTB.out
          exact ⟨k + 1, wk + tm, by omega, by go_num, by go_num, (by rw [HWN.out, hW.out] : wk + tm = P.wk (D.take (k + 1))), by omega, by have := HWW.out; omega, OwnI.below O10.out (HDR.out _) (Nat.le_refl _), Rd.below R10.out (HDR.out _) (Nat.le_refl _), B10.out.step (HDR.out _)⟩
        case measure => simp [intOf]; omega
    · obtain rfl : k = D.length := by omega
      have hle : wk + NN ≤ CT := by
        have h1 := hW.out
        rw [List.take_length] at h1
        have := HEND.out
        omega
      have hfin : decide (wk + NN ≤ CT) = true := by rw [decide_eq_true_eq]; exact hle
      have wr1 : IntKind.i64.wrap (wk + NN) = wk + NN := by rw [IntKind.wrap_i64]; omega
      clear ho hrd hb
      go_wp2_with fail
      go_ret
      exact ⟨by first | rfl | simp [hle], B.out.bel⟩
theorem playWork_walk (a0 : Option Addr) (len0 cap0 : Nat) (l0 : List TaskM.Tk) (s1 : Int) (a1 : Option Addr) (len1 cap1 : Nat) (l1 : List Sp) (a2 : Option Addr) (len2 cap2 : Nat) (l2 : List Int) (n3 n4 : Int) (w : World)
    (w0 : RowsO.IsTks w a0 len0 cap0 l0) (x1 : SpanC.wf64 s1) (w1 : SpanC.IsSps w a1 len1 cap1 l1) (w2 : RowsO.IsIns w a2 len2 cap2 l2) (w3 : SpanC.wf64 n3) (w4 : SpanC.wf64 n4) :
    Calls Try.prog 8 #[.slice a0 len0 cap0, .agg #[.int .i64 s1, .slice a1 len1 cap1], .slice a2 len2 cap2, .int .i64 n3, .int .i64 n4] w fun e w' => e = .returned (.bool true) ∧ Below w.heap.size w w' := by
  obtain ⟨rfl, _, _, hr, _⟩ := w0
  obtain ⟨rfl, _, _, hs, _⟩ := w1
  obtain ⟨rfl, _, _, hf, _⟩ := w2
  by_cases h : plE ⟨l0, l2, s1, l1, n3⟩ n4 = 0
  · exact work_ok ⟨l0, l2, s1, l1, n3⟩ n4 a0 a2 a1 cap0 cap2 cap1 w hr hf hs h
  · exact work_err ⟨l0, l2, s1, l1, n3⟩ n4 a0 a2 a1 cap0 cap2 cap1 w hr hf hs h
end PlayC
end Go.Proofs.Ytpnahhpkaegeeaa
