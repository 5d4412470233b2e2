/- The walk of PlayOn. -/
import Derived.Test.YtgplaoojimpbaaaPlyV
set_option linter.unusedVariables false
namespace Go.Proofs.Ytgplaoojimpbaaa
open Go.RowKit hiding tok
open Go.Shelf Go.Sort
open SpanM SpanC TaskM PlayM
open RowsO hiding Tk
namespace PlayC
open RowG
open NumC (Row)
theorem plD_bd (P : Pl) (T : Int) : (plD P T).length ≤ 20000 := by
  unfold plD
  split
  · rename_i h
    have hr : P.Ok ∧ T ≤ 20000 := by
      unfold plE at h
      split at h
      · split at h
        · split at h
          · split at h
            · have := rt_of (by assumption) (by assumption) (by assumption) h
              exact ⟨this.ok, this.t1⟩
            · simp at h
          · exact absurd h (by assumption)
        · exact absurd h (by assumption)
      · exact absurd h (by assumption)
    have := outs_bd P hr.1 T.toNat
    omega
  · simp
/-- all that is right, where nothing is told wrong -/
theorem plE_rt {P : Pl} {T : Int} (h : plE P T = 0) : Rt P T ∧ (P.pol = 1 ∨ P.pol = 2) := by
  unfold plE at h
  split at h
  · split at h
    · split at h
      · split at h
        · exact ⟨rt_of (by assumption) (by assumption) (by assumption) h, by assumption⟩
        · simp at h
      · exact absurd h (by assumption)
    · exact absurd h (by assumption)
  · exact absurd h (by assumption)
theorem rd_pre {w : World} {a : Option Addr} {l r : List Pl.Dn} (h : Rd ED w a (l ++ r)) : Rd ED w a l := by
  by_cases h0 : l = []
  · exact .inl h0
  · rcases h with h | ⟨b, off, rfl, h⟩
    · simp at h; exact .inl h.1
    · refine .inr ⟨b, off, rfl, fun i j hi hj => ?_⟩
      rw [h i j (by simp; omega) hj, List.getElem_append_left hi]
set_option maxRecDepth 20000 in
set_option maxHeartbeats 1600000 in
theorem playOn_e (P : Pl) (T U : Int) (a b c : Option Addr) (ca cb cc : Nat) (w : World) (hr : Tks w a P.l) (hf : Row w b P.f) (hs : Sps w c P.sl) (hE : plE P T ≠ 0 ∨ plE P U ≠ 0 ∨ U < T) :
    Calls Try.prog 9 #[.slice a P.l.length ca, .agg #[.int .i64 P.size, .slice c P.sl.length cc], .slice b P.f.length cb, .int .i64 P.pol, .int .i64 T, .int .i64 U] w fun e w' => e = .returned (.bool true) ∧ Below w.heap.size w w' := by
  have H1 := hid (fun W (h : Below w.heap.size w W) => play_any P T a b c ca cb cc W (hr.below h (Nat.le_refl _)) (Row.below hf h (Nat.le_refl _)) (hs.below h (Nat.le_refl _)))
  have H2 := hid (fun W (h : Below w.heap.size w W) => play_any P U a b c ca cb cc W (hr.below h (Nat.le_refl _)) (Row.below hf h (Nat.le_refl _)) (hs.below h (Nat.le_refl _)))
  have hd1 := plD_bd P T
  have hd2 := plD_bd P U
  clear hr hf hs
  generalize plE P T = E1 at *
  generalize plE P U = E2 at *
  generalize plN P T = N1 at *
  generalize plN P U = N2 at *
  generalize plD P T = D1 at *
  generalize plD P U = D2 at *
  have hE' : (E1 != 0) = true ∨ ((E1 != 0) = false ∧ (E2 != 0) = true) ∨ ((E1 != 0) = false ∧ (E2 != 0) = false ∧ U < T) := by
    by_cases h1 : E1 = 0
    · by_cases h2 : E2 = 0
      · exact .inr (.inr ⟨by simp [h1], by simp [h2], by omega⟩)
      · exact .inr (.inl ⟨by simp [h1], by simp [h2]⟩)
    · exact .inl (by simp [h1])
  clear hE
  go_enter Try.func9, Try.ntmps9
  rcases hE' with he | ⟨he, hf⟩ | ⟨he, hf, hu⟩
  all_goals
    go_wp2_with fail
    refine (H1.out _ (PB.start w _).bel).mono ?_
    rintro e w1 ⟨⟨v1, rfl, ho1⟩, b1⟩
    have B1 := hid ((PB.start w #[.int .i64 P.size, .slice c P.sl.length cc]).step b1)
    have O1 := hid ho1
    have x0 := box_cell B1.out.set 0
    have x1 := box_cell B1.out.set 1
    simp at x0 x1
    clear ho1 b1
    go_wp2_with fail
    refine (H2.out _ B1.out.bel).mono ?_
    rintro e w2 ⟨⟨v2, rfl, ho2⟩, b2⟩
    have B2 := hid (B1.out.step b2)
    have O2 := hid ho2
    have O1' := hid (O1.out.below b2 (Nat.le_refl _))
    clear ho2 b2 x0 x1
    go_wp2_with fail
    refine (plives _).mono ?_
    rintro e w3 ⟨rfl, b3⟩
    have B3 := hid (B2.out.step b3)
    clear b3
    go_wp2_with fail
    refine (plives _).mono ?_
    rintro e w4 ⟨rfl, b4⟩
    have B4 := hid (B3.out.step b4)
    clear b4
    go_wp2_with fail
    go_ret
    exact ⟨rfl, B4.out.bel⟩
set_option maxRecDepth 20000 in
set_option maxHeartbeats 1600000 in
theorem playOn_ok (P : Pl) (T U : Int) (a b c : Option Addr) (ca cb cc : Nat) (w : World) (hr : Tks w a P.l) (hf : Row w b P.f) (hs : Sps w c P.sl) (hE : plE P T = 0) (hE2 : plE P U = 0) (hu : ¬ U < T) :
    Calls Try.prog 9 #[.slice a P.l.length ca, .agg #[.int .i64 P.size, .slice c P.sl.length cc], .slice b P.f.length cb, .int .i64 P.pol, .int .i64 T, .int .i64 U] w fun e w' => e = .returned (.bool true) ∧ Below w.heap.size w w' := by
  have H1 := hid (fun W (h : Below w.heap.size w W) => play_any P T a b c ca cb cc W (hr.below h (Nat.le_refl _)) (Row.below hf h (Nat.le_refl _)) (hs.below h (Nat.le_refl _)))
  have H2 := hid (fun W (h : Below w.heap.size w W) => play_any P U a b c ca cb cc W (hr.below h (Nat.le_refl _)) (Row.below hf h (Nat.le_refl _)) (hs.below h (Nat.le_refl _)))
  have hd1 := plD_bd P T
  have hd2 := plD_bd P U
  have hrt := (plE_rt hE).1
  have hrt2 := (plE_rt hE2).1
  have hmore : ∃ r, plD P U = plD P T ++ r := by
    unfold plD
    rw [if_pos hE, if_pos hE2]
    exact Pl.outs_more P (by omega)
  have hidl : plN P T ≤ plN P U := by
    unfold plN
    rw [if_pos hE, if_pos hE2]
    exact Pl.idles_more P (by omega)
  obtain ⟨r, hmore⟩ := hmore
  rw [hE] at H1
  rw [hE2] at H2
  have hlen : (plD P T).length ≤ (plD P U).length := by rw [hmore]; simp
  have HM := hid hmore
  clear hr hf hs hrt hrt2 hE hE2 hmore
  generalize plN P T = N1 at *
  generalize plN P U = N2 at *
  generalize plD P T = D1 at *
  generalize plD P U = D2 at *
  go_enter Try.func9, Try.ntmps9
  go_wp2_with fail
  refine (H1.out _ (PB.start w _).bel).mono ?_
  rintro e w1 ⟨⟨v1, rfl, ho1⟩, b1⟩
  have B1 := hid ((PB.start w #[.int .i64 P.size, .slice c P.sl.length cc]).step b1)
  have O1 := hid ho1
  have x0 := box_cell B1.out.set 0
  have x1 := box_cell B1.out.set 1
  simp at x0 x1
  clear ho1 b1
  go_wp2_with fail
  refine (H2.out _ B1.out.bel).mono ?_
  rintro e w2 ⟨⟨v2, rfl, ho2⟩, b2⟩
  have B2 := hid (B1.out.step b2)
  have O2 := hid ho2
  have O1' := hid (O1.out.below b2 (Nat.le_refl _))
  clear ho2 b2 x0 x1
  go_wp2_with fail
  refine (plives _).mono ?_
  rintro e w3 ⟨rfl, b3⟩
  have B3 := hid (B2.out.step b3)
  have O1'' := hid (O1'.out.below b3 (Nat.le_refl _))
  have O2' := hid (O2.out.below b3 (Nat.le_refl _))
  obtain ⟨ad, cd, hv1, hr1, hn1⟩ := O1''.out.rd
  obtain ⟨ax, cx, hv2, hr2, hn2⟩ := O2'.out.rd
  have hcx : D2.length ≤ cx := by
    rcases O2'.out.form with ⟨e, e2⟩ | ⟨g, c', e, _, _, e3, _⟩
    · rw [e2]; simp
    · rw [hv2] at e; simp at e; omega
  subst hv1
  subst hv2
  have HE := hid (fun W (h : Below w3.heap.size w3 W) => equal_any ad ax cd cx D1 D1 W (hr1.below h (Nat.le_refl _)) (rd_pre (r := r) (by rw [← HM.out]; exact hr2.below h (Nat.le_refl _))) (by omega))
  rw [decide_eq_true rfl] at HE
  clear b3 hr1 hr2 hn1 hn2
  generalize D1.length = m1 at *
  generalize D2.length = m2 at *
  go_wp2_with fail
  refine (HE.out _ (by first | exact Below.refl _ _ | go_grown)).mono ?_
  rintro e w4 ⟨rfl, b4⟩
  have B4 := hid (B3.out.step b4)
  clear b4
  go_wp2_with fail
  go_ret
  exact ⟨by first | rfl | simp, B4.out.bel⟩
/-- PlayOn -/
theorem playOn_walk (a0 : Option Addr) (len0 cap0 : Nat) (l0 : List TaskM.Tk) (s1 : Int) (a1 : Option Addr) (len1 cap1 : Nat) (l1 : List Sp) (a2 : Option Addr) (len2 cap2 : Nat) (l2 : List Int) (n3 n4 n5 : Int) (w : World)
    (w0 : RowsO.IsTks w a0 len0 cap0 l0) (x1 : SpanC.wf64 s1) (w1 : SpanC.IsSps w a1 len1 cap1 l1) (w2 : RowsO.IsIns w a2 len2 cap2 l2) (w3 : SpanC.wf64 n3) (w4 : SpanC.wf64 n4) (w5 : SpanC.wf64 n5) :
    Calls Try.prog 9 #[.slice a0 len0 cap0, .agg #[.int .i64 s1, .slice a1 len1 cap1], .slice a2 len2 cap2, .int .i64 n3, .int .i64 n4, .int .i64 n5] w fun e w' => e = .returned (.bool true) ∧ Below w.heap.size w w' := by
  obtain ⟨rfl, _, _, hr, _⟩ := w0
  obtain ⟨rfl, _, _, hs, _⟩ := w1
  obtain ⟨rfl, _, _, hf, _⟩ := w2
  by_cases h : plE ⟨l0, l2, s1, l1, n3⟩ n4 = 0 ∧ plE ⟨l0, l2, s1, l1, n3⟩ n5 = 0 ∧ ¬ n5 < n4
  · exact playOn_ok ⟨l0, l2, s1, l1, n3⟩ n4 n5 a0 a2 a1 cap0 cap2 cap1 w hr hf hs h.1 h.2.1 h.2.2
  · refine playOn_e ⟨l0, l2, s1, l1, n3⟩ n4 n5 a0 a2 a1 cap0 cap2 cap1 w hr hf hs ?_
    by_cases h1 : plE ⟨l0, l2, s1, l1, n3⟩ n4 = 0
    · by_cases h2 : plE ⟨l0, l2, s1, l1, n3⟩ n5 = 0
      · exact .inr (.inr (Classical.byContradiction fun h3 => h ⟨h1, h2, h3⟩))
      · exact .inr (.inl h2)
    · exact .inl h1
end PlayC
end Go.Proofs.Ytgplaoojimpbaaa
