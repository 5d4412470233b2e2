/- Several texts, one behind the other: PlyL3. -/
import Derived.Test.YtpnahhpkaegeeaaPkR
import Derived.Test.YtpnahhpkaegeeaaPkI
/- The walk of PlayFits. -/
set_option linter.unusedVariables false
namespace Go.Proofs.Ytpnahhpkaegeeaa
open Go.RowKit hiding tok
open SpanM SpanC TaskM PlayM
open RowsO hiding Tk
namespace PlayC
open NumC (Row)
open RowG
open TaskC (fitE fitB fitN Fits_any fit_true Fit)
theorem fits_no {l : List Tk} {f : List Int} {s : Int} {sl : List Sp} {T : Int} (h : plE ⟨l, f, s, sl, 1⟩ T = 0) (hf : fitB l s sl = true) : (⟨l, f, s, sl, 1⟩ : Pl).lates ((⟨l, f, s, sl, 1⟩ : Pl).outs T.toNat) T = [] := by
  have hR := plE_rt' h
  have ht : ((T.toNat : Nat) : Int) = T := by have := hR.t0; omega
  have k4 : (⟨l, f, s, sl, 1⟩ : Pl).lates ((⟨l, f, s, sl, 1⟩ : Pl).outs T.toNat) (T.toNat : Int) = [] := by
    refine (Pl.no_lates hR.ok).2 fun i k hi hd => ?_
    exact Pl.fits_late (P := ⟨l, f, s, sl, 1⟩) hR.ok rfl (fit_true hf).2 hi hd
  rw [ht] at k4
  exact k4
set_option maxRecDepth 20000 in
set_option maxHeartbeats 1600000 in
theorem playFits_any (l : List Tk) (f : List Int) (s : Int) (sl : List Sp) (T : Int) (a b c : Option Addr) (ca cb cc : Nat) (w : World) (hr : Tks w a l) (hf : Row w b f) (hs : Sps w c sl) :
    Calls Try.prog 6 #[.slice a l.length ca, .agg #[.int .i64 s, .slice c sl.length cc], .slice b f.length cb, .int .i64 T] w fun e w' => e = .returned (.bool true) ∧ Below w.heap.size w w' := by
  have H1 := hid (fun W (h : Below w.heap.size w W) => Fits_any a c ca cc l sl s W (hr.below h (Nat.le_refl _)) (hs.below h (Nat.le_refl _)))
  have H2 := hid (fun W (h : Below w.heap.size w W) => late_any ⟨l, f, s, sl, 1⟩ T a b c ca cb cc W (hr.below h (Nat.le_refl _)) (Row.below hf h (Nat.le_refl _)) (hs.below h (Nat.le_refl _)))
  have HB := hid (fun (h : plE ⟨l, f, s, sl, 1⟩ T = 0) (h2 : fitB l s sl = true) => fits_no h h2)
  clear hr hf hs
  simp only at H2
  generalize (⟨l, f, s, sl, 1⟩ : Pl).lates ((⟨l, f, s, sl, 1⟩ : Pl).outs T.toNat) T = L1 at *
  generalize plE ⟨l, f, s, sl, 1⟩ T = E at *
  generalize fitB l s sl = FB at *
  generalize fitN l s sl = FN at *
  generalize fitE l s sl = FE at *
  go_enter Try.func6, Try.ntmps6
  go_wp2_with fail
  refine (H1.out _ (PB.start w _).bel).mono ?_
  rintro e w1 ⟨rfl, b1⟩
  have B1 := hid ((PB.start w #[.int .i64 s, .slice c sl.length cc]).step b1)
  have x0 := box_cell B1.out.set 0
  have x1 := box_cell B1.out.set 1
  simp at x0 x1
  clear b1
  go_wp2_with fail
  refine (H2.out _ B1.out.bel).mono ?_
  rintro e w2 ⟨⟨n2, q2, rfl, hq3, hq4⟩, b2⟩
  have B2 := hid (B1.out.step b2)
  have Q3 := hid hq3
  have Q4 := hid hq4
  clear hq3 hq4 b2 x0 x1
  have hcase : (FE != 0) = true ∨ ((FE != 0) = false ∧ FB = false) ∨ ((FE != 0) = false ∧ FB = true ∧ q2 = false) ∨ ((FE != 0) = false ∧ FB = true ∧ q2 = true ∧ n2 = 0) := by
    by_cases h1 : FE = 0
    · have h1' : (FE != 0) = false := by simp [h1]
      cases h2 : FB with
      | false => exact .inr (.inl ⟨h1', rfl⟩)
      | true =>
        by_cases hE : E = 0
        · obtain ⟨e3, e4⟩ := Q4.out hE
          have := HB.out hE h2
          exact .inr (.inr (.inr ⟨h1', rfl, e3, by rw [e4, this]; rfl⟩))
        · exact .inr (.inr (.inl ⟨h1', rfl, Q3.out hE⟩))
    · exact .inl (by simp [h1])
  rcases hcase with h1 | ⟨h1, rfl⟩ | ⟨h1, rfl, rfl⟩ | ⟨h1, rfl, rfl, rfl⟩
  all_goals
    go_wp2_with fail
    refine (plives _).mono ?_
    rintro e w3 ⟨rfl, b3⟩
    have B3 := hid (B2.out.step b3)
    clear b3
    go_wp2_with fail
    go_ret
    exact ⟨by first | rfl | (simp; omega) | simp, B3.out.bel⟩
theorem playFits_walk (a0 : Option Addr) (len0 cap0 : Nat) (l0 : List TaskM.Tk) (s1 : Int) (a1 : Option Addr) (len1 cap1 : Nat) (l1 : List Sp) (a2 : Option Addr) (len2 cap2 : Nat) (l2 : List Int) (n3 : Int) (w : World)
    (w0 : RowsO.IsTks w a0 len0 cap0 l0) (x1 : SpanC.wf64 s1) (w1 : SpanC.IsSps w a1 len1 cap1 l1) (w2 : RowsO.IsIns w a2 len2 cap2 l2) (w3 : SpanC.wf64 n3) :
    Calls Try.prog 6 #[.slice a0 len0 cap0, .agg #[.int .i64 s1, .slice a1 len1 cap1], .slice a2 len2 cap2, .int .i64 n3] w fun e w' => e = .returned (.bool true) ∧ Below w.heap.size w w' := by
  obtain ⟨rfl, _, _, hr, _⟩ := w0
  obtain ⟨rfl, _, _, hs, _⟩ := w1
  obtain ⟨rfl, _, _, hf, _⟩ := w2
  exact playFits_any l0 l2 s1 l1 n3 a0 a2 a1 cap0 cap2 cap1 w hr hf hs
end PlayC
end Go.Proofs.Ytpnahhpkaegeeaa
