/- Several texts, one behind the other: PlyL7. -/
import Derived.Test.YtpnahhpkaegeeaaKLtR
import Derived.Test.YtpnahhpkaegeeaaPkR
import Derived.Test.YtpnahhpkaegeeaaKLtE
import Derived.Test.YtpnahhpkaegeeaaKOpenDn
import Derived.Test.YtpnahhpkaegeeaaKOpenIn
/- The walk of PlayLates. -/
set_option linter.unusedVariables false
namespace Go.Proofs.Ytpnahhpkaegeeaa
open Go.RowKit hiding tok
open SpanM SpanC TaskM PlayM
open RowsO hiding Tk Dn
namespace PlayC
open NumC (Row)
open RowG
open TaskC (tchk tchk_zero tright_any)
theorem dns_rd {w : World} {a : Option Addr} {l : List Pl.Dn} (h : RowsO.Dns w a l) : Rd ED w a l := by
  rcases h with rfl | ⟨b, off, rfl, h⟩
  · exact .inl rfl
  · refine .inr ⟨b, off, rfl, fun i j hi hj => ?_⟩
    obtain ⟨h1, h2, h3, h4⟩ := h i hi
    have e : l.getD i RowsO.zDn = l[i] := by simp [List.getD, hi]
    rw [e] at h1 h2 h3 h4
    have hj4 : j < 4 := hj
    match j, hj4 with
    | 0, _ => exact h1
    | 1, _ => exact h2
    | 2, _ => exact h3
    | 3, _ => exact h4
variable (l : List Tk) (f : List Int) (dn : List Pl.Dn) (T : Int) (a b c : Option Addr) (ca cb cc : Nat) (w : World)
/-- tasks and firsts alone -/
abbrev PB0 (l : List Tk) (f : List Int) : Pl := Pl.bare l f
theorem ltE_at (h1 : tchk l = 0) : ltE (PB0 l f) T dn.length = if rgtE (PB0 l f) T = 0 then (if 10000 < dn.length then 2 else 0) else rgtE (PB0 l f) T := by
  have e1 : (PB0 l f).l = l := rfl
  have e2 : (PB0 l f).f = f := rfl
  unfold ltE rgtE
  rw [e1, e2, if_pos h1]
  by_cases h2 : fstE l.length f = 0
  · rw [if_pos h2, if_pos h2]
  · rw [if_neg h2, if_neg h2, if_neg (by decide)]
    rcases fstE_cases l.length f with h | h
    · exact absurd h h2
    · exact h
set_option maxRecDepth 20000 in
set_option maxHeartbeats 800000 in
theorem lates_law (hr : Tks w a l) (hf : Row w b f) (hd : Rd ED w c dn) (hw : ∀ d ∈ dn, wf64 d.1 ∧ wf64 d.2.1 ∧ wf64 d.2.2.2) :
    Calls Try.prog 4 #[.slice a l.length ca, .slice b f.length cb, .slice c dn.length cc, .int .i64 T] w fun e w' => e = .returned (.bool true) ∧ Below w.heap.size w w' := by
  have H1 := hid (fun W (h : Below w.heap.size w W) => lates_any (PB0 l f) T a b c ca cb cc dn W (hr.below h (Nat.le_refl _)) (Row.below hf h (Nat.le_refl _)) (Rd.below hd h (Nat.le_refl _)) hw)
  have H2 := hid (fun W (h : Below w.heap.size w W) => tright_any a ca l W (hr.below h (Nat.le_refl _)))
  simp only [show (PB0 l f).l = l from rfl, show (PB0 l f).f = f from rfl] at H1
  by_cases h1 : tchk l = 0
  · obtain ⟨hl16, htok⟩ := tchk_zero h1
    have H3 := hid (fun W (h : Below w.heap.size w W) => rright_any (PB0 l f) htok a b ca cb T W (hr.below h (Nat.le_refl _)) (Row.below hf h (Nat.le_refl _)) hl16)
    simp only [show (PB0 l f).l = l from rfl, show (PB0 l f).f = f from rfl] at H3
    have hE := ltE_at l f dn T h1
    rw [h1] at H2
    by_cases h2 : rgtE (PB0 l f) T = 0
    · rw [if_pos h2] at hE
      rw [h2] at H3
      by_cases h3 : 10000 < dn.length
      · rw [if_pos h3] at hE
        have hD : ltD (PB0 l f) T dn = [] := by unfold ltD; rw [if_neg (by omega)]
        rw [hE, hD] at H1
        have g1 : (10000 : Int) < (dn.length : Int) := by omega
        clear hr hf hd hw hE hD h1 h2
        generalize dn.length = nd at *
        go_enter Try.func4, Try.ntmps4
        go_wp2_with fail
        refine (H1.out _ (Below.refl _ _)).mono ?_
        rintro e w1 ⟨⟨v, rfl, ho⟩, b1⟩
        obtain ⟨av, cv, rfl⟩ := ho.slice
        have B1 := hid b1
        clear ho b1
        go_wp2_with fail
        refine (H2.out _ B1.out).mono ?_
        rintro e w2 ⟨rfl, b2⟩
        have B2 := hid (bel_of B1.out b2)
        clear b2
        go_wp2_with fail
        refine (H3.out _ B2.out).mono ?_
        rintro e w3 ⟨rfl, b3⟩
        have B3 := hid (bel_of B2.out b3)
        clear b3
        go_wp2_with fail
        go_ret
        exact ⟨by first | rfl | simp, B3.out⟩
      · rw [if_neg h3] at hE
        have hD : ltD (PB0 l f) T dn = ((PB0 l f).lates dn T).map lt2 := by unfold ltD; rw [if_pos hE]
        rw [hE, hD] at H1
        have hfs : fstE l.length f = 0 := by
          unfold rgtE at h2
          split at h2
          · assumption
          · omega
        have hun : (PB0 l f).untE T = 0 := by
          unfold rgtE at h2
          rw [if_pos (show fstE (PB0 l f).l.length (PB0 l f).f = 0 from hfs)] at h2
          exact h2
        obtain ⟨g1, g2⟩ := fstE_zero hfs
        obtain ⟨u1, u2, u3⟩ := unt_of hun
        have hB : (PB0 l f).Ok := Pl.bare_ok htok g1 (fun x hx => (g2 x hx).1)
        have H4 := hid (fun W (h : Below w.heap.size w W) => rlates_any (PB0 l f) hB a b c ca cb cc T dn W (hr.below h (Nat.le_refl _)) (Row.below hf h (Nat.le_refl _)) (Rd.below hd h (Nat.le_refl _)) hl16 g2 u2 u3 u1 (by omega))
        simp only [show (PB0 l f).l = l from rfl, show (PB0 l f).f = f from rfl] at H4
        have HLL := hid (show (((PB0 l f).lates dn T).map lt2).length ≤ 100000 by
          rw [List.length_map]
          unfold Pl.lates
          have := List.length_filter_le (fun b => decide ((PB0 l f).du b.1 b.2 ≤ T) && !(PB0 l f).told dn b.1 b.2) ((PB0 l f).jobsL T)
          omega)
        have g1' : ¬ (10000 : Int) < (dn.length : Int) := by omega
        have g1'' : ¬ 10000 < dn.length := h3
        clear hr hf hd hw hE hD h1 h2 hfs hun g1 g2 u1 u2 u3 hB htok h3
        generalize ((PB0 l f).lates dn T).map lt2 = L at *
        generalize dn.length = nd at *
        go_enter Try.func4, Try.ntmps4
        go_wp2_with fail
        refine (H1.out _ (Below.refl _ _)).mono ?_
        rintro e w1 ⟨⟨v, rfl, ho⟩, b1⟩
        obtain ⟨av, cv, rfl, hrd, _⟩ := ho.rd
        have B1 := hid b1
        have R1 := hid hrd
        clear ho b1 hrd
        go_wp2_with fail
        refine (H2.out _ B1.out).mono ?_
        rintro e w2 ⟨rfl, b2⟩
        have B2 := hid (bel_of B1.out b2)
        have R2 := hid (Rd.below R1.out b2 (Nat.le_refl _))
        clear b2
        go_wp2_with fail
        refine (H3.out _ B2.out).mono ?_
        rintro e w3 ⟨rfl, b3⟩
        have B3 := hid (bel_of B2.out b3)
        have R3 := hid (Rd.below R2.out b3 (Nat.le_refl _))
        clear b3
        go_wp2_with fail
        refine (H4.out _ B3.out).mono ?_
        rintro e w4 ⟨⟨v4, rfl, ho4⟩, b4⟩
        obtain ⟨a4, c4, rfl, hr4, _⟩ := ho4.rd
        have B4 := hid (bel_of B3.out b4)
        have R4 := hid (Rd.below R3.out b4 (Nat.le_refl _))
        have HEQ := hid (lequal_any av a4 cv c4 L L w4 R4.out hr4 HLL.out)
        rw [decide_eq_true rfl] at HEQ
        clear ho4 b4 hr4
        go_wp2_with fail
        refine HEQ.out.mono ?_
        rintro e w5 ⟨rfl, b5⟩
        have B5 := hid (bel_of B4.out b5)
        clear b5
        go_wp2_with fail
        go_ret
        exact ⟨by first | rfl | simp, B5.out⟩
    · rw [if_neg h2] at hE
      have hD : ltD (PB0 l f) T dn = [] := by unfold ltD; rw [if_neg (by rw [hE]; exact h2)]
      rw [hE, hD] at H1
      have q1 : (rgtE (PB0 l f) T == 0) = false := by simp [h2]
      have q2 : (rgtE (PB0 l f) T != 0) = true := by simp [h2]
      clear hr hf hd hw hE hD h1 h2
      generalize rgtE (PB0 l f) T = R at *
      generalize dn.length = nd at *
      go_enter Try.func4, Try.ntmps4
      go_wp2_with fail
      refine (H1.out _ (Below.refl _ _)).mono ?_
      rintro e w1 ⟨⟨v, rfl, ho⟩, b1⟩
      obtain ⟨av, cv, rfl⟩ := ho.slice
      have B1 := hid b1
      clear ho b1
      go_wp2_with fail
      refine (H2.out _ B1.out).mono ?_
      rintro e w2 ⟨rfl, b2⟩
      have B2 := hid (bel_of B1.out b2)
      clear b2
      go_wp2_with fail
      refine (H3.out _ B2.out).mono ?_
      rintro e w3 ⟨rfl, b3⟩
      have B3 := hid (bel_of B2.out b3)
      clear b3
      go_wp2_with fail
      go_ret
      exact ⟨by first | rfl | simp, B3.out⟩
  · have hE : ltE (PB0 l f) T dn.length = tchk l := by
      have e1 : (PB0 l f).l = l := rfl
      unfold ltE
      rw [e1, if_neg h1]
    have hD : ltD (PB0 l f) T dn = [] := by unfold ltD; rw [if_neg (by rw [hE]; exact h1)]
    rw [hE, hD] at H1
    have q1 : (tchk l == 0) = false := by simp [h1]
    have q2 : (tchk l != 0) = true := by simp [h1]
    clear hr hf hd hw hE hD h1
    generalize tchk l = R at *
    generalize dn.length = nd at *
    go_enter Try.func4, Try.ntmps4
    go_wp2_with fail
    refine (H1.out _ (Below.refl _ _)).mono ?_
    rintro e w1 ⟨⟨v, rfl, ho⟩, b1⟩
    obtain ⟨av, cv, rfl⟩ := ho.slice
    have B1 := hid b1
    clear ho b1
    go_wp2_with fail
    refine (H2.out _ B1.out).mono ?_
    rintro e w2 ⟨rfl, b2⟩
    have B2 := hid (bel_of B1.out b2)
    clear b2
    go_wp2_with fail
    go_ret
    exact ⟨by first | rfl | simp, B2.out⟩
theorem playLates_walk (a0 : Option Addr) (len0 cap0 : Nat) (l0 : List TaskM.Tk) (a1 : Option Addr) (len1 cap1 : Nat) (l1 : List Int) (a2 : Option Addr) (len2 cap2 : Nat) (l2 : List RowsO.Dn) (n3 : Int) (w : World)
    (w0 : RowsO.IsTks w a0 len0 cap0 l0) (w1 : RowsO.IsIns w a1 len1 cap1 l1) (w2 : RowsO.IsDns w a2 len2 cap2 l2) (w3 : SpanC.wf64 n3) :
    Calls Try.prog 4 #[.slice a0 len0 cap0, .slice a1 len1 cap1, .slice a2 len2 cap2, .int .i64 n3] w fun e w' => e = .returned (.bool true) ∧ Below w.heap.size w w' := by
  obtain ⟨rfl, _, _, hr, _⟩ := w0
  obtain ⟨rfl, _, _, hf, _⟩ := w1
  obtain ⟨rfl, _, _, hd, _, hw⟩ := w2
  exact lates_law l0 l1 l2 n3 a0 a1 a2 cap0 cap1 cap2 w hr hf (dns_rd hd) (fun d hd => ⟨(hw d hd).1, (hw d hd).2.1, (hw d hd).2.2.2⟩)
end PlayC
end Go.Proofs.Ytpnahhpkaegeeaa
