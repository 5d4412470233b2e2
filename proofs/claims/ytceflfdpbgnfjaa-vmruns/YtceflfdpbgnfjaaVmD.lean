/- Package vm: checkRun. -/
import Derived.Test.YtceflfdpbgnfjaaVmB
set_option linter.unusedVariables false
namespace Go.Proofs.Ytceflfdpbgnfjaa
open Go.RowKit
open Go.Shelf Go.Sort
open SpanM hiding good
open SpanC IntsC RowsO
namespace VmC
open VmP
open NumC (Row)
section
variable (pc : Int) (pa ra ia : Option Addr) (pcap rc ic : Nat) (p : List In) (l i : List Int) (h f : Bool) (fuel : Int) (w : World)
set_option maxRecDepth 20000 in
set_option maxHeartbeats 1600000 in
theorem checkRun_any (hp : Iss w pa p) (hr : Row w ra l) (hl : l.length ≤ maxLen) (hi : Row w ia i) (hil : i.length ≤ maxLen) (hpl : p.length ≤ maxLen) :
    Calls Try.prog 25 #[.slice pa p.length pcap, .agg (vmC pc (.slice ra l.length rc) h f), .slice ia i.length ic, .int .i64 fuel] w fun e w' => e = .returned (.int .i64 (rE p ⟨pc, l, h, f⟩ i fuel)) ∧ Below w.heap.size w w' := by
  have HCK := hid (fun W (hb : Below w.heap.size w W) => check_any pa pcap p W (hp.below hb (Nat.le_refl _)))
  have HRT := hid (fun W (hb : Below w.heap.size w W) => right_any pc ra rc l h f W (Row.below hr hb (Nat.le_refl _)) hl)
  have HAL := hid (fun W (hb : Below w.heap.size w W) => all_any ia ic i W (Row.below hi hb (Nat.le_refl _)) hil)
  have HWF := hid (fun W => within_any fuel 0 5000 W)
  have HE := rE.eq_1 p ⟨pc, l, h, f⟩ i fuel
  simp only at HE
  have hR4 : rgt ⟨pc, l, h, f⟩ = 0 ∨ rgt ⟨pc, l, h, f⟩ = 4 := by unfold rgt; split <;> simp
  have HX0 := hid (B1.start w (vmC pc (.slice ra l.length rc) h f) 25)
  unfold maxLen at hl hil hpl
  clear hp hr hi
  generalize VmP.chk p = C at *
  generalize rgt ⟨pc, l, h, f⟩ = R at *
  by_cases h1 : C = 0
  · have g1 : (C != 0) = false := by simp [h1]
    rw [if_neg (by omega)] at HE
    by_cases h2 : R = 0
    · have g2 : (R != 0) = false := by simp [h2]
      rw [if_neg (by omega)] at HE
      by_cases h3 : (p.length : Int) < pc
      · rw [if_pos (.inl h3)] at HE
        rw [HE]
        clear HE h1 h2 HAL HWF hR4
        go_enter Try.func25, Try.ntmps25
        go_wp2_with (first | (go_at_call 9; refine (HCK.out _ HX0.out.bel).mono ?_; rintro e w2 ⟨rfl, hb2⟩; have HX2 := hid (HX0.out.step hb2); obtain ⟨y0, y1, y2, y3⟩ := B1.four HX2.out; clear hb2) | (go_at_call 11; refine (HRT.out _ HX2.out.bel).mono ?_; rintro e w3 ⟨rfl, hb3⟩; have HX3 := hid (HX2.out.step hb3); obtain ⟨z0, z1, z2, z3⟩ := B1.four HX3.out; clear hb3))
        go_ret
        exact ⟨rfl, HX3.out.bel⟩
      · cases h4 : i.all n32
        · rw [h4] at HE HAL
          rw [if_pos (.inr (by simp))] at HE
          rw [HE]
          clear HE h1 h2 h4 HWF hR4
          go_enter Try.func25, Try.ntmps25
          go_wp2_with (first | (go_at_call 9; refine (HCK.out _ HX0.out.bel).mono ?_; rintro e w2 ⟨rfl, hb2⟩; have HX2 := hid (HX0.out.step hb2); obtain ⟨y0, y1, y2, y3⟩ := B1.four HX2.out; clear hb2) | (go_at_call 11; refine (HRT.out _ HX2.out.bel).mono ?_; rintro e w3 ⟨rfl, hb3⟩; have HX3 := hid (HX2.out.step hb3); obtain ⟨z0, z1, z2, z3⟩ := B1.four HX3.out; clear hb3) | (go_at_call 32; refine (HAL.out _ HX3.out.bel).mono ?_; rintro e w4 ⟨rfl, hb4⟩; have HX4 := hid (HX3.out.step hb4); clear hb4))
          go_ret
          exact ⟨rfl, HX4.out.bel⟩
        · rw [h4] at HE HAL
          rw [if_neg (by rintro (q | q); exact h3 q; exact q rfl)] at HE
          by_cases h5 : 0 ≤ fuel ∧ fuel ≤ 5000
          · rw [decide_eq_true h5] at HWF
            rw [if_neg (fun q => q h5)] at HE
            by_cases h6 : 5000 < i.length
            all_goals
              first
              | rw [if_pos h6] at HE
              | rw [if_neg h6] at HE
              rw [HE]
              clear HE h1 h2 h4 h5 hR4
              first
              | have h9 : (5000 : Int) < (i.length : Int) := by omega
              | have h9 : ¬ (5000 : Int) < (i.length : Int) := by omega
              clear h6
              go_enter Try.func25, Try.ntmps25
              go_wp2_with (first | (go_at_call 9; refine (HCK.out _ HX0.out.bel).mono ?_; rintro e w2 ⟨rfl, hb2⟩; have HX2 := hid (HX0.out.step hb2); obtain ⟨y0, y1, y2, y3⟩ := B1.four HX2.out; clear hb2) | (go_at_call 11; refine (HRT.out _ HX2.out.bel).mono ?_; rintro e w3 ⟨rfl, hb3⟩; have HX3 := hid (HX2.out.step hb3); obtain ⟨z0, z1, z2, z3⟩ := B1.four HX3.out; clear hb3) | (go_at_call 32; refine (HAL.out _ HX3.out.bel).mono ?_; rintro e w4 ⟨rfl, hb4⟩; have HX4 := hid (HX3.out.step hb4); clear hb4) | (go_at_call 31; refine (HWF.out _).mono ?_; rintro e w5 ⟨rfl, rfl⟩))
              go_ret
              exact ⟨rfl, HX4.out.bel⟩
          · rw [decide_eq_false h5] at HWF
            rw [if_pos h5] at HE
            rw [HE]
            clear HE h1 h2 h4 h5 hR4
            go_enter Try.func25, Try.ntmps25
            go_wp2_with (first | (go_at_call 9; refine (HCK.out _ HX0.out.bel).mono ?_; rintro e w2 ⟨rfl, hb2⟩; have HX2 := hid (HX0.out.step hb2); obtain ⟨y0, y1, y2, y3⟩ := B1.four HX2.out; clear hb2) | (go_at_call 11; refine (HRT.out _ HX2.out.bel).mono ?_; rintro e w3 ⟨rfl, hb3⟩; have HX3 := hid (HX2.out.step hb3); obtain ⟨z0, z1, z2, z3⟩ := B1.four HX3.out; clear hb3) | (go_at_call 32; refine (HAL.out _ HX3.out.bel).mono ?_; rintro e w4 ⟨rfl, hb4⟩; have HX4 := hid (HX3.out.step hb4); clear hb4) | (go_at_call 31; refine (HWF.out _).mono ?_; rintro e w5 ⟨rfl, rfl⟩))
            go_ret
            exact ⟨rfl, HX4.out.bel⟩
    · have g2 : (R != 0) = true := by simp [h2]
      rw [if_pos h2] at HE
      rw [HE]
      have h4 : R = 4 := by omega
      subst h4
      clear HE h1 h2 HAL HWF hR4
      go_enter Try.func25, Try.ntmps25
      go_wp2_with (first | (go_at_call 9; refine (HCK.out _ HX0.out.bel).mono ?_; rintro e w2 ⟨rfl, hb2⟩; have HX2 := hid (HX0.out.step hb2); obtain ⟨y0, y1, y2, y3⟩ := B1.four HX2.out; clear hb2) | (go_at_call 11; refine (HRT.out _ HX2.out.bel).mono ?_; rintro e w3 ⟨rfl, hb3⟩; have HX3 := hid (HX2.out.step hb3); clear hb3))
      go_ret
      exact ⟨rfl, HX3.out.bel⟩
  · have g1 : (C != 0) = true := by simp [h1]
    rw [if_pos h1] at HE
    rw [HE]
    clear HE h1 HRT HAL HWF hR4
    go_enter Try.func25, Try.ntmps25
    go_wp2_with (go_at_call 9; refine (HCK.out _ HX0.out.bel).mono ?_; rintro e w2 ⟨rfl, hb2⟩; have HX2 := hid (HX0.out.step hb2); clear hb2)
    go_ret
    exact ⟨rfl, HX2.out.bel⟩
end
end VmC
end Go.Proofs.Ytceflfdpbgnfjaa
