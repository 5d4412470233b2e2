/- The reference's VmRight, RunRight. -/
import Derived.Test.YtceflfdpbgnfjaaVmZB
import Derived.Deep.CutRange
set_option linter.unusedVariables false
namespace Go.Proofs.Ytceflfdpbgnfjaa
open Go.RowKit
open Go.Shelf Go.Sort
open SpanM hiding good
open SpanC IntsC RowsO
namespace VmC
open VmP
open NumC (Row)
theorem ar_eq (x : Int) : (x == ar x) = n32 x := by
  rw [Bool.eq_iff_iff]
  simp only [beq_iff_eq, n32_iff]
  unfold ar
  omega
def fin0 (pc : Int) (l : List Int) (h f : Bool) : Bool := decide (0 ≤ pc ∧ pc ≤ 100) && (decide (l.length = 8) && !(h && f))
theorem rgt_fin (pc : Int) (l : List Int) (h f : Bool) : rgt ⟨pc, l, h, f⟩ = if (fin0 pc l h f && l.all n32) = true then 0 else 4 := by
  unfold rgt RgtOk fin0
  congr 1
  simp only [Bool.and_eq_true, decide_eq_true_eq, Bool.not_eq_true', Bool.and_eq_false_iff, eq_iff_iff]
  cases h <;> cases f <;> simp <;> constructor <;> rintro ⟨a, b⟩ <;> simp_all
set_option maxRecDepth 20000 in
set_option maxHeartbeats 1600000 in
theorem vmRight_any (pc : Int) (a : Option Addr) (cap : Nat) (l : List Int) (h f : Bool) (w : World) (hr : Row w a l) (hl : l.length ≤ maxLen) :
    Calls Try.prog 12 #[.agg (vmC pc (.slice a l.length cap) h f)] w fun e w' => e = .returned (.int .i64 (rgt ⟨pc, l, h, f⟩)) ∧ Below w.heap.size w w' := by
  rw [rgt_fin]
  have HBT := hid (fun w => rbtw_any pc 0 100 w)
  have HR := hid hr
  have HF0 : Hid (fin0 pc l h f = (decide (0 ≤ pc ∧ pc ≤ 100) && (decide (l.length = 8) && !(h && f)))) := rfl
  generalize fin0 pc l h f = f0 at *
  generalize decide (0 ≤ pc ∧ pc ≤ 100) = bp at *
  obtain ⟨n, hn⟩ : ∃ n, n = l.length := ⟨_, rfl⟩
  have HN := hid hn
  rw [← hn] at hl HF0 ⊢
  unfold maxLen at hl
  clear hr hn
  obtain ⟨E, hE⟩ : ∃ E : Int, E = if (f0 && l.all n32) = true then 0 else 4 := ⟨_, rfl⟩
  rw [← hE]
  have HE := hid hE
  clear hE
  go_enter Try.func12, Try.ntmps12
  go_upto_region 1 with fail
  go_cut [3] from 6 to 41 (fun v3 wc => v3 = .bool f0 ∧ wc = w.alloc (.cells (vmC pc (.slice a n cap) h f) 25))
  case first =>
    cases bp
    · go_wp2_with (go_at_call 33; refine (HBT.out _).mono ?_; rintro e w2 ⟨rfl, rfl⟩)
      go_meet
      exact ⟨by rw [HF0.out]; rfl, rfl⟩
    · by_cases h8 : n = 8
      · subst h8
        cases h <;> cases f
        all_goals
          go_wp2_with (go_at_call 33; refine (HBT.out _).mono ?_; rintro e w2 ⟨rfl, rfl⟩)
          go_meet
          exact ⟨by rw [HF0.out]; rfl, rfl⟩
      · have g8 : ((n : Int) == 8) = false := by simp; omega
        have g9 : decide (n = 8) = false := by simp; omega
        rw [g9] at HF0
        clear h8 g9
        go_wp2_with (go_at_call 33; refine (HBT.out _).mono ?_; rintro e w2 ⟨rfl, rfl⟩)
        go_meet
        exact ⟨by rw [HF0.out]; rfl, rfl⟩
  case rest =>
    obtain ⟨rfl, rfl⟩ := hcut
    have HX := hid (B1.start w (vmC pc (.slice a n cap) h f) 25)
    clear HF0 HBT
    go_wp2_with fail
    go_loopw [3, 27] (fun v3 v27 wr => ∃ (k : Nat) (b : Bool), k ≤ n ∧ v27 = .int .i64 k ∧ v3 = .bool b ∧ Hid (b = (f0 && (l.take k).all n32)) ∧ Below w.heap.size w wr) (fun _ v27 _ => n - (intOf v27).toNat)
    case atStart => exact ⟨0, f0, by omega, rfl, rfl, (by simp : f0 = (f0 && (l.take 0).all n32)), HX.out.bel⟩
    case round =>
      obtain ⟨k, b, hk, rfl, rfl, hg, hb⟩ := hrel
      have HB := hid hb
      by_cases hlt : k < n
      · obtain ⟨q, off, rfl, hbw, c0⟩ := Row.at (Row.below HR.out hb (Nat.le_refl _)) k (by have := HN.out; omega)
        have hsn := in_snoc l k (by have := HN.out; omega)
        have i1 : (k : Int) < (n : Int) := by omega
        clear hb
        generalize l.getD k 0 = x at c0 hsn
        have HS := hid hsn
        have HI := hid (fun w => round_any x w)
        have hx := ar_eq x
        clear hsn
        generalize ar x = y at *
        cases b
        · clear hx
          go_wp2_with fail
          go_roundw
          case rel => exact ⟨k + 1, false, by omega, by go_num, rfl, (by rw [HS.out, List.all_append, ← Bool.and_assoc, ← hg.out]; rfl : false = (f0 && (l.take (k + 1)).all n32)), HB.out⟩
          case measure => simp [intOf]; omega
        · have HXE : Hid (n32 x = (f0 && (l.take (k + 1)).all n32)) := by
            show _ = _
            rw [HS.out, List.all_append, ← Bool.and_assoc, ← hg.out]
            simp
          cases hn : n32 x
          all_goals
            rw [hn] at hx HXE
            clear hn
            go_wp2_with (go_at_call 34; refine (HI.out _).mono ?_; rintro e w2 ⟨rfl, rfl⟩)
            go_roundw
            case rel => exact ⟨k + 1, _, by omega, by go_num, rfl, HXE.out, HB.out⟩
            case measure => simp [intOf]; omega
      · have HF : Hid (b = (f0 && l.all n32)) := by
          have := hg.out
          rwa [List.take_of_length_le (by have := HN.out; omega)] at this
        clear hb hg
        cases b
        · go_wp2_with fail
          go_ret
          exact ⟨ret_int (by rw [HE.out, ← HF.out]; rfl), HB.out⟩
        · go_wp2_with fail
          go_ret
          exact ⟨ret_int (by rw [HE.out, ← HF.out]; rfl), HB.out⟩
section
variable (pc : Int) (pa ra ia : Option Addr) (pcap rc ic : Nat) (p : List In) (l i : List Int) (h f : Bool) (fuel : Int) (w : World)
set_option maxRecDepth 20000 in
set_option maxHeartbeats 1600000 in
theorem runRight_any (hp : Iss w pa p) (hr : Row w ra l) (hl : l.length ≤ maxLen) (hi : Row w ia i) (hil : i.length ≤ maxLen) (hpl : p.length ≤ maxLen) :
    Calls Try.prog 15 #[.slice pa p.length pcap, .agg (vmC pc (.slice ra l.length rc) h f), .slice ia i.length ic, .int .i64 fuel] w fun e w' => e = .returned (.int .i64 (rE p ⟨pc, l, h, f⟩ i fuel)) ∧ Below w.heap.size w w' := by
  have HCK := hid (fun W (hb : Below w.heap.size w W) => codeRight_any pa pcap p W (hp.below hb (Nat.le_refl _)))
  have HRT := hid (fun W (hb : Below w.heap.size w W) => vmRight_any pc ra rc l h f W (Row.below hr hb (Nat.le_refl _)) hl)
  have HWF := hid (fun W => rbtw_any fuel 0 5000 W)
  have HI := hid hi
  obtain ⟨E, hE0⟩ : ∃ E, E = rE p ⟨pc, l, h, f⟩ i fuel := ⟨_, rfl⟩
  rw [← hE0]
  have HE := rE.eq_1 p ⟨pc, l, h, f⟩ i fuel
  simp only at HE
  rw [← hE0] at HE
  have hR4 : rgt ⟨pc, l, h, f⟩ = 0 ∨ rgt ⟨pc, l, h, f⟩ = 4 := by unfold rgt; split <;> simp
  have HX0 := hid (B1.start w (vmC pc (.slice ra l.length rc) h f) 25)
  obtain ⟨n, hn⟩ : ∃ n, n = i.length := ⟨_, rfl⟩
  have HN := hid hn
  rw [← hn] at hil ⊢
  unfold maxLen at hl hil hpl
  clear hp hr hi hE0 hn
  generalize VmP.chk p = C at *
  generalize rgt ⟨pc, l, h, f⟩ = R at *
  by_cases h1 : C = 0
  · have g1 : (C != 0) = false := by simp [h1]
    rw [if_neg (by omega)] at HE
    by_cases h2 : R = 0
    · have g2 : (R != 0) = false := by simp [h2]
      rw [if_neg (by omega)] at HE
      have HE2 := hid HE
      clear HE h1 h2 hR4
      go_enter Try.func15, Try.ntmps15
      go_wp2_with (first | (go_at_call 10; refine (HCK.out _ HX0.out.bel).mono ?_; rintro e w2 ⟨rfl, hb2⟩; have HX2 := hid (HX0.out.step hb2); obtain ⟨y0, y1, y2, y3⟩ := B1.four HX2.out; clear hb2) | (go_at_call 12; refine (HRT.out _ HX2.out.bel).mono ?_; rintro e w3 ⟨rfl, hb3⟩; have HX3 := hid (HX2.out.step hb3); clear y0 y1 y2 y3 hb3))
      go_loopw [25] (fun v25 wr => ∃ (k : Nat), k ≤ n ∧ v25 = .int .i64 k ∧ Hid ((i.take k).all n32 = true) ∧ Hid (B1 w wr (vmC pc (.slice ra l.length rc) h f) 25)) (fun v25 _ => n - (intOf v25).toNat)
      case atStart => exact ⟨0, by omega, rfl, (by simp : (i.take 0).all n32 = true), HX3.out⟩
      case round =>
        obtain ⟨k, hk, rfl, hg, HB⟩ := hrel
        by_cases hlt : k < n
        · obtain ⟨q, off, rfl, hbw, c0⟩ := Row.at (Row.below HI.out HB.out.bel (Nat.le_refl _)) k (by have := HN.out; omega)
          have hsn := in_snoc i k (by have := HN.out; omega)
          have i1 : (k : Int) < (n : Int) := by omega
          generalize i.getD k 0 = x at c0 hsn
          have HS := hid hsn
          have HRD := hid (fun w => round_any x w)
          have hx := ar_eq x
          clear hsn
          generalize ar x = y at *
          cases hn : n32 x
          · rw [hn] at hx
            have hx2 : (x != y) = true := by simp [bne, hx]
            have HF : Hid (E = 4) := by
              show _ = _
              have := HE2.out
              rw [if_pos (.inr (by
                intro q
                have hm : x ∈ i.take (k + 1) := by rw [HS.out]; simp
                have := List.all_eq_true.1 q x (List.mem_of_mem_take hm)
                rw [hn] at this; cases this))] at this
              exact this
            clear hx hn
            go_wp2_with (go_at_call 34; refine (HRD.out _).mono ?_; rintro e w2 ⟨rfl, rfl⟩)
            go_ret
            exact ⟨ret_int HF.out.symm, HB.out.bel⟩
          · rw [hn] at hx
            have hx2 : (x != y) = false := by simp [bne, hx]
            have HT := hid hn
            clear hx hn
            go_wp2_with (go_at_call 34; refine (HRD.out _).mono ?_; rintro e w2 ⟨rfl, rfl⟩)
            go_roundw
            case rel => exact ⟨k + 1, by omega, by go_num, (by rw [HS.out, List.all_append, hg.out]; simp [HT.out] : (i.take (k + 1)).all n32 = true), HB.out⟩
            case measure => simp [intOf]; omega
        · have HF : Hid (i.all n32 = true) := by
            have := hg.out
            rwa [List.take_of_length_le (by have := HN.out; omega)] at this
          obtain ⟨z0, z1, z2, z3⟩ := B1.four HB.out
          have hEE := HE2.out
          by_cases h3 : (p.length : Int) < pc
          · rw [if_pos (.inl h3)] at hEE
            have HZ := hid hEE
            clear hEE hg
            go_wp2_with fail
            go_ret
            exact ⟨ret_int HZ.out.symm, HB.out.bel⟩
          · rw [if_neg (by rintro (q | q); exact h3 q; exact q HF.out)] at hEE
            by_cases h5 : 0 ≤ fuel ∧ fuel ≤ 5000
            · rw [decide_eq_true h5] at HWF
              rw [if_neg (fun q => q h5)] at hEE
              by_cases h6 : 5000 < n
              all_goals
                first
                | rw [if_pos (by have := HN.out; omega)] at hEE
                | rw [if_neg (by have := HN.out; omega)] at hEE
                have HZ := hid hEE
                clear hEE hg h5
                first
                | have h9 : (5000 : Int) < (n : Int) := by omega
                | have h9 : ¬ (5000 : Int) < (n : Int) := by omega
                go_wp2_with (go_at_call 33; refine (HWF.out _).mono ?_; rintro e w5 ⟨rfl, rfl⟩)
                go_ret
                exact ⟨ret_int HZ.out.symm, HB.out.bel⟩
            · rw [decide_eq_false h5] at HWF
              rw [if_pos h5] at hEE
              have HZ := hid hEE
              clear hEE hg h5
              go_wp2_with (go_at_call 33; refine (HWF.out _).mono ?_; rintro e w5 ⟨rfl, rfl⟩)
              go_ret
              exact ⟨ret_int HZ.out.symm, HB.out.bel⟩
    · have g2 : (R != 0) = true := by simp [h2]
      rw [if_pos h2] at HE
      have h4 : R = 4 := by omega
      subst h4
      subst HE
      clear h1 h2 hR4
      go_enter Try.func15, Try.ntmps15
      go_wp2_with (first | (go_at_call 10; refine (HCK.out _ HX0.out.bel).mono ?_; rintro e w2 ⟨rfl, hb2⟩; have HX2 := hid (HX0.out.step hb2); obtain ⟨y0, y1, y2, y3⟩ := B1.four HX2.out; clear hb2) | (go_at_call 12; refine (HRT.out _ HX2.out.bel).mono ?_; rintro e w3 ⟨rfl, hb3⟩; have HX3 := hid (HX2.out.step hb3); clear hb3))
      go_ret
      exact ⟨rfl, HX3.out.bel⟩
  · have g1 : (C != 0) = true := by simp [h1]
    rw [if_pos h1] at HE
    subst HE
    clear h1 hR4
    go_enter Try.func15, Try.ntmps15
    go_wp2_with (go_at_call 10; refine (HCK.out _ HX0.out.bel).mono ?_; rintro e w2 ⟨rfl, hb2⟩; have HX2 := hid (HX0.out.step hb2); clear hb2)
    go_ret
    exact ⟨rfl, HX2.out.bel⟩
end
end VmC
end Go.Proofs.Ytceflfdpbgnfjaa
