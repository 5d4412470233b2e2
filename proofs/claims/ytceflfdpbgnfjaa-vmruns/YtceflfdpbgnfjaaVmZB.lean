/- The reference's InsRight, CodeRight, VmRight. -/
import Derived.Test.YtceflfdpbgnfjaaVmZA
set_option linter.unusedVariables false
namespace Go.Proofs.Ytceflfdpbgnfjaa
open Go.RowKit
open Go.Shelf Go.Sort
open SpanM hiding good
open SpanC IntsC RowsO
namespace VmC
open VmP
open NumC (Row)
set_option maxRecDepth 20000 in
set_option maxHeartbeats 3200000 in
theorem insRight_any (c a b n : Int) (w : World) :
    Calls Try.prog 30 #[.agg #[.int .i64 c, .int .i64 a, .int .i64 b], .int .i64 n] w fun e w' => e = .returned (.bool (good n (c, a, b))) ∧ Below w.heap.size w w' := by
  have HA := hid (fun w => rbtw_any a 0 7 w)
  have ea : decide (0 ≤ a ∧ a ≤ 7) = reg8 a := rfl
  rw [ea] at HA
  clear ea
  by_cases h1 : c = 1
  · have hg : good n (c, a, b) = (reg8 a && n32 b) := by subst h1; rfl
    have HB := hid (fun w => rbtw_any b (-2147483648) 2147483647 w)
    have eb : decide (-2147483648 ≤ b ∧ b ≤ 2147483647) = n32 b := rfl
    rw [eb] at HB
    rw [hg]
    subst h1
    clear hg eb
    generalize n32 b = g at *
    generalize reg8 a = ga at *
    cases ga
    all_goals
      go_enter Try.func30, Try.ntmps30
      go_wp2_with (first | (go_at_call_of 33 (Value.int .i64 a); refine (HA.out _).mono ?_; rintro e w' ⟨rfl, rfl⟩) | (go_at_call_of 33 (Value.int .i64 b); refine (HB.out _).mono ?_; rintro e w' ⟨rfl, rfl⟩))
      go_ret
      exact ⟨ret_bool (by simp), by go_grown⟩
  · by_cases h2 : 2 ≤ c ∧ c ≤ 5
    · have hg : good n (c, a, b) = (reg8 a && reg8 b) := by
        have hc : c = 2 ∨ c = 3 ∨ c = 4 ∨ c = 5 := by omega
        rcases hc with rfl | rfl | rfl | rfl <;> rfl
      have HB := hid (fun w => rbtw_any b 0 7 w)
      have eb : decide (0 ≤ b ∧ b ≤ 7) = reg8 b := rfl
      rw [eb] at HB
      rw [hg]
      have hc : c = 2 ∨ c = 3 ∨ c = 4 ∨ c = 5 := by omega
      clear hg eb h1 h2
      generalize reg8 b = g at *
      generalize reg8 a = ga at *
      cases ga
      all_goals
        rcases hc with rfl | rfl | rfl | rfl
        all_goals
          go_enter Try.func30, Try.ntmps30
          go_wp2_with (first | (go_at_call_of 33 (Value.int .i64 a); refine (HA.out _).mono ?_; rintro e w' ⟨rfl, rfl⟩) | (go_at_call_of 33 (Value.int .i64 b); refine (HB.out _).mono ?_; rintro e w' ⟨rfl, rfl⟩))
          go_ret
          exact ⟨ret_bool (by simp), by go_grown⟩
    · have HB := hid (fun w => rbtw_any b 0 n w)
      by_cases h6 : c = 6
      · have hg : good n (c, a, b) = (decide (a = 0) && decide (0 ≤ b ∧ b ≤ n)) := by subst h6; rfl
        rw [hg]
        subst h6
        clear hg h1 h2
        generalize decide (0 ≤ b ∧ b ≤ n) = g at *
        by_cases ha : a = 0
        · subst ha
          go_enter Try.func30, Try.ntmps30
          go_wp2_with (go_at_call_of 33 (Value.int .i64 b); refine (HB.out _).mono ?_; rintro e w' ⟨rfl, rfl⟩)
          go_ret
          exact ⟨ret_bool (by simp), by go_grown⟩
        · have ha0 : (a == 0) = false := by simp; exact ha
          rw [decide_eq_false ha]
          clear ha
          go_enter Try.func30, Try.ntmps30
          go_wp2_with fail
          go_ret
          exact ⟨ret_bool (by simp), by go_grown⟩
      · by_cases h7 : c = 7 ∨ c = 8
        · have hg : good n (c, a, b) = (reg8 a && decide (0 ≤ b ∧ b ≤ n)) := by rcases h7 with rfl | rfl <;> rfl
          rw [hg]
          clear hg h1 h2 h6
          generalize decide (0 ≤ b ∧ b ≤ n) = g at *
          generalize reg8 a = ga at *
          cases ga
          all_goals
            rcases h7 with rfl | rfl
            all_goals
              go_enter Try.func30, Try.ntmps30
              go_wp2_with (first | (go_at_call_of 33 (Value.int .i64 a); refine (HA.out _).mono ?_; rintro e w' ⟨rfl, rfl⟩) | (go_at_call_of 33 (Value.int .i64 b); refine (HB.out _).mono ?_; rintro e w' ⟨rfl, rfl⟩))
              go_ret
              exact ⟨ret_bool (by simp), by go_grown⟩
        · clear HB
          by_cases h9 : c = 9
          · have hg : good n (c, a, b) = (reg8 a && (b == 0)) := by subst h9; show (reg8 a && decide (b = 0)) = _; rw [Bool.beq_eq_decide_eq b 0]
            rw [hg]
            subst h9
            clear hg h1 h2 h6 h7
            generalize reg8 a = ga at *
            cases ga
            all_goals
              go_enter Try.func30, Try.ntmps30
              go_wp2_with (go_at_call_of 33 (Value.int .i64 a); refine (HA.out _).mono ?_; rintro e w' ⟨rfl, rfl⟩)
              go_ret
              exact ⟨ret_bool (by simp), by go_grown⟩
          · by_cases h10 : c = 10
            · have hg : good n (c, a, b) = (reg8 a && decide (0 ≤ b ∧ b ≤ 3)) := by subst h10; rfl
              have HB := hid (fun w => rbtw_any b 0 3 w)
              rw [hg]
              subst h10
              clear hg h1 h2 h6 h7 h9
              generalize decide (0 ≤ b ∧ b ≤ 3) = g at *
              generalize reg8 a = ga at *
              cases ga
              all_goals
                go_enter Try.func30, Try.ntmps30
                go_wp2_with (first | (go_at_call_of 33 (Value.int .i64 a); refine (HA.out _).mono ?_; rintro e w' ⟨rfl, rfl⟩) | (go_at_call_of 33 (Value.int .i64 b); refine (HB.out _).mono ?_; rintro e w' ⟨rfl, rfl⟩))
                go_ret
                exact ⟨ret_bool (by simp), by go_grown⟩
            · have hg : good n (c, a, b) = decide (c = 11 ∧ a = 0 ∧ b = 0) := by
                by_cases h11 : c = 11
                · subst h11
                  show (decide (a = 0) && decide (b = 0)) = _
                  simp
                · rw [decide_eq_false (fun q => h11 q.1)]
                  have : goodB (c, a, b) n = false := by
                    unfold goodB
                    rw [if_neg h1, if_neg h2, if_neg (by omega), if_neg (by omega), if_neg h10]
                  simp [good, this]
              rw [hg]
              have q := eqlIs
              have n1 : (c == 1) = false := by simp; exact h1
              have n2 : (c == 2) = false := by simp; omega
              have n3 : (c == 3) = false := by simp; omega
              have n4 : (c == 4) = false := by simp; omega
              have n5 : (c == 5) = false := by simp; omega
              have n6 : (c == 6) = false := by simp; omega
              have n7 : (c == 7) = false := by simp; omega
              have n8 : (c == 8) = false := by simp; omega
              have n9 : (c == 9) = false := by simp; exact h9
              have n10 : (c == 10) = false := by simp; exact h10
              clear hg HA h1 h2 h6 h7 h9 h10
              go_enter Try.func30, Try.ntmps30
              go_wp2_with fail
              go_ret
              exact ⟨ret_bool (by simp), by go_grown⟩
theorem codeRight_large (a : Option Addr) (n cap : Nat) (w : World) (h : 100 < n) :
    Calls Try.prog 10 #[.slice a n cap] w fun e w' => e = .returned (.int .i64 2) ∧ Below w.heap.size w w' := by
  have hn : (100 : Int) < (n : Int) := by omega
  go_enter Try.func10, Try.ntmps10
  go_wp2_with fail
  go_ret
  exact ⟨rfl, Below.refl _ _⟩
set_option maxRecDepth 20000 in
set_option maxHeartbeats 800000 in
theorem codeRight_list (a : Option Addr) (cap : Nat) (p : List In) (w : World) (hr : Iss w a p) (h : ¬ 100 < p.length) :
    Calls Try.prog 10 #[.slice a p.length cap] w fun e w' => e = .returned (.int .i64 (chkL p)) ∧ Below w.heap.size w w' := by
  have HR := hid hr
  obtain ⟨n, hn⟩ : ∃ n, n = p.length := ⟨_, rfl⟩
  have HN := hid hn
  rw [← hn] at h ⊢
  have h1 : ¬ (100 : Int) < (n : Int) := by omega
  clear hr hn
  go_enter Try.func10, Try.ntmps10
  go_wp2_with fail
  go_loopw [10] (fun v10 wr => ∃ (k : Nat), k ≤ n ∧ v10 = .int .i64 k ∧ Hid ((p.take k).all (good n) = true) ∧ Below w.heap.size w wr) (fun v10 _ => n - (intOf v10).toNat)
  case atStart => exact ⟨0, by omega, rfl, (by simp : (p.take 0).all (good n) = true), Below.refl _ _⟩
  case round =>
    obtain ⟨k, hk, rfl, hg, hb⟩ := hrel
    have HB := hid hb
    by_cases hlt : k < n
    · obtain ⟨b, off, rfl, hbw, c0, c1, c2⟩ := (HR.out.below hb (Nat.le_refl _)).at k (by have := HN.out; omega)
      have hsn := ins_snoc p k (by have := HN.out; omega)
      have i1 : (k : Int) < (n : Int) := by omega
      clear hb
      generalize p.getD k zIs = x at c0 c1 c2 hsn
      obtain ⟨xc, xa, xb⟩ := x
      simp only at c0 c1 c2
      have HS := hid hsn
      have HX := hid (B1.start wr #[.int .i64 xc, .int .i64 xa, .int .i64 xb] 45)
      have HI := hid (fun w => insRight_any xc xa xb n w)
      clear hsn
      cases hga : good n (xc, xa, xb)
      · rw [hga] at HI
        have HF : Hid (chkL p = 4) := by
          show _ = _
          unfold chkL
          rw [if_neg (bad_at HS.out (by rw [← HN.out]; exact hga))]
        clear hga
        go_wp2_with (go_at_call 30; refine (HI.out _).mono ?_; rintro e w2 ⟨rfl, hb2⟩; have HX2 := hid (HX.out.step hb2); clear hb2)
        go_ret
        exact ⟨ret_int HF.out.symm, HB.out.trans (HX2.out.bel.mono HB.out.size)⟩
      · rw [hga] at HI
        have HGT := hid hga
        clear hga
        go_wp2_with (go_at_call 30; refine (HI.out _).mono ?_; rintro e w2 ⟨rfl, hb2⟩; have HX2 := hid (HX.out.step hb2); clear hb2)
        go_roundw
        case rel => exact ⟨k + 1, by omega, by go_num, (by rw [HS.out, List.all_append, hg.out]; simp [HGT.out] : (p.take (k + 1)).all (good n) = true), HB.out.trans (HX2.out.bel.mono HB.out.size)⟩
        case measure => simp [intOf]; omega
    · have HF : Hid (chkL p = 0) := by
        show _ = _
        unfold chkL
        have := hg.out
        rw [List.take_of_length_le (by have := HN.out; omega), HN.out] at this
        rw [if_pos this]
      clear hb
      go_wp2_with fail
      go_ret
      exact ⟨ret_int HF.out.symm, HB.out⟩
theorem codeRight_any (a : Option Addr) (cap : Nat) (p : List In) (w : World) (hr : Iss w a p) :
    Calls Try.prog 10 #[.slice a p.length cap] w fun e w' => e = .returned (.int .i64 (VmP.chk p)) ∧ Below w.heap.size w w' := by
  unfold VmP.chk
  split
  · exact codeRight_large a _ cap w ‹_›
  · exact codeRight_list a cap p w hr ‹_›
end VmC
end Go.Proofs.Ytceflfdpbgnfjaa
