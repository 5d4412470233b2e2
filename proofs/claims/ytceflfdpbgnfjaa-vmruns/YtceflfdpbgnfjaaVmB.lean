/- Package vm: Check, allNumbers, Right. -/
import Derived.Test.YtceflfdpbgnfjaaVmA
set_option linter.unusedVariables false
namespace Go.Proofs.Ytceflfdpbgnfjaa
open Go.RowKit
open Go.Shelf Go.Sort
open SpanM hiding good
open SpanC IntsC RowsO
namespace VmC
open VmP
open NumC (Row)
theorem ins_snoc (p : List In) (k : Nat) (h : k < p.length) : p.take (k + 1) = p.take k ++ [p.getD k zIs] := by
  rw [List.take_succ_eq_append_getElem h]; simp [List.getD, h]
theorem check_large (a : Option Addr) (n cap : Nat) (w : World) (h : 100 < n) :
    Calls Try.prog 9 #[.slice a n cap] w fun e w' => e = .returned (.int .i64 2) ∧ Below w.heap.size w w' := by
  have hn : (100 : Int) < (n : Int) := by omega
  go_enter Try.func9, Try.ntmps9
  go_wp2_with fail
  go_ret
  exact ⟨rfl, Below.refl _ _⟩
theorem bad_at {p : List In} {k : Nat} {x : In} {n : Int} (hs : p.take (k + 1) = p.take k ++ [x]) (hx : good n x = false) : ¬ p.all (good n) = true := by
  intro q
  have : x ∈ p.take (k + 1) := by rw [hs]; simp
  have := List.all_eq_true.1 q x (List.mem_of_mem_take this)
  rw [hx] at this; cases this
def chkL (p : List In) : Int := if p.all (good p.length) = true then 0 else 4
set_option maxRecDepth 20000 in
set_option maxHeartbeats 800000 in
theorem check_list (a : Option Addr) (cap : Nat) (p : List In) (w : World) (hr : Iss w a p) (h : ¬ 100 < p.length) :
    Calls Try.prog 9 #[.slice a p.length cap] w fun e w' => e = .returned (.int .i64 (chkL p)) ∧ Below w.heap.size w w' := by
  have HR := hid hr
  obtain ⟨n, hn⟩ : ∃ n, n = p.length := ⟨_, rfl⟩
  have HN := hid hn
  rw [← hn] at h ⊢
  have h1 : ¬ (100 : Int) < (n : Int) := by omega
  clear hr hn
  go_enter Try.func9, Try.ntmps9
  go_wp2_with fail
  go_loopw [10] (fun v10 wr => ∃ (k : Nat), k ≤ n ∧ v10 = .int .i64 k ∧ Hid ((p.take k).all (good n) = true) ∧ Below w.heap.size w wr) (fun v10 _ => n - (intOf v10).toNat)
  case atStart => exact ⟨0, by omega, rfl, (by simp : (p.take 0).all (good n) = true), Below.refl _ _⟩
  case round =>
    obtain ⟨k, hk, rfl, hg, hb⟩ := hrel
    have HB := hid hb
    by_cases hlt : k < n
    · obtain ⟨b, off, rfl, hbw, c0, c1, c2⟩ := (HR.out.below hb (Nat.le_refl _)).at k (by have := HN.out; omega)
      have hsn := ins_snoc p k (by have := HN.out; omega)
      have i1 : (k : Int) < (n : Int) := by omega
      clear hb
      generalize p.getD k zIs = x at c0 c1 c2 hsn
      obtain ⟨xc, xa, xb⟩ := x
      simp only at c0 c1 c2
      have HS := hid hsn
      have HX := hid (B1.start wr #[.int .i64 xc, .int .i64 xa, .int .i64 xb] 45)
      have HGA := hid (fun w => goodA_any xc xa xb w)
      have HGB := hid (fun w => goodB_any xc xa xb n w)
      clear hsn
      cases hga : goodA (xc, xa, xb)
      · rw [hga] at HGA
        have HF : Hid (chkL p = 4) := by
          show _ = _
          unfold chkL
          rw [if_neg (bad_at HS.out (by simp [good, hga]))]
        clear hga
        go_wp2_with (go_at_call 28; refine (HGA.out _).mono ?_; rintro e w2 ⟨rfl, hb2⟩; have HX2 := hid (HX.out.step hb2); clear hb2)
        go_ret
        exact ⟨ret_int HF.out.symm, HB.out.trans (HX2.out.bel.mono HB.out.size)⟩
      · rw [hga] at HGA
        have HGT := hid hga
        clear hga
        cases hgb : goodB (xc, xa, xb) n
        · rw [hgb] at HGB
          have HF : Hid (chkL p = 4) := by
            show _ = _
            unfold chkL
            rw [if_neg (bad_at HS.out (by rw [← HN.out]; simp [good, hgb]))]
          clear hgb
          go_wp2_with (first | (go_at_call 28; refine (HGA.out _).mono ?_; rintro e w2 ⟨rfl, hb2⟩; have HX2 := hid (HX.out.step hb2); have y0 := HX2.out.c0 0; have y1 := HX2.out.c0 1; have y2 := HX2.out.c0 2; simp at y0 y1 y2; clear hb2) | (go_at_call 29; refine (HGB.out _).mono ?_; rintro e w3 ⟨rfl, hb3⟩; have HX3 := hid (HX2.out.step hb3); clear hb3))
          go_ret
          exact ⟨ret_int HF.out.symm, HB.out.trans (HX3.out.bel.mono HB.out.size)⟩
        · rw [hgb] at HGB
          have HGU := hid hgb
          clear hgb
          go_wp2_with (first | (go_at_call 28; refine (HGA.out _).mono ?_; rintro e w2 ⟨rfl, hb2⟩; have HX2 := hid (HX.out.step hb2); have y0 := HX2.out.c0 0; have y1 := HX2.out.c0 1; have y2 := HX2.out.c0 2; simp at y0 y1 y2; clear hb2) | (go_at_call 29; refine (HGB.out _).mono ?_; rintro e w3 ⟨rfl, hb3⟩; have HX3 := hid (HX2.out.step hb3); clear hb3))
          go_roundw
          case rel => exact ⟨k + 1, by omega, by go_num, (by rw [HS.out, List.all_append, hg.out]; simp [good, HGT.out, HGU.out] : (p.take (k + 1)).all (good n) = true), HB.out.trans (HX3.out.bel.mono HB.out.size)⟩
          case measure => simp [intOf]; omega
    · have HF : Hid (chkL p = 0) := by
        show _ = _
        unfold chkL
        have := hg.out
        rw [List.take_of_length_le (by have := HN.out; omega), HN.out] at this
        rw [if_pos this]
      clear hb
      go_wp2_with fail
      go_ret
      exact ⟨ret_int HF.out.symm, HB.out⟩
theorem check_any (a : Option Addr) (cap : Nat) (p : List In) (w : World) (hr : Iss w a p) :
    Calls Try.prog 9 #[.slice a p.length cap] w fun e w' => e = .returned (.int .i64 (VmP.chk p)) ∧ Below w.heap.size w w' := by
  unfold VmP.chk
  split
  · exact check_large a _ cap w ‹_›
  · exact check_list a cap p w hr ‹_›
set_option maxRecDepth 20000 in
set_option maxHeartbeats 800000 in
theorem all_any (a : Option Addr) (cap : Nat) (l : List Int) (w : World) (hr : Row w a l) (hl : l.length ≤ maxLen) :
    Calls Try.prog 32 #[.slice a l.length cap] w fun e w' => e = .returned (.bool (l.all n32)) ∧ Below w.heap.size w w' := by
  have HR := hid hr
  obtain ⟨n, hn⟩ : ∃ n, n = l.length := ⟨_, rfl⟩
  have HN := hid hn
  rw [← hn] at hl ⊢
  unfold maxLen at hl
  clear hr hn
  go_enter Try.func32, Try.ntmps32
  go_wp2_with fail
  go_loopw [7] (fun v7 wr => ∃ (k : Nat), k ≤ n ∧ v7 = .int .i64 k ∧ Hid ((l.take k).all n32 = true) ∧ Below w.heap.size w wr) (fun v7 _ => n - (intOf v7).toNat)
  case atStart => exact ⟨0, by omega, rfl, (by simp : (l.take 0).all n32 = true), Below.refl _ _⟩
  case round =>
    obtain ⟨k, hk, rfl, hg, hb⟩ := hrel
    have HB := hid hb
    by_cases hlt : k < n
    · obtain ⟨b, off, rfl, hbw, c0⟩ := Row.at (Row.below HR.out hb (Nat.le_refl _)) k (by have := HN.out; omega)
      have hsn := in_snoc l k (by have := HN.out; omega)
      have i1 : (k : Int) < (n : Int) := by omega
      clear hb
      generalize l.getD k 0 = x at c0 hsn
      have HS := hid hsn
      have HI := hid (fun w => isNumber_any x w)
      clear hsn
      cases hx : n32 x
      · rw [hx] at HI
        have HF : Hid (l.all n32 = false) := by
          show _ = _
          rw [← List.take_append_drop (k + 1) l, HS.out, List.all_append, List.all_append]
          simp [hx]
        clear hx
        go_wp2_with (go_at_call 40; refine (HI.out _).mono ?_; rintro e w2 ⟨rfl, rfl⟩)
        go_ret
        exact ⟨ret_bool HF.out.symm, HB.out⟩
      · rw [hx] at HI
        have HXT := hid hx
        clear hx
        go_wp2_with (go_at_call 40; refine (HI.out _).mono ?_; rintro e w2 ⟨rfl, rfl⟩)
        go_roundw
        case rel => exact ⟨k + 1, by omega, by go_num, (by rw [HS.out, List.all_append, hg.out]; simp [HXT.out] : (l.take (k + 1)).all n32 = true), HB.out⟩
        case measure => simp [intOf]; omega
    · have HF : Hid (l.all n32 = true) := by
        have := hg.out
        rwa [List.take_of_length_le (by have := HN.out; omega)] at this
      clear hb
      go_wp2_with fail
      go_ret
      exact ⟨ret_bool HF.out.symm, HB.out⟩
abbrev vmC (at_ : Int) (v : Value) (h f : Bool) : Array Value := #[.int .i64 at_, v, .bool h, .bool f]
theorem B1.four {w W : World} {x0 x1 x2 x3 : Value} {t : Nat} (h : B1 w W #[x0, x1, x2, x3] t) :
    W.cell? ⟨w.heap.size, 0, none⟩ = some x0 ∧ W.cell? ⟨w.heap.size, 1, none⟩ = some x1 ∧ W.cell? ⟨w.heap.size, 2, none⟩ = some x2 ∧ W.cell? ⟨w.heap.size, 3, none⟩ = some x3 :=
  ⟨h.c0 0, h.c0 1, h.c0 2, h.c0 3⟩
set_option maxRecDepth 20000 in
set_option maxHeartbeats 800000 in
theorem right_any (pc : Int) (a : Option Addr) (cap : Nat) (l : List Int) (h f : Bool) (w : World) (hr : Row w a l) (hl : l.length ≤ maxLen) :
    Calls Try.prog 11 #[.agg (vmC pc (.slice a l.length cap) h f)] w fun e w' => e = .returned (.int .i64 (rgt ⟨pc, l, h, f⟩)) ∧ Below w.heap.size w w' := by
  have HW := hid (fun w => within_any pc 0 100 w)
  have HAL := hid (fun W (hb : Below w.heap.size w W) => all_any a cap l W (Row.below hr hb (Nat.le_refl _)) hl)
  clear hr
  unfold maxLen at hl
  by_cases h1 : 0 ≤ pc ∧ pc ≤ 100
  · rw [decide_eq_true h1] at HW
    by_cases h2 : l.length = 8
    · have g1 : ((l.length : Int) != 8) = false := by simp; omega
      cases h3 : l.all n32
      · have hg : rgt ⟨pc, l, h, f⟩ = 4 := by unfold rgt; rw [if_neg]; rintro ⟨_, _, q, _⟩; rw [h3] at q; cases q
        rw [hg]
        rw [h3] at HAL
        clear hg h1 h2 h3
        go_enter Try.func11, Try.ntmps11
        go_wp2_with (first | (go_at_call 31; refine (HW.out _).mono ?_; rintro e w2 ⟨rfl, rfl⟩) | (go_at_call 32; refine (HAL.out _ (by go_grown)).mono ?_; rintro e w3 ⟨rfl, hb3⟩; have HX := hid ((B1.start w _ 25).step hb3); clear hb3))
        go_ret
        exact ⟨rfl, HX.out.bel⟩
      · rw [h3] at HAL
        cases h <;> cases f
        all_goals
          first
          | (have hg : rgt ⟨pc, l, true, true⟩ = 4 := by unfold rgt; rw [if_neg]; rintro ⟨_, _, _, q⟩; exact q ⟨rfl, rfl⟩)
            (rw [hg])
          | (rw [show rgt ⟨pc, l, _, _⟩ = 0 from if_pos ⟨h1, h2, h3, by simp⟩])
        all_goals
          clear h1 h2 h3
          go_enter Try.func11, Try.ntmps11
          go_wp2_with (first | (go_at_call 31; refine (HW.out _).mono ?_; rintro e w2 ⟨rfl, rfl⟩) | (go_at_call 32; refine (HAL.out _ (by go_grown)).mono ?_; rintro e w3 ⟨rfl, hb3⟩; have HX := hid ((B1.start w _ 25).step hb3); obtain ⟨y0, y1, y2, y3⟩ := B1.four HX.out; clear hb3))
          go_ret
          exact ⟨rfl, HX.out.bel⟩
    · have g1 : ((l.length : Int) != 8) = true := by simp; omega
      have hg : rgt ⟨pc, l, h, f⟩ = 4 := by unfold rgt; rw [if_neg]; rintro ⟨_, q, _⟩; exact h2 q
      rw [hg]
      clear hg HAL h1 h2
      go_enter Try.func11, Try.ntmps11
      go_wp2_with (go_at_call 31; refine (HW.out _).mono ?_; rintro e w2 ⟨rfl, rfl⟩)
      go_ret
      exact ⟨rfl, by go_grown⟩
  · rw [decide_eq_false h1] at HW
    have hg : rgt ⟨pc, l, h, f⟩ = 4 := by unfold rgt; rw [if_neg]; rintro ⟨q, _⟩; exact h1 q
    rw [hg]
    clear hg HAL h1
    go_enter Try.func11, Try.ntmps11
    go_wp2_with (go_at_call 31; refine (HW.out _).mono ?_; rintro e w2 ⟨rfl, rfl⟩)
    go_ret
    exact ⟨rfl, by go_grown⟩
end VmC
end Go.Proofs.Ytceflfdpbgnfjaa
