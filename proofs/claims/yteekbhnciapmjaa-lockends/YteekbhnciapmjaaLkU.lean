/- Package lock: lockLives. -/
import Derived.Test.YteekbhnciapmjaaLkT
set_option linter.unusedVariables false
namespace Go.Proofs.Yteekbhnciapmjaa
open Go.RowKit
open Go.Shelf Go.Sort
open SpanM SpanC IntsC
open RowsO hiding Wk
namespace LockC
open LockM
open NumC (Row)
def l0 : List LockM.Wk := [(1, [(2, 2), (1, 1), (3, 2)]), (0, [(2, 2), (1, 2), (3, 2), (1, 1)])]
theorem l0_chk : wchk l0 = 0 := by decide +kernel
theorem l0_ok : Oks l0 := wchk_zero l0_chk
theorem l0_E : plyE l0 5 = 0 := by decide +kernel
theorem l0_R : plyR l0 5 = [1, 1, 0, 1, -1] := by
  unfold plyR
  rw [if_pos l0_E]
  decide +kernel
theorem l0_N : plyN l0 5 = [3, 4] := by
  unfold plyN
  rw [if_pos l0_E]
  have e0 : endV (wks l0) 5 0 = 3 := endV_eq l0_ok (by decide) (.inr ⟨by decide, by decide, by decide +kernel, by decide +kernel⟩)
  have e1 : endV (wks l0) 5 1 = 4 := endV_eq l0_ok (by decide) (.inr ⟨by decide, by decide, by decide +kernel, by decide +kernel⟩)
  show (List.range 2).map (fun i => (endV (wks l0) 5 i : Int)) = _
  simp [List.range_succ, e0, e1]
theorem l0_B : bndV l0 0 = 2 := by decide +kernel
theorem l0_BE : bndE l0 0 = 0 := by decide +kernel
abbrev lvA : Array Value := #[.int .i64 2, .int .i64 2, .int .i64 1, .int .i64 1, .int .i64 3, .int .i64 2]
abbrev lvB : Array Value := #[.int .i64 2, .int .i64 2, .int .i64 1, .int .i64 2, .int .i64 3, .int .i64 2, .int .i64 1, .int .i64 1]
/-- the works that it builds -/
def lvW (w : World) : World := ((w.alloc (.cells lvA 46)).alloc (.cells lvB 46)).alloc (.cells #[.int .i64 1, .slice (some ⟨w.heap.size, 0, none⟩) 3 3, .int .i64 0, .slice (some ⟨w.heap.size + 1, 0, none⟩) 4 4] 42)
theorem lvW_heap (w : World) : (lvW w).heap[w.heap.size]? = some (.cells lvA 46) ∧ (lvW w).heap[w.heap.size + 1]? = some (.cells lvB 46) ∧ (lvW w).heap[w.heap.size + 1 + 1]? = some (.cells #[.int .i64 1, .slice (some ⟨w.heap.size, 0, none⟩) 3 3, .int .i64 0, .slice (some ⟨w.heap.size + 1, 0, none⟩) 4 4] 42) := by
  refine ⟨push3a _ _ _ _, ?_, push3 _ _ _ _⟩
  show (((w.heap.push _).push _).push _)[_]? = _
  rw [Array.getElem?_push, if_neg (by simp only [Array.size_push]; omega), Array.getElem?_push, if_pos (by simp only [Array.size_push])]
theorem lvW_wks (w : World) : RowsO.Wks (lvW w) (some ⟨w.heap.size + 1 + 1, 0, none⟩) l0 := by
  obtain ⟨h1, h2, h3⟩ := lvW_heap w
  refine .inr ⟨_, 0, rfl, fun i hi => ?_⟩
  match i, hi with
  | 0, _ =>
    refine ⟨box_cell h3 0, some ⟨w.heap.size, 0, none⟩, 3, box_cell h3 1, by decide, .inr ⟨_, 0, rfl, fun j hj => ?_⟩⟩
    match j, hj with
    | 0, _ => exact ⟨box_cell h1 0, box_cell h1 1⟩
    | 1, _ => exact ⟨box_cell h1 2, box_cell h1 3⟩
    | 2, _ => exact ⟨box_cell h1 4, box_cell h1 5⟩
  | 1, _ =>
    refine ⟨box_cell h3 2, some ⟨w.heap.size + 1, 0, none⟩, 4, box_cell h3 3, by decide, .inr ⟨_, 0, rfl, fun j hj => ?_⟩⟩
    match j, hj with
    | 0, _ => exact ⟨box_cell h2 0, box_cell h2 1⟩
    | 1, _ => exact ⟨box_cell h2 2, box_cell h2 3⟩
    | 2, _ => exact ⟨box_cell h2 4, box_cell h2 5⟩
    | 3, _ => exact ⟨box_cell h2 6, box_cell h2 7⟩
theorem lvW_bel (w : World) : Below w.heap.size w (lvW w) :=
  (((Below.refl _ w).alloc (Nat.le_refl _) _).alloc (by rw [World.size_alloc]; omega) _).alloc (by rw [World.size_alloc, World.size_alloc]; omega) _
/-- a row of ints that a call has told, in order -/
theorem owni_pos {w : World} {B : Nat} {v : Value} {l : List Int} (h : OwnI w B v l) (h0 : 0 < l.length) : ∃ g cap, v = vS g l.length cap ∧ B ≤ g ∧ g < w.heap.size := by
  rcases h.form with ⟨rfl, rfl⟩ | ⟨g, cap, rfl, h1, h2, _⟩
  · simp at h0
  · exact ⟨g, cap, rfl, h1, h2⟩
set_option maxRecDepth 20000 in
set_option maxHeartbeats 1000000 in
theorem lives (w : World) : Calls Try.prog 20 #[] w fun e w' => e = .returned (.bool true) ∧ Below w.heap.size w w' := by
  have HPL := hid (Play_any l0 5 (some ⟨w.heap.size + 1 + 1, 0, none⟩) 2 (lvW w) (lvW_wks w))
  rw [l0_E, l0_R, l0_N] at HPL
  have HBN := hid (fun wx (hb : Below (lvW w).heap.size (lvW w) wx) => Bound_any l0 0 (some ⟨w.heap.size + 1 + 1, 0, none⟩) 2 (by decide) wx ((lvW_wks w).below hb (Nat.le_refl _)))
  rw [l0_B, l0_BE] at HBN
  have HLB := hid (lvW_bel w)
  go_enter Try.func20, Try.ntmps20
  go_wp2_with (first | (go_at_call 17; refine HPL.out.mono ?_; rintro e w1 ⟨⟨v1, v2, rfl, ho1, ho2⟩, hb1⟩; have HB1 := hid hb1; obtain ⟨g1, c1, rfl, _, hl1⟩ := owni_pos ho1 (by decide); obtain ⟨g2, c2, rfl, _, hl2⟩ := owni_pos ho2 (by decide); have HO1 := hid ho1; have HO2 := hid ho2; clear ho1 ho2 hb1) | (go_at_call 11; refine (HBN.out _ (HB1.out.alloc HB1.out.size _)).mono ?_; rintro e w2 ⟨rfl, hb2⟩; have HB2 : Hid (Below w1.heap.size w1 w2) := (((Below.refl _ w1).alloc (Nat.le_refl _) _).trans (hb2.mono (by rw [World.size_alloc]; omega))); have hbx := box_below (box_new w1 #[vS g1 5 c1, vS g2 2 c2, .int .i64 0] 34) hb2 (Nat.le_refl _); have x0 := box_cell hbx 0; have x1 := box_cell hbx 1; simp at x0 x1; have y1 := (HO1.out.below HB2.out (Nat.le_refl _)).cell 1 (by decide); have y2 := (HO1.out.below HB2.out (Nat.le_refl _)).cell 2 (by decide); have y3 := (HO2.out.below HB2.out (Nat.le_refl _)).cell 0 (by decide); have y4 := (HO2.out.below HB2.out (Nat.le_refl _)).cell 1 (by decide); simp at y1 y2 y3 y4; clear hbx hb2))
  go_ret
  exact ⟨rfl, HLB.out.trans ((HB1.out.trans (HB2.out.mono HB1.out.size)).mono HLB.out.size)⟩
end LockC
end Go.Proofs.Yteekbhnciapmjaa
