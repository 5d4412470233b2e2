/- playLives. -/
import Derived.Test.YtgplaoojimpbaaaPlyL
import Derived.Test.YtgplaoojimpbaaaOpenIn
set_option linter.unusedVariables false
namespace Go.Proofs.Ytgplaoojimpbaaa
open Go.RowKit hiding tok
open Go.Shelf Go.Sort
open SpanM SpanC TaskM PlayM
open RowsO hiding Tk
namespace PlayC
open RowG
open NumC (Row)
theorem lives_world (w : World) : ∃ V, V = ((w.alloc (.cells #[.int .i64 2, .int .i64 8, .int .i64 8] 62)).alloc (.cells #[.int .i64 1, .int .i64 2] 57)).alloc (.cells #[.int .i64 1] 3) ∧ Below w.heap.size w V ∧ Tks V (some ⟨w.heap.size, 0, none⟩) PL.l ∧ Sps V (some ⟨w.heap.size + 1, 0, none⟩) PL.sl ∧ Row V (some ⟨w.heap.size + 2, 0, none⟩) PL.f := by
  refine ⟨_, rfl, ?_, .inr ⟨_, 0, rfl, fun i hi => ?_⟩, .inr ⟨_, 0, rfl, fun i hi => ?_⟩, .inr ⟨_, 0, rfl, fun i hi => ?_⟩⟩
  · exact (((Below.refl _ w).alloc (Nat.le_refl _) _).alloc (by rw [World.size_alloc]; omega) _).alloc (by rw [World.size_alloc, World.size_alloc]; omega) _
  · have hb := box_alloc (box_alloc (box_new w #[.int .i64 2, .int .i64 8, .int .i64 8] 62) (.cells #[.int .i64 1, .int .i64 2] 57)) (.cells #[.int .i64 1] 3)
    match i, hi with
    | 0, _ => exact ⟨box_cell hb 0, box_cell hb 1, box_cell hb 2⟩
  · have hb := box_alloc (box_new (w.alloc (.cells #[.int .i64 2, .int .i64 8, .int .i64 8] 62)) #[.int .i64 1, .int .i64 2] 57) (.cells #[.int .i64 1] 3)
    rw [World.size_alloc] at hb
    match i, hi with
    | 0, _ => exact ⟨box_cell hb 0, box_cell hb 1⟩
  · have hb := box_new ((w.alloc (.cells #[.int .i64 2, .int .i64 8, .int .i64 8] 62)).alloc (.cells #[.int .i64 1, .int .i64 2] 57)) #[.int .i64 1] 3
    rw [World.size_alloc, World.size_alloc] at hb
    match i, hi with
    | 0, _ => exact box_cell hb 0
set_option maxRecDepth 20000 in
set_option maxHeartbeats 1600000 in
theorem plives (w : World) :
    Calls Try.prog 24 #[] w fun e w' => e = .returned (.bool true) ∧ Below w.heap.size w w' := by
  obtain ⟨V, hV, hb, hT, hS, hF⟩ := lives_world w
  have H := hid (play_any PL 8 _ _ _ 1 1 1 V hT hF hS)
  rw [PL_D.2, PL_plE, PL_D.1] at H
  simp only [show PL.l.length = 1 from rfl, show PL.f.length = 1 from rfl, show PL.sl.length = 1 from rfl, show PL.pol = 1 from rfl, show PL.size = 2 from rfl] at H
  have HB := hid hb
  have HV := hid hV
  clear hb hT hS hF hV
  go_enter Try.func24, Try.ntmps24
  go_wp2_with fail
  rw [← HV.out]
  refine H.out.mono ?_
  rintro e w1 ⟨⟨vd, rfl, ho⟩, hb1⟩
  obtain ⟨ad, cd, rfl, hrd, _⟩ := ho.rd
  have HB1 := hid (bel_of HB.out hb1)
  have HE := hid (equal_any ad (some ⟨w1.heap.size, 0, none⟩) cd 1 [(0, 0, 1, 4)] [(0, 0, 1, 4)] (w1.alloc (.cells #[.int .i64 0, .int .i64 0, .int .i64 1, .int .i64 4] 40)) (hrd.below ((Below.refl _ w1).alloc (Nat.le_refl _) _) (Nat.le_refl _)) (.inr ⟨_, 0, rfl, fun i j hi hj => by
    have hb := box_new w1 #[.int .i64 0, .int .i64 0, .int .i64 1, .int .i64 4] 40
    match i, hi with
    | 0, _ => rw [box_cell hb]; simp [ED]⟩) (by decide))
  rw [decide_eq_true rfl] at HE
  simp only [List.length_singleton] at HE
  clear ho hrd hb1
  simp only [List.length_singleton]
  go_wp2_with (first | (go_at_call 18; refine HE.out.mono ?_; rintro e w2 ⟨rfl, hb2⟩; have HB2 := hid (bel_of (HB1.out.alloc HB1.out.size _) hb2); clear hb2))
  go_ret
  exact ⟨rfl, HB2.out⟩
end PlayC
end Go.Proofs.Ytgplaoojimpbaaa
