/- supplyLives: two in five. -/
import Derived.Test.YtepnlfnnancnfaaSupA
import Derived.Test.YtepnlfnnancnfaaSpanO
set_option linter.unusedVariables false
namespace Go.Proofs.Ytepnlfnnancnfaa
open Go.RowKit
open SpanM SupM
namespace SpanC
theorem sl_chk : chk 5 [(0, 2)] = 0 := by decide
theorem sl_least : leastE 5 [(0, 2)] 4 = 0 := by decide
theorem sl_l : leastV 5 [(0, 2)] 4 = 1 := by decide
theorem sl_m : mostV 5 [(0, 2)] 4 = 2 := by decide
theorem sl_e : sE 5 [(0, 2)] 3 1000000 = 0 := by decide
theorem sl_w : waitE 5 [(0, 2)] 3 = 0 ∧ waitV 5 [(0, 2)] 3 = 9 := by
  have h : endT 5 [(0, 2)] 5 = 11 := endT_eq (by omega) (by decide) ⟨by omega, by decide, by decide⟩
  have hc : cb 5 [(0, 2)] 2 = 2 := by decide
  refine ⟨by unfold waitE; rw [if_pos sl_e, if_neg (by omega), if_neg (by simp)], ?_⟩
  unfold waitV
  rw [if_pos ⟨sl_e, by omega, by simp⟩]
  show max 0 (endT 5 [(0, 2)] (cb 5 [(0, 2)] 2 + 3) - 2) = 9
  rw [hc, show (2 : Int) + 3 = 5 from rfl, h]; decide
theorem slives (w : World) :
    Calls Try.prog 24 #[] w fun e w' => e = .returned (.bool true) ∧ Below w.heap.size w w' := by
  go_enter Try.func24, Try.ntmps24
  go_wp2_with fail
  have hq : Sps ((w.alloc (.cells #[.int .i64 0, .int .i64 2] 45)).alloc (.cells #[.int .i64 5, .slice (some ⟨w.heap.size, 0, none⟩) 1 1] 24)) (some ⟨w.heap.size, 0, none⟩) [(0, 2)] := by
    refine .inr ⟨_, 0, rfl, fun i hi => ?_⟩
    match i, hi with
    | 0, _ => exact ⟨(World.cell?_alloc_lt _ _ _ (by simp)).trans (World.cell?_alloc_at _ _ _ _ rfl), (World.cell?_alloc_lt _ _ _ (by simp)).trans (World.cell?_alloc_at _ _ _ _ rfl)⟩
  have hb : Below w.heap.size w ((w.alloc (.cells #[.int .i64 0, .int .i64 2] 45)).alloc (.cells #[.int .i64 5, .slice (some ⟨w.heap.size, 0, none⟩) 1 1] 24)) := by go_grown
  have c0 : ((w.alloc (.cells #[.int .i64 0, .int .i64 2] 45)).alloc (.cells #[.int .i64 5, .slice (some ⟨w.heap.size, 0, none⟩) 1 1] 24)).cell? ⟨w.heap.size + 1, 0, none⟩ = some (.int .i64 5) := World.cell?_alloc_at _ _ _ _ (by simp)
  have c1 : ((w.alloc (.cells #[.int .i64 0, .int .i64 2] 45)).alloc (.cells #[.int .i64 5, .slice (some ⟨w.heap.size, 0, none⟩) 1 1] 24)).cell? ⟨w.heap.size + 1, 1, none⟩ = some (.slice (some ⟨w.heap.size, 0, none⟩) 1 1) := World.cell?_alloc_at _ _ _ _ (by simp)
  generalize (w.alloc (.cells #[.int .i64 0, .int .i64 2] 45)).alloc (.cells #[.int .i64 5, .slice (some ⟨w.heap.size, 0, none⟩) 1 1] 24) = V at *
  have H1 := hid (fun W (h : Below V.heap.size V W) => least_any 5 4 _ 1 _ W (hq.below h (Nat.le_refl _)))
  have H2 := hid (fun W (h : Below V.heap.size V W) => most_any 5 4 _ 1 _ W (hq.below h (Nat.le_refl _)))
  have H3 := hid (fun W (h : Below V.heap.size V W) => wait_any 5 3 _ 1 _ W (hq.below h (Nat.le_refl _)))
  simp only [sl_l, sl_m, sl_least, sl_w.1, sl_w.2, List.length_singleton] at H1 H2 H3
  have HB := hid hb
  clear hb hq
  refine (H1.out _ (Below.refl _ _)).mono ?_
  rintro e w1 ⟨rfl, b1⟩
  have d0 := (b1.cell (World.block_lt_of_cell? _ _ c0)).trans c0
  have d1 := (b1.cell (World.block_lt_of_cell? _ _ c1)).trans c1
  have B1 := hid b1
  clear c0 c1 b1
  go_wp2_with fail
  refine (H2.out _ B1.out).mono ?_
  rintro e w2 ⟨rfl, b2⟩
  have c0 := (b2.cell (World.block_lt_of_cell? _ _ d0)).trans d0
  have c1 := (b2.cell (World.block_lt_of_cell? _ _ d1)).trans d1
  have B2 := hid (bel_of B1.out b2)
  clear d0 d1 b2
  go_wp2_with fail
  refine (H3.out _ B2.out).mono ?_
  rintro e w3 ⟨rfl, b3⟩
  have B3 := hid (bel_of B2.out b3)
  clear c0 c1 b3
  go_wp2_with fail
  go_ret
  exact ⟨by first | rfl | simp, bel_of HB.out B3.out⟩
end SpanC
end Go.Proofs.Ytepnlfnnancnfaa
