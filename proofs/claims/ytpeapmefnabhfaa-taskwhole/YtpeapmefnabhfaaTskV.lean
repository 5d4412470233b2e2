/- taskLives: two tasks, in half of all times. -/
import Derived.Test.YtpeapmefnabhfaaTskG
set_option linter.unusedVariables false
namespace Go.Proofs.Ytpeapmefnabhfaa
open Go.RowKit hiding tok
open SpanM SupM SpanC TaskM
open RowsO hiding Tk
namespace TaskC
def tl2 : List Tk := [(1, 4, 4), (1, 6, 5)]
theorem tl_chk : tchk tl2 = 0 := tchk_of (by decide) (by decide)
theorem tl_G : NumM.G 1 4 = 1 ∧ NumM.G 4 6 = 2 ∧ NumM.G 1 12 = 1 ∧ NumM.G 12 2 = 2 := by decide
theorem tl_lcm : NumM.lcmFrom 1 (evs tl2) = some 12 := by decide
theorem tl_rnd : rnd tl2 = 12 ∧ rndE tl2 = 0 := by unfold rnd rndE; rw [tl_lcm]; decide
theorem tl_round : roundV tl2 = 12 ∧ roundE tl2 = 0 := by unfold roundV roundE; rw [if_pos tl_chk, if_pos tl_chk]; exact tl_rnd
theorem tl_use : useV tl2 = 5 := by unfold useV; rw [if_pos tl_round.2, tl_round.1]; decide
theorem tl_dem : demE tl2 11 = 0 ∧ demV tl2 11 = 4 := by
  have e := demE_of tl_chk (n := 11) (by omega) (by omega)
  exact ⟨e, by rw [demV_of e]; decide⟩
theorem tl_both : both tl2 2 = 12 := by unfold both; rw [tl_rnd.1]; decide
theorem tl_fitE : fitE tl2 2 [(0, 1)] = 0 := fitE_of tl_chk (by decide) tl_rnd.2 (by rw [tl_both]; omega)
theorem tl_bad : ∀ m : Fin 13, ¬ lst 2 [(0, 1)] ((m.val : Nat) : Int) < dem tl2 ((m.val : Nat) : Int) := by decide
theorem tl_fit : fitN tl2 2 [(0, 1)] = 0 ∧ fitB tl2 2 [(0, 1)] = true := by
  have h : fitN tl2 2 [(0, 1)] = 0 := by
    unfold fitN
    rw [if_pos tl_fitE, tl_both]
    refine (lack_eq (.inl ⟨rfl, fun m m1 m2 => ?_⟩)).symm
    have := tl_bad ⟨m.toNat, by omega⟩
    simp only at this
    rw [show ((m.toNat : Nat) : Int) = m by omega] at this
    exact this
  refine ⟨h, ?_⟩
  unfold fitB
  rw [if_pos tl_fitE, h]; rfl
set_option maxHeartbeats 400000 in
theorem tlives (w : World) :
    Calls Try.prog 22 #[] w fun e w' => e = .returned (.bool true) ∧ Below w.heap.size w w' := by
  go_enter Try.func22, Try.ntmps22
  go_wp2_with fail
  have hq : Tks (w.alloc (.cells #[.int .i64 1, .int .i64 4, .int .i64 4, .int .i64 1, .int .i64 6, .int .i64 5] 34)) (some ⟨w.heap.size, 0, none⟩) tl2 := by
    refine .inr ⟨_, 0, rfl, fun i hi => ?_⟩
    match i, hi with
    | 0, _ => exact ⟨World.cell?_alloc_at _ _ _ _ rfl, World.cell?_alloc_at _ _ _ _ rfl, World.cell?_alloc_at _ _ _ _ rfl⟩
    | 1, _ => exact ⟨World.cell?_alloc_at _ _ _ _ rfl, World.cell?_alloc_at _ _ _ _ rfl, World.cell?_alloc_at _ _ _ _ rfl⟩
  have hb : Below w.heap.size w (w.alloc (.cells #[.int .i64 1, .int .i64 4, .int .i64 4, .int .i64 1, .int .i64 6, .int .i64 5] 34)) := by go_grown
  generalize w.alloc (.cells #[.int .i64 1, .int .i64 4, .int .i64 4, .int .i64 1, .int .i64 6, .int .i64 5] 34) = V at *
  have H1 := hid (fun W (h : Below V.heap.size V W) => use_any _ 2 _ W (hq.below h (Nat.le_refl _)))
  have H2 := hid (fun W (h : Below V.heap.size V W) => Demand_any _ 2 _ 11 W (hq.below h (Nat.le_refl _)))
  have H3 := hid (fun W (h : Below V.heap.size V W) => Fits_any _ (some ⟨W.heap.size, 0, none⟩) 2 1 _ [(0, 1)] 2 (W.alloc (.cells #[.int .i64 0, .int .i64 1] 55)) (hq.below (h.alloc h.size _) (Nat.le_refl _)) (.inr ⟨_, 0, rfl, fun i hi => by
    match i, hi with
    | 0, _ => exact ⟨World.cell?_alloc_at _ _ _ _ rfl, World.cell?_alloc_at _ _ _ _ rfl⟩⟩))
  rw [tl_use, tl_round.1, tl_round.2] at H1
  rw [tl_dem.1, tl_dem.2] at H2
  rw [tl_fit.1, tl_fit.2, tl_fitE] at H3
  simp only [show tl2.length = 2 from rfl, List.length_singleton] at H1 H2 H3
  have HB := hid hb
  clear hb hq
  refine (H1.out _ (Below.refl _ _)).mono ?_
  rintro e w1 ⟨rfl, b1⟩
  have B1 := hid b1
  clear b1
  go_wp2_with fail
  refine (H2.out _ B1.out).mono ?_
  rintro e w2 ⟨rfl, b2⟩
  have B2 := hid (bel_of B1.out b2)
  clear b2
  go_wp2_with fail
  refine (H3.out _ B2.out).mono ?_
  rintro e w3 ⟨rfl, b3⟩
  have B3 := hid (bel_al B2.out b3)
  clear b3
  go_wp2_with fail
  go_ret
  exact ⟨by first | rfl | simp, bel_of HB.out B3.out⟩
end TaskC
end Go.Proofs.Ytpeapmefnabhfaa
