/- Several texts, one behind the other: RnkH. -/
import Derived.Test.YtnbfadfhpegddaaPkRk
import Derived.Test.YtnbfadfhpegddaaRepV
import Derived.Test.YtnbfadfhpegddaaOpenIn
/- rankLives; the walks of RankAudsley and RankDue. -/
set_option linter.unusedVariables false
namespace Go.Proofs.Ytnbfadfhpegddaa
open Go.RowKit hiding tok
open Go.Shelf Go.Sort
open SpanM SupM SpanC TaskM PlayM RankM
open RowsO hiding Tk
namespace RankC
open TaskC (tchk tchkG tchk_zero tchk_of tchk_bd tcheck_any tk_snoc tk_mem)
open NumC (Row)
open RepC (OwnI.row OwnI.set OwnI.frozen OwnI.base' OwnI.made made_zero rchk rchk_zero iequal_any)
open PlayC (Row.below box_cell box_alloc box_new)
/-- a box of a call's own -/
structure B1 (w W : World) (x : Array Value) (tx : Nat) : Prop where
  b : Below (w.heap.size + 1) (w.alloc (.cells x tx)) W
theorem B1.start (w : World) (x : Array Value) (tx : Nat) : B1 w (w.alloc (.cells x tx)) x tx := ⟨Below.refl _ _⟩
theorem B1.size {w W : World} {x : Array Value} {tx : Nat} (h : B1 w W x tx) : w.heap.size + 1 ≤ W.heap.size := by
  have := h.b.size
  rw [World.size_alloc] at this
  exact this
theorem B1.step {w W V : World} {x : Array Value} {tx : Nat} (h : B1 w W x tx) (k : Below W.heap.size W V) : B1 w V x tx := ⟨h.b.trans (k.mono h.size)⟩
theorem B1.bel {w W : World} {x : Array Value} {tx : Nat} (h : B1 w W x tx) : Below w.heap.size w W :=
  ((Below.refl _ w).alloc (Nat.le_refl _) _).trans (h.b.mono (by omega))
theorem B1.c0 {w W : World} {x : Array Value} {tx : Nat} (h : B1 w W x tx) (i : Nat) : W.cell? ⟨w.heap.size, i, none⟩ = x[i]? := by
  rw [h.b.cell (by show w.heap.size < _; omega)]
  exact box_cell (box_new w x tx) i
/-- two tasks, of which the second one has to go first -/
def LK : List Tk := [(3, 9, 8), (2, 5, 2)]
theorem LK_chk : tchk LK = 0 := by
  refine tchk_of (by decide) ?_
  intro x hx
  simp only [LK, List.mem_cons, List.mem_nil_iff, or_false] at hx
  rcases hx with rfl | rfl <;> (unfold tok; decide)
theorem LK_due : ordE (fun x => x.2.2) LK = [1, 0] := by
  unfold ordE
  rw [if_pos LK_chk]
  symm
  refine KP.eq ⟨⟨rfl, ?_⟩, ?_⟩
  · intro i hi
    have : i = 0 ∨ i = 1 := by have : LK.length = 2 := rfl; omega
    rcases this with rfl | rfl <;> decide
  · refine List.pairwise_cons.2 ⟨?_, List.pairwise_singleton _ _⟩
    intro y hy
    simp only [List.mem_singleton] at hy
    subst hy
    exact .inl (by decide)
theorem LK_found : fnd LK 1 [(0, 1)] = some [1, 0] := by
  refine fnd_eq ?_
  have h2 : RankM.Found (lst 1 [(0, 1)]) LK [1] (some [1]) := by
    refine RankM.Found.step (u := []) (v := []) (i := 1) (r := some []) ?_ ?_ RankM.Found.nil
    · intro u' j v' _ h; simp at h
    · refine ⟨2, by decide, by decide, ?_⟩
      rw [all_lst (by omega) (by omega)]; decide
  have h1 : RankM.Found (lst 1 [(0, 1)]) LK [0, 1] (some [1, 0]) := by
    refine RankM.Found.step (u := []) (v := [1]) (i := 0) (r := some [1]) ?_ ?_ h2
    · intro u' j v' _ h; simp at h
    · refine ⟨5, by decide, by decide, ?_⟩
      rw [all_lst (by omega) (by omega)]; decide
  exact h1
theorem LK_rchk : rchk LK 1 [(0, 1)] = 0 := by unfold rchk; rw [if_pos LK_chk]; decide
theorem LK_fndE : fndE LK 1 [(0, 1)] = 0 := by unfold fndE; rw [if_pos LK_rchk, LK_found]; rfl
theorem LK_fndL : fndL LK 1 [(0, 1)] = [1, 0] := by unfold fndL; rw [if_pos LK_rchk, LK_found]; rfl
theorem row10 (w : World) : Row (w.alloc (.cells #[.int .i64 1, .int .i64 0] 3)) (some ⟨w.heap.size, 0, none⟩) [1, 0] :=
  .inr ⟨_, 0, rfl, fun i hi => by
    have hb := box_new w #[.int .i64 1, .int .i64 0] 3
    match i, hi with
    | 0, _ => exact box_cell hb 0
    | 1, _ => exact box_cell hb 1⟩
set_option maxRecDepth 20000 in
set_option maxHeartbeats 1600000 in
theorem lives (w : World) :
    Calls Try.prog 25 #[] w fun e w' => e = .returned (.bool true) ∧ Below w.heap.size w w' := by
  obtain ⟨V, hV⟩ : ∃ V, V = w.alloc (.cells #[.int .i64 3, .int .i64 9, .int .i64 8, .int .i64 2, .int .i64 5, .int .i64 2] 38) := ⟨_, rfl⟩
  have hT : Tks V (some ⟨w.heap.size, 0, none⟩) LK := .inr ⟨_, 0, rfl, fun i hi => by
    have hb := box_new w #[.int .i64 3, .int .i64 9, .int .i64 8, .int .i64 2, .int .i64 5, .int .i64 2] 38
    rw [hV]
    match i, hi with
    | 0, _ => exact ⟨box_cell hb 0, box_cell hb 1, box_cell hb 2⟩
    | 1, _ => exact ⟨box_cell hb 3, box_cell hb 4, box_cell hb 5⟩⟩
  have hB : Below w.heap.size w V := by rw [hV]; exact (Below.refl _ w).alloc (Nat.le_refl _) _
  have H1 := hid (ByDue_any LK _ 2 V hT)
  rw [LK_due, LK_chk] at H1
  have HT := hid hT
  have HB := hid hB
  have HV := hid hV
  have HF := hid (fun (W : World) (a : Option Addr) (h : Below V.heap.size V W) (hs : Sps W a [(0, 1)]) => Find_any LK 1 [(0, 1)] _ a 2 1 W (hT.below h (Nat.le_refl _)) hs (by decide))
  rw [LK_fndE, LK_fndL] at HF
  simp only [show LK.length = 2 from rfl, List.length_singleton] at H1 HF
  clear hT hB hV
  go_enter Try.func25, Try.ntmps25
  go_wp2_with fail
  rw [← HV.out]
  refine H1.out.mono ?_
  rintro e w1 ⟨⟨v1, rfl, ho1⟩, b1⟩
  obtain ⟨a1, k1, rfl, hr1, _⟩ := OwnI.row ho1
  have HR1 := hid hr1
  have HB1 := hid b1
  clear hr1 b1 ho1
  simp only [List.length_cons, List.length_nil]
  go_wp2_with fail
  refine (HF.out _ (some ⟨w1.heap.size, 0, none⟩) (HB1.out.alloc HB1.out.size _) (.inr ⟨_, 0, rfl, fun i hi => by
    have hb := box_new w1 #[.int .i64 0, .int .i64 1] 58
    match i, hi with
    | 0, _ => exact ⟨box_cell hb 0, box_cell hb 1⟩⟩)).mono ?_
  rintro e w2 ⟨⟨v2, rfl, ho2⟩, b2⟩
  obtain ⟨a2, k2, rfl, hr2, _⟩ := OwnI.row ho2
  have HB2 := hid ((HB1.out.alloc HB1.out.size _).trans (b2.mono (by have := HB1.out.size; rw [World.size_alloc]; omega)))
  have HR2 := hid hr2
  have HR1' := hid (Row.below (Row.below HR1.out ((Below.refl _ w1).alloc (Nat.le_refl _) _) (Nat.le_refl _)) b2 (Nat.le_refl _))
  clear b2 ho2 hr2
  simp only [List.length_cons, List.length_nil]
  have HE1 := hid (iequal_any a1 (some ⟨w2.heap.size, 0, none⟩) k1 2 [1, 0] [1, 0] _ (Row.below HR1'.out ((Below.refl _ w2).alloc (Nat.le_refl _) _) (Nat.le_refl _)) (row10 w2) (by decide))
  have HE2 := hid (fun (W : World) (h : Below w2.heap.size w2 W) => iequal_any a2 (some ⟨W.heap.size, 0, none⟩) k2 2 [1, 0] [1, 0] _ (Row.below HR2.out (h.alloc h.size _) (Nat.le_refl _)) (row10 W) (by decide))
  simp only [decide_true, List.length_cons, List.length_nil] at HE1 HE2
  go_wp2_with fail
  refine HE1.out.mono ?_
  rintro e w3 ⟨rfl, b3⟩
  have HB3 := hid (((Below.refl _ w2).alloc (Nat.le_refl _) (.cells #[.int .i64 1, .int .i64 0] 3)).trans (b3.mono (by rw [World.size_alloc]; omega)))
  clear b3
  go_wp2_with fail
  refine (HE2.out _ HB3.out).mono ?_
  rintro e w4 ⟨rfl, b4⟩
  have HB4 := hid ((HB3.out.alloc HB3.out.size _).trans (b4.mono (by have := HB3.out.size; rw [World.size_alloc]; omega)))
  clear b4
  go_wp2_with fail
  go_ret
  exact ⟨rfl, bel_of HB.out (bel_of HB2.out HB4.out)⟩
theorem rchk_11 (l : List Tk) (size : Int) (sl : List Sp) : rchk l size sl ≠ 11 := by
  have := tchk_bd l
  unfold rchk
  split
  · unfold chk chkG
    (repeat' split) <;> omega
  · omega
end RankC
end Go.Proofs.Ytnbfadfhpegddaa
