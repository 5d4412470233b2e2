/- MadeTable: its errors, its boxes; what it tells, out of the walk of a list (MadeList). -/
import Derived.Test.YtgehdpohiphcpaaTabJ
import Derived.Test.YtgehdpohiphcpaaTabL9
set_option linter.unusedVariables false
namespace Go.Proofs.Ytgehdpohiphcpaa
open Go.RowKit
open SpanM SpanC TabM
namespace TabC
set_option maxHeartbeats 400000 in
theorem made_arg (frame : Int) (a : Option Addr) (n cap : Nat) (w : World) (h : ¬ (1 ≤ frame ∧ frame ≤ 1000000)) :
    Calls Try.prog 20 #[.int .i64 frame, .slice a n cap] w fun e w' => e = .returned (.tuple #[.agg #[.int .i64 0, .slice none 0 0], .int .i64 1]) ∧ Below w.heap.size w w' := by
  go_enter Try.func20, Try.ntmps20
  go_wp2_with (go_at_call 14; go_call (btw_no _ _ _ _) as e w' ⟨rfl, rfl⟩)
  go_returns
  exact ⟨rfl, by go_grown⟩
set_option maxHeartbeats 400000 in
theorem made_large (frame : Int) (a : Option Addr) (n cap : Nat) (w : World) (h1 : 1 ≤ frame) (h2 : frame ≤ 1000000) (h : 200 < n) :
    Calls Try.prog 20 #[.int .i64 frame, .slice a n cap] w fun e w' => e = .returned (.tuple #[.agg #[.int .i64 0, .slice none 0 0], .int .i64 2]) ∧ Below w.heap.size w w' := by
  have hn : (200 : Int) < (n : Int) := by omega
  go_enter Try.func20, Try.ntmps20
  go_wp2_with (go_at_call 14; go_call (btw_yes _ _ _ _) as e w' ⟨rfl, rfl⟩)
  go_returns
  exact ⟨rfl, by go_grown⟩
/-- what MadeTable tells of not too many wants, in a right frame -/
def MadeTold (frame : Int) (l : List Wnt) (B : Nat) (e : Ending) (w' : World) : Prop :=
  (wchkG frame l ≠ 0 ∧ e = .returned (.tuple #[.agg #[.int .i64 0, .slice none 0 0], .int .i64 (wchkG frame l)])) ∨ (wchkG frame l = 0 ∧ MakeTold frame l B e w')
/-- the boxes: what is told, the table that is made -/
structure MBox (w W : World) (bT : Nat) (frame : Int) (v : Value) : Prop where
  rb : RBox w W w.heap.size
  tl : bT < W.heap.size
  rl : w.heap.size < bT
  t0 : W.cell? ⟨bT, 0, none⟩ = some (.int .i64 frame)
  t1 : W.cell? ⟨bT, 1, none⟩ = some v
  tf : W.frozen? ⟨bT, 1, none⟩ = false
theorem MBox.step {w W W' : World} {bT : Nat} {frame : Int} {v : Value} (h : MBox w W bT frame v) (hb : Below (bT + 1) W W') : MBox w W' bT frame v where
  rb := h.rb.step (hb.mono (by have := h.rl; omega)) (Nat.le_refl _)
  tl := Nat.lt_of_lt_of_le h.tl hb.size
  rl := h.rl
  t0 := (hb.cell (by simp)).trans h.t0
  t1 := (hb.cell (by simp)).trans h.t1
  tf := (hb.frozen (by simp)).trans h.tf
theorem MBox.set {w W : World} {bT : Nat} {frame : Int} {v : Value} (h : MBox w W bT frame v) (u : Value) : MBox w (W.setCell ⟨bT, 1, none⟩ u) bT frame u where
  rb := h.rb.step (Below.setCell (Below.refl _ _) (p := ⟨bT, 1, none⟩) (by have := h.rl; simp; omega) u) (Nat.le_refl _)
  tl := by simpa using h.tl
  rl := h.rl
  t0 := (World.cell?_setCell_other _ _ _ _ (by simp)).trans h.t0
  t1 := World.cell?_setCell_same _ _ _ h.t1
  tf := by
    have := h.tf
    simpa [World.frozen?_setCell] using this
/-- what the walk over a list tells -/
def MadeList : Prop := ∀ (frame : Int) (a : Option Addr) (cap : Nat) (l : List Wnt) (w : World), 1 ≤ frame → frame ≤ 1000000 → ¬ 200 < l.length → Wts w a l →
    Calls Try.prog 20 #[.int .i64 frame, .slice a l.length cap] w fun e w' => MadeTold frame l w.heap.size e w' ∧ Below w.heap.size w w'
theorem made_says (hl : MadeList) : Says 20 := by
  intro frame a cap l w hr
  by_cases hf : 1 ≤ frame ∧ frame ≤ 1000000
  · by_cases hn : 200 < l.length
    · have hk : wchk frame l = 2 := by unfold wchk; rw [if_pos hf, if_pos hn]
      refine (made_large frame a l.length cap w hf.1 hf.2 hn).mono ?_
      rintro e w' ⟨rfl, hb⟩
      exact ⟨⟨0, none, 0, [], 2, rfl, ⟨by simp, .inl rfl⟩, by simp, .inr ⟨by decide, rfl, rfl, .inl ⟨by rw [hk]; decide, hk.symm⟩⟩⟩, hb⟩
    · have hk : wchk frame l = wchkG frame l := by unfold wchk; rw [if_pos hf, if_neg hn]
      refine (hl frame a cap l w hf.1 hf.2 hn hr).mono ?_
      rintro e w' ⟨⟨hg, rfl⟩ | ⟨hg, ⟨hA, v, ys, rfl, ho, hp, ht⟩ | ⟨hA, rfl⟩⟩, hb⟩
      · exact ⟨⟨0, none, 0, [], _, rfl, ⟨by simp, .inl rfl⟩, by simp, .inr ⟨hg, rfl, rfl, .inl ⟨by rw [hk]; exact hg, hk.symm⟩⟩⟩, hb⟩
      · obtain ⟨s1, s2, s3, s4⟩ := tchk_zero ht
        obtain ⟨a', c, rfl, hw, h1, h2⟩ := ho.wns fun x hx => by
          have := wgood_each s4 x hx
          unfold wfit at this
          omega
        exact ⟨⟨frame, a', c, ys, 0, rfl, hw, Nat.le_trans h1 h2, .inl ⟨rfl, rfl, by rw [hk]; exact hg, hA, hp, ht⟩⟩, hb⟩
      · exact ⟨⟨0, none, 0, [], 8, rfl, ⟨by simp, .inl rfl⟩, by simp, .inr ⟨by decide, rfl, rfl, .inr ⟨by rw [hk]; exact hg, hA, rfl⟩⟩⟩, hb⟩
  · have hk : wchk frame l = 1 := by unfold wchk; rw [if_neg hf]
    refine (made_arg frame a l.length cap w hf).mono ?_
    rintro e w' ⟨rfl, hb⟩
    exact ⟨⟨0, none, 0, [], 1, rfl, ⟨by simp, .inl rfl⟩, by simp, .inr ⟨by decide, rfl, rfl, .inl ⟨by rw [hk]; decide, hk.symm⟩⟩⟩, hb⟩
end TabC
end Go.Proofs.Ytgehdpohiphcpaa
