/- Package lock: a site in memory, and what stores do to it. -/
import Derived.Test.YtllfpbngfkimlaaLkA
import Derived.OneCell
set_option linter.unusedVariables false
namespace Go.Proofs.Ytllfpbngfkimlaa
open Go.RowKit
open Go.Shelf Go.Sort
open SpanM SpanC IntsC
open RowsO hiding Wk
namespace LockC
open LockM
open NumC (Row)
/-- but two blocks, and what is new, all is as it was -/
structure Ch (bx : Nat) (o : Option Nat) (w w' : World) : Prop where
  os : w'.os = w.os
  tape : w'.tape = w.tape
  output : w'.output = w.output
  size : w.heap.size ≤ w'.heap.size
  block : ∀ k, k < w.heap.size → k ≠ bx → some k ≠ o → w'.heap[k]? = w.heap[k]?
theorem Ch.refl (bx : Nat) (o : Option Nat) (w : World) : Ch bx o w w := ⟨rfl, rfl, rfl, Nat.le_refl _, fun _ _ _ _ => rfl⟩
theorem Ch.trans {bx : Nat} {o : Option Nat} {w w1 w2 : World} (h : Ch bx o w w1) (h' : Ch bx o w1 w2) : Ch bx o w w2 :=
  ⟨h'.os.trans h.os, h'.tape.trans h.tape, h'.output.trans h.output, Nat.le_trans h.size h'.size, fun k hk hb ho => by
    have h2 := h.size
    rw [h'.block k (by omega) hb ho]
    exact h.block k hk hb ho⟩
theorem Ch.set {bx : Nat} {o : Option Nat} {w w' : World} (h : Ch bx o w w') (j : Nat) (v : Value) : Ch bx o w (w'.setCell ⟨bx, j, none⟩ v) :=
  ⟨h.os, h.tape, h.output, by show _ ≤ (w'.heap.modify _ _).size; simp; exact h.size, fun k hk hb ho => by
    rw [Below.heap_setCell _ _ _ _ hb]; exact h.block k hk hb ho⟩
theorem Ch.row {bx g : Nat} {w w' : World} (h : Ch bx (some g) w w') (j : Nat) (v : Value) : Ch bx (some g) w (w'.setCell ⟨g, j, none⟩ v) :=
  ⟨h.os, h.tape, h.output, by show _ ≤ (w'.heap.modify _ _).size; simp; exact h.size, fun k hk hb ho => by
    rw [Below.heap_setCell _ _ _ _ (fun e => ho (by rw [e]))]; exact h.block k hk hb ho⟩
theorem Ch.drewN {bx : Nat} {o : Option Nat} {w w' : World} (h : Ch bx o w w') (n : Nat) : Ch bx o w (w'.drewN n) := ⟨h.os, h.tape, h.output, h.size, h.block⟩
theorem Ch.below {bx : Nat} {o : Option Nat} {w w' w'' : World} (h : Ch bx o w w') (hb : Below w'.heap.size w' w'') : Ch bx o w w'' :=
  ⟨hb.os.trans h.os, hb.tape.trans h.tape, hb.output.trans h.output, Nat.le_trans h.size hb.size, fun k hk h1 h2 => by
    have := h.size
    rw [hb.block k (by omega)]; exact h.block k hk h1 h2⟩
/-- what lies below both is as it was -/
theorem Ch.bel {bx g B : Nat} {w w' : World} (h : Ch bx (some g) w w') (hb : B ≤ bx) (hg : B ≤ g) (hB : B ≤ w.heap.size) : Below B w w' :=
  ⟨h.os, h.tape, h.output, h.size, fun k hk => h.block k (by omega) (by omega) (by simp; omega)⟩
def siteC (v : Value) (cl own : List Int) : Array Value := (v :: (cl ++ own).map (Value.int .i64)).toArray
/-- a site: its box, and the row of its workers -/
structure Sit (W : World) (B sb g cap : Nat) (cl own : List Int) (ws : List Wr) : Prop where
  box : W.heap[sb]? = some (.cells (siteC (vS g ws.length cap) cl own) 64)
  row : RowG.Own EW 97 W B (vS g ws.length cap) ws
  cll : cl.length = 8
  owl : own.length = 8
variable {W : World} {B sb g cap : Nat} {cl own : List Int} {ws : List Wr}
theorem Sit.ne (h : Sit W B sb g cap cl own ws) : sb ≠ g := by
  intro e
  rcases h.row.2 with ⟨e1, _⟩ | ⟨g', cap', cur, e1, _, hg, _⟩
  · simp [vS] at e1
  · simp only [vS, Value.slice.injEq, Option.some.injEq, Addr.mk.injEq, and_true, true_and] at e1
    obtain ⟨rfl, _⟩ := e1
    have hb := h.box
    rw [e, hg] at hb
    injection hb with hb
    injection hb with _ h2 _
    exact absurd h2 (by decide)
theorem Sit.sb_lt (h : Sit W B sb g cap cl own ws) : sb < W.heap.size := (Array.getElem?_eq_some_iff.1 h.box).1
theorem Sit.g_lt (h : Sit W B sb g cap cl own ws) : g < W.heap.size := (h.row.lt g rfl).2
theorem Sit.fro (h : Sit W B sb g cap cl own ws) (j : Nat) : W.frozen? ⟨sb, j, none⟩ = false := by simp [World.frozen?, h.box]
theorem Sit.fro_row (h : Sit W B sb g cap cl own ws) (j : Nat) : W.frozen? ⟨g, j, none⟩ = false := h.row.frozen j
theorem Sit.c0 (h : Sit W B sb g cap cl own ws) : W.cell? ⟨sb, 0, none⟩ = some (vS g ws.length cap) := by
  rw [box_cell h.box]; rfl
theorem Sit.cc (h : Sit W B sb g cap cl own ws) {k : Nat} (hk : k < 8) : W.cell? ⟨sb, 1 + k, none⟩ = some (.int .i64 (cl.getD k 0)) := by
  rw [box_cell h.box]
  have h1 := h.cll
  simp [siteC, Nat.add_comm 1 k, List.getElem?_append, List.getD, h1, hk]
theorem Sit.co (h : Sit W B sb g cap cl own ws) {k : Nat} (hk : k < 8) : W.cell? ⟨sb, 9 + k, none⟩ = some (.int .i64 (own.getD k 0)) := by
  rw [box_cell h.box]
  have h1 := h.cll
  have h2 := h.owl
  have e : 9 + k = (8 + k) + 1 := by omega
  simp [siteC, e, List.getElem?_append, List.getD, h1, h2, hk]
theorem Sit.wat (h : Sit W B sb g cap cl own ws) {i : Nat} (hi : i < ws.length) : WAt W g (i * 5) ws[i] := by
  have key := fun j hj => h.row.cell i j hi (show j < EW.k from hj)
  exact ⟨by have := key 0 (by decide); simpa [EW] using this, by have := key 1 (by decide); simpa [EW] using this, by have := key 2 (by decide); simpa [EW] using this, by have := key 3 (by decide); simpa [EW] using this, by have := key 4 (by decide); simpa [EW] using this⟩
theorem Sit.below {W' : World} {C : Nat} (h : Sit W B sb g cap cl own ws) (hb : Below C W W') (hC : W.heap.size ≤ C) : Sit W' B sb g cap cl own ws :=
  ⟨box_below h.box hb hC, h.row.below hb hC, h.cll, h.owl⟩
theorem Sit.drewN (h : Sit W B sb g cap cl own ws) (m : Nat) : Sit (W.drewN m) B sb g cap cl own ws := h.below (below_drewN (Below.refl _ _) m) (Nat.le_refl _)
theorem Sit.setOwn (h : Sit W B sb g cap cl own ws) {k : Nat} (hk : k < 8) (v : Int) : Sit (W.setCell ⟨sb, 9 + k, none⟩ (.int .i64 v)) B sb g cap cl (own.set k v) ws := by
  refine ⟨?_, ?_, h.cll, by simp [h.owl]⟩
  · rw [heap_setCell_same _ _ _ _ _ _ h.box]
    have h1 := h.cll
    have h2 := h.owl
    have e : 9 + k = (8 + k) + 1 := by omega
    have e1 : ((vS g ws.length cap) :: (cl ++ own).map (Value.int .i64)).set (9 + k) (.int .i64 v) = (vS g ws.length cap) :: (cl ++ own.set k v).map (Value.int .i64) := by
      rw [e, List.set_cons_succ, List.map_append, List.map_append, List.set_append_right _ _ (by simp [h1]), List.length_map, h1, Nat.add_sub_cancel_left, List.map_set]
    simp only [siteC, List.setIfInBounds_toArray, e1]
  · exact ownsRow_setCell_other h.row (by simp only [Value.ownBlock]; intro e; exact h.ne (by simpa using e.symm)) _
theorem Sit.setRow (h : Sit W B sb g cap cl own ws) {i : Nat} (hi : i < ws.length) (j : Nat) (hj : j < 5) (u : Value) (y : Wr) (hy : (EW.enc ws[i]).set j u = EW.enc y) : Sit (W.setCell ⟨g, i * 5 + j, none⟩ u) B sb g cap cl own (ws.set i y) := by
  refine ⟨?_, ?_, h.cll, h.owl⟩
  · rw [heap_setCell_other _ _ _ _ h.ne, List.length_set]; exact h.box
  · rw [List.length_set]; exact (h.row.set1 i j hi u y hy hj).1
theorem Sit.setNext (h : Sit W B sb g cap cl own ws) {i : Nat} (hi : i < ws.length) (m : Nat) : Sit (W.setCell ⟨g, i * 5 + 3, none⟩ (.int .i64 m)) B sb g cap cl own (ws.set i { ws[i] with next := m }) := h.setRow hi 3 (by decide) _ _ rfl
theorem Sit.setRan (h : Sit W B sb g cap cl own ws) {i : Nat} (hi : i < ws.length) (m : Nat) : Sit (W.setCell ⟨g, i * 5 + 4, none⟩ (.int .i64 m)) B sb g cap cl own (ws.set i { ws[i] with ran := m }) := h.setRow hi 4 (by decide) _ _ rfl
end LockC
end Go.Proofs.Ytllfpbngfkimlaa
