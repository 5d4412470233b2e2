/- Rows whose cells are texts still to be read (PortOwn). -/
import Derived.Test.YtllfpbngfkimlaaPrtX
set_option linter.unusedVariables false
namespace Go.Proofs.Ytllfpbngfkimlaa
open Go.RowKit
open Go.Shelf Go.Sort
open SpanM SpanC IntsC
namespace PortT
open PrtM PortC
/-- a row from block B on, the cells from i on are texts -/
def Tx (B : Nat) (w : World) (v : Value) (i : Nat) : Prop := v = .slice none 0 0 ∨ ∃ g n cap cur, v = .slice (some ⟨g, 0, none⟩) n cap ∧ B ≤ g ∧ w.heap[g]? = some (.cells cur 9) ∧ cur.size = cap ∧ n ≤ cap ∧ cap ≤ maxLen ∧ ∀ j u, i ≤ j → cur[j]? = some u → StrV u
theorem Tx.of {w : World} {B : Nat} {v : Value} {l : List ByteArray} (h : OwnT w B v l) : Tx B w v 0 := by
  rcases h.o.2 with ⟨rfl, _⟩ | ⟨g, cap, cur, rfl, hb, hg, h1, h2, h3, _⟩
  · exact .inl rfl
  · obtain ⟨cur', e, fr, hg', hs⟩ := h.s g rfl
    rw [hg] at hg'
    simp only [Option.some.injEq, Obj.cells.injEq] at hg'
    obtain ⟨rfl, rfl, rfl⟩ := hg'
    refine .inr ⟨g, _, cap, cur, rfl, hb, hg, by rw [h3]; exact Nat.mul_one _, h1, h2, fun j u _ hu => hs u ?_⟩
    exact Array.mem_toList_iff.2 (Array.mem_of_getElem? hu)
theorem Tx.heap {w w' : World} {B i : Nat} {v : Value} (h : Tx B w v i) (hs : ∀ q, v.ownBlock = some q → w'.heap[q]? = w.heap[q]?) : Tx B w' v i := by
  rcases h with rfl | ⟨g, n, cap, cur, rfl, hb, hg, h1⟩
  · exact .inl rfl
  · exact .inr ⟨g, n, cap, cur, rfl, hb, (hs g rfl).trans hg, h1⟩
theorem Tx.below {w w' : World} {B C i : Nat} {v : Value} (h : Tx B w v i) (hb : Below C w w') (hC : w.heap.size ≤ C) : Tx B w' v i := by
  refine h.heap fun q hq => hb.block q ?_
  rcases h with rfl | ⟨g, n, cap, cur, rfl, hb, hg, h1⟩
  · simp [Value.ownBlock] at hq
  · simp only [Value.ownBlock, Option.some.injEq] at hq
    subst hq
    have := (Array.getElem?_eq_some_iff.1 hg).1
    omega
theorem Tx.lt {w : World} {B i : Nat} {v : Value} (h : Tx B w v i) : ∀ q, v.ownBlock = some q → B ≤ q ∧ q < w.heap.size := by
  intro q hq
  rcases h with rfl | ⟨g, n, cap, cur, rfl, hb, hg, h1⟩
  · simp [Value.ownBlock] at hq
  · simp only [Value.ownBlock, Option.some.injEq] at hq
    subst hq
    exact ⟨hb, (Array.getElem?_eq_some_iff.1 hg).1⟩
theorem Tx.base {w : World} {B C i : Nat} {v : Value} (h : Tx B w v i) (hC : C ≤ B) : Tx C w v i := by
  rcases h with rfl | ⟨g, n, cap, cur, rfl, hb, h1⟩
  · exact .inl rfl
  · exact .inr ⟨g, n, cap, cur, rfl, Nat.le_trans hC hb, h1⟩
/-- the next cell, and that it may be written -/
theorem Tx.get {w : World} {B g n cap i : Nat} (h : Tx B w (.slice (some ⟨g, 0, none⟩) n cap) i) (hi : i < cap) : ∃ z : ByteArray, w.cell? ⟨g, i, none⟩ = some (.string z) ∧ z.size ≤ 5000 ∧ w.frozen? ⟨g, i, none⟩ = false := by
  rcases h with h | ⟨g', n', cap', cur, e, hb, hg, h1, h2, h3, h4⟩
  · simp at h
  · simp only [Value.slice.injEq, Option.some.injEq, Addr.mk.injEq, and_true] at e
    obtain ⟨rfl, rfl, rfl⟩ := e
    have hlt : i < cur.size := by omega
    obtain ⟨z, hz, hl⟩ := h4 i cur[i] (Nat.le_refl _) (Array.getElem?_eq_getElem hlt)
    refine ⟨z, ?_, hl, by simp [World.frozen?, hg]⟩
    simp [World.cell?, hg, hlt, hz]
theorem Tx.set {w : World} {B g n cap i : Nat} (h : Tx B w (.slice (some ⟨g, 0, none⟩) n cap) i) (x : Value) : Tx B (w.setCell ⟨g, i, none⟩ x) (.slice (some ⟨g, 0, none⟩) n cap) (i + 1) := by
  rcases h with h | ⟨g', n', cap', cur, e, hb, hg, h1, h2, h3, h4⟩
  · simp at h
  · simp only [Value.slice.injEq, Option.some.injEq, Addr.mk.injEq, and_true] at e
    obtain ⟨rfl, rfl, rfl⟩ := e
    refine .inr ⟨g, n, cap, _, rfl, hb, heap_setCell_same _ _ _ _ _ _ hg, by rw [Array.size_setIfInBounds]; exact h1, h2, h3, fun j u hj hu => h4 j u (by omega) ?_⟩
    rw [Array.getElem?_setIfInBounds_ne (by omega)] at hu
    exact hu
theorem Tx.capLe {w : World} {B g n cap i : Nat} (h : Tx B w (.slice (some ⟨g, 0, none⟩) n cap) i) : n ≤ cap ∧ cap ≤ 9223372036854775807 := by
  rcases h with h | ⟨g', n', cap', cur, e, hb, hg, h1, h2, h3, h4⟩
  · simp at h
  · simp only [Value.slice.injEq, Option.some.injEq, Addr.mk.injEq, and_true] at e
    obtain ⟨rfl, rfl, rfl⟩ := e
    unfold maxLen at h3
    exact ⟨h2, by omega⟩
end PortT
end Go.Proofs.Ytllfpbngfkimlaa
