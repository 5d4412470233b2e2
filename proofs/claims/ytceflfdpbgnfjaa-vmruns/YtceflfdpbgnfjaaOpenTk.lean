/- Rows of api.Task that come in (gen_open.py writes this text). -/
import Derived.Test.YtceflfdpbgnfjaaSpanO
set_option linter.unusedVariables false
namespace Go.Proofs.Ytceflfdpbgnfjaa
open Go.ChangeShapes Go.WideShapes Go.ChangeAt Go.RowKit
open SpanM SpanC
namespace RowsO
abbrev Tk := Int × Int × Int
def zTk : Tk := (0, 0, 0)
/-- the rows that lie at a -/
def Tks (w : World) (a : Option Addr) (l : List Tk) : Prop :=
  l = [] ∨ ∃ b off, a = some ⟨b, off, none⟩ ∧ ∀ i, i < l.length → w.cell? ⟨b, off + i * 3, none⟩ = some (.int .i64 (l.getD i zTk).1) ∧ w.cell? ⟨b, off + i * 3 + 1, none⟩ = some (.int .i64 (l.getD i zTk).2.1) ∧ w.cell? ⟨b, off + i * 3 + 2, none⟩ = some (.int .i64 (l.getD i zTk).2.2)
theorem Tks.below {w w' : World} {a : Option Addr} {l : List Tk} {B : Nat} (h : Tks w a l) (hb : Below B w w') (hB : w.heap.size ≤ B) : Tks w' a l := by
  rcases h with rfl | ⟨b, off, rfl, h⟩
  · exact .inl rfl
  · refine .inr ⟨b, off, rfl, fun i hi => ?_⟩
    obtain ⟨h1, h2, h3⟩ := h i hi
    have hl : b < B := by simpa using Nat.lt_of_lt_of_le (World.block_lt_of_cell? w _ h1) hB
    exact ⟨(hb.cell (by simpa using hl)).trans h1, (hb.cell (by simpa using hl)).trans h2, (hb.cell (by simpa using hl)).trans h3⟩
theorem Tks.at {w : World} {a : Option Addr} {l : List Tk} (h : Tks w a l) (k : Nat) (hk : k < l.length) :
    ∃ b off, a = some ⟨b, off, none⟩ ∧ b < w.heap.size ∧ w.cell? ⟨b, off + k * 3, none⟩ = some (.int .i64 (l.getD k zTk).1) ∧ w.cell? ⟨b, off + k * 3 + 1, none⟩ = some (.int .i64 (l.getD k zTk).2.1) ∧ w.cell? ⟨b, off + k * 3 + 2, none⟩ = some (.int .i64 (l.getD k zTk).2.2) := by
  rcases h with rfl | ⟨b, off, rfl, h⟩
  · simp at hk
  · obtain ⟨h1, h2, h3⟩ := h k hk
    exact ⟨b, off, rfl, World.block_lt_of_cell? w _ h1, h1, h2, h3⟩
theorem Tks.get {w wr : World} {a : Option Addr} {l : List Tk} {o : Obj} (h : Tks w a l) (hb : Below (w.heap.size + 1) (w.alloc o) wr) (k : Nat) (hk : k < l.length) :
    ∃ b off, a = some ⟨b, off, none⟩ ∧ b < w.heap.size ∧ wr.cell? ⟨b, off + k * 3, none⟩ = some (.int .i64 (l.getD k zTk).1) ∧ wr.cell? ⟨b, off + k * 3 + 1, none⟩ = some (.int .i64 (l.getD k zTk).2.1) ∧ wr.cell? ⟨b, off + k * 3 + 2, none⟩ = some (.int .i64 (l.getD k zTk).2.2) := by
  obtain ⟨b, off, rfl, hbw, h1, h2, h3⟩ := h.at k hk
  exact ⟨b, off, rfl, hbw, (hb.cell (by simp; omega)).trans (Lib.cell?_alloc_some _ h1), (hb.cell (by simp; omega)).trans (Lib.cell?_alloc_some _ h2), (hb.cell (by simp; omega)).trans (Lib.cell?_alloc_some _ h3)⟩
/-- what is known of rows that came in -/
def IsTks (w : World) (a : Option Addr) (len cap : Nat) (l : List Tk) : Prop :=
  len = l.length ∧ len ≤ cap ∧ cap ≤ maxLen ∧ Tks w a l ∧ (a = none → len = 0 ∧ cap = 0) ∧ ∀ x ∈ l, wf64 x.1 ∧ wf64 x.2.1 ∧ wf64 x.2.2
theorem tk_add {b off j k : Nat} {s : Option _} : ((⟨b, off, s⟩ : Addr).add j).add k = (⟨b, off, s⟩ : Addr).add (j + k) := by
  unfold Addr.add
  by_cases hj : j = 0 <;> by_cases hk : k = 0 <;> simp [hj, hk, Nat.add_assoc]
end RowsO
end Go.Proofs.Ytceflfdpbgnfjaa
