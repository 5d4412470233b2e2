/- Rows of api.Emit that come in (gen_open.py writes this text). -/
import Derived.Test.YtceflfdpbgnfjaaSpanO
set_option linter.unusedVariables false
namespace Go.Proofs.Ytceflfdpbgnfjaa
open Go.ChangeShapes Go.WideShapes Go.ChangeAt Go.RowKit
open SpanM SpanC
namespace RowsO
abbrev Em := Int × Int
def zEm : Em := (0, 0)
/-- the rows that lie at a -/
def Ems (w : World) (a : Option Addr) (l : List Em) : Prop :=
  l = [] ∨ ∃ b off, a = some ⟨b, off, none⟩ ∧ ∀ i, i < l.length → w.cell? ⟨b, off + i * 2, none⟩ = some (.int .i64 (l.getD i zEm).1) ∧ w.cell? ⟨b, off + i * 2 + 1, none⟩ = some (.int .i64 (l.getD i zEm).2)
theorem Ems.below {w w' : World} {a : Option Addr} {l : List Em} {B : Nat} (h : Ems w a l) (hb : Below B w w') (hB : w.heap.size ≤ B) : Ems w' a l := by
  rcases h with rfl | ⟨b, off, rfl, h⟩
  · exact .inl rfl
  · refine .inr ⟨b, off, rfl, fun i hi => ?_⟩
    obtain ⟨h1, h2⟩ := h i hi
    have hl : b < B := by simpa using Nat.lt_of_lt_of_le (World.block_lt_of_cell? w _ h1) hB
    exact ⟨(hb.cell (by simpa using hl)).trans h1, (hb.cell (by simpa using hl)).trans h2⟩
theorem Ems.at {w : World} {a : Option Addr} {l : List Em} (h : Ems w a l) (k : Nat) (hk : k < l.length) :
    ∃ b off, a = some ⟨b, off, none⟩ ∧ b < w.heap.size ∧ w.cell? ⟨b, off + k * 2, none⟩ = some (.int .i64 (l.getD k zEm).1) ∧ w.cell? ⟨b, off + k * 2 + 1, none⟩ = some (.int .i64 (l.getD k zEm).2) := by
  rcases h with rfl | ⟨b, off, rfl, h⟩
  · simp at hk
  · obtain ⟨h1, h2⟩ := h k hk
    exact ⟨b, off, rfl, World.block_lt_of_cell? w _ h1, h1, h2⟩
theorem Ems.get {w wr : World} {a : Option Addr} {l : List Em} {o : Obj} (h : Ems w a l) (hb : Below (w.heap.size + 1) (w.alloc o) wr) (k : Nat) (hk : k < l.length) :
    ∃ b off, a = some ⟨b, off, none⟩ ∧ b < w.heap.size ∧ wr.cell? ⟨b, off + k * 2, none⟩ = some (.int .i64 (l.getD k zEm).1) ∧ wr.cell? ⟨b, off + k * 2 + 1, none⟩ = some (.int .i64 (l.getD k zEm).2) := by
  obtain ⟨b, off, rfl, hbw, h1, h2⟩ := h.at k hk
  exact ⟨b, off, rfl, hbw, (hb.cell (by simp; omega)).trans (Lib.cell?_alloc_some _ h1), (hb.cell (by simp; omega)).trans (Lib.cell?_alloc_some _ h2)⟩
/-- what is known of rows that came in -/
def IsEms (w : World) (a : Option Addr) (len cap : Nat) (l : List Em) : Prop :=
  len = l.length ∧ len ≤ cap ∧ cap ≤ maxLen ∧ Ems w a l ∧ (a = none → len = 0 ∧ cap = 0) ∧ ∀ x ∈ l, wf64 x.1 ∧ wf64 x.2
theorem em_add {b off j k : Nat} {s : Option _} : ((⟨b, off, s⟩ : Addr).add j).add k = (⟨b, off, s⟩ : Addr).add (j + k) := by
  unfold Addr.add
  by_cases hj : j = 0 <;> by_cases hk : k = 0 <;> simp [hj, hk, Nat.add_assoc]
set_option maxRecDepth 100000 in
theorem open_Ems {H : Type} {enc : TypeId × Value → H} {W : World} {base fuel : Nat} {spare : Nat → Bool} {held : Bool} {a : Option Addr} {len cap : Nat} {x : DataW H × List MemPlace}
    (h : DataW.trod enc Try.prog W base spare held fuel 26 [.slice a len cap] = some x) : ∃ l, IsEms W a len cap l := by
  have ce : Try.prog.cellsOf 39 = 2 := by kernel_rfl
  have ci : Try.prog.cellsOf 3 = 1 := by kernel_rfl
  rcases Deep.open_slice Try.underlying26 h with ⟨hcs, _⟩ | ⟨p, n, c, m, k, D, Pl, hcs, _, hl, hm, hmm, _, hx⟩
  · simp at hcs
    obtain ⟨rfl, rfl, rfl⟩ := hcs
    exact ⟨[], rfl, by omega, by unfold maxLen; omega, .inl rfl, fun _ => ⟨rfl, rfl⟩, by simp⟩
  · simp at hcs
    obtain ⟨rfl, rfl, rfl⟩ := hcs
    have hlm : len ≤ m := by rw [hmm]; split <;> omega
    have each : ∀ i, i < m → ∃ z : Em, (W.cell? (p.add (i * 2)) = some (.int .i64 z.1) ∧ W.cell? (p.add (i * 2 + 1)) = some (.int .i64 z.2)) ∧ wf64 z.1 ∧ wf64 z.2 := by
      intro i hi
      obtain ⟨cs', h1, h2⟩ := hx i hi
      rw [ce] at h1
      obtain ⟨_, hlen, hcell⟩ := World.cells?_some h1
      obtain ⟨xs, k', hk, hxy, _, hxl, hf⟩ := DataW.trod_struct Try.underlying39 h2
      match xs, hxl, cs', hlen with
      | [y0, y1], _, [v0, v1], _ =>
        have g0 := hf 0 _ rfl
        have g1 := hf 1 _ rfl
        simp [ci] at g0 g1
        have e0 := hcell 0 (by omega)
        have e1 := hcell 1 (by omega)
        obtain ⟨pb, po, ps⟩ := p
        rw [em_add] at e0 e1
        obtain ⟨u0, q0, _, w0⟩ := DataW.trod_int Try.underlying3 g0
        obtain ⟨u1, q1, _, w1⟩ := DataW.trod_int Try.underlying3 g1
        simp at q0 q1
        subst q0; subst q1
        exact ⟨(u0, u1), ⟨by simpa using e0, by simpa using e1⟩, bounds_i64 w0, bounds_i64 w1⟩
    obtain ⟨f, hf⟩ := Deep.choose_lt each
    refine ⟨(List.range len).map f, by simp, hl, hm, ?_, fun h => by simp at h, fun z hz => ?_⟩
    · by_cases h0 : len = 0
      · exact .inl (by rw [h0]; rfl)
      · obtain ⟨b, off, spot⟩ := p
        have hspot : spot = none := by simpa [Addr.add] using World.cell?_spot (hf 0 (by omega)).1.1
        subst hspot
        refine .inr ⟨b, off, rfl, fun i hi => ?_⟩
        simp at hi
        obtain ⟨⟨c0, c1⟩, _⟩ := hf i (by omega)
        rw [add_none] at c0 c1
        have e : ((List.range len).map f).getD i zEm = f i := by simp [List.getD, hi]
        rw [e]
        exact ⟨c0, c1⟩
    · obtain ⟨i, hi, rfl⟩ := List.mem_map.1 hz
      have := List.mem_range.1 hi
      exact (hf i (by omega)).2
end RowsO
end Go.Proofs.Ytceflfdpbgnfjaa
