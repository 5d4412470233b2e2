/- Rows of api.Ins that come in (gen_open.py writes this text). -/
import Derived.Test.YtceflfdpbgnfjaaSpanO
set_option linter.unusedVariables false
namespace Go.Proofs.Ytceflfdpbgnfjaa
open Go.ChangeShapes Go.WideShapes Go.ChangeAt Go.RowKit
open SpanM SpanC
namespace RowsO
abbrev Is := Int × Int × Int
def zIs : Is := (0, 0, 0)
/-- the rows that lie at a -/
def Iss (w : World) (a : Option Addr) (l : List Is) : Prop :=
  l = [] ∨ ∃ b off, a = some ⟨b, off, none⟩ ∧ ∀ i, i < l.length → w.cell? ⟨b, off + i * 3, none⟩ = some (.int .i64 (l.getD i zIs).1) ∧ w.cell? ⟨b, off + i * 3 + 1, none⟩ = some (.int .i64 (l.getD i zIs).2.1) ∧ w.cell? ⟨b, off + i * 3 + 2, none⟩ = some (.int .i64 (l.getD i zIs).2.2)
theorem Iss.below {w w' : World} {a : Option Addr} {l : List Is} {B : Nat} (h : Iss w a l) (hb : Below B w w') (hB : w.heap.size ≤ B) : Iss w' a l := by
  rcases h with rfl | ⟨b, off, rfl, h⟩
  · exact .inl rfl
  · refine .inr ⟨b, off, rfl, fun i hi => ?_⟩
    obtain ⟨h1, h2, h3⟩ := h i hi
    have hl : b < B := by simpa using Nat.lt_of_lt_of_le (World.block_lt_of_cell? w _ h1) hB
    exact ⟨(hb.cell (by simpa using hl)).trans h1, (hb.cell (by simpa using hl)).trans h2, (hb.cell (by simpa using hl)).trans h3⟩
theorem Iss.at {w : World} {a : Option Addr} {l : List Is} (h : Iss w a l) (k : Nat) (hk : k < l.length) :
    ∃ b off, a = some ⟨b, off, none⟩ ∧ b < w.heap.size ∧ w.cell? ⟨b, off + k * 3, none⟩ = some (.int .i64 (l.getD k zIs).1) ∧ w.cell? ⟨b, off + k * 3 + 1, none⟩ = some (.int .i64 (l.getD k zIs).2.1) ∧ w.cell? ⟨b, off + k * 3 + 2, none⟩ = some (.int .i64 (l.getD k zIs).2.2) := by
  rcases h with rfl | ⟨b, off, rfl, h⟩
  · simp at hk
  · obtain ⟨h1, h2, h3⟩ := h k hk
    exact ⟨b, off, rfl, World.block_lt_of_cell? w _ h1, h1, h2, h3⟩
theorem Iss.get {w wr : World} {a : Option Addr} {l : List Is} {o : Obj} (h : Iss w a l) (hb : Below (w.heap.size + 1) (w.alloc o) wr) (k : Nat) (hk : k < l.length) :
    ∃ b off, a = some ⟨b, off, none⟩ ∧ b < w.heap.size ∧ wr.cell? ⟨b, off + k * 3, none⟩ = some (.int .i64 (l.getD k zIs).1) ∧ wr.cell? ⟨b, off + k * 3 + 1, none⟩ = some (.int .i64 (l.getD k zIs).2.1) ∧ wr.cell? ⟨b, off + k * 3 + 2, none⟩ = some (.int .i64 (l.getD k zIs).2.2) := by
  obtain ⟨b, off, rfl, hbw, h1, h2, h3⟩ := h.at k hk
  exact ⟨b, off, rfl, hbw, (hb.cell (by simp; omega)).trans (Lib.cell?_alloc_some _ h1), (hb.cell (by simp; omega)).trans (Lib.cell?_alloc_some _ h2), (hb.cell (by simp; omega)).trans (Lib.cell?_alloc_some _ h3)⟩
/-- what is known of rows that came in -/
def IsIss (w : World) (a : Option Addr) (len cap : Nat) (l : List Is) : Prop :=
  len = l.length ∧ len ≤ cap ∧ cap ≤ maxLen ∧ Iss w a l ∧ (a = none → len = 0 ∧ cap = 0) ∧ ∀ x ∈ l, wf64 x.1 ∧ wf64 x.2.1 ∧ wf64 x.2.2
theorem is_add {b off j k : Nat} {s : Option _} : ((⟨b, off, s⟩ : Addr).add j).add k = (⟨b, off, s⟩ : Addr).add (j + k) := by
  unfold Addr.add
  by_cases hj : j = 0 <;> by_cases hk : k = 0 <;> simp [hj, hk, Nat.add_assoc]
set_option maxRecDepth 100000 in
theorem open_Iss {H : Type} {enc : TypeId × Value → H} {W : World} {base fuel : Nat} {spare : Nat → Bool} {held : Bool} {a : Option Addr} {len cap : Nat} {x : DataW H × List MemPlace}
    (h : DataW.trod enc Try.prog W base spare held fuel 22 [.slice a len cap] = some x) : ∃ l, IsIss W a len cap l := by
  have ce : Try.prog.cellsOf 45 = 3 := by kernel_rfl
  have ci : Try.prog.cellsOf 3 = 1 := by kernel_rfl
  rcases Deep.open_slice Try.underlying22 h with ⟨hcs, _⟩ | ⟨p, n, c, m, k, D, Pl, hcs, _, hl, hm, hmm, _, hx⟩
  · simp at hcs
    obtain ⟨rfl, rfl, rfl⟩ := hcs
    exact ⟨[], rfl, by omega, by unfold maxLen; omega, .inl rfl, fun _ => ⟨rfl, rfl⟩, by simp⟩
  · simp at hcs
    obtain ⟨rfl, rfl, rfl⟩ := hcs
    have hlm : len ≤ m := by rw [hmm]; split <;> omega
    have each : ∀ i, i < m → ∃ z : Is, (W.cell? (p.add (i * 3)) = some (.int .i64 z.1) ∧ W.cell? (p.add (i * 3 + 1)) = some (.int .i64 z.2.1) ∧ W.cell? (p.add (i * 3 + 2)) = some (.int .i64 z.2.2)) ∧ wf64 z.1 ∧ wf64 z.2.1 ∧ wf64 z.2.2 := by
      intro i hi
      obtain ⟨cs', h1, h2⟩ := hx i hi
      rw [ce] at h1
      obtain ⟨_, hlen, hcell⟩ := World.cells?_some h1
      obtain ⟨xs, k', hk, hxy, _, hxl, hf⟩ := DataW.trod_struct Try.underlying45 h2
      match xs, hxl, cs', hlen with
      | [y0, y1, y2], _, [v0, v1, v2], _ =>
        have g0 := hf 0 _ rfl
        have g1 := hf 1 _ rfl
        have g2 := hf 2 _ rfl
        simp [ci] at g0 g1 g2
        have e0 := hcell 0 (by omega)
        have e1 := hcell 1 (by omega)
        have e2 := hcell 2 (by omega)
        obtain ⟨pb, po, ps⟩ := p
        rw [is_add] at e0 e1 e2
        obtain ⟨u0, q0, _, w0⟩ := DataW.trod_int Try.underlying3 g0
        obtain ⟨u1, q1, _, w1⟩ := DataW.trod_int Try.underlying3 g1
        obtain ⟨u2, q2, _, w2⟩ := DataW.trod_int Try.underlying3 g2
        simp at q0 q1 q2
        subst q0; subst q1; subst q2
        exact ⟨(u0, u1, u2), ⟨by simpa using e0, by simpa using e1, by simpa using e2⟩, bounds_i64 w0, bounds_i64 w1, bounds_i64 w2⟩
    obtain ⟨f, hf⟩ := Deep.choose_lt each
    refine ⟨(List.range len).map f, by simp, hl, hm, ?_, fun h => by simp at h, fun z hz => ?_⟩
    · by_cases h0 : len = 0
      · exact .inl (by rw [h0]; rfl)
      · obtain ⟨b, off, spot⟩ := p
        have hspot : spot = none := by simpa [Addr.add] using World.cell?_spot (hf 0 (by omega)).1.1
        subst hspot
        refine .inr ⟨b, off, rfl, fun i hi => ?_⟩
        simp at hi
        obtain ⟨⟨c0, c1, c2⟩, _⟩ := hf i (by omega)
        rw [add_none] at c0 c1 c2
        have e : ((List.range len).map f).getD i zIs = f i := by simp [List.getD, hi]
        rw [e]
        exact ⟨c0, c1, c2⟩
    · obtain ⟨i, hi, rfl⟩ := List.mem_map.1 hz
      have := List.mem_range.1 hi
      exact (hf i (by omega)).2
end RowsO
end Go.Proofs.Ytceflfdpbgnfjaa
