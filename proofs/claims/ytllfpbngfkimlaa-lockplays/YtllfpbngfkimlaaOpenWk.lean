/- Rows of api.Work that come in: each has a row of acts of its own. -/
import Derived.Test.YtllfpbngfkimlaaOpenAc
set_option linter.unusedVariables false
namespace Go.Proofs.Ytllfpbngfkimlaa
open Go.ChangeShapes Go.WideShapes Go.ChangeAt Go.RowKit
open SpanM SpanC
namespace RowsO
abbrev Wk := Int × List Ac
def zWk : Wk := (0, [])
/-- one work, its two cells at a block's offset -/
def WkAt (w : World) (b o : Nat) (x : Wk) : Prop := w.cell? ⟨b, o, none⟩ = some (.int .i64 x.1) ∧ ∃ a c, w.cell? ⟨b, o + 1, none⟩ = some (.slice a x.2.length c) ∧ x.2.length ≤ c ∧ Acs w a x.2
theorem WkAt.below {w w' : World} {b o : Nat} {x : Wk} {B : Nat} (h : WkAt w b o x) (hb : Below B w w') (hB : w.heap.size ≤ B) : WkAt w' b o x := by
  obtain ⟨h1, a, c, h2, h3, h4⟩ := h
  have hl : b < B := by simpa using Nat.lt_of_lt_of_le (World.block_lt_of_cell? w _ h1) hB
  exact ⟨(hb.cell (by simpa using hl)).trans h1, a, c, (hb.cell (by simpa using hl)).trans h2, h3, h4.below hb hB⟩
/-- the works that lie at a -/
def Wks (w : World) (a : Option Addr) (l : List Wk) : Prop :=
  l = [] ∨ ∃ b off, a = some ⟨b, off, none⟩ ∧ ∀ i, i < l.length → WkAt w b (off + i * 2) (l.getD i zWk)
theorem Wks.below {w w' : World} {a : Option Addr} {l : List Wk} {B : Nat} (h : Wks w a l) (hb : Below B w w') (hB : w.heap.size ≤ B) : Wks w' a l := by
  rcases h with rfl | ⟨b, off, rfl, h⟩
  · exact .inl rfl
  · exact .inr ⟨b, off, rfl, fun i hi => (h i hi).below hb hB⟩
theorem Wks.at {w : World} {a : Option Addr} {l : List Wk} (h : Wks w a l) (k : Nat) (hk : k < l.length) : ∃ b off, a = some ⟨b, off, none⟩ ∧ b < w.heap.size ∧ WkAt w b (off + k * 2) (l.getD k zWk) := by
  rcases h with rfl | ⟨b, off, rfl, h⟩
  · simp at hk
  · exact ⟨b, off, rfl, World.block_lt_of_cell? w _ (h k hk).1, h k hk⟩
/-- what is known of works that came in -/
def IsWks (w : World) (a : Option Addr) (len cap : Nat) (l : List Wk) : Prop :=
  len = l.length ∧ len ≤ cap ∧ cap ≤ maxLen ∧ Wks w a l ∧ (a = none → len = 0 ∧ cap = 0) ∧ ∀ x ∈ l, wf64 x.1 ∧ ∀ y ∈ x.2, wf64 y.1 ∧ wf64 y.2
set_option maxRecDepth 100000 in
theorem open_Wks {H : Type} {enc : TypeId × Value → H} {W : World} {base fuel : Nat} {spare : Nat → Bool} {held : Bool} {a : Option Addr} {len cap : Nat} {x : DataW H × List MemPlace}
    (h : DataW.trod enc Try.prog W base spare held fuel 22 [.slice a len cap] = some x) : ∃ l, IsWks W a len cap l := by
  have ce : Try.prog.cellsOf 70 = 2 := by kernel_rfl
  have ci : Try.prog.cellsOf 3 = 1 := by kernel_rfl
  have ca : Try.prog.cellsOf 68 = 1 := by kernel_rfl
  rcases Deep.open_slice Try.underlying22 h with ⟨hcs, _⟩ | ⟨p, n, c, m, k, D, Pl, hcs, _, hl, hm, hmm, _, hx⟩
  · simp at hcs
    obtain ⟨rfl, rfl, rfl⟩ := hcs
    exact ⟨[], rfl, by omega, by unfold maxLen; omega, .inl rfl, fun _ => ⟨rfl, rfl⟩, by simp⟩
  · simp at hcs
    obtain ⟨rfl, rfl, rfl⟩ := hcs
    have hlm : len ≤ m := by rw [hmm]; split <;> omega
    have each : ∀ i, i < m → ∃ z : Wk, (W.cell? (p.add (i * 2)) = some (.int .i64 z.1) ∧ ∃ a' c', W.cell? (p.add (i * 2 + 1)) = some (.slice a' z.2.length c') ∧ z.2.length ≤ c' ∧ Acs W a' z.2) ∧ wf64 z.1 ∧ ∀ y ∈ z.2, wf64 y.1 ∧ wf64 y.2 := by
      intro i hi
      obtain ⟨cs', h1, h2⟩ := hx i hi
      rw [ce] at h1
      obtain ⟨_, hlen, hcell⟩ := World.cells?_some h1
      obtain ⟨xs, k', hk, hxy, _, hxl, hf⟩ := DataW.trod_struct Try.underlying70 h2
      match xs, hxl, cs', hlen with
      | [y0, y1], _, [v0, v1], _ =>
        have g0 := hf 0 _ rfl
        have g1 := hf 1 _ rfl
        simp [ci, ca] at g0 g1
        have e0 := hcell 0 (by omega)
        have e1 := hcell 1 (by omega)
        obtain ⟨pb, po, ps⟩ := p
        rw [ac_add] at e0 e1
        obtain ⟨u0, q0, _, w0⟩ := DataW.trod_int Try.underlying3 g0
        simp at q0
        subst q0
        have hv : ∃ a' n' c', v1 = .slice a' n' c' := by
          rcases Deep.open_slice Try.underlying68 g1 with ⟨hcs, _⟩ | ⟨p', n', c', m', k'', D', Pl', hcs, _⟩
          · simp at hcs; exact ⟨_, _, _, hcs⟩
          · simp at hcs; exact ⟨_, _, _, hcs⟩
        obtain ⟨a', n', c', rfl⟩ := hv
        obtain ⟨la, i1, i2, i3, i4, i5, i6⟩ := open_Acs g1
        subst i1
        exact ⟨(u0, la), ⟨by simpa using e0, a', c', by simpa using e1, i2, i4⟩, bounds_i64 w0, i6⟩
    obtain ⟨f, hf⟩ := Deep.choose_lt each
    refine ⟨(List.range len).map f, by simp, hl, hm, ?_, fun h => by simp at h, fun z hz => ?_⟩
    · by_cases h0 : len = 0
      · exact .inl (by rw [h0]; rfl)
      · obtain ⟨b, off, spot⟩ := p
        have hspot : spot = none := by simpa [Addr.add] using World.cell?_spot (hf 0 (by omega)).1.1
        subst hspot
        refine .inr ⟨b, off, rfl, fun i hi => ?_⟩
        simp at hi
        obtain ⟨⟨c0, a', c', c1, c2, c3⟩, _⟩ := hf i (by omega)
        have ea : ∀ j, (⟨b, off, none⟩ : Addr).add j = ⟨b, off + j, none⟩ := fun j => by by_cases h : j = 0 <;> simp [Addr.add, h]
        rw [ea] at c0 c1
        have e : ((List.range len).map f).getD i zWk = f i := by simp [List.getD, hi]
        rw [e]
        exact ⟨c0, a', c', by rw [Nat.add_assoc]; exact c1, c2, c3⟩
    · obtain ⟨i, hi, rfl⟩ := List.mem_map.1 hz
      have := List.mem_range.1 hi
      exact (hf i (by omega)).2
end RowsO
end Go.Proofs.Ytllfpbngfkimlaa
