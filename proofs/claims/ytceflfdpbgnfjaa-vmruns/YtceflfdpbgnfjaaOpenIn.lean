/- Rows of ints that come in. -/
import Derived.Test.YtceflfdpbgnfjaaOpenTk
import Derived.Test.YtceflfdpbgnfjaaNumC
set_option linter.unusedVariables false
namespace Go.Proofs.Ytceflfdpbgnfjaa
open Go.ChangeShapes Go.WideShapes Go.ChangeAt Go.RowKit
open SpanM SpanC
namespace RowsO
/-- what is known of rows that came in -/
def IsIns (w : World) (a : Option Addr) (len cap : Nat) (l : List Int) : Prop :=
  len = l.length ∧ len ≤ cap ∧ cap ≤ maxLen ∧ NumC.Row w a l ∧ (a = none → len = 0 ∧ cap = 0) ∧ ∀ x ∈ l, wf64 x
set_option maxRecDepth 100000 in
theorem open_Ins {H : Type} {enc : TypeId × Value → H} {W : World} {base fuel : Nat} {spare : Nat → Bool} {held : Bool} {a : Option Addr} {len cap : Nat} {x : DataW H × List MemPlace}
    (h : DataW.trod enc Try.prog W base spare held fuel 23 [.slice a len cap] = some x) : ∃ l, IsIns W a len cap l := by
  have ci : Try.prog.cellsOf 3 = 1 := by kernel_rfl
  rcases Deep.open_slice Try.underlying23 h with ⟨hcs, _⟩ | ⟨p, n, c, m, k, D, Pl, hcs, _, hl, hm, hmm, _, hx⟩
  · simp at hcs
    obtain ⟨rfl, rfl, rfl⟩ := hcs
    exact ⟨[], rfl, by omega, by unfold maxLen; omega, .inl rfl, fun _ => ⟨rfl, rfl⟩, by simp⟩
  · simp at hcs
    obtain ⟨rfl, rfl, rfl⟩ := hcs
    have hlm : len ≤ m := by rw [hmm]; split <;> omega
    have each : ∀ i, i < m → ∃ z : Int, W.cell? (p.add i) = some (.int .i64 z) ∧ wf64 z := by
      intro i hi
      obtain ⟨cs', h1, h2⟩ := hx i hi
      rw [ci] at h1
      obtain ⟨_, hlen, hcell⟩ := World.cells?_some h1
      match cs', hlen with
      | [v0], _ =>
        have e0 := hcell 0 (by omega)
        obtain ⟨pb, po, ps⟩ := p
        rw [tk_add] at e0
        obtain ⟨u0, q0, _, w0⟩ := DataW.trod_int Try.underlying3 h2
        simp at q0
        subst q0
        exact ⟨u0, by simpa using e0, bounds_i64 w0⟩
    obtain ⟨f, hf⟩ := Deep.choose_lt each
    refine ⟨(List.range len).map f, by simp, hl, hm, ?_, fun h => by simp at h, fun z hz => ?_⟩
    · by_cases h0 : len = 0
      · exact .inl (by rw [h0]; rfl)
      · obtain ⟨b, off, spot⟩ := p
        have hc0 := (hf 0 (by omega)).1
        have hspot : spot = none := by simpa [Addr.add] using World.cell?_spot hc0
        subst hspot
        refine .inr ⟨b, off, rfl, fun i hi => ?_⟩
        simp at hi
        have h1 := (hf i (by omega)).1
        have ea : (⟨b, off, none⟩ : Addr).add i = ⟨b, off + i, none⟩ := by
          by_cases h : i = 0 <;> simp [Addr.add, h]
        rw [ea] at h1
        rw [h1]
        simp [List.getD, hi]
    · obtain ⟨i, hi, rfl⟩ := List.mem_map.1 hz
      have := List.mem_range.1 hi
      exact (hf i (by omega)).2
end RowsO
end Go.Proofs.Ytceflfdpbgnfjaa
