/- What comes in: wants. -/
import Derived.Test.YtgehdpohiphcpaaTabO
import Derived.Test.YtgehdpohiphcpaaTabK
set_option linter.unusedVariables false
namespace Go.Proofs.Ytgehdpohiphcpaa
open Go.ChangeShapes Go.WideShapes Go.ChangeAt Go.RowKit
open SpanM SpanC TabM
namespace TabC
/-- what is known of a list of wants that came in -/
def IsWts (w : World) (a : Option Addr) (len cap : Nat) (l : List Wnt) : Prop :=
  len = l.length ∧ len ≤ cap ∧ cap ≤ maxLen ∧ Wts w a l ∧ (a = none → len = 0 ∧ cap = 0)
set_option maxRecDepth 100000 in
theorem open_wants {H : Type} {enc : TypeId × Value → H} {W : World} {base fuel : Nat} {spare : Nat → Bool} {held : Bool} {a : Option Addr} {len cap : Nat} {x : DataW H × List MemPlace}
    (h : DataW.trod enc Try.prog W base spare held fuel 39 [.slice a len cap] = some x) : ∃ l, IsWts W a len cap l := by
  have ce : Try.prog.cellsOf 66 = 4 := by kernel_rfl
  have ci : Try.prog.cellsOf 3 = 1 := by kernel_rfl
  rcases Deep.open_slice Try.underlying39 h with ⟨hcs, _⟩ | ⟨p, n, c, m, k, D, Pl, hcs, _, hl, hm, hmm, _, hx⟩
  · simp at hcs
    obtain ⟨rfl, rfl, rfl⟩ := hcs
    exact ⟨[], rfl, by omega, by unfold maxLen; omega, .inl rfl, fun _ => ⟨rfl, rfl⟩⟩
  · simp at hcs
    obtain ⟨rfl, rfl, rfl⟩ := hcs
    have hlm : len ≤ m := by rw [hmm]; split <;> omega
    have each : ∀ i, i < m → ∃ z : Wnt, W.cell? (p.add (i * 4)) = some (.int .i64 z.1) ∧ W.cell? (p.add (i * 4 + 1)) = some (.int .i64 z.2.1) ∧ W.cell? (p.add (i * 4 + 2)) = some (.int .i64 z.2.2.1) ∧ W.cell? (p.add (i * 4 + 3)) = some (.int .i64 z.2.2.2) := by
      intro i hi
      obtain ⟨cs', h1, h2⟩ := hx i hi
      rw [ce] at h1
      obtain ⟨_, hlen, hcell⟩ := World.cells?_some h1
      obtain ⟨xs, k', hk, hxy, _, hxl, hf⟩ := DataW.trod_struct Try.underlying66 h2
      match xs, hxl, cs', hlen with
      | [y0, y1, y2, y3], _, [v0, v1, v2, v3], _ =>
        have g0 := hf 0 _ rfl
        have g1 := hf 1 _ rfl
        have g2 := hf 2 _ rfl
        have g3 := hf 3 _ rfl
        simp [ci] at g0 g1 g2 g3
        have e0 := hcell 0 (by omega)
        have e1 := hcell 1 (by omega)
        have e2 := hcell 2 (by omega)
        have e3 := hcell 3 (by omega)
        obtain ⟨pb, po, ps⟩ := p
        rw [add_add'] at e0 e1 e2 e3
        obtain ⟨z1, q1, _, w1⟩ := DataW.trod_int Try.underlying3 g0
        obtain ⟨z2, q2, _, w2⟩ := DataW.trod_int Try.underlying3 g1
        obtain ⟨z3, q3, _, w3⟩ := DataW.trod_int Try.underlying3 g2
        obtain ⟨z4, q4, _, w4⟩ := DataW.trod_int Try.underlying3 g3
        simp at q1 q2 q3 q4
        subst q1; subst q2; subst q3; subst q4
        exact ⟨(z1, z2, z3, z4), by simpa using e0, by simpa using e1, by simpa using e2, by simpa using e3⟩
    obtain ⟨f, hf⟩ := Deep.choose_lt each
    refine ⟨(List.range len).map f, by simp, hl, hm, ?_, fun h => by simp at h⟩
    by_cases h0 : len = 0
    · exact .inl (by rw [h0]; rfl)
    · obtain ⟨b, off, spot⟩ := p
      have hspot : spot = none := by simpa [Addr.add] using World.cell?_spot (hf 0 (by omega)).1
      subst hspot
      refine .inr ⟨b, off, rfl, fun i hi => ?_⟩
      simp at hi
      obtain ⟨c1, c2, c3, c4⟩ := hf i (by omega)
      rw [add_none] at c1 c2 c3 c4
      have e : ((List.range len).map f).getD i z4 = f i := by simp [List.getD, hi]
      rw [e]
      exact ⟨c1, c2, c3, c4⟩
end TabC
end Go.Proofs.Ytgehdpohiphcpaa
