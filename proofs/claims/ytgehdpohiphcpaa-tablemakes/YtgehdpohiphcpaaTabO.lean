/- What comes in: tables. -/
import Derived.Test.YtgehdpohiphcpaaSpanO
import Derived.Test.YtgehdpohiphcpaaTabB
import Derived.Deep.SlicePairs
import Derived.ChangeArms
set_option linter.unusedVariables false
namespace Go.Proofs.Ytgehdpohiphcpaa
open Go.ChangeShapes Go.WideShapes Go.ChangeAt Go.RowKit
open SpanM SpanC TabM
namespace TabC
/-- what is known of a list of windows that came in -/
def IsWns (w : World) (a : Option Addr) (len cap : Nat) (l : List Win) : Prop :=
  len = l.length ∧ len ≤ cap ∧ cap ≤ maxLen ∧ Wns w a l ∧ (a = none → len = 0 ∧ cap = 0)
theorem add_add' {b off j k : Nat} {s : Option _} : ((⟨b, off, s⟩ : Addr).add j).add k = (⟨b, off, s⟩ : Addr).add (j + k) := by
  unfold Addr.add
  by_cases hj : j = 0 <;> by_cases hk : k = 0 <;> simp [hj, hk, Nat.add_assoc]
set_option maxRecDepth 100000 in
theorem open_wins {H : Type} {enc : TypeId × Value → H} {W : World} {base fuel : Nat} {spare : Nat → Bool} {held : Bool} {a : Option Addr} {len cap : Nat} {x : DataW H × List MemPlace}
    (h : DataW.trod enc Try.prog W base spare held fuel 22 [.slice a len cap] = some x) : ∃ l, IsWns W a len cap l := by
  have ce : Try.prog.cellsOf 50 = 3 := by kernel_rfl
  have ci : Try.prog.cellsOf 3 = 1 := by kernel_rfl
  rcases Deep.open_slice Try.underlying22 h with ⟨hcs, _⟩ | ⟨p, n, c, m, k, D, Pl, hcs, _, hl, hm, hmm, _, hx⟩
  · simp at hcs
    obtain ⟨rfl, rfl, rfl⟩ := hcs
    exact ⟨[], rfl, by omega, by unfold maxLen; omega, ⟨by simp, .inl rfl⟩, fun _ => ⟨rfl, rfl⟩⟩
  · simp at hcs
    obtain ⟨rfl, rfl, rfl⟩ := hcs
    have hlm : len ≤ m := by rw [hmm]; split <;> omega
    have each : ∀ i, i < m → ∃ z : Win, W.cell? (p.add (i * 3)) = some (.int .i64 z.1) ∧ W.cell? (p.add (i * 3 + 1)) = some (.int .i64 z.2.1) ∧ W.cell? (p.add (i * 3 + 2)) = some (.int .i64 z.2.2) ∧ wf64 z.1 := by
      intro i hi
      obtain ⟨cs', h1, h2⟩ := hx i hi
      rw [ce] at h1
      obtain ⟨_, hlen, hcell⟩ := World.cells?_some h1
      obtain ⟨xs, k', hk, hxy, _, hxl, hf⟩ := DataW.trod_struct Try.underlying50 h2
      match xs, hxl, cs', hlen with
      | [y0, y1, y2], _, [v0, v1, v2], _ =>
        have g0 := hf 0 _ rfl
        have g1 := hf 1 _ rfl
        have g2 := hf 2 _ rfl
        simp [ci] at g0 g1 g2
        have e0 := hcell 0 (by omega)
        have e1 := hcell 1 (by omega)
        have e2 := hcell 2 (by omega)
        obtain ⟨pb, po, ps⟩ := p
        rw [add_add'] at e0 e1 e2
        obtain ⟨z1, q1, _, w1⟩ := DataW.trod_int Try.underlying3 g0
        obtain ⟨z2, q2, _, w2⟩ := DataW.trod_int Try.underlying3 g1
        obtain ⟨z3, q3, _, w3⟩ := DataW.trod_int Try.underlying3 g2
        simp at q1 q2 q3
        subst q1; subst q2; subst q3
        exact ⟨(z1, z2, z3), by simpa using e0, by simpa using e1, by simpa using e2, bounds_i64 w1⟩
    obtain ⟨f, hf⟩ := Deep.choose_lt each
    refine ⟨(List.range len).map f, by simp, hl, hm, ⟨fun z hz => ?_, ?_⟩, fun h => by simp at h⟩
    · obtain ⟨i, hi, rfl⟩ := List.mem_map.1 hz
      have := List.mem_range.1 hi
      exact (hf i (by omega)).2.2.2.2
    · by_cases h0 : len = 0
      · exact .inl (by rw [h0]; rfl)
      · obtain ⟨b, off, spot⟩ := p
        have hspot : spot = none := by simpa [Addr.add] using World.cell?_spot (hf 0 (by omega)).1
        subst hspot
        refine .inr ⟨b, off, rfl, fun i hi => ?_⟩
        simp at hi
        obtain ⟨c1, c2, c3, _⟩ := hf i (by omega)
        rw [add_none] at c1 c2 c3
        have e : ((List.range len).map f).getD i z3 = f i := by simp [List.getD, hi]
        rw [e]
        exact ⟨c1, c2, c3⟩
set_option maxRecDepth 100000 in
theorem open_table {H : Type} {enc : TypeId × Value → H} {W : World} {base : Nat} {r : Reach} {b0 : Nat} {spare : Nat → Bool} {held : Bool} {v : Value} {d : DataW H} {ps : List MemPlace}
    (hv : Value.okWide Try.prog W r b0 24 v) (h : DataW.Trod enc Try.prog W base spare held 24 v d ps) :
    ∃ size a len cap l, v = .agg #[.int .i64 size, .slice a len cap] ∧ wf64 size ∧ IsWns W a len cap l := by
  obtain ⟨cs, rfl, hsz⟩ := okWide_struct Try.underlying24 hv
  obtain ⟨fuel, hf⟩ := h
  obtain ⟨xs, n, _, hx, hlen, hxl, hfs⟩ := DataW.trod_struct Try.underlying24 hf
  have hc2 : Try.prog.cellsOf 24 = 2 := by kernel_rfl
  rw [hc2] at hsz
  have c0 : Try.prog.cellsOf 3 = 1 := by kernel_rfl
  have c1 : Try.prog.cellsOf 22 = 1 := by kernel_rfl
  obtain ⟨l⟩ := cs
  match l, hsz with
  | [v0, v1], _ =>
    have g0 : DataW.trod enc Try.prog W base spare held n 3 ((([v0, v1] : List Value).drop 0).take (Try.prog.cellsOf 3)) = xs[0]? := hfs 0 _ rfl
    have g1 : DataW.trod enc Try.prog W base spare held n 22 ((([v0, v1] : List Value).drop 1).take (Try.prog.cellsOf 22)) = xs[1]? := hfs 1 _ rfl
    rw [c0] at g0
    rw [c1] at g1
    match xs, hxl with
    | [y0, y1], _ =>
      simp only [List.drop_zero, List.take_succ_cons, List.take_zero, List.drop_succ_cons, List.getElem?_cons_zero, List.getElem?_cons_succ] at g0 g1
      obtain ⟨z, e0, _, w0⟩ := DataW.trod_int Try.underlying3 g0
      simp at e0
      have hs : ∃ a len cap, v1 = .slice a len cap := by
        rcases Deep.open_slice Try.underlying22 g1 with ⟨h, _⟩ | ⟨p, n, c, _, _, _, _, h, _⟩
        · simp at h; exact ⟨_, _, _, h⟩
        · simp at h; exact ⟨_, _, _, h⟩
      obtain ⟨a, len, cap, rfl⟩ := hs
      obtain ⟨l, hl⟩ := open_wins g1
      exact ⟨z, a, len, cap, l, by rw [e0], bounds_i64 w0, hl⟩
end TabC
end Go.Proofs.Ytgehdpohiphcpaa
