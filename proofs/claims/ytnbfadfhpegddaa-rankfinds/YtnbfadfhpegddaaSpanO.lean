/- Sets and lists of spans that come in. -/
import Derived.Test.YtnbfadfhpegddaaSpanB
import Derived.Deep.SlicePairs
import Derived.ChangeArms
set_option linter.unusedVariables false
namespace Go.Proofs.Ytnbfadfhpegddaa
open Go.ChangeShapes Go.WideShapes Go.ChangeAt Go.RowKit
open SpanM
namespace SpanC
def wf64 (n : Int) : Prop := -9223372036854775808 ≤ n ∧ n ≤ 9223372036854775807
/-- what is known of a list of spans that came in -/
def IsSps (w : World) (a : Option Addr) (len cap : Nat) (l : List Sp) : Prop :=
  len = l.length ∧ len ≤ cap ∧ cap ≤ maxLen ∧ Sps w a l ∧ (a = none → len = 0 ∧ cap = 0) ∧ ∀ x ∈ l, wf64 x.1 ∧ wf64 x.2

theorem add_none {b off k : Nat} : (⟨b, off, none⟩ : Addr).add k = ⟨b, off + k, none⟩ := by
  by_cases h : k = 0 <;> simp [Addr.add, h]

theorem open_spans {H : Type} {enc : TypeId × Value → H} {W : World} {base fuel : Nat} {spare : Nat → Bool} {held : Bool} {a : Option Addr} {len cap : Nat} {x : DataW H × List MemPlace}
    (h : DataW.trod enc Try.prog W base spare held fuel 24 [.slice a len cap] = some x) : ∃ l, IsSps W a len cap l := by
  rcases Deep.open_slice_pairs Try.underlying24 Try.underlying58 (by kernel_rfl) rfl rfl (by kernel_rfl) (by kernel_rfl) h with ⟨hcs, _⟩ | ⟨p, n, c, m, q, V0, V1, D0, D1, P0, P1, hcs, _, hl, hm, hmm, _, hx⟩
  · simp at hcs
    obtain ⟨rfl, rfl, rfl⟩ := hcs
    exact ⟨[], rfl, by omega, by unfold maxLen; omega, .inl rfl, fun _ => ⟨rfl, rfl⟩, by simp⟩
  · simp at hcs
    obtain ⟨rfl, rfl, rfl⟩ := hcs
    have hlm : len ≤ m := by rw [hmm]; split <;> omega
    have each : ∀ i, i < m → ∃ z : Sp, W.cell? (p.add (i * 2)) = some (.int .i64 z.1) ∧ W.cell? (p.add (i * 2 + 1)) = some (.int .i64 z.2) ∧ wf64 z.1 ∧ wf64 z.2 := by
      intro i hi
      obtain ⟨c1, c2, t1, t2⟩ := hx i hi
      obtain ⟨z1, e1, _, w1⟩ := DataW.trod_int Try.underlying3 t1
      obtain ⟨z2, e2, _, w2⟩ := DataW.trod_int Try.underlying3 t2
      simp at e1 e2
      exact ⟨(z1, z2), by rw [c1, e1], by rw [c2, e2], bounds_i64 w1, bounds_i64 w2⟩
    obtain ⟨f, hf⟩ := Deep.choose_lt each
    refine ⟨(List.range len).map f, by simp, hl, hm, ?_, fun h => by simp at h, fun z hz => ?_⟩
    · by_cases h0 : len = 0
      · exact .inl (by rw [h0]; rfl)
      · obtain ⟨b, off, spot⟩ := p
        have hspot : spot = none := by simpa [Addr.add] using World.cell?_spot (hf 0 (by omega)).1
        subst hspot
        refine .inr ⟨b, off, rfl, fun i hi => ?_⟩
        simp at hi
        obtain ⟨c1, c2, _⟩ := hf i (by omega)
        rw [add_none] at c1 c2
        have e : ((List.range len).map f).getD i (0, 0) = f i := by simp [List.getD, hi]
        rw [e]
        exact ⟨c1, c2⟩
    · obtain ⟨i, hi, rfl⟩ := List.mem_map.1 hz
      have := List.mem_range.1 hi
      exact (hf i (by omega)).2.2

set_option maxRecDepth 100000 in
theorem open_set {H : Type} {enc : TypeId × Value → H} {W : World} {base : Nat} {r : Reach} {b0 : Nat} {spare : Nat → Bool} {held : Bool} {v : Value} {d : DataW H} {ps : List MemPlace}
    (hv : Value.okWide Try.prog W r b0 26 v) (h : DataW.Trod enc Try.prog W base spare held 26 v d ps) :
    ∃ size a len cap l, v = .agg #[.int .i64 size, .slice a len cap] ∧ wf64 size ∧ IsSps W a len cap l := by
  obtain ⟨cs, rfl, hsz⟩ := okWide_struct Try.underlying26 hv
  obtain ⟨fuel, hf⟩ := h
  obtain ⟨xs, n, _, hx, hlen, hxl, hfs⟩ := DataW.trod_struct Try.underlying26 hf
  have hc2 : Try.prog.cellsOf 26 = 2 := by kernel_rfl
  rw [hc2] at hsz
  have c0 : Try.prog.cellsOf 3 = 1 := by kernel_rfl
  have c1 : Try.prog.cellsOf 24 = 1 := by kernel_rfl
  obtain ⟨l⟩ := cs
  match l, hsz with
  | [v0, v1], _ =>
    have g0 : DataW.trod enc Try.prog W base spare held n 3 ((([v0, v1] : List Value).drop 0).take (Try.prog.cellsOf 3)) = xs[0]? := hfs 0 _ rfl
    have g1 : DataW.trod enc Try.prog W base spare held n 24 ((([v0, v1] : List Value).drop 1).take (Try.prog.cellsOf 24)) = xs[1]? := hfs 1 _ rfl
    rw [c0] at g0
    rw [c1] at g1
    match xs, hxl with
    | [y0, y1], _ =>
      simp only [List.drop_zero, List.take_succ_cons, List.take_zero, List.drop_succ_cons, List.getElem?_cons_zero, List.getElem?_cons_succ] at g0 g1
      obtain ⟨z, e0, _, w0⟩ := DataW.trod_int Try.underlying3 g0
      simp at e0
      have hs : ∃ a len cap, v1 = .slice a len cap := by
        rcases Deep.open_slice Try.underlying24 g1 with ⟨h, _⟩ | ⟨p, n, c, _, _, _, _, h, _⟩
        · simp at h; exact ⟨_, _, _, h⟩
        · simp at h; exact ⟨_, _, _, h⟩
      obtain ⟨a, len, cap, rfl⟩ := hs
      obtain ⟨l, hl⟩ := open_spans g1
      exact ⟨z, a, len, cap, l, by rw [e0], bounds_i64 w0, hl⟩
end SpanC
end Go.Proofs.Ytnbfadfhpegddaa
