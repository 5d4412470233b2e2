/- The form's own reach bounds the lengths of the lists of spans that are read. -/
import Derived.Test.YtnbfadfhpegddaaSpanO
import Derived.SizedLaws
set_option linter.unusedVariables false
namespace Go.Proofs.Ytnbfadfhpegddaa
open Go.RowKit Go.ChangeShapes Go.WideShapes Go.ChangeAt
open SpanM
namespace SpanC
theorem bytesSpan : Try.prog.bytesOf 58 = 16 := by kernel_rfl
theorem sized_spans {H : Type} {enc : TypeId × Value → H} {W : World} {base fuel : Nat} {spare : Nat → Bool} {held : Bool} {a : Option Addr} {len cap : Nat} {x : DataW H × List MemPlace}
    (h : DataW.trod enc Try.prog W base spare held fuel 24 [.slice a len cap] = some x) (hz : ∀ n ∈ x.1.weights Try.prog 24, n ≤ reachBytes) : len * 16 ≤ 140737488355328 := by
  rcases Deep.open_slice_pairs Try.underlying24 Try.underlying58 (by kernel_rfl) rfl rfl (by kernel_rfl) (by kernel_rfl) h with ⟨hcs, _⟩ | ⟨p, n, c, m, q, V0, V1, D0, D1, P0, P1, hcs, _, hl, hm, hmm, hx, _⟩
  · simp at hcs
    omega
  · simp at hcs
    obtain ⟨rfl, rfl, rfl⟩ := hcs
    subst hx
    have hb := hz ((len + (m - len)) * Try.prog.bytesOf 58) (by simp [DataW.weights, Try.underlying24])
    rw [bytesSpan] at hb
    unfold reachBytes at hb
    omega
theorem open_spans_sized {H : Type} {enc : TypeId × Value → H} {W : World} {base fuel : Nat} {spare : Nat → Bool} {held : Bool} {a : Option Addr} {len cap : Nat} {d : DataW H} {ps : List MemPlace}
    (h : DataW.trod enc Try.prog W base spare held fuel 24 [.slice a len cap] = some (d, ps)) (hz : ∀ n ∈ d.weights Try.prog 24, n ≤ reachBytes) : ∃ l, IsSps W a len cap l ∧ len * 16 ≤ 140737488355328 := by
  obtain ⟨l, hl⟩ := open_spans h
  exact ⟨l, hl, sized_spans h hz⟩
set_option maxRecDepth 100000 in
theorem sized_set {H : Type} {enc : TypeId × Value → H} {W : World} {base : Nat} {spare : Nat → Bool} {held : Bool} {size : Int} {a : Option Addr} {len cap : Nat} {d : DataW H} {ps : List MemPlace}
    (h : DataW.Trod enc Try.prog W base spare held 26 (.agg #[.int .i64 size, .slice a len cap]) d ps) (hz : ∀ n ∈ d.weights Try.prog 26, n ≤ reachBytes) : len * 16 ≤ 140737488355328 := by
  obtain ⟨fuel, hf⟩ := h
  obtain ⟨xs, n, _, hx, hlen, hxl, hfs⟩ := DataW.trod_struct Try.underlying26 hf
  have c1 : Try.prog.cellsOf 24 = 1 := by kernel_rfl
  have g1 : DataW.trod enc Try.prog W base spare held n 24 ((([.int .i64 size, .slice a len cap] : List Value).drop 1).take (Try.prog.cellsOf 24)) = xs[1]? := hfs 1 _ rfl
  rw [c1] at g1
  match xs, hxl with
  | [y0, y1], _ =>
    simp only [List.take_succ_cons, List.take_zero, List.drop_succ_cons, List.drop_zero, List.getElem?_cons_zero, List.getElem?_cons_succ] at g1
    simp only [Prod.mk.injEq] at hx
    obtain ⟨rfl, _⟩ := hx
    refine sized_spans g1 fun k hk => hz k ?_
    simp [DataW.weights, DataW.weightsEach, Try.underlying26, hk]
set_option maxRecDepth 100000 in
theorem open_set_sized {H : Type} {enc : TypeId × Value → H} {W : World} {base : Nat} {r : Reach} {b0 : Nat} {spare : Nat → Bool} {held : Bool} {v : Value} {d : DataW H} {ps : List MemPlace}
    (hv : Value.okWide Try.prog W r b0 26 v) (h : DataW.Trod enc Try.prog W base spare held 26 v d ps) (hz : ∀ n ∈ d.weights Try.prog 26, n ≤ reachBytes) :
    ∃ size a len cap l, v = .agg #[.int .i64 size, .slice a len cap] ∧ wf64 size ∧ IsSps W a len cap l ∧ len * 16 ≤ 140737488355328 := by
  obtain ⟨size, a, len, cap, l, rfl, h1, h2⟩ := open_set hv h
  exact ⟨size, a, len, cap, l, rfl, h1, h2, sized_set h hz⟩
end SpanC
end Go.Proofs.Ytnbfadfhpegddaa
