/- The form's own reach bounds the texts of a port that comes in. -/
import Derived.Test.YtllfpbngfkimlaaOpenPo
import Derived.SizedLaws
set_option linter.unusedVariables false
namespace Go.Proofs.Ytllfpbngfkimlaa
open Go.RowKit Go.ChangeShapes Go.WideShapes Go.ChangeAt
open SpanM SpanC
namespace RowsO
theorem bytesStr : Try.prog.bytesOf 9 = 16 := by kernel_rfl
theorem sized_Str {H : Type} {enc : TypeId × Value → H} {W : World} {base fuel : Nat} {spare : Nat → Bool} {held : Bool} {a : Option Addr} {len cap : Nat} {x : DataW H × List MemPlace}
    (h : DataW.trod enc Try.prog W base spare held fuel 34 [.slice a len cap] = some x) (hz : ∀ n ∈ x.1.weights Try.prog 34, n ≤ reachBytes) : len * 16 ≤ 140737488355328 := by
  rcases Deep.open_slice Try.underlying34 h with ⟨hcs, _⟩ | ⟨p, n, c, m, k, D, Pl, hcs, _, hl, hm, hmm, hx, _⟩
  · simp at hcs
    omega
  · simp at hcs
    obtain ⟨rfl, rfl, rfl⟩ := hcs
    subst hx
    have hb := hz ((len + (m - len)) * Try.prog.bytesOf 9) (by simp [DataW.weights, Try.underlying34])
    rw [bytesStr] at hb
    unfold reachBytes at hb
    omega
set_option maxRecDepth 100000 in
theorem sized_port {H : Type} {enc : TypeId × Value → H} {W : World} {base : Nat} {spare : Nat → Bool} {held : Bool} {v0 v1 v2 v3 v5 : Value} {a : Option Addr} {len cap : Nat} {d : DataW H} {ps : List MemPlace}
    (h : DataW.Trod enc Try.prog W base spare held 36 (.agg #[v0, v1, v2, v3, .slice a len cap, v5]) d ps) (hz : ∀ n ∈ d.weights Try.prog 36, n ≤ reachBytes) : len * 16 ≤ 140737488355328 := by
  obtain ⟨fuel, hf⟩ := h
  obtain ⟨xs, n, _, hx, hlen, hxl, hfs⟩ := DataW.trod_struct Try.underlying36 hf
  have c1 : Try.prog.cellsOf 34 = 1 := by kernel_rfl
  have g4 : DataW.trod enc Try.prog W base spare held n 34 ((([v0, v1, v2, v3, .slice a len cap, v5] : List Value).drop 4).take (Try.prog.cellsOf 34)) = xs[4]? := hfs 4 _ rfl
  rw [c1] at g4
  match xs, hxl with
  | [y0, y1, y2, y3, y4, y5], _ =>
    simp only [List.take_succ_cons, List.take_zero, List.drop_succ_cons, List.drop_zero, List.getElem?_cons_zero, List.getElem?_cons_succ] at g4
    simp only [Prod.mk.injEq] at hx
    obtain ⟨rfl, _⟩ := hx
    refine sized_Str g4 fun k hk => hz k ?_
    simp [DataW.weights, DataW.weightsEach, Try.underlying36, hk]
set_option maxRecDepth 100000 in
theorem open_port_sized {H : Type} {enc : TypeId × Value → H} {W : World} {base : Nat} {r : Reach} {b0 : Nat} {spare : Nat → Bool} {held : Bool} {v : Value} {d : DataW H} {ps : List MemPlace}
    (hv : Value.okWide Try.prog W r b0 36 v) (h : DataW.Trod enc Try.prog W base spare held 36 v d ps) (hz : ∀ n ∈ d.weights Try.prog 36, n ≤ reachBytes) :
    ∃ kd sz rm fr a len cap l tm, v = .agg #[.int .i64 kd, .int .i64 sz, .int .i64 rm, .int .i64 fr, .slice a len cap, .int .i64 tm] ∧ (wf64 kd ∧ wf64 sz ∧ wf64 rm ∧ wf64 fr ∧ wf64 tm) ∧ IsStr W a len cap l ∧ len * 16 ≤ 140737488355328 := by
  obtain ⟨kd, sz, rm, fr, a, len, cap, l, tm, rfl, h1, h2⟩ := open_port hv h
  exact ⟨kd, sz, rm, fr, a, len, cap, l, tm, rfl, h1, h2, sized_port h hz⟩
end RowsO
end Go.Proofs.Ytllfpbngfkimlaa
