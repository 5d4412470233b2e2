/- The form's own reach bounds the registers of a Vm that comes in. -/
import Derived.Test.YtceflfdpbgnfjaaOpenVm
import Derived.Test.YtceflfdpbgnfjaaSzIn
import Derived.SizedLaws
set_option linter.unusedVariables false
namespace Go.Proofs.Ytceflfdpbgnfjaa
open Go.RowKit Go.ChangeShapes Go.WideShapes Go.ChangeAt
open SpanM SpanC
namespace RowsO
set_option maxRecDepth 100000 in
theorem sized_vm {H : Type} {enc : TypeId × Value → H} {W : World} {base : Nat} {spare : Nat → Bool} {held : Bool} {v0 v2 v3 : Value} {a : Option Addr} {len cap : Nat} {d : DataW H} {ps : List MemPlace}
    (h : DataW.Trod enc Try.prog W base spare held 25 (.agg #[v0, .slice a len cap, v2, v3]) d ps) (hz : ∀ n ∈ d.weights Try.prog 25, n ≤ reachBytes) : len * 8 ≤ 140737488355328 := by
  obtain ⟨fuel, hf⟩ := h
  obtain ⟨xs, n, _, hx, hlen, hxl, hfs⟩ := DataW.trod_struct Try.underlying25 hf
  have c1 : Try.prog.cellsOf 23 = 1 := by kernel_rfl
  have g4 : DataW.trod enc Try.prog W base spare held n 23 ((([v0, .slice a len cap, v2, v3] : List Value).drop 1).take (Try.prog.cellsOf 23)) = xs[1]? := hfs 1 _ rfl
  rw [c1] at g4
  match xs, hxl with
  | [y0, y1, y2, y3], _ =>
    simp only [List.take_succ_cons, List.take_zero, List.drop_succ_cons, List.drop_zero, List.getElem?_cons_zero, List.getElem?_cons_succ] at g4
    simp only [Prod.mk.injEq] at hx
    obtain ⟨rfl, _⟩ := hx
    refine sized_Ins g4 fun k hk => hz k ?_
    simp [DataW.weights, DataW.weightsEach, Try.underlying25, hk]
set_option maxRecDepth 100000 in
theorem open_vm_sized {H : Type} {enc : TypeId × Value → H} {W : World} {base : Nat} {r : Reach} {b0 : Nat} {spare : Nat → Bool} {held : Bool} {v : Value} {d : DataW H} {ps : List MemPlace}
    (hv : Value.okWide Try.prog W r b0 25 v) (h : DataW.Trod enc Try.prog W base spare held 25 v d ps) (hz : ∀ n ∈ d.weights Try.prog 25, n ≤ reachBytes) :
    ∃ pc a len cap l ha fa, v = .agg #[.int .i64 pc, .slice a len cap, .bool ha, .bool fa] ∧ wf64 pc ∧ IsIns W a len cap l ∧ len * 8 ≤ 140737488355328 := by
  obtain ⟨pc, a, len, cap, l, ha, fa, rfl, h1, h2⟩ := open_vm hv h
  exact ⟨pc, a, len, cap, l, ha, fa, rfl, h1, h2, sized_vm h hz⟩
end RowsO
end Go.Proofs.Ytceflfdpbgnfjaa
