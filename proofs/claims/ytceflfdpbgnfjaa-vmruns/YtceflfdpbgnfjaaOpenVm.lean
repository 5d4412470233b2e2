/- Vms that come in. -/
import Derived.Test.YtceflfdpbgnfjaaOpenIn
import Derived.Test.YtceflfdpbgnfjaaOpenIs
import Derived.Deep.SlicePairs
import Derived.ChangeArms
set_option linter.unusedVariables false
namespace Go.Proofs.Ytceflfdpbgnfjaa
open Go.ChangeShapes Go.WideShapes Go.ChangeAt Go.RowKit
open SpanM SpanC
namespace RowsO
set_option maxRecDepth 100000 in
theorem open_vm {H : Type} {enc : TypeId × Value → H} {W : World} {base : Nat} {r : Reach} {b0 : Nat} {spare : Nat → Bool} {held : Bool} {v : Value} {d : DataW H} {ps : List MemPlace}
    (hv : Value.okWide Try.prog W r b0 25 v) (h : DataW.Trod enc Try.prog W base spare held 25 v d ps) :
    ∃ pc a len cap l ha fa, v = .agg #[.int .i64 pc, .slice a len cap, .bool ha, .bool fa] ∧ wf64 pc ∧ IsIns W a len cap l := by
  obtain ⟨cs, rfl, hsz⟩ := okWide_struct Try.underlying25 hv
  obtain ⟨fuel, hf⟩ := h
  obtain ⟨xs, n, _, hx, hlen, hxl, hfs⟩ := DataW.trod_struct Try.underlying25 hf
  have hc2 : Try.prog.cellsOf 25 = 4 := by kernel_rfl
  rw [hc2] at hsz
  have c0 : Try.prog.cellsOf 3 = 1 := by kernel_rfl
  have c1 : Try.prog.cellsOf 23 = 1 := by kernel_rfl
  have c2 : Try.prog.cellsOf 4 = 1 := by kernel_rfl
  obtain ⟨l⟩ := cs
  match l, hsz with
  | [v0, v1, v2, v3], _ =>
    have g0 : DataW.trod enc Try.prog W base spare held n 3 ((([v0, v1, v2, v3] : List Value).drop 0).take (Try.prog.cellsOf 3)) = xs[0]? := hfs 0 _ rfl
    have g1 : DataW.trod enc Try.prog W base spare held n 23 ((([v0, v1, v2, v3] : List Value).drop 1).take (Try.prog.cellsOf 23)) = xs[1]? := hfs 1 _ rfl
    have g2 : DataW.trod enc Try.prog W base spare held n 4 ((([v0, v1, v2, v3] : List Value).drop 2).take (Try.prog.cellsOf 4)) = xs[2]? := hfs 2 _ rfl
    have g3 : DataW.trod enc Try.prog W base spare held n 4 ((([v0, v1, v2, v3] : List Value).drop 3).take (Try.prog.cellsOf 4)) = xs[3]? := hfs 3 _ rfl
    rw [c0] at g0
    rw [c1] at g1
    rw [c2] at g2 g3
    match xs, hxl with
    | [y0, y1, y2, y3], _ =>
      simp only [List.drop_zero, List.take_succ_cons, List.take_zero, List.drop_succ_cons, List.getElem?_cons_zero, List.getElem?_cons_succ] at g0 g1 g2 g3
      obtain ⟨z0, e0, _, w0⟩ := DataW.trod_int Try.underlying3 g0
      obtain ⟨z2, e2, _⟩ := DataW.trod_bool Try.underlying4 g2
      obtain ⟨z3, e3, _⟩ := DataW.trod_bool Try.underlying4 g3
      simp at e0 e2 e3
      have hs : ∃ a len cap, v1 = .slice a len cap := by
        rcases Deep.open_slice Try.underlying23 g1 with ⟨h, _⟩ | ⟨p, n, c, _, _, _, _, h, _⟩
        · simp at h; exact ⟨_, _, _, h⟩
        · simp at h; exact ⟨_, _, _, h⟩
      obtain ⟨a, len, cap, rfl⟩ := hs
      obtain ⟨l, hl⟩ := open_Ins g1
      exact ⟨z0, a, len, cap, l, z2, z3, by rw [e0, e2, e3], bounds_i64 w0, hl⟩
end RowsO
end Go.Proofs.Ytceflfdpbgnfjaa
