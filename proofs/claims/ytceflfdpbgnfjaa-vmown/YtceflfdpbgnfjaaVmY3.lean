/- The law VmOwn, whole. -/
import Derived.Test.YtceflfdpbgnfjaaVmY2
import Derived.Test.YtceflfdpbgnfjaaOpenVm
import Derived.Test.YtceflfdpbgnfjaaRowIs
set_option linter.unusedVariables false
namespace Go.Proofs.Ytceflfdpbgnfjaa
open Go.RowKit
open Go.Shelf Go.Sort
open SpanM hiding good
open SpanC IntsC
open RowsO hiding Em
namespace VmC
open VmP VmM
open NumC (Row)
theorem ar_own {w : World} {pa ra ia : Option Addr} {pn pc rn rc jn jc : Nat} {p : List In} {l i : List Int} (h1 : RowsO.IsIss w pa pn pc p) (h2 : RowsO.IsIns w ra rn rc l) (h3 : RowsO.IsIns w ia jn jc i) : AR w pa ra ia p l i :=
  ⟨h1.2.2.2.1, by have := h1.1; have := h1.2.1; have := h1.2.2.1; omega, h2.2.2.2.1, by have := h2.1; have := h2.2.1; have := h2.2.2.1; omega, h3.2.2.2.1, by have := h3.1; have := h3.2.1; have := h3.2.2.1; omega⟩
theorem vmOwn_walk (a0 : Option Addr) (len0 cap0 : Nat) (l0 : List RowsO.Is) (pc1 : Int) (a1 : Option Addr) (len1 cap1 : Nat) (l1 : List Int) (ha1 fa1 : Bool) (a2 : Option Addr) (len2 cap2 : Nat) (l2 : List Int) (n3 : Int) (w : World)
    (w0 : RowsO.IsIss w a0 len0 cap0 l0) (x1 : SpanC.wf64 pc1) (w1 : RowsO.IsIns w a1 len1 cap1 l1) (w2 : RowsO.IsIns w a2 len2 cap2 l2) (w3 : SpanC.wf64 n3)
    (b0 : len0 * 24 ≤ 140737488355328) (b1 : len1 * 8 ≤ 140737488355328) (b2 : len2 * 8 ≤ 140737488355328) :
    Calls Try.prog 7 #[.slice a0 len0 cap0, .agg #[.int .i64 pc1, .slice a1 len1 cap1, .bool ha1, .bool fa1], .slice a2 len2 cap2, .int .i64 n3] w fun e w' => e = .returned (.bool true) ∧ Below w.heap.size w w' := by
  have k := ar_own w0 w1 w2
  obtain ⟨rfl, q1, q2, q3, q4, q5⟩ := w0
  obtain ⟨rfl, r1, r2, r3, r4, r5⟩ := w1
  obtain ⟨rfl, s1, s2, s3, s4, s5⟩ := w2
  refine vmOwn_any a0 a1 a2 cap0 cap1 cap2 l0 l1 l2 pc1 ha1 fa1 n3 w (fun W hb => ?_) (fun W hb => ?_) (fun W hb => ?_) k
  · refine (cloneIs_any a0 cap0 l0 W (k.below hb).hp (fun h => (q4 h).2) k.pl b0).mono ?_
    rintro e w' ⟨⟨v, rfl, ho⟩, hb'⟩
    exact ⟨⟨v, rfl, ho.rows⟩, hb'⟩
  · refine (cloneIL_any a1 cap1 l1 W (k.below hb).hr (fun h => (r4 h).2) k.rl b1).mono ?_
    rintro e w' ⟨⟨v, rfl, ho⟩, hb'⟩
    obtain ⟨a, c, e, hr, _⟩ := OwnI.row ho
    exact ⟨⟨v, rfl, ⟨a, c, e, hr⟩⟩, hb'⟩
  · refine (cloneIL_any a2 cap2 l2 W (k.below hb).hi (fun h => (s4 h).2) k.il b2).mono ?_
    rintro e w' ⟨⟨v, rfl, ho⟩, hb'⟩
    obtain ⟨a, c, e, hr, _⟩ := OwnI.row ho
    exact ⟨⟨v, rfl, ⟨a, c, e, hr⟩⟩, hb'⟩
end VmC
end Go.Proofs.Ytceflfdpbgnfjaa
