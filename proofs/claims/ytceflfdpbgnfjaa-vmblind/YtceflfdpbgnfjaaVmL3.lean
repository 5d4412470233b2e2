/- The law VmBlind, whole. -/
import Derived.Test.YtceflfdpbgnfjaaVmVn
import Derived.Test.YtceflfdpbgnfjaaVmW
import Derived.Test.YtceflfdpbgnfjaaVmWn
import Derived.Test.YtceflfdpbgnfjaaOpenVm
set_option linter.unusedVariables false
namespace Go.Proofs.Ytceflfdpbgnfjaa
open Go.RowKit
open Go.Shelf Go.Sort
open SpanM hiding good
open SpanC IntsC
open RowsO hiding Em
namespace VmC
open VmP VmM
open NumC (Row)
theorem ar_of3 {w : World} {pa ra ia : Option Addr} {pn pc rn rc jn jc : Nat} {p : List In} {l i : List Int} (h1 : RowsO.IsIss w pa pn pc p) (h2 : RowsO.IsIns w ra rn rc l) (h3 : RowsO.IsIns w ia jn jc i) : AR w pa ra ia p l i :=
  ⟨h1.2.2.2.1, by have := h1.1; have := h1.2.1; have := h1.2.2.1; omega, h2.2.2.2.1, by have := h2.1; have := h2.2.1; have := h2.2.2.1; omega, h3.2.2.2.1, by have := h3.1; have := h3.2.1; have := h3.2.2.1; omega⟩
theorem vmBlind_walk (a0 : Option Addr) (len0 cap0 : Nat) (l0 : List RowsO.Is) (pc1 : Int) (a1 : Option Addr) (len1 cap1 : Nat) (l1 : List Int) (ha1 fa1 : Bool) (a2 : Option Addr) (len2 cap2 : Nat) (l2 : List Int) (a3 : Option Addr) (len3 cap3 : Nat) (l3 : List Int) (n4 : Int) (w : World)
    (w0 : RowsO.IsIss w a0 len0 cap0 l0) (x1 : SpanC.wf64 pc1) (w1 : RowsO.IsIns w a1 len1 cap1 l1) (w2 : RowsO.IsIns w a2 len2 cap2 l2) (w3 : RowsO.IsIns w a3 len3 cap3 l3) (w4 : SpanC.wf64 n4)
    (b0 : len0 * 24 ≤ 140737488355328) (b1 : len1 * 8 ≤ 140737488355328) (b2 : len2 * 8 ≤ 140737488355328) (b3 : len3 * 8 ≤ 140737488355328) :
    Calls Try.prog 6 #[.slice a0 len0 cap0, .agg #[.int .i64 pc1, .slice a1 len1 cap1, .bool ha1, .bool fa1], .slice a2 len2 cap2, .slice a3 len3 cap3, .int .i64 n4] w fun e w' => e = .returned (.bool true) ∧ Below w.heap.size w w' := by
  have k := ar_of3 w0 w1 w2
  obtain ⟨rfl, q1, q2, q3, q4, q5⟩ := w0
  obtain ⟨rfl, r1, r2, r3, r4, r5⟩ := w1
  obtain ⟨rfl, s1, s2, s3, s4, s5⟩ := w2
  obtain ⟨rfl, t1, t2, t3, t4, t5⟩ := w3
  by_cases hE : rE l0 ⟨pc1, l1, ha1, fa1⟩ l2 n4 = 0
  · obtain ⟨R, hR⟩ : ∃ R, run (act l0) n4.toNat ⟨pc1, l1, ha1, fa1⟩ l2 = R := ⟨_, rfl⟩
    have hle := run_le (act := act l0) n4.toNat ⟨pc1, l1, ha1, fa1⟩ l2
    rw [hR] at hle
    obtain ⟨_, _, _, ha0, _, _⟩ := rE_zero hE
    by_cases hu : (R.used : Int) = n4 ∨ R.took < l2.length
    · by_cases hE2 : rE l0 ⟨pc1, l1, ha1, fa1⟩ (l2.take R.took ++ l3) n4 = 0
      · cases a2 with
        | none => exact vmBlind_yes_nil w a0 a1 none a3 l0 l1 l2 l3 pc1 cap0 cap1 cap2 cap3 ha1 fa1 n4 rfl (s4 rfl).2 k s1 s2 t3 t4 b3 hE R hR hu hE2
        | some q => exact vmBlind_yes w a0 a1 (some q) a3 l0 l1 l2 l3 pc1 cap0 cap1 cap2 cap3 ha1 fa1 n4 q rfl k s1 s2 t3 t4 b3 hE R hR hu hE2
      · cases a2 with
        | none => exact vmBlind_bad_nil w a0 a1 none a3 l0 l1 l2 l3 pc1 cap0 cap1 cap2 cap3 ha1 fa1 n4 rfl (s4 rfl).2 k s1 s2 t3 t4 b3 hE R hR hu hE2
        | some q => exact vmBlind_bad w a0 a1 (some q) a3 l0 l1 l2 l3 pc1 cap0 cap1 cap2 cap3 ha1 fa1 n4 q rfl k s1 s2 t3 t4 b3 hE R hR hu hE2
    · exact vmBlind_lim w a0 a1 a2 a3 l0 l1 l2 l3 pc1 cap0 cap1 cap2 cap3 ha1 fa1 n4 k hE R hR (by omega) (by omega)
  · exact vmBlind_no w a0 a1 a2 a3 l0 l1 l2 l3 pc1 cap0 cap1 cap2 cap3 ha1 fa1 n4 k hE
end VmC
end Go.Proofs.Ytceflfdpbgnfjaa
