/- The form's own reach bounds the lengths of the rows of int that are read (gen_sz.py writes this text). -/
import Derived.Test.YtceflfdpbgnfjaaOpenIn
import Derived.SizedLaws
set_option linter.unusedVariables false
namespace Go.Proofs.Ytceflfdpbgnfjaa
open Go.RowKit Go.ChangeShapes Go.WideShapes Go.ChangeAt
open SpanM SpanC
namespace RowsO
theorem bytesIn : Try.prog.bytesOf 3 = 8 := by kernel_rfl
theorem sized_Ins {H : Type} {enc : TypeId × Value → H} {W : World} {base fuel : Nat} {spare : Nat → Bool} {held : Bool} {a : Option Addr} {len cap : Nat} {x : DataW H × List MemPlace}
    (h : DataW.trod enc Try.prog W base spare held fuel 23 [.slice a len cap] = some x) (hz : ∀ n ∈ x.1.weights Try.prog 23, n ≤ reachBytes) : len * 8 ≤ 140737488355328 := by
  rcases Deep.open_slice Try.underlying23 h with ⟨hcs, _⟩ | ⟨p, n, c, m, k, D, Pl, hcs, _, hl, hm, hmm, hx, _⟩
  · simp at hcs
    omega
  · simp at hcs
    obtain ⟨rfl, rfl, rfl⟩ := hcs
    subst hx
    have hb := hz ((len + (m - len)) * Try.prog.bytesOf 3) (by simp [DataW.weights, Try.underlying23])
    rw [bytesIn] at hb
    unfold reachBytes at hb
    omega
theorem open_Ins_sized {H : Type} {enc : TypeId × Value → H} {W : World} {base fuel : Nat} {spare : Nat → Bool} {held : Bool} {a : Option Addr} {len cap : Nat} {d : DataW H} {ps : List MemPlace}
    (h : DataW.trod enc Try.prog W base spare held fuel 23 [.slice a len cap] = some (d, ps)) (hz : ∀ n ∈ d.weights Try.prog 23, n ≤ reachBytes) : ∃ l, IsIns W a len cap l ∧ len * 8 ≤ 140737488355328 := by
  obtain ⟨l, hl⟩ := open_Ins h
  exact ⟨l, hl, sized_Ins h hz⟩
end RowsO
end Go.Proofs.Ytceflfdpbgnfjaa
