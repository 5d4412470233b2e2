/- The form's own reach bounds the lengths of the rows of api.Ins that are read (gen_sz.py writes this text). -/
import Derived.Test.YtceflfdpbgnfjaaOpenIs
import Derived.SizedLaws
set_option linter.unusedVariables false
namespace Go.Proofs.Ytceflfdpbgnfjaa
open Go.RowKit Go.ChangeShapes Go.WideShapes Go.ChangeAt
open SpanM SpanC
namespace RowsO
theorem bytesIs : Try.prog.bytesOf 45 = 24 := by kernel_rfl
theorem sized_Iss {H : Type} {enc : TypeId × Value → H} {W : World} {base fuel : Nat} {spare : Nat → Bool} {held : Bool} {a : Option Addr} {len cap : Nat} {x : DataW H × List MemPlace}
    (h : DataW.trod enc Try.prog W base spare held fuel 22 [.slice a len cap] = some x) (hz : ∀ n ∈ x.1.weights Try.prog 22, n ≤ reachBytes) : len * 24 ≤ 140737488355328 := by
  rcases Deep.open_slice Try.underlying22 h with ⟨hcs, _⟩ | ⟨p, n, c, m, k, D, Pl, hcs, _, hl, hm, hmm, hx, _⟩
  · simp at hcs
    omega
  · simp at hcs
    obtain ⟨rfl, rfl, rfl⟩ := hcs
    subst hx
    have hb := hz ((len + (m - len)) * Try.prog.bytesOf 45) (by simp [DataW.weights, Try.underlying22])
    rw [bytesIs] at hb
    unfold reachBytes at hb
    omega
theorem open_Iss_sized {H : Type} {enc : TypeId × Value → H} {W : World} {base fuel : Nat} {spare : Nat → Bool} {held : Bool} {a : Option Addr} {len cap : Nat} {d : DataW H} {ps : List MemPlace}
    (h : DataW.trod enc Try.prog W base spare held fuel 22 [.slice a len cap] = some (d, ps)) (hz : ∀ n ∈ d.weights Try.prog 22, n ≤ reachBytes) : ∃ l, IsIss W a len cap l ∧ len * 24 ≤ 140737488355328 := by
  obtain ⟨l, hl⟩ := open_Iss h
  exact ⟨l, hl, sized_Iss h hz⟩
end RowsO
end Go.Proofs.Ytceflfdpbgnfjaa
