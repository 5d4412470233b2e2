/- The form's own reach bounds the lengths of the rows of api.Task that are read (gen_sz.py writes this text). -/
import Derived.Test.YtnbfadfhpegddaaOpenTk
import Derived.SizedLaws
set_option linter.unusedVariables false
namespace Go.Proofs.Ytnbfadfhpegddaa
open Go.RowKit Go.ChangeShapes Go.WideShapes Go.ChangeAt
open SpanM SpanC
namespace RowsO
theorem bytesTk : Try.prog.bytesOf 38 = 24 := by kernel_rfl
theorem sized_Tks {H : Type} {enc : TypeId × Value → H} {W : World} {base fuel : Nat} {spare : Nat → Bool} {held : Bool} {a : Option Addr} {len cap : Nat} {x : DataW H × List MemPlace}
    (h : DataW.trod enc Try.prog W base spare held fuel 22 [.slice a len cap] = some x) (hz : ∀ n ∈ x.1.weights Try.prog 22, n ≤ reachBytes) : len * 24 ≤ 140737488355328 := by
  rcases Deep.open_slice Try.underlying22 h with ⟨hcs, _⟩ | ⟨p, n, c, m, k, D, Pl, hcs, _, hl, hm, hmm, hx, _⟩
  · simp at hcs
    omega
  · simp at hcs
    obtain ⟨rfl, rfl, rfl⟩ := hcs
    subst hx
    have hb := hz ((len + (m - len)) * Try.prog.bytesOf 38) (by simp [DataW.weights, Try.underlying22])
    rw [bytesTk] at hb
    unfold reachBytes at hb
    omega
theorem open_Tks_sized {H : Type} {enc : TypeId × Value → H} {W : World} {base fuel : Nat} {spare : Nat → Bool} {held : Bool} {a : Option Addr} {len cap : Nat} {d : DataW H} {ps : List MemPlace}
    (h : DataW.trod enc Try.prog W base spare held fuel 22 [.slice a len cap] = some (d, ps)) (hz : ∀ n ∈ d.weights Try.prog 22, n ≤ reachBytes) : ∃ l, IsTks W a len cap l ∧ len * 24 ≤ 140737488355328 := by
  obtain ⟨l, hl⟩ := open_Tks h
  exact ⟨l, hl, sized_Tks h hz⟩
end RowsO
end Go.Proofs.Ytnbfadfhpegddaa
