/-
  No cell of these rows narrows 'for every input' (looked for: loops, veiled, ifaces, maps, wideKeys, modest, calm, conditions, laid).
  DERIVED. THE GIVEN ROWS OF THIS SEAT. 6 by the template 'for every input the law returns true; each argument reads behind the call as it read before'; 0 by the template 'total and deterministic' (their statements: YtnbfadfhpegddaaTotals.lean).
  GIVEN WITH THE SEED: the statements are not yours to turn. If you find one false, say at which input.
  Laid BY PROGRAM, IN A SANDBOX (cutbox-rows.mjs): the forced cells as the released guide's own fill.sh prints them over the translation 9b37dd682750caaa… (all of the seat's roots in one cut). By AI agents, Wed Nov 11 2026. No macro, syntax, notation, axiom, sorry.
-/
import Derived.Test.YtnbfadfhpegddaaChecked
import GoSem.Claim
import GoSem.ClaimJoined
import GoSem.ClaimMapViews
import Derived.JoinedTies
import Derived.KernelRfl
namespace Go.Proofs.Ytnbfadfhpegddaa
/- THE CELL 'sum', in the pinned program and in every row, IS THE sha256 OF THE DUMP (.gsa) THAT YtnbfadfhpegddaaProg.lean LOADS. Nothing in Lean hashes anything: it is a label: what it is worth is what the hold of that sum in a sandbox is worth. -/
noncomputable def Try.pinned : Pinned := { name := "ytnbfadfhpegddaa", sum := "9b37dd682750caaa66d97a83bbb7016458e9db1f1dab5c4e573b96f7f3fc490f", checked := Try.checked }
namespace Rows
def none {H : Type} : Left H := { results := [], args := [] }

/-- 'dutylaw.RankSays': WHATEVER THE INPUT: true; the input reads as it did. -/
def rankSaysSpec : ChangeSpec := { name := "rankSays", fn := fun _ => fun
  | [d1, d2, d3] => { results := [.lit (.bool true)], args := [d1, d2, d3] }
  | _ => none }
def rankSaysRow : OpenClaim := { program := "ytnbfadfhpegddaa", sum := "9b37dd682750caaa66d97a83bbb7016458e9db1f1dab5c4e573b96f7f3fc490f", func := "dutyroster/dutylaw.RankSays", spec := "rankSays", unfollowed := true, recurses := true, apart := false }
def RankSaysSaid : Prop := rankSaysRow.holds Try.pinned (OpenSpec.ofChange rankSaysSpec)

/-- ITS FALSE NEIGHBOUR: 'it returns false'. Refute it at one input. -/
def rankSaysWrong : ChangeSpec := { name := "rankSays", fn := fun _ => fun
  | [d1, d2, d3] => { results := [.lit (.bool false)], args := [d1, d2, d3] }
  | _ => none }
def RankSaysWrongFalsely : Prop := rankSaysRow.holds Try.pinned (OpenSpec.ofChange rankSaysWrong)

/-- 'dutylaw.RankFinds': WHATEVER THE INPUT: true; the input reads as it did. -/
def rankFindsSpec : ChangeSpec := { name := "rankFinds", fn := fun _ => fun
  | [d1, d2] => { results := [.lit (.bool true)], args := [d1, d2] }
  | _ => none }
def rankFindsRow : OpenClaim := { program := "ytnbfadfhpegddaa", sum := "9b37dd682750caaa66d97a83bbb7016458e9db1f1dab5c4e573b96f7f3fc490f", func := "dutyroster/dutylaw.RankFinds", spec := "rankFinds", unfollowed := true, recurses := true, apart := false }
def RankFindsSaid : Prop := rankFindsRow.holds Try.pinned (OpenSpec.ofChange rankFindsSpec)

/-- ITS FALSE NEIGHBOUR: 'it returns false'. Refute it at one input. -/
def rankFindsWrong : ChangeSpec := { name := "rankFinds", fn := fun _ => fun
  | [d1, d2] => { results := [.lit (.bool false)], args := [d1, d2] }
  | _ => none }
def RankFindsWrongFalsely : Prop := rankFindsRow.holds Try.pinned (OpenSpec.ofChange rankFindsWrong)

/-- 'dutykeep.RankAudsley': WHATEVER THE INPUT: true; the input reads as it did. -/
def rankAudsleySpec : ChangeSpec := { name := "rankAudsley", fn := fun _ => fun
  | [d1, d2, d3] => { results := [.lit (.bool true)], args := [d1, d2, d3] }
  | _ => none }
def rankAudsleyRow : OpenClaim := { program := "ytnbfadfhpegddaa", sum := "9b37dd682750caaa66d97a83bbb7016458e9db1f1dab5c4e573b96f7f3fc490f", func := "dutyroster/dutykeep.RankAudsley", spec := "rankAudsley", unfollowed := true, recurses := true, apart := false }
def RankAudsleySaid : Prop := rankAudsleyRow.holds Try.pinned (OpenSpec.ofChange rankAudsleySpec)

/-- ITS FALSE NEIGHBOUR: 'it returns false'. Refute it at one input. -/
def rankAudsleyWrong : ChangeSpec := { name := "rankAudsley", fn := fun _ => fun
  | [d1, d2, d3] => { results := [.lit (.bool false)], args := [d1, d2, d3] }
  | _ => none }
def RankAudsleyWrongFalsely : Prop := rankAudsleyRow.holds Try.pinned (OpenSpec.ofChange rankAudsleyWrong)

/-- 'dutykeep.RankDue': WHATEVER THE INPUT: true; the input reads as it did. -/
def rankDueSpec : ChangeSpec := { name := "rankDue", fn := fun _ => fun
  | [d1, d2, d3] => { results := [.lit (.bool true)], args := [d1, d2, d3] }
  | _ => none }
def rankDueRow : OpenClaim := { program := "ytnbfadfhpegddaa", sum := "9b37dd682750caaa66d97a83bbb7016458e9db1f1dab5c4e573b96f7f3fc490f", func := "dutyroster/dutykeep.RankDue", spec := "rankDue", unfollowed := true, recurses := true, apart := false }
def RankDueSaid : Prop := rankDueRow.holds Try.pinned (OpenSpec.ofChange rankDueSpec)

/-- ITS FALSE NEIGHBOUR: 'it returns false'. Refute it at one input. -/
def rankDueWrong : ChangeSpec := { name := "rankDue", fn := fun _ => fun
  | [d1, d2, d3] => { results := [.lit (.bool false)], args := [d1, d2, d3] }
  | _ => none }
def RankDueWrongFalsely : Prop := rankDueRow.holds Try.pinned (OpenSpec.ofChange rankDueWrong)

/-- 'dutykeep.RankEvery': WHATEVER THE INPUT: true; the input reads as it did. -/
def rankEverySpec : ChangeSpec := { name := "rankEvery", fn := fun _ => fun
  | [d1, d2, d3] => { results := [.lit (.bool true)], args := [d1, d2, d3] }
  | _ => none }
def rankEveryRow : OpenClaim := { program := "ytnbfadfhpegddaa", sum := "9b37dd682750caaa66d97a83bbb7016458e9db1f1dab5c4e573b96f7f3fc490f", func := "dutyroster/dutykeep.RankEvery", spec := "rankEvery", unfollowed := true, recurses := true, apart := false }
def RankEverySaid : Prop := rankEveryRow.holds Try.pinned (OpenSpec.ofChange rankEverySpec)

/-- ITS FALSE NEIGHBOUR: 'it returns false'. Refute it at one input. -/
def rankEveryWrong : ChangeSpec := { name := "rankEvery", fn := fun _ => fun
  | [d1, d2, d3] => { results := [.lit (.bool false)], args := [d1, d2, d3] }
  | _ => none }
def RankEveryWrongFalsely : Prop := rankEveryRow.holds Try.pinned (OpenSpec.ofChange rankEveryWrong)

/-- 'dutykeep.RankOrder': WHATEVER THE INPUT: true; the input reads as it did. -/
def rankOrderSpec : ChangeSpec := { name := "rankOrder", fn := fun _ => fun
  | [d1, d2] => { results := [.lit (.bool true)], args := [d1, d2] }
  | _ => none }
def rankOrderRow : OpenClaim := { program := "ytnbfadfhpegddaa", sum := "9b37dd682750caaa66d97a83bbb7016458e9db1f1dab5c4e573b96f7f3fc490f", func := "dutyroster/dutykeep.RankOrder", spec := "rankOrder", unfollowed := true, recurses := true, apart := false }
def RankOrderSaid : Prop := rankOrderRow.holds Try.pinned (OpenSpec.ofChange rankOrderSpec)

/-- ITS FALSE NEIGHBOUR: 'it returns false'. Refute it at one input. -/
def rankOrderWrong : ChangeSpec := { name := "rankOrder", fn := fun _ => fun
  | [d1, d2] => { results := [.lit (.bool false)], args := [d1, d2] }
  | _ => none }
def RankOrderWrongFalsely : Prop := rankOrderRow.holds Try.pinned (OpenSpec.ofChange rankOrderWrong)

/- THE SECOND FORM. 'bulk': how many values and letters a reading holds, each counted each time it is reached (what is shared counts as often as it is met; a slice's spare places count too). A statement '..UptoSaid' is the law's where the arguments, and the package variables that the reading takes, are together of bulk at most 1048576: NARROWER than '..Said'. Prove '..Said' where nothing that the law and all that it calls make is longer than what came in: it says more and counts as full. Else prove '..UptoSaid'. A law counts once. -/
mutual
def uptoBulk {H : Type} : DataW H → Nat
  | .lit (.string bytes) => bytes.length + 1
  | .lit _ => 1
  | .nil => 1
  | .ptr d => uptoBulk d + 1
  | .slice elems spare => uptoBulkAll elems + uptoBulkAll spare + 1
  | .agg parts => uptoBulkAll parts + 1
  | .iface _ d => uptoBulk d + 1
  | .map entries => uptoBulkEntries entries + 1
  | .held _ => 1
def uptoBulkAll {H : Type} : List (DataW H) → Nat
  | [] => 0
  | d :: r => uptoBulk d + uptoBulkAll r
def uptoBulkEntries {H : Type} : List (Lit × DataW H) → Nat
  | [] => 0
  | x :: r => uptoBulkEntry x + uptoBulkEntries r
def uptoBulkEntry {H : Type} : Lit × DataW H → Nat
  | (.string bytes, d) => bytes.length + uptoBulk d + 1
  | (_, d) => uptoBulk d + 1
 end
def uptoSmall : (H : Type) → List (DataW H) → Bool := fun _ ds => decide (uptoBulkAll ds ≤ 1048576)
def OpenSpec.upto (s : _root_.Go.ChangeSpec) : _root_.Go.OpenSpec := { _root_.Go.OpenSpec.ofChange s with cond := some uptoSmall }

/-- 'dutylaw.RankSays', WHERE WHAT IT READS IS OF BULK AT MOST 1048576: true; the input reads as it did. -/
def rankSaysUptoRow : OpenClaim := { program := "ytnbfadfhpegddaa", sum := "9b37dd682750caaa66d97a83bbb7016458e9db1f1dab5c4e573b96f7f3fc490f", func := "dutyroster/dutylaw.RankSays", spec := "rankSays", unfollowed := true, recurses := true, apart := false, narrowed := true }
def RankSaysUptoSaid : Prop := rankSaysUptoRow.holds Try.pinned (OpenSpec.upto rankSaysSpec)

/-- 'dutylaw.RankFinds', WHERE WHAT IT READS IS OF BULK AT MOST 1048576: true; the input reads as it did. -/
def rankFindsUptoRow : OpenClaim := { program := "ytnbfadfhpegddaa", sum := "9b37dd682750caaa66d97a83bbb7016458e9db1f1dab5c4e573b96f7f3fc490f", func := "dutyroster/dutylaw.RankFinds", spec := "rankFinds", unfollowed := true, recurses := true, apart := false, narrowed := true }
def RankFindsUptoSaid : Prop := rankFindsUptoRow.holds Try.pinned (OpenSpec.upto rankFindsSpec)

/-- 'dutykeep.RankAudsley', WHERE WHAT IT READS IS OF BULK AT MOST 1048576: true; the input reads as it did. -/
def rankAudsleyUptoRow : OpenClaim := { program := "ytnbfadfhpegddaa", sum := "9b37dd682750caaa66d97a83bbb7016458e9db1f1dab5c4e573b96f7f3fc490f", func := "dutyroster/dutykeep.RankAudsley", spec := "rankAudsley", unfollowed := true, recurses := true, apart := false, narrowed := true }
def RankAudsleyUptoSaid : Prop := rankAudsleyUptoRow.holds Try.pinned (OpenSpec.upto rankAudsleySpec)

/-- 'dutykeep.RankDue', WHERE WHAT IT READS IS OF BULK AT MOST 1048576: true; the input reads as it did. -/
def rankDueUptoRow : OpenClaim := { program := "ytnbfadfhpegddaa", sum := "9b37dd682750caaa66d97a83bbb7016458e9db1f1dab5c4e573b96f7f3fc490f", func := "dutyroster/dutykeep.RankDue", spec := "rankDue", unfollowed := true, recurses := true, apart := false, narrowed := true }
def RankDueUptoSaid : Prop := rankDueUptoRow.holds Try.pinned (OpenSpec.upto rankDueSpec)

/-- 'dutykeep.RankEvery', WHERE WHAT IT READS IS OF BULK AT MOST 1048576: true; the input reads as it did. -/
def rankEveryUptoRow : OpenClaim := { program := "ytnbfadfhpegddaa", sum := "9b37dd682750caaa66d97a83bbb7016458e9db1f1dab5c4e573b96f7f3fc490f", func := "dutyroster/dutykeep.RankEvery", spec := "rankEvery", unfollowed := true, recurses := true, apart := false, narrowed := true }
def RankEveryUptoSaid : Prop := rankEveryUptoRow.holds Try.pinned (OpenSpec.upto rankEverySpec)

/-- 'dutykeep.RankOrder', WHERE WHAT IT READS IS OF BULK AT MOST 1048576: true; the input reads as it did. -/
def rankOrderUptoRow : OpenClaim := { program := "ytnbfadfhpegddaa", sum := "9b37dd682750caaa66d97a83bbb7016458e9db1f1dab5c4e573b96f7f3fc490f", func := "dutyroster/dutykeep.RankOrder", spec := "rankOrder", unfollowed := true, recurses := true, apart := false, narrowed := true }
def RankOrderUptoSaid : Prop := rankOrderUptoRow.holds Try.pinned (OpenSpec.upto rankOrderSpec)

end Rows
end Go.Proofs.Ytnbfadfhpegddaa
