/-
  No cell of these rows narrows 'for every input' (looked for: loops, veiled, ifaces, maps, wideKeys, modest, calm, conditions, laid).
  DERIVED. THE GIVEN ROWS OF THIS SEAT. 9 by the template 'for every input the law returns true; each argument reads behind the call as it read before'; 0 by the template 'total and deterministic' (their statements: YtepnlfnnancnfaaTotals.lean).
  GIVEN WITH THE SEED: the statements are not yours to turn. If you find one false, say at which input.
  Laid BY PROGRAM, IN A SANDBOX (cutbox-rows.mjs): the forced cells as the released guide's own fill.sh prints them over the translation 240667c8e9d75ac5… (all of the seat's roots in one cut). By AI agents, Wed Nov 11 2026. No macro, syntax, notation, axiom, sorry.
-/
import Derived.Test.YtepnlfnnancnfaaChecked
import GoSem.Claim
import GoSem.ClaimJoined
import GoSem.ClaimMapViews
import Derived.JoinedTies
import Derived.KernelRfl
namespace Go.Proofs.Ytepnlfnnancnfaa
/- THE CELL 'sum', in the pinned program and in every row, IS THE sha256 OF THE DUMP (.gsa) THAT YtepnlfnnancnfaaProg.lean LOADS. Nothing in Lean hashes anything: it is a label: what it is worth is what the hold of that sum in a sandbox is worth. -/
noncomputable def Try.pinned : Pinned := { name := "ytepnlfnnancnfaa", sum := "240667c8e9d75ac5253b840778554dc087866b15fa0dde4fa31f1f5515689ae5", checked := Try.checked }
namespace Rows
def none {H : Type} : Left H := { results := [], args := [] }

/-- 'dutylaw.SupplyBounds': WHATEVER THE INPUT: true; the input reads as it did. -/
def supplyBoundsSpec : ChangeSpec := { name := "supplyBounds", fn := fun _ => fun
  | [d1, d2] => { results := [.lit (.bool true)], args := [d1, d2] }
  | _ => none }
def supplyBoundsRow : OpenClaim := { program := "ytepnlfnnancnfaa", sum := "240667c8e9d75ac5253b840778554dc087866b15fa0dde4fa31f1f5515689ae5", func := "dutyroster/dutylaw.SupplyBounds", spec := "supplyBounds", unfollowed := true, recurses := true, apart := false }
def SupplyBoundsSaid : Prop := supplyBoundsRow.holds Try.pinned (OpenSpec.ofChange supplyBoundsSpec)

/-- ITS FALSE NEIGHBOUR: 'it returns false'. Refute it at one input. -/
def supplyBoundsWrong : ChangeSpec := { name := "supplyBounds", fn := fun _ => fun
  | [d1, d2] => { results := [.lit (.bool false)], args := [d1, d2] }
  | _ => none }
def SupplyBoundsWrongFalsely : Prop := supplyBoundsRow.holds Try.pinned (OpenSpec.ofChange supplyBoundsWrong)

/-- 'dutylaw.SupplyWaits': WHATEVER THE INPUT: true; the input reads as it did. -/
def supplyWaitsSpec : ChangeSpec := { name := "supplyWaits", fn := fun _ => fun
  | [d1, d2, d3] => { results := [.lit (.bool true)], args := [d1, d2, d3] }
  | _ => none }
def supplyWaitsRow : OpenClaim := { program := "ytepnlfnnancnfaa", sum := "240667c8e9d75ac5253b840778554dc087866b15fa0dde4fa31f1f5515689ae5", func := "dutyroster/dutylaw.SupplyWaits", spec := "supplyWaits", unfollowed := true, recurses := true, apart := false }
def SupplyWaitsSaid : Prop := supplyWaitsRow.holds Try.pinned (OpenSpec.ofChange supplyWaitsSpec)

/-- ITS FALSE NEIGHBOUR: 'it returns false'. Refute it at one input. -/
def supplyWaitsWrong : ChangeSpec := { name := "supplyWaits", fn := fun _ => fun
  | [d1, d2, d3] => { results := [.lit (.bool false)], args := [d1, d2, d3] }
  | _ => none }
def SupplyWaitsWrongFalsely : Prop := supplyWaitsRow.holds Try.pinned (OpenSpec.ofChange supplyWaitsWrong)

/-- 'dutykeep.SupplyEach': WHATEVER THE INPUT: true; the input reads as it did. -/
def supplyEachSpec : ChangeSpec := { name := "supplyEach", fn := fun _ => fun
  | [d1, d2, d3] => { results := [.lit (.bool true)], args := [d1, d2, d3] }
  | _ => none }
def supplyEachRow : OpenClaim := { program := "ytepnlfnnancnfaa", sum := "240667c8e9d75ac5253b840778554dc087866b15fa0dde4fa31f1f5515689ae5", func := "dutyroster/dutykeep.SupplyEach", spec := "supplyEach", unfollowed := true, recurses := true, apart := false }
def SupplyEachSaid : Prop := supplyEachRow.holds Try.pinned (OpenSpec.ofChange supplyEachSpec)

/-- ITS FALSE NEIGHBOUR: 'it returns false'. Refute it at one input. -/
def supplyEachWrong : ChangeSpec := { name := "supplyEach", fn := fun _ => fun
  | [d1, d2, d3] => { results := [.lit (.bool false)], args := [d1, d2, d3] }
  | _ => none }
def SupplyEachWrongFalsely : Prop := supplyEachRow.holds Try.pinned (OpenSpec.ofChange supplyEachWrong)

/-- 'dutykeep.SupplyAdds': WHATEVER THE INPUT: true; the input reads as it did. -/
def supplyAddsSpec : ChangeSpec := { name := "supplyAdds", fn := fun _ => fun
  | [d1, d2, d3] => { results := [.lit (.bool true)], args := [d1, d2, d3] }
  | _ => none }
def supplyAddsRow : OpenClaim := { program := "ytepnlfnnancnfaa", sum := "240667c8e9d75ac5253b840778554dc087866b15fa0dde4fa31f1f5515689ae5", func := "dutyroster/dutykeep.SupplyAdds", spec := "supplyAdds", unfollowed := true, recurses := true, apart := false }
def SupplyAddsSaid : Prop := supplyAddsRow.holds Try.pinned (OpenSpec.ofChange supplyAddsSpec)

/-- ITS FALSE NEIGHBOUR: 'it returns false'. Refute it at one input. -/
def supplyAddsWrong : ChangeSpec := { name := "supplyAdds", fn := fun _ => fun
  | [d1, d2, d3] => { results := [.lit (.bool false)], args := [d1, d2, d3] }
  | _ => none }
def SupplyAddsWrongFalsely : Prop := supplyAddsRow.holds Try.pinned (OpenSpec.ofChange supplyAddsWrong)

/-- 'dutykeep.SupplyFrame': WHATEVER THE INPUT: true; the input reads as it did. -/
def supplyFrameSpec : ChangeSpec := { name := "supplyFrame", fn := fun _ => fun
  | [d1, d2] => { results := [.lit (.bool true)], args := [d1, d2] }
  | _ => none }
def supplyFrameRow : OpenClaim := { program := "ytepnlfnnancnfaa", sum := "240667c8e9d75ac5253b840778554dc087866b15fa0dde4fa31f1f5515689ae5", func := "dutyroster/dutykeep.SupplyFrame", spec := "supplyFrame", unfollowed := true, recurses := true, apart := false }
def SupplyFrameSaid : Prop := supplyFrameRow.holds Try.pinned (OpenSpec.ofChange supplyFrameSpec)

/-- ITS FALSE NEIGHBOUR: 'it returns false'. Refute it at one input. -/
def supplyFrameWrong : ChangeSpec := { name := "supplyFrame", fn := fun _ => fun
  | [d1, d2] => { results := [.lit (.bool false)], args := [d1, d2] }
  | _ => none }
def SupplyFrameWrongFalsely : Prop := supplyFrameRow.holds Try.pinned (OpenSpec.ofChange supplyFrameWrong)

/-- 'dutykeep.SupplyDual': WHATEVER THE INPUT: true; the input reads as it did. -/
def supplyDualSpec : ChangeSpec := { name := "supplyDual", fn := fun _ => fun
  | [d1, d2] => { results := [.lit (.bool true)], args := [d1, d2] }
  | _ => none }
def supplyDualRow : OpenClaim := { program := "ytepnlfnnancnfaa", sum := "240667c8e9d75ac5253b840778554dc087866b15fa0dde4fa31f1f5515689ae5", func := "dutyroster/dutykeep.SupplyDual", spec := "supplyDual", unfollowed := true, recurses := true, apart := false }
def SupplyDualSaid : Prop := supplyDualRow.holds Try.pinned (OpenSpec.ofChange supplyDualSpec)

/-- ITS FALSE NEIGHBOUR: 'it returns false'. Refute it at one input. -/
def supplyDualWrong : ChangeSpec := { name := "supplyDual", fn := fun _ => fun
  | [d1, d2] => { results := [.lit (.bool false)], args := [d1, d2] }
  | _ => none }
def SupplyDualWrongFalsely : Prop := supplyDualRow.holds Try.pinned (OpenSpec.ofChange supplyDualWrong)

/-- 'dutykeep.SupplyGalois': WHATEVER THE INPUT: true; the input reads as it did. -/
def supplyGaloisSpec : ChangeSpec := { name := "supplyGalois", fn := fun _ => fun
  | [d1, d2, d3] => { results := [.lit (.bool true)], args := [d1, d2, d3] }
  | _ => none }
def supplyGaloisRow : OpenClaim := { program := "ytepnlfnnancnfaa", sum := "240667c8e9d75ac5253b840778554dc087866b15fa0dde4fa31f1f5515689ae5", func := "dutyroster/dutykeep.SupplyGalois", spec := "supplyGalois", unfollowed := true, recurses := true, apart := false }
def SupplyGaloisSaid : Prop := supplyGaloisRow.holds Try.pinned (OpenSpec.ofChange supplyGaloisSpec)

/-- ITS FALSE NEIGHBOUR: 'it returns false'. Refute it at one input. -/
def supplyGaloisWrong : ChangeSpec := { name := "supplyGalois", fn := fun _ => fun
  | [d1, d2, d3] => { results := [.lit (.bool false)], args := [d1, d2, d3] }
  | _ => none }
def SupplyGaloisWrongFalsely : Prop := supplyGaloisRow.holds Try.pinned (OpenSpec.ofChange supplyGaloisWrong)

/-- 'dutykeep.SupplyFrom': WHATEVER THE INPUT: true; the input reads as it did. -/
def supplyFromSpec : ChangeSpec := { name := "supplyFrom", fn := fun _ => fun
  | [d1, d2, d3] => { results := [.lit (.bool true)], args := [d1, d2, d3] }
  | _ => none }
def supplyFromRow : OpenClaim := { program := "ytepnlfnnancnfaa", sum := "240667c8e9d75ac5253b840778554dc087866b15fa0dde4fa31f1f5515689ae5", func := "dutyroster/dutykeep.SupplyFrom", spec := "supplyFrom", unfollowed := true, recurses := true, apart := false }
def SupplyFromSaid : Prop := supplyFromRow.holds Try.pinned (OpenSpec.ofChange supplyFromSpec)

/-- ITS FALSE NEIGHBOUR: 'it returns false'. Refute it at one input. -/
def supplyFromWrong : ChangeSpec := { name := "supplyFrom", fn := fun _ => fun
  | [d1, d2, d3] => { results := [.lit (.bool false)], args := [d1, d2, d3] }
  | _ => none }
def SupplyFromWrongFalsely : Prop := supplyFromRow.holds Try.pinned (OpenSpec.ofChange supplyFromWrong)

/-- 'dutykeep.SpanOwn': WHATEVER THE INPUT: true; the input reads as it did. -/
def spanOwnSpec : ChangeSpec := { name := "spanOwn", fn := fun _ => fun
  | [d1, d2, d3] => { results := [.lit (.bool true)], args := [d1, d2, d3] }
  | _ => none }
def spanOwnRow : OpenClaim := { program := "ytepnlfnnancnfaa", sum := "240667c8e9d75ac5253b840778554dc087866b15fa0dde4fa31f1f5515689ae5", func := "dutyroster/dutykeep.SpanOwn", spec := "spanOwn", unfollowed := true, recurses := true, apart := false }
def SpanOwnSaid : Prop := spanOwnRow.holds Try.pinned (OpenSpec.ofChange spanOwnSpec)

/-- ITS FALSE NEIGHBOUR: 'it returns false'. Refute it at one input. -/
def spanOwnWrong : ChangeSpec := { name := "spanOwn", fn := fun _ => fun
  | [d1, d2, d3] => { results := [.lit (.bool false)], args := [d1, d2, d3] }
  | _ => none }
def SpanOwnWrongFalsely : Prop := spanOwnRow.holds Try.pinned (OpenSpec.ofChange spanOwnWrong)

/- THE SECOND FORM. 'bulk': how many values and letters a reading holds, each counted each time it is reached (what is shared counts as often as it is met; a slice's spare places count too). A statement '..UptoSaid' is the law's where the arguments, and the package variables that the reading takes, are together of bulk at most 1048576: NARROWER than '..Said'. Prove '..Said' where nothing that the law and all that it calls make is longer than what came in: it says more and counts as full. Else prove '..UptoSaid'. A law counts once. -/
mutual
def uptoBulk {H : Type} : DataW H → Nat
  | .lit (.string bytes) => bytes.length + 1
  | .lit _ => 1
  | .nil => 1
  | .ptr d => uptoBulk d + 1
  | .slice elems spare => uptoBulkAll elems + uptoBulkAll spare + 1
  | .agg parts => uptoBulkAll parts + 1
  | .iface _ d => uptoBulk d + 1
  | .map entries => uptoBulkEntries entries + 1
  | .held _ => 1
def uptoBulkAll {H : Type} : List (DataW H) → Nat
  | [] => 0
  | d :: r => uptoBulk d + uptoBulkAll r
def uptoBulkEntries {H : Type} : List (Lit × DataW H) → Nat
  | [] => 0
  | x :: r => uptoBulkEntry x + uptoBulkEntries r
def uptoBulkEntry {H : Type} : Lit × DataW H → Nat
  | (.string bytes, d) => bytes.length + uptoBulk d + 1
  | (_, d) => uptoBulk d + 1
 end
def uptoSmall : (H : Type) → List (DataW H) → Bool := fun _ ds => decide (uptoBulkAll ds ≤ 1048576)
def OpenSpec.upto (s : _root_.Go.ChangeSpec) : _root_.Go.OpenSpec := { _root_.Go.OpenSpec.ofChange s with cond := some uptoSmall }

/-- 'dutylaw.SupplyBounds', WHERE WHAT IT READS IS OF BULK AT MOST 1048576: true; the input reads as it did. -/
def supplyBoundsUptoRow : OpenClaim := { program := "ytepnlfnnancnfaa", sum := "240667c8e9d75ac5253b840778554dc087866b15fa0dde4fa31f1f5515689ae5", func := "dutyroster/dutylaw.SupplyBounds", spec := "supplyBounds", unfollowed := true, recurses := true, apart := false, narrowed := true }
def SupplyBoundsUptoSaid : Prop := supplyBoundsUptoRow.holds Try.pinned (OpenSpec.upto supplyBoundsSpec)

/-- 'dutylaw.SupplyWaits', WHERE WHAT IT READS IS OF BULK AT MOST 1048576: true; the input reads as it did. -/
def supplyWaitsUptoRow : OpenClaim := { program := "ytepnlfnnancnfaa", sum := "240667c8e9d75ac5253b840778554dc087866b15fa0dde4fa31f1f5515689ae5", func := "dutyroster/dutylaw.SupplyWaits", spec := "supplyWaits", unfollowed := true, recurses := true, apart := false, narrowed := true }
def SupplyWaitsUptoSaid : Prop := supplyWaitsUptoRow.holds Try.pinned (OpenSpec.upto supplyWaitsSpec)

/-- 'dutykeep.SupplyEach', WHERE WHAT IT READS IS OF BULK AT MOST 1048576: true; the input reads as it did. -/
def supplyEachUptoRow : OpenClaim := { program := "ytepnlfnnancnfaa", sum := "240667c8e9d75ac5253b840778554dc087866b15fa0dde4fa31f1f5515689ae5", func := "dutyroster/dutykeep.SupplyEach", spec := "supplyEach", unfollowed := true, recurses := true, apart := false, narrowed := true }
def SupplyEachUptoSaid : Prop := supplyEachUptoRow.holds Try.pinned (OpenSpec.upto supplyEachSpec)

/-- 'dutykeep.SupplyAdds', WHERE WHAT IT READS IS OF BULK AT MOST 1048576: true; the input reads as it did. -/
def supplyAddsUptoRow : OpenClaim := { program := "ytepnlfnnancnfaa", sum := "240667c8e9d75ac5253b840778554dc087866b15fa0dde4fa31f1f5515689ae5", func := "dutyroster/dutykeep.SupplyAdds", spec := "supplyAdds", unfollowed := true, recurses := true, apart := false, narrowed := true }
def SupplyAddsUptoSaid : Prop := supplyAddsUptoRow.holds Try.pinned (OpenSpec.upto supplyAddsSpec)

/-- 'dutykeep.SupplyFrame', WHERE WHAT IT READS IS OF BULK AT MOST 1048576: true; the input reads as it did. -/
def supplyFrameUptoRow : OpenClaim := { program := "ytepnlfnnancnfaa", sum := "240667c8e9d75ac5253b840778554dc087866b15fa0dde4fa31f1f5515689ae5", func := "dutyroster/dutykeep.SupplyFrame", spec := "supplyFrame", unfollowed := true, recurses := true, apart := false, narrowed := true }
def SupplyFrameUptoSaid : Prop := supplyFrameUptoRow.holds Try.pinned (OpenSpec.upto supplyFrameSpec)

/-- 'dutykeep.SupplyDual', WHERE WHAT IT READS IS OF BULK AT MOST 1048576: true; the input reads as it did. -/
def supplyDualUptoRow : OpenClaim := { program := "ytepnlfnnancnfaa", sum := "240667c8e9d75ac5253b840778554dc087866b15fa0dde4fa31f1f5515689ae5", func := "dutyroster/dutykeep.SupplyDual", spec := "supplyDual", unfollowed := true, recurses := true, apart := false, narrowed := true }
def SupplyDualUptoSaid : Prop := supplyDualUptoRow.holds Try.pinned (OpenSpec.upto supplyDualSpec)

/-- 'dutykeep.SupplyGalois', WHERE WHAT IT READS IS OF BULK AT MOST 1048576: true; the input reads as it did. -/
def supplyGaloisUptoRow : OpenClaim := { program := "ytepnlfnnancnfaa", sum := "240667c8e9d75ac5253b840778554dc087866b15fa0dde4fa31f1f5515689ae5", func := "dutyroster/dutykeep.SupplyGalois", spec := "supplyGalois", unfollowed := true, recurses := true, apart := false, narrowed := true }
def SupplyGaloisUptoSaid : Prop := supplyGaloisUptoRow.holds Try.pinned (OpenSpec.upto supplyGaloisSpec)

/-- 'dutykeep.SupplyFrom', WHERE WHAT IT READS IS OF BULK AT MOST 1048576: true; the input reads as it did. -/
def supplyFromUptoRow : OpenClaim := { program := "ytepnlfnnancnfaa", sum := "240667c8e9d75ac5253b840778554dc087866b15fa0dde4fa31f1f5515689ae5", func := "dutyroster/dutykeep.SupplyFrom", spec := "supplyFrom", unfollowed := true, recurses := true, apart := false, narrowed := true }
def SupplyFromUptoSaid : Prop := supplyFromUptoRow.holds Try.pinned (OpenSpec.upto supplyFromSpec)

/-- 'dutykeep.SpanOwn', WHERE WHAT IT READS IS OF BULK AT MOST 1048576: true; the input reads as it did. -/
def spanOwnUptoRow : OpenClaim := { program := "ytepnlfnnancnfaa", sum := "240667c8e9d75ac5253b840778554dc087866b15fa0dde4fa31f1f5515689ae5", func := "dutyroster/dutykeep.SpanOwn", spec := "spanOwn", unfollowed := true, recurses := true, apart := false, narrowed := true }
def SpanOwnUptoSaid : Prop := spanOwnUptoRow.holds Try.pinned (OpenSpec.upto spanOwnSpec)

end Rows
end Go.Proofs.Ytepnlfnnancnfaa
