/-
  No cell of these rows narrows 'for every input' (looked for: loops, veiled, ifaces, maps, wideKeys, modest, calm, conditions, laid).
  DERIVED. THE GIVEN ROWS OF THIS SEAT. 7 by the template 'for every input the law returns true; each argument reads behind the call as it read before'; 0 by the template 'total and deterministic' (their statements: YtpeapmefnabhfaaTotals.lean).
  GIVEN WITH THE SEED: the statements are not yours to turn. If you find one false, say at which input.
  Laid BY PROGRAM, IN A SANDBOX (cutbox-rows.mjs): the forced cells as the released guide's own fill.sh prints them over the translation 4296bd8a71bba09f… (all of the seat's roots in one cut). By AI agents, Wed Nov 11 2026. No macro, syntax, notation, axiom, sorry.
-/
import Derived.Test.YtpeapmefnabhfaaChecked
import GoSem.Claim
import GoSem.ClaimJoined
import GoSem.ClaimMapViews
import Derived.JoinedTies
import Derived.KernelRfl
namespace Go.Proofs.Ytpeapmefnabhfaa
/- THE CELL 'sum', in the pinned program and in every row, IS THE sha256 OF THE DUMP (.gsa) THAT YtpeapmefnabhfaaProg.lean LOADS. Nothing in Lean hashes anything: it is a label: what it is worth is what the hold of that sum in a sandbox is worth. -/
noncomputable def Try.pinned : Pinned := { name := "ytpeapmefnabhfaa", sum := "4296bd8a71bba09f3e90cbb5904ec3891bebafe28b9fdce108068343da62c218", checked := Try.checked }
namespace Rows
def none {H : Type} : Left H := { results := [], args := [] }

/-- 'dutylaw.TaskTells': WHATEVER THE INPUT: true; the input reads as it did. -/
def taskTellsSpec : ChangeSpec := { name := "taskTells", fn := fun _ => fun
  | [d1, d2] => { results := [.lit (.bool true)], args := [d1, d2] }
  | _ => none }
def taskTellsRow : OpenClaim := { program := "ytpeapmefnabhfaa", sum := "4296bd8a71bba09f3e90cbb5904ec3891bebafe28b9fdce108068343da62c218", func := "dutyroster/dutylaw.TaskTells", spec := "taskTells", recurses := true, apart := false }
def TaskTellsSaid : Prop := taskTellsRow.holds Try.pinned (OpenSpec.ofChange taskTellsSpec)

/-- ITS FALSE NEIGHBOUR: 'it returns false'. Refute it at one input. -/
def taskTellsWrong : ChangeSpec := { name := "taskTells", fn := fun _ => fun
  | [d1, d2] => { results := [.lit (.bool false)], args := [d1, d2] }
  | _ => none }
def TaskTellsWrongFalsely : Prop := taskTellsRow.holds Try.pinned (OpenSpec.ofChange taskTellsWrong)

/-- 'dutylaw.TaskFits': WHATEVER THE INPUT: true; the input reads as it did. -/
def taskFitsSpec : ChangeSpec := { name := "taskFits", fn := fun _ => fun
  | [d1, d2] => { results := [.lit (.bool true)], args := [d1, d2] }
  | _ => none }
def taskFitsRow : OpenClaim := { program := "ytpeapmefnabhfaa", sum := "4296bd8a71bba09f3e90cbb5904ec3891bebafe28b9fdce108068343da62c218", func := "dutyroster/dutylaw.TaskFits", spec := "taskFits", unfollowed := true, recurses := true, apart := false }
def TaskFitsSaid : Prop := taskFitsRow.holds Try.pinned (OpenSpec.ofChange taskFitsSpec)

/-- ITS FALSE NEIGHBOUR: 'it returns false'. Refute it at one input. -/
def taskFitsWrong : ChangeSpec := { name := "taskFits", fn := fun _ => fun
  | [d1, d2] => { results := [.lit (.bool false)], args := [d1, d2] }
  | _ => none }
def TaskFitsWrongFalsely : Prop := taskFitsRow.holds Try.pinned (OpenSpec.ofChange taskFitsWrong)

/-- 'dutykeep.TaskRound': WHATEVER THE INPUT: true; the input reads as it did. -/
def taskRoundSpec : ChangeSpec := { name := "taskRound", fn := fun _ => fun
  | [d1, d2] => { results := [.lit (.bool true)], args := [d1, d2] }
  | _ => none }
def taskRoundRow : OpenClaim := { program := "ytpeapmefnabhfaa", sum := "4296bd8a71bba09f3e90cbb5904ec3891bebafe28b9fdce108068343da62c218", func := "dutyroster/dutykeep.TaskRound", spec := "taskRound", unfollowed := true, recurses := true, apart := false }
def TaskRoundSaid : Prop := taskRoundRow.holds Try.pinned (OpenSpec.ofChange taskRoundSpec)

/-- ITS FALSE NEIGHBOUR: 'it returns false'. Refute it at one input. -/
def taskRoundWrong : ChangeSpec := { name := "taskRound", fn := fun _ => fun
  | [d1, d2] => { results := [.lit (.bool false)], args := [d1, d2] }
  | _ => none }
def TaskRoundWrongFalsely : Prop := taskRoundRow.holds Try.pinned (OpenSpec.ofChange taskRoundWrong)

/-- 'dutykeep.TaskDemand': WHATEVER THE INPUT: true; the input reads as it did. -/
def taskDemandSpec : ChangeSpec := { name := "taskDemand", fn := fun _ => fun
  | [d1, d2, d3, d4] => { results := [.lit (.bool true)], args := [d1, d2, d3, d4] }
  | _ => none }
def taskDemandRow : OpenClaim := { program := "ytpeapmefnabhfaa", sum := "4296bd8a71bba09f3e90cbb5904ec3891bebafe28b9fdce108068343da62c218", func := "dutyroster/dutykeep.TaskDemand", spec := "taskDemand", unfollowed := true, recurses := true, apart := false }
def TaskDemandSaid : Prop := taskDemandRow.holds Try.pinned (OpenSpec.ofChange taskDemandSpec)

/-- ITS FALSE NEIGHBOUR: 'it returns false'. Refute it at one input. -/
def taskDemandWrong : ChangeSpec := { name := "taskDemand", fn := fun _ => fun
  | [d1, d2, d3, d4] => { results := [.lit (.bool false)], args := [d1, d2, d3, d4] }
  | _ => none }
def TaskDemandWrongFalsely : Prop := taskDemandRow.holds Try.pinned (OpenSpec.ofChange taskDemandWrong)

/-- 'dutykeep.TaskFit': WHATEVER THE INPUT: true; the input reads as it did. -/
def taskFitSpec : ChangeSpec := { name := "taskFit", fn := fun _ => fun
  | [d1, d2, d3] => { results := [.lit (.bool true)], args := [d1, d2, d3] }
  | _ => none }
def taskFitRow : OpenClaim := { program := "ytpeapmefnabhfaa", sum := "4296bd8a71bba09f3e90cbb5904ec3891bebafe28b9fdce108068343da62c218", func := "dutyroster/dutykeep.TaskFit", spec := "taskFit", unfollowed := true, recurses := true, apart := false }
def TaskFitSaid : Prop := taskFitRow.holds Try.pinned (OpenSpec.ofChange taskFitSpec)

/-- ITS FALSE NEIGHBOUR: 'it returns false'. Refute it at one input. -/
def taskFitWrong : ChangeSpec := { name := "taskFit", fn := fun _ => fun
  | [d1, d2, d3] => { results := [.lit (.bool false)], args := [d1, d2, d3] }
  | _ => none }
def TaskFitWrongFalsely : Prop := taskFitRow.holds Try.pinned (OpenSpec.ofChange taskFitWrong)

/-- 'dutykeep.TaskLess': WHATEVER THE INPUT: true; the input reads as it did. -/
def taskLessSpec : ChangeSpec := { name := "taskLess", fn := fun _ => fun
  | [d1, d2, d3, d4, d5] => { results := [.lit (.bool true)], args := [d1, d2, d3, d4, d5] }
  | _ => none }
def taskLessRow : OpenClaim := { program := "ytpeapmefnabhfaa", sum := "4296bd8a71bba09f3e90cbb5904ec3891bebafe28b9fdce108068343da62c218", func := "dutyroster/dutykeep.TaskLess", spec := "taskLess", unfollowed := true, recurses := true, apart := false }
def TaskLessSaid : Prop := taskLessRow.holds Try.pinned (OpenSpec.ofChange taskLessSpec)

/-- ITS FALSE NEIGHBOUR: 'it returns false'. Refute it at one input. -/
def taskLessWrong : ChangeSpec := { name := "taskLess", fn := fun _ => fun
  | [d1, d2, d3, d4, d5] => { results := [.lit (.bool false)], args := [d1, d2, d3, d4, d5] }
  | _ => none }
def TaskLessWrongFalsely : Prop := taskLessRow.holds Try.pinned (OpenSpec.ofChange taskLessWrong)

/-- 'dutykeep.TaskWhole': WHATEVER THE INPUT: true; the input reads as it did. -/
def taskWholeSpec : ChangeSpec := { name := "taskWhole", fn := fun _ => fun
  | [d1, d2] => { results := [.lit (.bool true)], args := [d1, d2] }
  | _ => none }
def taskWholeRow : OpenClaim := { program := "ytpeapmefnabhfaa", sum := "4296bd8a71bba09f3e90cbb5904ec3891bebafe28b9fdce108068343da62c218", func := "dutyroster/dutykeep.TaskWhole", spec := "taskWhole", unfollowed := true, recurses := true, apart := false }
def TaskWholeSaid : Prop := taskWholeRow.holds Try.pinned (OpenSpec.ofChange taskWholeSpec)

/-- ITS FALSE NEIGHBOUR: 'it returns false'. Refute it at one input. -/
def taskWholeWrong : ChangeSpec := { name := "taskWhole", fn := fun _ => fun
  | [d1, d2] => { results := [.lit (.bool false)], args := [d1, d2] }
  | _ => none }
def TaskWholeWrongFalsely : Prop := taskWholeRow.holds Try.pinned (OpenSpec.ofChange taskWholeWrong)

/- THE SECOND FORM. 'bulk': how many values and letters a reading holds, each counted each time it is reached (what is shared counts as often as it is met; a slice's spare places count too). A statement '..UptoSaid' is the law's where the arguments, and the package variables that the reading takes, are together of bulk at most 1048576: NARROWER than '..Said'. Prove '..Said' where nothing that the law and all that it calls make is longer than what came in: it says more and counts as full. Else prove '..UptoSaid'. A law counts once. -/
mutual
def uptoBulk {H : Type} : DataW H → Nat
  | .lit (.string bytes) => bytes.length + 1
  | .lit _ => 1
  | .nil => 1
  | .ptr d => uptoBulk d + 1
  | .slice elems spare => uptoBulkAll elems + uptoBulkAll spare + 1
  | .agg parts => uptoBulkAll parts + 1
  | .iface _ d => uptoBulk d + 1
  | .map entries => uptoBulkEntries entries + 1
  | .held _ => 1
def uptoBulkAll {H : Type} : List (DataW H) → Nat
  | [] => 0
  | d :: r => uptoBulk d + uptoBulkAll r
def uptoBulkEntries {H : Type} : List (Lit × DataW H) → Nat
  | [] => 0
  | x :: r => uptoBulkEntry x + uptoBulkEntries r
def uptoBulkEntry {H : Type} : Lit × DataW H → Nat
  | (.string bytes, d) => bytes.length + uptoBulk d + 1
  | (_, d) => uptoBulk d + 1
 end
def uptoSmall : (H : Type) → List (DataW H) → Bool := fun _ ds => decide (uptoBulkAll ds ≤ 1048576)
def OpenSpec.upto (s : _root_.Go.ChangeSpec) : _root_.Go.OpenSpec := { _root_.Go.OpenSpec.ofChange s with cond := some uptoSmall }

/-- 'dutylaw.TaskTells', WHERE WHAT IT READS IS OF BULK AT MOST 1048576: true; the input reads as it did. -/
def taskTellsUptoRow : OpenClaim := { program := "ytpeapmefnabhfaa", sum := "4296bd8a71bba09f3e90cbb5904ec3891bebafe28b9fdce108068343da62c218", func := "dutyroster/dutylaw.TaskTells", spec := "taskTells", recurses := true, apart := false, narrowed := true }
def TaskTellsUptoSaid : Prop := taskTellsUptoRow.holds Try.pinned (OpenSpec.upto taskTellsSpec)

/-- 'dutylaw.TaskFits', WHERE WHAT IT READS IS OF BULK AT MOST 1048576: true; the input reads as it did. -/
def taskFitsUptoRow : OpenClaim := { program := "ytpeapmefnabhfaa", sum := "4296bd8a71bba09f3e90cbb5904ec3891bebafe28b9fdce108068343da62c218", func := "dutyroster/dutylaw.TaskFits", spec := "taskFits", unfollowed := true, recurses := true, apart := false, narrowed := true }
def TaskFitsUptoSaid : Prop := taskFitsUptoRow.holds Try.pinned (OpenSpec.upto taskFitsSpec)

/-- 'dutykeep.TaskRound', WHERE WHAT IT READS IS OF BULK AT MOST 1048576: true; the input reads as it did. -/
def taskRoundUptoRow : OpenClaim := { program := "ytpeapmefnabhfaa", sum := "4296bd8a71bba09f3e90cbb5904ec3891bebafe28b9fdce108068343da62c218", func := "dutyroster/dutykeep.TaskRound", spec := "taskRound", unfollowed := true, recurses := true, apart := false, narrowed := true }
def TaskRoundUptoSaid : Prop := taskRoundUptoRow.holds Try.pinned (OpenSpec.upto taskRoundSpec)

/-- 'dutykeep.TaskDemand', WHERE WHAT IT READS IS OF BULK AT MOST 1048576: true; the input reads as it did. -/
def taskDemandUptoRow : OpenClaim := { program := "ytpeapmefnabhfaa", sum := "4296bd8a71bba09f3e90cbb5904ec3891bebafe28b9fdce108068343da62c218", func := "dutyroster/dutykeep.TaskDemand", spec := "taskDemand", unfollowed := true, recurses := true, apart := false, narrowed := true }
def TaskDemandUptoSaid : Prop := taskDemandUptoRow.holds Try.pinned (OpenSpec.upto taskDemandSpec)

/-- 'dutykeep.TaskFit', WHERE WHAT IT READS IS OF BULK AT MOST 1048576: true; the input reads as it did. -/
def taskFitUptoRow : OpenClaim := { program := "ytpeapmefnabhfaa", sum := "4296bd8a71bba09f3e90cbb5904ec3891bebafe28b9fdce108068343da62c218", func := "dutyroster/dutykeep.TaskFit", spec := "taskFit", unfollowed := true, recurses := true, apart := false, narrowed := true }
def TaskFitUptoSaid : Prop := taskFitUptoRow.holds Try.pinned (OpenSpec.upto taskFitSpec)

/-- 'dutykeep.TaskLess', WHERE WHAT IT READS IS OF BULK AT MOST 1048576: true; the input reads as it did. -/
def taskLessUptoRow : OpenClaim := { program := "ytpeapmefnabhfaa", sum := "4296bd8a71bba09f3e90cbb5904ec3891bebafe28b9fdce108068343da62c218", func := "dutyroster/dutykeep.TaskLess", spec := "taskLess", unfollowed := true, recurses := true, apart := false, narrowed := true }
def TaskLessUptoSaid : Prop := taskLessUptoRow.holds Try.pinned (OpenSpec.upto taskLessSpec)

/-- 'dutykeep.TaskWhole', WHERE WHAT IT READS IS OF BULK AT MOST 1048576: true; the input reads as it did. -/
def taskWholeUptoRow : OpenClaim := { program := "ytpeapmefnabhfaa", sum := "4296bd8a71bba09f3e90cbb5904ec3891bebafe28b9fdce108068343da62c218", func := "dutyroster/dutykeep.TaskWhole", spec := "taskWhole", unfollowed := true, recurses := true, apart := false, narrowed := true }
def TaskWholeUptoSaid : Prop := taskWholeUptoRow.holds Try.pinned (OpenSpec.upto taskWholeSpec)

end Rows
end Go.Proofs.Ytpeapmefnabhfaa
