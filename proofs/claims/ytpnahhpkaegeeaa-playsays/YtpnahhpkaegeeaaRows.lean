/-
  No cell of these rows narrows 'for every input' (looked for: loops, veiled, ifaces, maps, wideKeys, modest, calm, conditions, laid).
  DERIVED. THE GIVEN ROWS OF THIS SEAT. 11 by the template 'for every input the law returns true; each argument reads behind the call as it read before'; 0 by the template 'total and deterministic' (their statements: YtpnahhpkaegeeaaTotals.lean).
  GIVEN WITH THE SEED: the statements are not yours to turn. If you find one false, say at which input.
  Laid BY PROGRAM, IN A SANDBOX (cutbox-rows.mjs): the forced cells as the released guide's own fill.sh prints them over the translation 03a7bc62179d86cc… (all of the seat's roots in one cut). By AI agents, Wed Nov 11 2026. No macro, syntax, notation, axiom, sorry.
-/
import Derived.Test.YtpnahhpkaegeeaaChecked
import GoSem.Claim
import GoSem.ClaimJoined
import GoSem.ClaimMapViews
import Derived.JoinedTies
import Derived.KernelRfl
namespace Go.Proofs.Ytpnahhpkaegeeaa
/- THE CELL 'sum', in the pinned program and in every row, IS THE sha256 OF THE DUMP (.gsa) THAT YtpnahhpkaegeeaaProg.lean LOADS. Nothing in Lean hashes anything: it is a label: what it is worth is what the hold of that sum in a sandbox is worth. -/
noncomputable def Try.pinned : Pinned := { name := "ytpnahhpkaegeeaa", sum := "03a7bc62179d86cc7f89022c3e6dad49370ae88a65907dc45d3077d92d0d6534", checked := Try.checked }
namespace Rows
def none {H : Type} : Left H := { results := [], args := [] }

/-- 'dutylaw.PlaySays': WHATEVER THE INPUT: true; the input reads as it did. -/
def playSaysSpec : ChangeSpec := { name := "playSays", fn := fun _ => fun
  | [d1, d2, d3, d4, d5] => { results := [.lit (.bool true)], args := [d1, d2, d3, d4, d5] }
  | _ => none }
def playSaysRow : OpenClaim := { program := "ytpnahhpkaegeeaa", sum := "03a7bc62179d86cc7f89022c3e6dad49370ae88a65907dc45d3077d92d0d6534", func := "dutyroster/dutylaw.PlaySays", spec := "playSays", unfollowed := true, recurses := true, plainKeys := false, apart := false }
def PlaySaysSaid : Prop := playSaysRow.holds Try.pinned (OpenSpec.ofChange playSaysSpec)

/-- ITS FALSE NEIGHBOUR: 'it returns false'. Refute it at one input. -/
def playSaysWrong : ChangeSpec := { name := "playSays", fn := fun _ => fun
  | [d1, d2, d3, d4, d5] => { results := [.lit (.bool false)], args := [d1, d2, d3, d4, d5] }
  | _ => none }
def PlaySaysWrongFalsely : Prop := playSaysRow.holds Try.pinned (OpenSpec.ofChange playSaysWrong)

/-- 'dutylaw.PlayLates': WHATEVER THE INPUT: true; the input reads as it did. -/
def playLatesSpec : ChangeSpec := { name := "playLates", fn := fun _ => fun
  | [d1, d2, d3, d4] => { results := [.lit (.bool true)], args := [d1, d2, d3, d4] }
  | _ => none }
def playLatesRow : OpenClaim := { program := "ytpnahhpkaegeeaa", sum := "03a7bc62179d86cc7f89022c3e6dad49370ae88a65907dc45d3077d92d0d6534", func := "dutyroster/dutylaw.PlayLates", spec := "playLates", unfollowed := true, recurses := true, plainKeys := false, apart := false }
def PlayLatesSaid : Prop := playLatesRow.holds Try.pinned (OpenSpec.ofChange playLatesSpec)

/-- ITS FALSE NEIGHBOUR: 'it returns false'. Refute it at one input. -/
def playLatesWrong : ChangeSpec := { name := "playLates", fn := fun _ => fun
  | [d1, d2, d3, d4] => { results := [.lit (.bool false)], args := [d1, d2, d3, d4] }
  | _ => none }
def PlayLatesWrongFalsely : Prop := playLatesRow.holds Try.pinned (OpenSpec.ofChange playLatesWrong)

/-- 'dutylaw.ReplySays': WHATEVER THE INPUT: true; the input reads as it did. -/
def replySaysSpec : ChangeSpec := { name := "replySays", fn := fun _ => fun
  | [d1, d2, d3] => { results := [.lit (.bool true)], args := [d1, d2, d3] }
  | _ => none }
def replySaysRow : OpenClaim := { program := "ytpnahhpkaegeeaa", sum := "03a7bc62179d86cc7f89022c3e6dad49370ae88a65907dc45d3077d92d0d6534", func := "dutyroster/dutylaw.ReplySays", spec := "replySays", plainKeys := false, apart := false }
def ReplySaysSaid : Prop := replySaysRow.holds Try.pinned (OpenSpec.ofChange replySaysSpec)

/-- ITS FALSE NEIGHBOUR: 'it returns false'. Refute it at one input. -/
def replySaysWrong : ChangeSpec := { name := "replySays", fn := fun _ => fun
  | [d1, d2, d3] => { results := [.lit (.bool false)], args := [d1, d2, d3] }
  | _ => none }
def ReplySaysWrongFalsely : Prop := replySaysRow.holds Try.pinned (OpenSpec.ofChange replySaysWrong)

/-- 'dutykeep.PlayFits': WHATEVER THE INPUT: true; the input reads as it did. -/
def playFitsSpec : ChangeSpec := { name := "playFits", fn := fun _ => fun
  | [d1, d2, d3, d4] => { results := [.lit (.bool true)], args := [d1, d2, d3, d4] }
  | _ => none }
def playFitsRow : OpenClaim := { program := "ytpnahhpkaegeeaa", sum := "03a7bc62179d86cc7f89022c3e6dad49370ae88a65907dc45d3077d92d0d6534", func := "dutyroster/dutykeep.PlayFits", spec := "playFits", unfollowed := true, recurses := true, plainKeys := false, apart := false }
def PlayFitsSaid : Prop := playFitsRow.holds Try.pinned (OpenSpec.ofChange playFitsSpec)

/-- ITS FALSE NEIGHBOUR: 'it returns false'. Refute it at one input. -/
def playFitsWrong : ChangeSpec := { name := "playFits", fn := fun _ => fun
  | [d1, d2, d3, d4] => { results := [.lit (.bool false)], args := [d1, d2, d3, d4] }
  | _ => none }
def PlayFitsWrongFalsely : Prop := playFitsRow.holds Try.pinned (OpenSpec.ofChange playFitsWrong)

/-- 'dutykeep.PlayMisses': WHATEVER THE INPUT: true; the input reads as it did. -/
def playMissesSpec : ChangeSpec := { name := "playMisses", fn := fun _ => fun
  | [d1, d2] => { results := [.lit (.bool true)], args := [d1, d2] }
  | _ => none }
def playMissesRow : OpenClaim := { program := "ytpnahhpkaegeeaa", sum := "03a7bc62179d86cc7f89022c3e6dad49370ae88a65907dc45d3077d92d0d6534", func := "dutyroster/dutykeep.PlayMisses", spec := "playMisses", unfollowed := true, recurses := true, plainKeys := false, apart := false }
def PlayMissesSaid : Prop := playMissesRow.holds Try.pinned (OpenSpec.ofChange playMissesSpec)

/-- ITS FALSE NEIGHBOUR: 'it returns false'. Refute it at one input. -/
def playMissesWrong : ChangeSpec := { name := "playMisses", fn := fun _ => fun
  | [d1, d2] => { results := [.lit (.bool false)], args := [d1, d2] }
  | _ => none }
def PlayMissesWrongFalsely : Prop := playMissesRow.holds Try.pinned (OpenSpec.ofChange playMissesWrong)

/-- 'dutykeep.PlayWork': WHATEVER THE INPUT: true; the input reads as it did. -/
def playWorkSpec : ChangeSpec := { name := "playWork", fn := fun _ => fun
  | [d1, d2, d3, d4, d5] => { results := [.lit (.bool true)], args := [d1, d2, d3, d4, d5] }
  | _ => none }
def playWorkRow : OpenClaim := { program := "ytpnahhpkaegeeaa", sum := "03a7bc62179d86cc7f89022c3e6dad49370ae88a65907dc45d3077d92d0d6534", func := "dutyroster/dutykeep.PlayWork", spec := "playWork", unfollowed := true, recurses := true, plainKeys := false, apart := false }
def PlayWorkSaid : Prop := playWorkRow.holds Try.pinned (OpenSpec.ofChange playWorkSpec)

/-- ITS FALSE NEIGHBOUR: 'it returns false'. Refute it at one input. -/
def playWorkWrong : ChangeSpec := { name := "playWork", fn := fun _ => fun
  | [d1, d2, d3, d4, d5] => { results := [.lit (.bool false)], args := [d1, d2, d3, d4, d5] }
  | _ => none }
def PlayWorkWrongFalsely : Prop := playWorkRow.holds Try.pinned (OpenSpec.ofChange playWorkWrong)

/-- 'dutykeep.PlayAhead': WHATEVER THE INPUT: true; the input reads as it did. -/
def playAheadSpec : ChangeSpec := { name := "playAhead", fn := fun _ => fun
  | [d1, d2, d3, d4, d5] => { results := [.lit (.bool true)], args := [d1, d2, d3, d4, d5] }
  | _ => none }
def playAheadRow : OpenClaim := { program := "ytpnahhpkaegeeaa", sum := "03a7bc62179d86cc7f89022c3e6dad49370ae88a65907dc45d3077d92d0d6534", func := "dutyroster/dutykeep.PlayAhead", spec := "playAhead", unfollowed := true, recurses := true, plainKeys := false, apart := false }
def PlayAheadSaid : Prop := playAheadRow.holds Try.pinned (OpenSpec.ofChange playAheadSpec)

/-- ITS FALSE NEIGHBOUR: 'it returns false'. Refute it at one input. -/
def playAheadWrong : ChangeSpec := { name := "playAhead", fn := fun _ => fun
  | [d1, d2, d3, d4, d5] => { results := [.lit (.bool false)], args := [d1, d2, d3, d4, d5] }
  | _ => none }
def PlayAheadWrongFalsely : Prop := playAheadRow.holds Try.pinned (OpenSpec.ofChange playAheadWrong)

/-- 'dutykeep.ReplyHolds': WHATEVER THE INPUT: true; the input reads as it did. -/
def replyHoldsSpec : ChangeSpec := { name := "replyHolds", fn := fun _ => fun
  | [d1, d2, d3, d4] => { results := [.lit (.bool true)], args := [d1, d2, d3, d4] }
  | _ => none }
def replyHoldsRow : OpenClaim := { program := "ytpnahhpkaegeeaa", sum := "03a7bc62179d86cc7f89022c3e6dad49370ae88a65907dc45d3077d92d0d6534", func := "dutyroster/dutykeep.ReplyHolds", spec := "replyHolds", unfollowed := true, recurses := true, plainKeys := false, apart := false }
def ReplyHoldsSaid : Prop := replyHoldsRow.holds Try.pinned (OpenSpec.ofChange replyHoldsSpec)

/-- ITS FALSE NEIGHBOUR: 'it returns false'. Refute it at one input. -/
def replyHoldsWrong : ChangeSpec := { name := "replyHolds", fn := fun _ => fun
  | [d1, d2, d3, d4] => { results := [.lit (.bool false)], args := [d1, d2, d3, d4] }
  | _ => none }
def ReplyHoldsWrongFalsely : Prop := replyHoldsRow.holds Try.pinned (OpenSpec.ofChange replyHoldsWrong)

/-- 'dutykeep.ReplyExact': WHATEVER THE INPUT: true; the input reads as it did. -/
def replyExactSpec : ChangeSpec := { name := "replyExact", fn := fun _ => fun
  | [d1, d2] => { results := [.lit (.bool true)], args := [d1, d2] }
  | _ => none }
def replyExactRow : OpenClaim := { program := "ytpnahhpkaegeeaa", sum := "03a7bc62179d86cc7f89022c3e6dad49370ae88a65907dc45d3077d92d0d6534", func := "dutyroster/dutykeep.ReplyExact", spec := "replyExact", unfollowed := true, recurses := true, plainKeys := false, apart := false }
def ReplyExactSaid : Prop := replyExactRow.holds Try.pinned (OpenSpec.ofChange replyExactSpec)

/-- ITS FALSE NEIGHBOUR: 'it returns false'. Refute it at one input. -/
def replyExactWrong : ChangeSpec := { name := "replyExact", fn := fun _ => fun
  | [d1, d2] => { results := [.lit (.bool false)], args := [d1, d2] }
  | _ => none }
def ReplyExactWrongFalsely : Prop := replyExactRow.holds Try.pinned (OpenSpec.ofChange replyExactWrong)

/-- 'dutykeep.ReplyAhead': WHATEVER THE INPUT: true; the input reads as it did. -/
def replyAheadSpec : ChangeSpec := { name := "replyAhead", fn := fun _ => fun
  | [d1, d2, d3, d4] => { results := [.lit (.bool true)], args := [d1, d2, d3, d4] }
  | _ => none }
def replyAheadRow : OpenClaim := { program := "ytpnahhpkaegeeaa", sum := "03a7bc62179d86cc7f89022c3e6dad49370ae88a65907dc45d3077d92d0d6534", func := "dutyroster/dutykeep.ReplyAhead", spec := "replyAhead", plainKeys := false, apart := false }
def ReplyAheadSaid : Prop := replyAheadRow.holds Try.pinned (OpenSpec.ofChange replyAheadSpec)

/-- ITS FALSE NEIGHBOUR: 'it returns false'. Refute it at one input. -/
def replyAheadWrong : ChangeSpec := { name := "replyAhead", fn := fun _ => fun
  | [d1, d2, d3, d4] => { results := [.lit (.bool false)], args := [d1, d2, d3, d4] }
  | _ => none }
def ReplyAheadWrongFalsely : Prop := replyAheadRow.holds Try.pinned (OpenSpec.ofChange replyAheadWrong)

/-- 'dutykeep.ReplyFits': WHATEVER THE INPUT: true; the input reads as it did. -/
def replyFitsSpec : ChangeSpec := { name := "replyFits", fn := fun _ => fun
  | [d1, d2, d3, d4] => { results := [.lit (.bool true)], args := [d1, d2, d3, d4] }
  | _ => none }
def replyFitsRow : OpenClaim := { program := "ytpnahhpkaegeeaa", sum := "03a7bc62179d86cc7f89022c3e6dad49370ae88a65907dc45d3077d92d0d6534", func := "dutyroster/dutykeep.ReplyFits", spec := "replyFits", unfollowed := true, recurses := true, plainKeys := false, apart := false }
def ReplyFitsSaid : Prop := replyFitsRow.holds Try.pinned (OpenSpec.ofChange replyFitsSpec)

/-- ITS FALSE NEIGHBOUR: 'it returns false'. Refute it at one input. -/
def replyFitsWrong : ChangeSpec := { name := "replyFits", fn := fun _ => fun
  | [d1, d2, d3, d4] => { results := [.lit (.bool false)], args := [d1, d2, d3, d4] }
  | _ => none }
def ReplyFitsWrongFalsely : Prop := replyFitsRow.holds Try.pinned (OpenSpec.ofChange replyFitsWrong)

/- THE SECOND FORM. 'bulk': how many values and letters a reading holds, each counted each time it is reached (what is shared counts as often as it is met; a slice's spare places count too). A statement '..UptoSaid' is the law's where the arguments, and the package variables that the reading takes, are together of bulk at most 1048576: NARROWER than '..Said'. Prove '..Said' where nothing that the law and all that it calls make is longer than what came in: it says more and counts as full. Else prove '..UptoSaid'. A law counts once. -/
mutual
def uptoBulk {H : Type} : DataW H → Nat
  | .lit (.string bytes) => bytes.length + 1
  | .lit _ => 1
  | .nil => 1
  | .ptr d => uptoBulk d + 1
  | .slice elems spare => uptoBulkAll elems + uptoBulkAll spare + 1
  | .agg parts => uptoBulkAll parts + 1
  | .iface _ d => uptoBulk d + 1
  | .map entries => uptoBulkEntries entries + 1
  | .held _ => 1
def uptoBulkAll {H : Type} : List (DataW H) → Nat
  | [] => 0
  | d :: r => uptoBulk d + uptoBulkAll r
def uptoBulkEntries {H : Type} : List (Lit × DataW H) → Nat
  | [] => 0
  | x :: r => uptoBulkEntry x + uptoBulkEntries r
def uptoBulkEntry {H : Type} : Lit × DataW H → Nat
  | (.string bytes, d) => bytes.length + uptoBulk d + 1
  | (_, d) => uptoBulk d + 1
 end
def uptoSmall : (H : Type) → List (DataW H) → Bool := fun _ ds => decide (uptoBulkAll ds ≤ 1048576)
def OpenSpec.upto (s : _root_.Go.ChangeSpec) : _root_.Go.OpenSpec := { _root_.Go.OpenSpec.ofChange s with cond := some uptoSmall }

/-- 'dutylaw.PlaySays', WHERE WHAT IT READS IS OF BULK AT MOST 1048576: true; the input reads as it did. -/
def playSaysUptoRow : OpenClaim := { program := "ytpnahhpkaegeeaa", sum := "03a7bc62179d86cc7f89022c3e6dad49370ae88a65907dc45d3077d92d0d6534", func := "dutyroster/dutylaw.PlaySays", spec := "playSays", unfollowed := true, recurses := true, plainKeys := false, apart := false, narrowed := true }
def PlaySaysUptoSaid : Prop := playSaysUptoRow.holds Try.pinned (OpenSpec.upto playSaysSpec)

/-- 'dutylaw.PlayLates', WHERE WHAT IT READS IS OF BULK AT MOST 1048576: true; the input reads as it did. -/
def playLatesUptoRow : OpenClaim := { program := "ytpnahhpkaegeeaa", sum := "03a7bc62179d86cc7f89022c3e6dad49370ae88a65907dc45d3077d92d0d6534", func := "dutyroster/dutylaw.PlayLates", spec := "playLates", unfollowed := true, recurses := true, plainKeys := false, apart := false, narrowed := true }
def PlayLatesUptoSaid : Prop := playLatesUptoRow.holds Try.pinned (OpenSpec.upto playLatesSpec)

/-- 'dutylaw.ReplySays', WHERE WHAT IT READS IS OF BULK AT MOST 1048576: true; the input reads as it did. -/
def replySaysUptoRow : OpenClaim := { program := "ytpnahhpkaegeeaa", sum := "03a7bc62179d86cc7f89022c3e6dad49370ae88a65907dc45d3077d92d0d6534", func := "dutyroster/dutylaw.ReplySays", spec := "replySays", plainKeys := false, apart := false, narrowed := true }
def ReplySaysUptoSaid : Prop := replySaysUptoRow.holds Try.pinned (OpenSpec.upto replySaysSpec)

/-- 'dutykeep.PlayFits', WHERE WHAT IT READS IS OF BULK AT MOST 1048576: true; the input reads as it did. -/
def playFitsUptoRow : OpenClaim := { program := "ytpnahhpkaegeeaa", sum := "03a7bc62179d86cc7f89022c3e6dad49370ae88a65907dc45d3077d92d0d6534", func := "dutyroster/dutykeep.PlayFits", spec := "playFits", unfollowed := true, recurses := true, plainKeys := false, apart := false, narrowed := true }
def PlayFitsUptoSaid : Prop := playFitsUptoRow.holds Try.pinned (OpenSpec.upto playFitsSpec)

/-- 'dutykeep.PlayMisses', WHERE WHAT IT READS IS OF BULK AT MOST 1048576: true; the input reads as it did. -/
def playMissesUptoRow : OpenClaim := { program := "ytpnahhpkaegeeaa", sum := "03a7bc62179d86cc7f89022c3e6dad49370ae88a65907dc45d3077d92d0d6534", func := "dutyroster/dutykeep.PlayMisses", spec := "playMisses", unfollowed := true, recurses := true, plainKeys := false, apart := false, narrowed := true }
def PlayMissesUptoSaid : Prop := playMissesUptoRow.holds Try.pinned (OpenSpec.upto playMissesSpec)

/-- 'dutykeep.PlayWork', WHERE WHAT IT READS IS OF BULK AT MOST 1048576: true; the input reads as it did. -/
def playWorkUptoRow : OpenClaim := { program := "ytpnahhpkaegeeaa", sum := "03a7bc62179d86cc7f89022c3e6dad49370ae88a65907dc45d3077d92d0d6534", func := "dutyroster/dutykeep.PlayWork", spec := "playWork", unfollowed := true, recurses := true, plainKeys := false, apart := false, narrowed := true }
def PlayWorkUptoSaid : Prop := playWorkUptoRow.holds Try.pinned (OpenSpec.upto playWorkSpec)

/-- 'dutykeep.PlayAhead', WHERE WHAT IT READS IS OF BULK AT MOST 1048576: true; the input reads as it did. -/
def playAheadUptoRow : OpenClaim := { program := "ytpnahhpkaegeeaa", sum := "03a7bc62179d86cc7f89022c3e6dad49370ae88a65907dc45d3077d92d0d6534", func := "dutyroster/dutykeep.PlayAhead", spec := "playAhead", unfollowed := true, recurses := true, plainKeys := false, apart := false, narrowed := true }
def PlayAheadUptoSaid : Prop := playAheadUptoRow.holds Try.pinned (OpenSpec.upto playAheadSpec)

/-- 'dutykeep.ReplyHolds', WHERE WHAT IT READS IS OF BULK AT MOST 1048576: true; the input reads as it did. -/
def replyHoldsUptoRow : OpenClaim := { program := "ytpnahhpkaegeeaa", sum := "03a7bc62179d86cc7f89022c3e6dad49370ae88a65907dc45d3077d92d0d6534", func := "dutyroster/dutykeep.ReplyHolds", spec := "replyHolds", unfollowed := true, recurses := true, plainKeys := false, apart := false, narrowed := true }
def ReplyHoldsUptoSaid : Prop := replyHoldsUptoRow.holds Try.pinned (OpenSpec.upto replyHoldsSpec)

/-- 'dutykeep.ReplyExact', WHERE WHAT IT READS IS OF BULK AT MOST 1048576: true; the input reads as it did. -/
def replyExactUptoRow : OpenClaim := { program := "ytpnahhpkaegeeaa", sum := "03a7bc62179d86cc7f89022c3e6dad49370ae88a65907dc45d3077d92d0d6534", func := "dutyroster/dutykeep.ReplyExact", spec := "replyExact", unfollowed := true, recurses := true, plainKeys := false, apart := false, narrowed := true }
def ReplyExactUptoSaid : Prop := replyExactUptoRow.holds Try.pinned (OpenSpec.upto replyExactSpec)

/-- 'dutykeep.ReplyAhead', WHERE WHAT IT READS IS OF BULK AT MOST 1048576: true; the input reads as it did. -/
def replyAheadUptoRow : OpenClaim := { program := "ytpnahhpkaegeeaa", sum := "03a7bc62179d86cc7f89022c3e6dad49370ae88a65907dc45d3077d92d0d6534", func := "dutyroster/dutykeep.ReplyAhead", spec := "replyAhead", plainKeys := false, apart := false, narrowed := true }
def ReplyAheadUptoSaid : Prop := replyAheadUptoRow.holds Try.pinned (OpenSpec.upto replyAheadSpec)

/-- 'dutykeep.ReplyFits', WHERE WHAT IT READS IS OF BULK AT MOST 1048576: true; the input reads as it did. -/
def replyFitsUptoRow : OpenClaim := { program := "ytpnahhpkaegeeaa", sum := "03a7bc62179d86cc7f89022c3e6dad49370ae88a65907dc45d3077d92d0d6534", func := "dutyroster/dutykeep.ReplyFits", spec := "replyFits", unfollowed := true, recurses := true, plainKeys := false, apart := false, narrowed := true }
def ReplyFitsUptoSaid : Prop := replyFitsUptoRow.holds Try.pinned (OpenSpec.upto replyFitsSpec)

end Rows
end Go.Proofs.Ytpnahhpkaegeeaa
