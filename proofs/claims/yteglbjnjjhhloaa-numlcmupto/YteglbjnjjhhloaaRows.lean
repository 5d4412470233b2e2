/-
  No cell of these rows narrows 'for every input' (looked for: loops, veiled, ifaces, maps, wideKeys, modest, calm, conditions, laid).
  DERIVED. THE GIVEN ROWS OF THIS SEAT. 9 by the template 'for every input the law returns true; each argument reads behind the call as it read before'; 0 by the template 'total and deterministic' (their statements: YteglbjnjjhhloaaTotals.lean).
  GIVEN WITH THE SEED: the statements are not yours to turn. If you find one false, say at which input.
  Laid BY PROGRAM, IN A SANDBOX (cutbox-rows.mjs): the forced cells as the released guide's own fill.sh prints them over the translation 3ae0a14be973b05a… (all of the seat's roots in one cut). By AI agents, Wed Nov 11 2026. No macro, syntax, notation, axiom, sorry.
-/
import Derived.Test.YteglbjnjjhhloaaChecked
import GoSem.Claim
import GoSem.ClaimJoined
import GoSem.ClaimMapViews
import Derived.JoinedTies
import Derived.KernelRfl
namespace Go.Proofs.Yteglbjnjjhhloaa
/- THE CELL 'sum', in the pinned program and in every row, IS THE sha256 OF THE DUMP (.gsa) THAT YteglbjnjjhhloaaProg.lean LOADS. Nothing in Lean hashes anything: it is a label: what it is worth is what the hold of that sum in a sandbox is worth. -/
noncomputable def Try.pinned : Pinned := { name := "yteglbjnjjhhloaa", sum := "3ae0a14be973b05acca847dbbb5821fd825cbd5fb6d36e0d4b9271ec1fae1e91", checked := Try.checked }
namespace Rows
def none {H : Type} : Left H := { results := [], args := [] }

/-- 'dutylaw.Names': WHATEVER THE INPUT: true; the input reads as it did. -/
def namesSpec : ChangeSpec := { name := "names", fn := fun _ => fun
  | [] => { results := [.lit (.bool true)], args := [] }
  | _ => none }
def namesRow : OpenClaim := { program := "yteglbjnjjhhloaa", sum := "3ae0a14be973b05acca847dbbb5821fd825cbd5fb6d36e0d4b9271ec1fae1e91", func := "dutyroster/dutylaw.Names", spec := "names", apart := false }
def NamesSaid : Prop := namesRow.holds Try.pinned (OpenSpec.ofChange namesSpec)

/-- ITS FALSE NEIGHBOUR: 'it returns false'. Refute it at one input. -/
def namesWrong : ChangeSpec := { name := "names", fn := fun _ => fun
  | [] => { results := [.lit (.bool false)], args := [] }
  | _ => none }
def NamesWrongFalsely : Prop := namesRow.holds Try.pinned (OpenSpec.ofChange namesWrong)

/-- 'dutylaw.NumRounds': WHATEVER THE INPUT: true; the input reads as it did. -/
def numRoundsSpec : ChangeSpec := { name := "numRounds", fn := fun _ => fun
  | [d1, d2] => { results := [.lit (.bool true)], args := [d1, d2] }
  | _ => none }
def numRoundsRow : OpenClaim := { program := "yteglbjnjjhhloaa", sum := "3ae0a14be973b05acca847dbbb5821fd825cbd5fb6d36e0d4b9271ec1fae1e91", func := "dutyroster/dutylaw.NumRounds", spec := "numRounds", apart := false }
def NumRoundsSaid : Prop := numRoundsRow.holds Try.pinned (OpenSpec.ofChange numRoundsSpec)

/-- ITS FALSE NEIGHBOUR: 'it returns false'. Refute it at one input. -/
def numRoundsWrong : ChangeSpec := { name := "numRounds", fn := fun _ => fun
  | [d1, d2] => { results := [.lit (.bool false)], args := [d1, d2] }
  | _ => none }
def NumRoundsWrongFalsely : Prop := numRoundsRow.holds Try.pinned (OpenSpec.ofChange numRoundsWrong)

/-- 'dutylaw.NumShares': WHATEVER THE INPUT: true; the input reads as it did. -/
def numSharesSpec : ChangeSpec := { name := "numShares", fn := fun _ => fun
  | [d1, d2, d3] => { results := [.lit (.bool true)], args := [d1, d2, d3] }
  | _ => none }
def numSharesRow : OpenClaim := { program := "yteglbjnjjhhloaa", sum := "3ae0a14be973b05acca847dbbb5821fd825cbd5fb6d36e0d4b9271ec1fae1e91", func := "dutyroster/dutylaw.NumShares", spec := "numShares", recurses := true, apart := false }
def NumSharesSaid : Prop := numSharesRow.holds Try.pinned (OpenSpec.ofChange numSharesSpec)

/-- ITS FALSE NEIGHBOUR: 'it returns false'. Refute it at one input. -/
def numSharesWrong : ChangeSpec := { name := "numShares", fn := fun _ => fun
  | [d1, d2, d3] => { results := [.lit (.bool false)], args := [d1, d2, d3] }
  | _ => none }
def NumSharesWrongFalsely : Prop := numSharesRow.holds Try.pinned (OpenSpec.ofChange numSharesWrong)

/-- 'dutylaw.NumMeets': WHATEVER THE INPUT: true; the input reads as it did. -/
def numMeetsSpec : ChangeSpec := { name := "numMeets", fn := fun _ => fun
  | [d1, d2, d3, d4] => { results := [.lit (.bool true)], args := [d1, d2, d3, d4] }
  | _ => none }
def numMeetsRow : OpenClaim := { program := "yteglbjnjjhhloaa", sum := "3ae0a14be973b05acca847dbbb5821fd825cbd5fb6d36e0d4b9271ec1fae1e91", func := "dutyroster/dutylaw.NumMeets", spec := "numMeets", recurses := true, apart := false }
def NumMeetsSaid : Prop := numMeetsRow.holds Try.pinned (OpenSpec.ofChange numMeetsSpec)

/-- ITS FALSE NEIGHBOUR: 'it returns false'. Refute it at one input. -/
def numMeetsWrong : ChangeSpec := { name := "numMeets", fn := fun _ => fun
  | [d1, d2, d3, d4] => { results := [.lit (.bool false)], args := [d1, d2, d3, d4] }
  | _ => none }
def NumMeetsWrongFalsely : Prop := numMeetsRow.holds Try.pinned (OpenSpec.ofChange numMeetsWrong)

/-- 'dutykeep.NumDown': WHATEVER THE INPUT: true; the input reads as it did. -/
def numDownSpec : ChangeSpec := { name := "numDown", fn := fun _ => fun
  | [d1, d2] => { results := [.lit (.bool true)], args := [d1, d2] }
  | _ => none }
def numDownRow : OpenClaim := { program := "yteglbjnjjhhloaa", sum := "3ae0a14be973b05acca847dbbb5821fd825cbd5fb6d36e0d4b9271ec1fae1e91", func := "dutyroster/dutykeep.NumDown", spec := "numDown", apart := false }
def NumDownSaid : Prop := numDownRow.holds Try.pinned (OpenSpec.ofChange numDownSpec)

/-- ITS FALSE NEIGHBOUR: 'it returns false'. Refute it at one input. -/
def numDownWrong : ChangeSpec := { name := "numDown", fn := fun _ => fun
  | [d1, d2] => { results := [.lit (.bool false)], args := [d1, d2] }
  | _ => none }
def NumDownWrongFalsely : Prop := numDownRow.holds Try.pinned (OpenSpec.ofChange numDownWrong)

/-- 'dutykeep.NumEuclid': WHATEVER THE INPUT: true; the input reads as it did. -/
def numEuclidSpec : ChangeSpec := { name := "numEuclid", fn := fun _ => fun
  | [d1, d2, d3] => { results := [.lit (.bool true)], args := [d1, d2, d3] }
  | _ => none }
def numEuclidRow : OpenClaim := { program := "yteglbjnjjhhloaa", sum := "3ae0a14be973b05acca847dbbb5821fd825cbd5fb6d36e0d4b9271ec1fae1e91", func := "dutyroster/dutykeep.NumEuclid", spec := "numEuclid", apart := false }
def NumEuclidSaid : Prop := numEuclidRow.holds Try.pinned (OpenSpec.ofChange numEuclidSpec)

/-- ITS FALSE NEIGHBOUR: 'it returns false'. Refute it at one input. -/
def numEuclidWrong : ChangeSpec := { name := "numEuclid", fn := fun _ => fun
  | [d1, d2, d3] => { results := [.lit (.bool false)], args := [d1, d2, d3] }
  | _ => none }
def NumEuclidWrongFalsely : Prop := numEuclidRow.holds Try.pinned (OpenSpec.ofChange numEuclidWrong)

/-- 'dutykeep.NumBezout': WHATEVER THE INPUT: true; the input reads as it did. -/
def numBezoutSpec : ChangeSpec := { name := "numBezout", fn := fun _ => fun
  | [d1, d2, d3] => { results := [.lit (.bool true)], args := [d1, d2, d3] }
  | _ => none }
def numBezoutRow : OpenClaim := { program := "yteglbjnjjhhloaa", sum := "3ae0a14be973b05acca847dbbb5821fd825cbd5fb6d36e0d4b9271ec1fae1e91", func := "dutyroster/dutykeep.NumBezout", spec := "numBezout", apart := false }
def NumBezoutSaid : Prop := numBezoutRow.holds Try.pinned (OpenSpec.ofChange numBezoutSpec)

/-- ITS FALSE NEIGHBOUR: 'it returns false'. Refute it at one input. -/
def numBezoutWrong : ChangeSpec := { name := "numBezout", fn := fun _ => fun
  | [d1, d2, d3] => { results := [.lit (.bool false)], args := [d1, d2, d3] }
  | _ => none }
def NumBezoutWrongFalsely : Prop := numBezoutRow.holds Try.pinned (OpenSpec.ofChange numBezoutWrong)

/-- 'dutykeep.NumLcm': WHATEVER THE INPUT: true; the input reads as it did. -/
def numLcmSpec : ChangeSpec := { name := "numLcm", fn := fun _ => fun
  | [d1, d2] => { results := [.lit (.bool true)], args := [d1, d2] }
  | _ => none }
def numLcmRow : OpenClaim := { program := "yteglbjnjjhhloaa", sum := "3ae0a14be973b05acca847dbbb5821fd825cbd5fb6d36e0d4b9271ec1fae1e91", func := "dutyroster/dutykeep.NumLcm", spec := "numLcm", apart := false }
def NumLcmSaid : Prop := numLcmRow.holds Try.pinned (OpenSpec.ofChange numLcmSpec)

/-- ITS FALSE NEIGHBOUR: 'it returns false'. Refute it at one input. -/
def numLcmWrong : ChangeSpec := { name := "numLcm", fn := fun _ => fun
  | [d1, d2] => { results := [.lit (.bool false)], args := [d1, d2] }
  | _ => none }
def NumLcmWrongFalsely : Prop := numLcmRow.holds Try.pinned (OpenSpec.ofChange numLcmWrong)

/-- 'dutykeep.NumChinese': WHATEVER THE INPUT: true; the input reads as it did. -/
def numChineseSpec : ChangeSpec := { name := "numChinese", fn := fun _ => fun
  | [d1, d2, d3, d4, d5] => { results := [.lit (.bool true)], args := [d1, d2, d3, d4, d5] }
  | _ => none }
def numChineseRow : OpenClaim := { program := "yteglbjnjjhhloaa", sum := "3ae0a14be973b05acca847dbbb5821fd825cbd5fb6d36e0d4b9271ec1fae1e91", func := "dutyroster/dutykeep.NumChinese", spec := "numChinese", apart := false }
def NumChineseSaid : Prop := numChineseRow.holds Try.pinned (OpenSpec.ofChange numChineseSpec)

/-- ITS FALSE NEIGHBOUR: 'it returns false'. Refute it at one input. -/
def numChineseWrong : ChangeSpec := { name := "numChinese", fn := fun _ => fun
  | [d1, d2, d3, d4, d5] => { results := [.lit (.bool false)], args := [d1, d2, d3, d4, d5] }
  | _ => none }
def NumChineseWrongFalsely : Prop := numChineseRow.holds Try.pinned (OpenSpec.ofChange numChineseWrong)

/- THE SECOND FORM. 'bulk': how many values and letters a reading holds, each counted each time it is reached (what is shared counts as often as it is met; a slice's spare places count too). A statement '..UptoSaid' is the law's where the arguments, and the package variables that the reading takes, are together of bulk at most 1048576: NARROWER than '..Said'. Prove '..Said' where nothing that the law and all that it calls make is longer than what came in: it says more and counts as full. Else prove '..UptoSaid'. A law counts once. -/
mutual
def uptoBulk {H : Type} : DataW H → Nat
  | .lit (.string bytes) => bytes.length + 1
  | .lit _ => 1
  | .nil => 1
  | .ptr d => uptoBulk d + 1
  | .slice elems spare => uptoBulkAll elems + uptoBulkAll spare + 1
  | .agg parts => uptoBulkAll parts + 1
  | .iface _ d => uptoBulk d + 1
  | .map entries => uptoBulkEntries entries + 1
  | .held _ => 1
def uptoBulkAll {H : Type} : List (DataW H) → Nat
  | [] => 0
  | d :: r => uptoBulk d + uptoBulkAll r
def uptoBulkEntries {H : Type} : List (Lit × DataW H) → Nat
  | [] => 0
  | x :: r => uptoBulkEntry x + uptoBulkEntries r
def uptoBulkEntry {H : Type} : Lit × DataW H → Nat
  | (.string bytes, d) => bytes.length + uptoBulk d + 1
  | (_, d) => uptoBulk d + 1
 end
def uptoSmall : (H : Type) → List (DataW H) → Bool := fun _ ds => decide (uptoBulkAll ds ≤ 1048576)
def OpenSpec.upto (s : _root_.Go.ChangeSpec) : _root_.Go.OpenSpec := { _root_.Go.OpenSpec.ofChange s with cond := some uptoSmall }

/-- 'dutylaw.Names', WHERE WHAT IT READS IS OF BULK AT MOST 1048576: true; the input reads as it did. -/
def namesUptoRow : OpenClaim := { program := "yteglbjnjjhhloaa", sum := "3ae0a14be973b05acca847dbbb5821fd825cbd5fb6d36e0d4b9271ec1fae1e91", func := "dutyroster/dutylaw.Names", spec := "names", apart := false, narrowed := true }
def NamesUptoSaid : Prop := namesUptoRow.holds Try.pinned (OpenSpec.upto namesSpec)

/-- 'dutylaw.NumRounds', WHERE WHAT IT READS IS OF BULK AT MOST 1048576: true; the input reads as it did. -/
def numRoundsUptoRow : OpenClaim := { program := "yteglbjnjjhhloaa", sum := "3ae0a14be973b05acca847dbbb5821fd825cbd5fb6d36e0d4b9271ec1fae1e91", func := "dutyroster/dutylaw.NumRounds", spec := "numRounds", apart := false, narrowed := true }
def NumRoundsUptoSaid : Prop := numRoundsUptoRow.holds Try.pinned (OpenSpec.upto numRoundsSpec)

/-- 'dutylaw.NumShares', WHERE WHAT IT READS IS OF BULK AT MOST 1048576: true; the input reads as it did. -/
def numSharesUptoRow : OpenClaim := { program := "yteglbjnjjhhloaa", sum := "3ae0a14be973b05acca847dbbb5821fd825cbd5fb6d36e0d4b9271ec1fae1e91", func := "dutyroster/dutylaw.NumShares", spec := "numShares", recurses := true, apart := false, narrowed := true }
def NumSharesUptoSaid : Prop := numSharesUptoRow.holds Try.pinned (OpenSpec.upto numSharesSpec)

/-- 'dutylaw.NumMeets', WHERE WHAT IT READS IS OF BULK AT MOST 1048576: true; the input reads as it did. -/
def numMeetsUptoRow : OpenClaim := { program := "yteglbjnjjhhloaa", sum := "3ae0a14be973b05acca847dbbb5821fd825cbd5fb6d36e0d4b9271ec1fae1e91", func := "dutyroster/dutylaw.NumMeets", spec := "numMeets", recurses := true, apart := false, narrowed := true }
def NumMeetsUptoSaid : Prop := numMeetsUptoRow.holds Try.pinned (OpenSpec.upto numMeetsSpec)

/-- 'dutykeep.NumDown', WHERE WHAT IT READS IS OF BULK AT MOST 1048576: true; the input reads as it did. -/
def numDownUptoRow : OpenClaim := { program := "yteglbjnjjhhloaa", sum := "3ae0a14be973b05acca847dbbb5821fd825cbd5fb6d36e0d4b9271ec1fae1e91", func := "dutyroster/dutykeep.NumDown", spec := "numDown", apart := false, narrowed := true }
def NumDownUptoSaid : Prop := numDownUptoRow.holds Try.pinned (OpenSpec.upto numDownSpec)

/-- 'dutykeep.NumEuclid', WHERE WHAT IT READS IS OF BULK AT MOST 1048576: true; the input reads as it did. -/
def numEuclidUptoRow : OpenClaim := { program := "yteglbjnjjhhloaa", sum := "3ae0a14be973b05acca847dbbb5821fd825cbd5fb6d36e0d4b9271ec1fae1e91", func := "dutyroster/dutykeep.NumEuclid", spec := "numEuclid", apart := false, narrowed := true }
def NumEuclidUptoSaid : Prop := numEuclidUptoRow.holds Try.pinned (OpenSpec.upto numEuclidSpec)

/-- 'dutykeep.NumBezout', WHERE WHAT IT READS IS OF BULK AT MOST 1048576: true; the input reads as it did. -/
def numBezoutUptoRow : OpenClaim := { program := "yteglbjnjjhhloaa", sum := "3ae0a14be973b05acca847dbbb5821fd825cbd5fb6d36e0d4b9271ec1fae1e91", func := "dutyroster/dutykeep.NumBezout", spec := "numBezout", apart := false, narrowed := true }
def NumBezoutUptoSaid : Prop := numBezoutUptoRow.holds Try.pinned (OpenSpec.upto numBezoutSpec)

/-- 'dutykeep.NumLcm', WHERE WHAT IT READS IS OF BULK AT MOST 1048576: true; the input reads as it did. -/
def numLcmUptoRow : OpenClaim := { program := "yteglbjnjjhhloaa", sum := "3ae0a14be973b05acca847dbbb5821fd825cbd5fb6d36e0d4b9271ec1fae1e91", func := "dutyroster/dutykeep.NumLcm", spec := "numLcm", apart := false, narrowed := true }
def NumLcmUptoSaid : Prop := numLcmUptoRow.holds Try.pinned (OpenSpec.upto numLcmSpec)

/-- 'dutykeep.NumChinese', WHERE WHAT IT READS IS OF BULK AT MOST 1048576: true; the input reads as it did. -/
def numChineseUptoRow : OpenClaim := { program := "yteglbjnjjhhloaa", sum := "3ae0a14be973b05acca847dbbb5821fd825cbd5fb6d36e0d4b9271ec1fae1e91", func := "dutyroster/dutykeep.NumChinese", spec := "numChinese", apart := false, narrowed := true }
def NumChineseUptoSaid : Prop := numChineseUptoRow.holds Try.pinned (OpenSpec.upto numChineseSpec)

end Rows
end Go.Proofs.Yteglbjnjjhhloaa
