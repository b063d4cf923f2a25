/-
  No cell of these rows narrows 'for every input' (looked for: loops, veiled, ifaces, maps, wideKeys, modest, calm, conditions, laid).
  DERIVED. THE GIVEN ROWS OF THIS SEAT. 8 by the template 'for every input the law returns true; each argument reads behind the call as it read before'; 0 by the template 'total and deterministic' (their statements: YtceolmihglhijaaTotals.lean).
  GIVEN WITH THE SEED: the statements are not yours to turn. If you find one false, say at which input.
  Laid BY PROGRAM, IN A SANDBOX (cutbox-rows.mjs): the forced cells as the released guide's own fill.sh prints them over the translation 441c1cbb7a9fba1f… (all of the seat's roots in one cut). By AI agents, Wed Nov 11 2026. No macro, syntax, notation, axiom, sorry.
-/
import Derived.Test.YtceolmihglhijaaChecked
import GoSem.Claim
import GoSem.ClaimJoined
import GoSem.ClaimMapViews
import Derived.JoinedTies
import Derived.KernelRfl
namespace Go.Proofs.Ytceolmihglhijaa
/- THE CELL 'sum', in the pinned program and in every row, IS THE sha256 OF THE DUMP (.gsa) THAT YtceolmihglhijaaProg.lean LOADS. Nothing in Lean hashes anything: it is a label: what it is worth is what the hold of that sum in a sandbox is worth. -/
noncomputable def Try.pinned : Pinned := { name := "ytceolmihglhijaa", sum := "441c1cbb7a9fba1ff616093a24cdb8ff816e7a1d8a28069076f5040435e02870", checked := Try.checked }
namespace Rows
def none {H : Type} : Left H := { results := [], args := [] }

/-- 'laws.FnUnshuffles': WHATEVER THE INPUT: true; the input reads as it did. -/
def fnUnshufflesSpec : ChangeSpec := { name := "fnUnshuffles", fn := fun _ => fun
  | [d] => { results := [.lit (.bool true)], args := [d] }
  | _ => none }
def fnUnshufflesRow : OpenClaim := { program := "ytceolmihglhijaa", sum := "441c1cbb7a9fba1ff616093a24cdb8ff816e7a1d8a28069076f5040435e02870", func := "loop.example/g00846/laws.FnUnshuffles", spec := "fnUnshuffles", apart := false }
def FnUnshufflesSaid : Prop := fnUnshufflesRow.holds Try.pinned (OpenSpec.ofChange fnUnshufflesSpec)

/-- ITS FALSE NEIGHBOUR: 'it returns false'. Refute it at one input. -/
def fnUnshufflesWrong : ChangeSpec := { name := "fnUnshuffles", fn := fun _ => fun
  | [d] => { results := [.lit (.bool false)], args := [d] }
  | _ => none }
def FnUnshufflesWrongFalsely : Prop := fnUnshufflesRow.holds Try.pinned (OpenSpec.ofChange fnUnshufflesWrong)

/-- 'laws.FnExactRisingSequences': WHATEVER THE INPUT: true; the input reads as it did. -/
def fnExactRisingSequencesSpec : ChangeSpec := { name := "fnExactRisingSequences", fn := fun _ => fun
  | [d] => { results := [.lit (.bool true)], args := [d] }
  | _ => none }
def fnExactRisingSequencesRow : OpenClaim := { program := "ytceolmihglhijaa", sum := "441c1cbb7a9fba1ff616093a24cdb8ff816e7a1d8a28069076f5040435e02870", func := "loop.example/g00846/laws.FnExactRisingSequences", spec := "fnExactRisingSequences", apart := false }
def FnExactRisingSequencesSaid : Prop := fnExactRisingSequencesRow.holds Try.pinned (OpenSpec.ofChange fnExactRisingSequencesSpec)

/-- ITS FALSE NEIGHBOUR: 'it returns false'. Refute it at one input. -/
def fnExactRisingSequencesWrong : ChangeSpec := { name := "fnExactRisingSequences", fn := fun _ => fun
  | [d] => { results := [.lit (.bool false)], args := [d] }
  | _ => none }
def FnExactRisingSequencesWrongFalsely : Prop := fnExactRisingSequencesRow.holds Try.pinned (OpenSpec.ofChange fnExactRisingSequencesWrong)

/-- 'laws.FnExactIsRiffle': WHATEVER THE INPUT: true; the input reads as it did. -/
def fnExactIsRiffleSpec : ChangeSpec := { name := "fnExactIsRiffle", fn := fun _ => fun
  | [d] => { results := [.lit (.bool true)], args := [d] }
  | _ => none }
def fnExactIsRiffleRow : OpenClaim := { program := "ytceolmihglhijaa", sum := "441c1cbb7a9fba1ff616093a24cdb8ff816e7a1d8a28069076f5040435e02870", func := "loop.example/g00846/laws.FnExactIsRiffle", spec := "fnExactIsRiffle", apart := false }
def FnExactIsRiffleSaid : Prop := fnExactIsRiffleRow.holds Try.pinned (OpenSpec.ofChange fnExactIsRiffleSpec)

/-- ITS FALSE NEIGHBOUR: 'it returns false'. Refute it at one input. -/
def fnExactIsRiffleWrong : ChangeSpec := { name := "fnExactIsRiffle", fn := fun _ => fun
  | [d] => { results := [.lit (.bool false)], args := [d] }
  | _ => none }
def FnExactIsRiffleWrongFalsely : Prop := fnExactIsRiffleRow.holds Try.pinned (OpenSpec.ofChange fnExactIsRiffleWrong)

/-- 'laws.FnExactRiffleWays': WHATEVER THE INPUT: true; the input reads as it did. -/
def fnExactRiffleWaysSpec : ChangeSpec := { name := "fnExactRiffleWays", fn := fun _ => fun
  | [d] => { results := [.lit (.bool true)], args := [d] }
  | _ => none }
def fnExactRiffleWaysRow : OpenClaim := { program := "ytceolmihglhijaa", sum := "441c1cbb7a9fba1ff616093a24cdb8ff816e7a1d8a28069076f5040435e02870", func := "loop.example/g00846/laws.FnExactRiffleWays", spec := "fnExactRiffleWays", apart := false }
def FnExactRiffleWaysSaid : Prop := fnExactRiffleWaysRow.holds Try.pinned (OpenSpec.ofChange fnExactRiffleWaysSpec)

/-- ITS FALSE NEIGHBOUR: 'it returns false'. Refute it at one input. -/
def fnExactRiffleWaysWrong : ChangeSpec := { name := "fnExactRiffleWays", fn := fun _ => fun
  | [d] => { results := [.lit (.bool false)], args := [d] }
  | _ => none }
def FnExactRiffleWaysWrongFalsely : Prop := fnExactRiffleWaysRow.holds Try.pinned (OpenSpec.ofChange fnExactRiffleWaysWrong)

/-- 'laws.FnExactCountRiffles': WHATEVER THE INPUT: true; the input reads as it did. -/
def fnExactCountRifflesSpec : ChangeSpec := { name := "fnExactCountRiffles", fn := fun _ => fun
  | [d] => { results := [.lit (.bool true)], args := [d] }
  | _ => none }
def fnExactCountRifflesRow : OpenClaim := { program := "ytceolmihglhijaa", sum := "441c1cbb7a9fba1ff616093a24cdb8ff816e7a1d8a28069076f5040435e02870", func := "loop.example/g00846/laws.FnExactCountRiffles", spec := "fnExactCountRiffles", apart := false }
def FnExactCountRifflesSaid : Prop := fnExactCountRifflesRow.holds Try.pinned (OpenSpec.ofChange fnExactCountRifflesSpec)

/-- ITS FALSE NEIGHBOUR: 'it returns false'. Refute it at one input. -/
def fnExactCountRifflesWrong : ChangeSpec := { name := "fnExactCountRiffles", fn := fun _ => fun
  | [d] => { results := [.lit (.bool false)], args := [d] }
  | _ => none }
def FnExactCountRifflesWrongFalsely : Prop := fnExactCountRifflesRow.holds Try.pinned (OpenSpec.ofChange fnExactCountRifflesWrong)

/-- 'laws.FnExactLeastRiffles': WHATEVER THE INPUT: true; the input reads as it did. -/
def fnExactLeastRifflesSpec : ChangeSpec := { name := "fnExactLeastRiffles", fn := fun _ => fun
  | [d] => { results := [.lit (.bool true)], args := [d] }
  | _ => none }
def fnExactLeastRifflesRow : OpenClaim := { program := "ytceolmihglhijaa", sum := "441c1cbb7a9fba1ff616093a24cdb8ff816e7a1d8a28069076f5040435e02870", func := "loop.example/g00846/laws.FnExactLeastRiffles", spec := "fnExactLeastRiffles", apart := false }
def FnExactLeastRifflesSaid : Prop := fnExactLeastRifflesRow.holds Try.pinned (OpenSpec.ofChange fnExactLeastRifflesSpec)

/-- ITS FALSE NEIGHBOUR: 'it returns false'. Refute it at one input. -/
def fnExactLeastRifflesWrong : ChangeSpec := { name := "fnExactLeastRiffles", fn := fun _ => fun
  | [d] => { results := [.lit (.bool false)], args := [d] }
  | _ => none }
def FnExactLeastRifflesWrongFalsely : Prop := fnExactLeastRifflesRow.holds Try.pinned (OpenSpec.ofChange fnExactLeastRifflesWrong)

/-- 'laws.FnExactSplitOf': WHATEVER THE INPUT: true; the input reads as it did. -/
def fnExactSplitOfSpec : ChangeSpec := { name := "fnExactSplitOf", fn := fun _ => fun
  | [d] => { results := [.lit (.bool true)], args := [d] }
  | _ => none }
def fnExactSplitOfRow : OpenClaim := { program := "ytceolmihglhijaa", sum := "441c1cbb7a9fba1ff616093a24cdb8ff816e7a1d8a28069076f5040435e02870", func := "loop.example/g00846/laws.FnExactSplitOf", spec := "fnExactSplitOf", apart := false }
def FnExactSplitOfSaid : Prop := fnExactSplitOfRow.holds Try.pinned (OpenSpec.ofChange fnExactSplitOfSpec)

/-- ITS FALSE NEIGHBOUR: 'it returns false'. Refute it at one input. -/
def fnExactSplitOfWrong : ChangeSpec := { name := "fnExactSplitOf", fn := fun _ => fun
  | [d] => { results := [.lit (.bool false)], args := [d] }
  | _ => none }
def FnExactSplitOfWrongFalsely : Prop := fnExactSplitOfRow.holds Try.pinned (OpenSpec.ofChange fnExactSplitOfWrong)

/-- 'laws.FnExactUnshuffleTo': WHATEVER THE INPUT: true; the input reads as it did. -/
def fnExactUnshuffleToSpec : ChangeSpec := { name := "fnExactUnshuffleTo", fn := fun _ => fun
  | [d] => { results := [.lit (.bool true)], args := [d] }
  | _ => none }
def fnExactUnshuffleToRow : OpenClaim := { program := "ytceolmihglhijaa", sum := "441c1cbb7a9fba1ff616093a24cdb8ff816e7a1d8a28069076f5040435e02870", func := "loop.example/g00846/laws.FnExactUnshuffleTo", spec := "fnExactUnshuffleTo", apart := false }
def FnExactUnshuffleToSaid : Prop := fnExactUnshuffleToRow.holds Try.pinned (OpenSpec.ofChange fnExactUnshuffleToSpec)

/-- ITS FALSE NEIGHBOUR: 'it returns false'. Refute it at one input. -/
def fnExactUnshuffleToWrong : ChangeSpec := { name := "fnExactUnshuffleTo", fn := fun _ => fun
  | [d] => { results := [.lit (.bool false)], args := [d] }
  | _ => none }
def FnExactUnshuffleToWrongFalsely : Prop := fnExactUnshuffleToRow.holds Try.pinned (OpenSpec.ofChange fnExactUnshuffleToWrong)

/- THE SECOND FORM. 'bulk': how many values and letters a reading holds, each counted each time it is reached (what is shared counts as often as it is met; a slice's spare places count too). A statement '..UptoSaid' is the law's where the arguments, and the package variables that the reading takes, are together of bulk at most 1048576: NARROWER than '..Said'. Prove '..Said' where nothing that the law and all that it calls make is longer than what came in: it says more and counts as full. Else prove '..UptoSaid'. A law counts once. -/
mutual
def uptoBulk {H : Type} : DataW H → Nat
  | .lit (.string bytes) => bytes.length + 1
  | .lit _ => 1
  | .nil => 1
  | .ptr d => uptoBulk d + 1
  | .slice elems spare => uptoBulkAll elems + uptoBulkAll spare + 1
  | .agg parts => uptoBulkAll parts + 1
  | .iface _ d => uptoBulk d + 1
  | .map entries => uptoBulkEntries entries + 1
  | .held _ => 1
def uptoBulkAll {H : Type} : List (DataW H) → Nat
  | [] => 0
  | d :: r => uptoBulk d + uptoBulkAll r
def uptoBulkEntries {H : Type} : List (Lit × DataW H) → Nat
  | [] => 0
  | x :: r => uptoBulkEntry x + uptoBulkEntries r
def uptoBulkEntry {H : Type} : Lit × DataW H → Nat
  | (.string bytes, d) => bytes.length + uptoBulk d + 1
  | (_, d) => uptoBulk d + 1
 end
def uptoSmall : (H : Type) → List (DataW H) → Bool := fun _ ds => decide (uptoBulkAll ds ≤ 1048576)
def OpenSpec.upto (s : _root_.Go.ChangeSpec) : _root_.Go.OpenSpec := { _root_.Go.OpenSpec.ofChange s with cond := some uptoSmall }

/-- 'laws.FnUnshuffles', WHERE WHAT IT READS IS OF BULK AT MOST 1048576: true; the input reads as it did. -/
def fnUnshufflesUptoRow : OpenClaim := { program := "ytceolmihglhijaa", sum := "441c1cbb7a9fba1ff616093a24cdb8ff816e7a1d8a28069076f5040435e02870", func := "loop.example/g00846/laws.FnUnshuffles", spec := "fnUnshuffles", apart := false, narrowed := true }
def FnUnshufflesUptoSaid : Prop := fnUnshufflesUptoRow.holds Try.pinned (OpenSpec.upto fnUnshufflesSpec)

/-- 'laws.FnExactRisingSequences', WHERE WHAT IT READS IS OF BULK AT MOST 1048576: true; the input reads as it did. -/
def fnExactRisingSequencesUptoRow : OpenClaim := { program := "ytceolmihglhijaa", sum := "441c1cbb7a9fba1ff616093a24cdb8ff816e7a1d8a28069076f5040435e02870", func := "loop.example/g00846/laws.FnExactRisingSequences", spec := "fnExactRisingSequences", apart := false, narrowed := true }
def FnExactRisingSequencesUptoSaid : Prop := fnExactRisingSequencesUptoRow.holds Try.pinned (OpenSpec.upto fnExactRisingSequencesSpec)

/-- 'laws.FnExactIsRiffle', WHERE WHAT IT READS IS OF BULK AT MOST 1048576: true; the input reads as it did. -/
def fnExactIsRiffleUptoRow : OpenClaim := { program := "ytceolmihglhijaa", sum := "441c1cbb7a9fba1ff616093a24cdb8ff816e7a1d8a28069076f5040435e02870", func := "loop.example/g00846/laws.FnExactIsRiffle", spec := "fnExactIsRiffle", apart := false, narrowed := true }
def FnExactIsRiffleUptoSaid : Prop := fnExactIsRiffleUptoRow.holds Try.pinned (OpenSpec.upto fnExactIsRiffleSpec)

/-- 'laws.FnExactRiffleWays', WHERE WHAT IT READS IS OF BULK AT MOST 1048576: true; the input reads as it did. -/
def fnExactRiffleWaysUptoRow : OpenClaim := { program := "ytceolmihglhijaa", sum := "441c1cbb7a9fba1ff616093a24cdb8ff816e7a1d8a28069076f5040435e02870", func := "loop.example/g00846/laws.FnExactRiffleWays", spec := "fnExactRiffleWays", apart := false, narrowed := true }
def FnExactRiffleWaysUptoSaid : Prop := fnExactRiffleWaysUptoRow.holds Try.pinned (OpenSpec.upto fnExactRiffleWaysSpec)

/-- 'laws.FnExactCountRiffles', WHERE WHAT IT READS IS OF BULK AT MOST 1048576: true; the input reads as it did. -/
def fnExactCountRifflesUptoRow : OpenClaim := { program := "ytceolmihglhijaa", sum := "441c1cbb7a9fba1ff616093a24cdb8ff816e7a1d8a28069076f5040435e02870", func := "loop.example/g00846/laws.FnExactCountRiffles", spec := "fnExactCountRiffles", apart := false, narrowed := true }
def FnExactCountRifflesUptoSaid : Prop := fnExactCountRifflesUptoRow.holds Try.pinned (OpenSpec.upto fnExactCountRifflesSpec)

/-- 'laws.FnExactLeastRiffles', WHERE WHAT IT READS IS OF BULK AT MOST 1048576: true; the input reads as it did. -/
def fnExactLeastRifflesUptoRow : OpenClaim := { program := "ytceolmihglhijaa", sum := "441c1cbb7a9fba1ff616093a24cdb8ff816e7a1d8a28069076f5040435e02870", func := "loop.example/g00846/laws.FnExactLeastRiffles", spec := "fnExactLeastRiffles", apart := false, narrowed := true }
def FnExactLeastRifflesUptoSaid : Prop := fnExactLeastRifflesUptoRow.holds Try.pinned (OpenSpec.upto fnExactLeastRifflesSpec)

/-- 'laws.FnExactSplitOf', WHERE WHAT IT READS IS OF BULK AT MOST 1048576: true; the input reads as it did. -/
def fnExactSplitOfUptoRow : OpenClaim := { program := "ytceolmihglhijaa", sum := "441c1cbb7a9fba1ff616093a24cdb8ff816e7a1d8a28069076f5040435e02870", func := "loop.example/g00846/laws.FnExactSplitOf", spec := "fnExactSplitOf", apart := false, narrowed := true }
def FnExactSplitOfUptoSaid : Prop := fnExactSplitOfUptoRow.holds Try.pinned (OpenSpec.upto fnExactSplitOfSpec)

/-- 'laws.FnExactUnshuffleTo', WHERE WHAT IT READS IS OF BULK AT MOST 1048576: true; the input reads as it did. -/
def fnExactUnshuffleToUptoRow : OpenClaim := { program := "ytceolmihglhijaa", sum := "441c1cbb7a9fba1ff616093a24cdb8ff816e7a1d8a28069076f5040435e02870", func := "loop.example/g00846/laws.FnExactUnshuffleTo", spec := "fnExactUnshuffleTo", apart := false, narrowed := true }
def FnExactUnshuffleToUptoSaid : Prop := fnExactUnshuffleToUptoRow.holds Try.pinned (OpenSpec.upto fnExactUnshuffleToSpec)

end Rows
end Go.Proofs.Ytceolmihglhijaa
