/-
  No cell of these rows narrows 'for every input' (looked for: loops, veiled, ifaces, maps, wideKeys, modest, calm, conditions, laid).
  DERIVED. THE GIVEN ROWS OF THIS SEAT. 6 by the template 'for every input the law returns true; each argument reads behind the call as it read before'; 0 by the template 'total and deterministic' (their statements: YtfbgpofpbdbkiaaTotals.lean).
  GIVEN WITH THE SEED: the statements are not yours to turn. If you find one false, say at which input.
  Laid BY PROGRAM, IN A SANDBOX (cutbox-rows.mjs): the forced cells as the released guide's own fill.sh prints them over the translation fc11f6eb1df51597… (all of the seat's roots in one cut). By AI agents, Wed Nov 11 2026. No macro, syntax, notation, axiom, sorry.
-/
import Derived.Test.YtfbgpofpbdbkiaaChecked
import GoSem.Claim
import GoSem.ClaimJoined
import GoSem.ClaimMapViews
import Derived.JoinedTies
import Derived.KernelRfl
namespace Go.Proofs.Ytfbgpofpbdbkiaa
/- THE CELL 'sum', in the pinned program and in every row, IS THE sha256 OF THE DUMP (.gsa) THAT YtfbgpofpbdbkiaaProg.lean LOADS. Nothing in Lean hashes anything: it is a label: what it is worth is what the hold of that sum in a sandbox is worth. -/
noncomputable def Try.pinned : Pinned := { name := "ytfbgpofpbdbkiaa", sum := "fc11f6eb1df5159795477580a19f6a7530d44ef46474818becc41cabd16c7521", checked := Try.checked }
namespace Rows
def none {H : Type} : Left H := { results := [], args := [] }

/-- 'laws.FnChoices': WHATEVER THE INPUT: true; the input reads as it did. -/
def fnChoicesSpec : ChangeSpec := { name := "fnChoices", fn := fun _ => fun
  | [d] => { results := [.lit (.bool true)], args := [d] }
  | _ => none }
def fnChoicesRow : OpenClaim := { program := "ytfbgpofpbdbkiaa", sum := "fc11f6eb1df5159795477580a19f6a7530d44ef46474818becc41cabd16c7521", func := "loop.example/g00846/laws.FnChoices", spec := "fnChoices", inPlace := ["slices.overlaps[int]"], unfollowed := true, recurses := true, apart := false }
def FnChoicesSaid : Prop := fnChoicesRow.holds Try.pinned (OpenSpec.ofChange fnChoicesSpec)

/-- ITS FALSE NEIGHBOUR: 'it returns false'. Refute it at one input. -/
def fnChoicesWrong : ChangeSpec := { name := "fnChoices", fn := fun _ => fun
  | [d] => { results := [.lit (.bool false)], args := [d] }
  | _ => none }
def FnChoicesWrongFalsely : Prop := fnChoicesRow.holds Try.pinned (OpenSpec.ofChange fnChoicesWrong)

/-- 'laws.FnParity': WHATEVER THE INPUT: true; the input reads as it did. -/
def fnParitySpec : ChangeSpec := { name := "fnParity", fn := fun _ => fun
  | [d] => { results := [.lit (.bool true)], args := [d] }
  | _ => none }
def fnParityRow : OpenClaim := { program := "ytfbgpofpbdbkiaa", sum := "fc11f6eb1df5159795477580a19f6a7530d44ef46474818becc41cabd16c7521", func := "loop.example/g00846/laws.FnParity", spec := "fnParity", inPlace := ["slices.overlaps[int]"], unfollowed := true, recurses := true, apart := false }
def FnParitySaid : Prop := fnParityRow.holds Try.pinned (OpenSpec.ofChange fnParitySpec)

/-- ITS FALSE NEIGHBOUR: 'it returns false'. Refute it at one input. -/
def fnParityWrong : ChangeSpec := { name := "fnParity", fn := fun _ => fun
  | [d] => { results := [.lit (.bool false)], args := [d] }
  | _ => none }
def FnParityWrongFalsely : Prop := fnParityRow.holds Try.pinned (OpenSpec.ofChange fnParityWrong)

/-- 'laws.FnExactBalanceOf': WHATEVER THE INPUT: true; the input reads as it did. -/
def fnExactBalanceOfSpec : ChangeSpec := { name := "fnExactBalanceOf", fn := fun _ => fun
  | [d] => { results := [.lit (.bool true)], args := [d] }
  | _ => none }
def fnExactBalanceOfRow : OpenClaim := { program := "ytfbgpofpbdbkiaa", sum := "fc11f6eb1df5159795477580a19f6a7530d44ef46474818becc41cabd16c7521", func := "loop.example/g00846/laws.FnExactBalanceOf", spec := "fnExactBalanceOf", apart := false }
def FnExactBalanceOfSaid : Prop := fnExactBalanceOfRow.holds Try.pinned (OpenSpec.ofChange fnExactBalanceOfSpec)

/-- ITS FALSE NEIGHBOUR: 'it returns false'. Refute it at one input. -/
def fnExactBalanceOfWrong : ChangeSpec := { name := "fnExactBalanceOf", fn := fun _ => fun
  | [d] => { results := [.lit (.bool false)], args := [d] }
  | _ => none }
def FnExactBalanceOfWrongFalsely : Prop := fnExactBalanceOfRow.holds Try.pinned (OpenSpec.ofChange fnExactBalanceOfWrong)

/-- 'laws.FnExactKeepsBalance': WHATEVER THE INPUT: true; the input reads as it did. -/
def fnExactKeepsBalanceSpec : ChangeSpec := { name := "fnExactKeepsBalance", fn := fun _ => fun
  | [d1, d2] => { results := [.lit (.bool true)], args := [d1, d2] }
  | _ => none }
def fnExactKeepsBalanceRow : OpenClaim := { program := "ytfbgpofpbdbkiaa", sum := "fc11f6eb1df5159795477580a19f6a7530d44ef46474818becc41cabd16c7521", func := "loop.example/g00846/laws.FnExactKeepsBalance", spec := "fnExactKeepsBalance", inPlace := ["slices.overlaps[int]"], unfollowed := true, recurses := true, apart := false }
def FnExactKeepsBalanceSaid : Prop := fnExactKeepsBalanceRow.holds Try.pinned (OpenSpec.ofChange fnExactKeepsBalanceSpec)

/-- ITS FALSE NEIGHBOUR: 'it returns false'. Refute it at one input. -/
def fnExactKeepsBalanceWrong : ChangeSpec := { name := "fnExactKeepsBalance", fn := fun _ => fun
  | [d1, d2] => { results := [.lit (.bool false)], args := [d1, d2] }
  | _ => none }
def FnExactKeepsBalanceWrongFalsely : Prop := fnExactKeepsBalanceRow.holds Try.pinned (OpenSpec.ofChange fnExactKeepsBalanceWrong)

/-- 'laws.FnExactUpCountAfter': WHATEVER THE INPUT: true; the input reads as it did. -/
def fnExactUpCountAfterSpec : ChangeSpec := { name := "fnExactUpCountAfter", fn := fun _ => fun
  | [d] => { results := [.lit (.bool true)], args := [d] }
  | _ => none }
def fnExactUpCountAfterRow : OpenClaim := { program := "ytfbgpofpbdbkiaa", sum := "fc11f6eb1df5159795477580a19f6a7530d44ef46474818becc41cabd16c7521", func := "loop.example/g00846/laws.FnExactUpCountAfter", spec := "fnExactUpCountAfter", apart := false }
def FnExactUpCountAfterSaid : Prop := fnExactUpCountAfterRow.holds Try.pinned (OpenSpec.ofChange fnExactUpCountAfterSpec)

/-- ITS FALSE NEIGHBOUR: 'it returns false'. Refute it at one input. -/
def fnExactUpCountAfterWrong : ChangeSpec := { name := "fnExactUpCountAfter", fn := fun _ => fun
  | [d] => { results := [.lit (.bool false)], args := [d] }
  | _ => none }
def FnExactUpCountAfterWrongFalsely : Prop := fnExactUpCountAfterRow.holds Try.pinned (OpenSpec.ofChange fnExactUpCountAfterWrong)

/-- 'laws.FnExactSplitSides': WHATEVER THE INPUT: true; the input reads as it did. -/
def fnExactSplitSidesSpec : ChangeSpec := { name := "fnExactSplitSides", fn := fun _ => fun
  | [d] => { results := [.lit (.bool true)], args := [d] }
  | _ => none }
def fnExactSplitSidesRow : OpenClaim := { program := "ytfbgpofpbdbkiaa", sum := "fc11f6eb1df5159795477580a19f6a7530d44ef46474818becc41cabd16c7521", func := "loop.example/g00846/laws.FnExactSplitSides", spec := "fnExactSplitSides", apart := false }
def FnExactSplitSidesSaid : Prop := fnExactSplitSidesRow.holds Try.pinned (OpenSpec.ofChange fnExactSplitSidesSpec)

/-- ITS FALSE NEIGHBOUR: 'it returns false'. Refute it at one input. -/
def fnExactSplitSidesWrong : ChangeSpec := { name := "fnExactSplitSides", fn := fun _ => fun
  | [d] => { results := [.lit (.bool false)], args := [d] }
  | _ => none }
def FnExactSplitSidesWrongFalsely : Prop := fnExactSplitSidesRow.holds Try.pinned (OpenSpec.ofChange fnExactSplitSidesWrong)

/- THE SECOND FORM. 'bulk': how many values and letters a reading holds, each counted each time it is reached (what is shared counts as often as it is met; a slice's spare places count too). A statement '..UptoSaid' is the law's where the arguments, and the package variables that the reading takes, are together of bulk at most 1048576: NARROWER than '..Said'. Prove '..Said' where nothing that the law and all that it calls make is longer than what came in: it says more and counts as full. Else prove '..UptoSaid'. A law counts once. -/
mutual
def uptoBulk {H : Type} : DataW H → Nat
  | .lit (.string bytes) => bytes.length + 1
  | .lit _ => 1
  | .nil => 1
  | .ptr d => uptoBulk d + 1
  | .slice elems spare => uptoBulkAll elems + uptoBulkAll spare + 1
  | .agg parts => uptoBulkAll parts + 1
  | .iface _ d => uptoBulk d + 1
  | .map entries => uptoBulkEntries entries + 1
  | .held _ => 1
def uptoBulkAll {H : Type} : List (DataW H) → Nat
  | [] => 0
  | d :: r => uptoBulk d + uptoBulkAll r
def uptoBulkEntries {H : Type} : List (Lit × DataW H) → Nat
  | [] => 0
  | x :: r => uptoBulkEntry x + uptoBulkEntries r
def uptoBulkEntry {H : Type} : Lit × DataW H → Nat
  | (.string bytes, d) => bytes.length + uptoBulk d + 1
  | (_, d) => uptoBulk d + 1
 end
def uptoSmall : (H : Type) → List (DataW H) → Bool := fun _ ds => decide (uptoBulkAll ds ≤ 1048576)
def OpenSpec.upto (s : _root_.Go.ChangeSpec) : _root_.Go.OpenSpec := { _root_.Go.OpenSpec.ofChange s with cond := some uptoSmall }

/-- 'laws.FnChoices', WHERE WHAT IT READS IS OF BULK AT MOST 1048576: true; the input reads as it did. -/
def fnChoicesUptoRow : OpenClaim := { program := "ytfbgpofpbdbkiaa", sum := "fc11f6eb1df5159795477580a19f6a7530d44ef46474818becc41cabd16c7521", func := "loop.example/g00846/laws.FnChoices", spec := "fnChoices", inPlace := ["slices.overlaps[int]"], unfollowed := true, recurses := true, apart := false, narrowed := true }
def FnChoicesUptoSaid : Prop := fnChoicesUptoRow.holds Try.pinned (OpenSpec.upto fnChoicesSpec)

/-- 'laws.FnParity', WHERE WHAT IT READS IS OF BULK AT MOST 1048576: true; the input reads as it did. -/
def fnParityUptoRow : OpenClaim := { program := "ytfbgpofpbdbkiaa", sum := "fc11f6eb1df5159795477580a19f6a7530d44ef46474818becc41cabd16c7521", func := "loop.example/g00846/laws.FnParity", spec := "fnParity", inPlace := ["slices.overlaps[int]"], unfollowed := true, recurses := true, apart := false, narrowed := true }
def FnParityUptoSaid : Prop := fnParityUptoRow.holds Try.pinned (OpenSpec.upto fnParitySpec)

/-- 'laws.FnExactBalanceOf', WHERE WHAT IT READS IS OF BULK AT MOST 1048576: true; the input reads as it did. -/
def fnExactBalanceOfUptoRow : OpenClaim := { program := "ytfbgpofpbdbkiaa", sum := "fc11f6eb1df5159795477580a19f6a7530d44ef46474818becc41cabd16c7521", func := "loop.example/g00846/laws.FnExactBalanceOf", spec := "fnExactBalanceOf", apart := false, narrowed := true }
def FnExactBalanceOfUptoSaid : Prop := fnExactBalanceOfUptoRow.holds Try.pinned (OpenSpec.upto fnExactBalanceOfSpec)

/-- 'laws.FnExactKeepsBalance', WHERE WHAT IT READS IS OF BULK AT MOST 1048576: true; the input reads as it did. -/
def fnExactKeepsBalanceUptoRow : OpenClaim := { program := "ytfbgpofpbdbkiaa", sum := "fc11f6eb1df5159795477580a19f6a7530d44ef46474818becc41cabd16c7521", func := "loop.example/g00846/laws.FnExactKeepsBalance", spec := "fnExactKeepsBalance", inPlace := ["slices.overlaps[int]"], unfollowed := true, recurses := true, apart := false, narrowed := true }
def FnExactKeepsBalanceUptoSaid : Prop := fnExactKeepsBalanceUptoRow.holds Try.pinned (OpenSpec.upto fnExactKeepsBalanceSpec)

/-- 'laws.FnExactUpCountAfter', WHERE WHAT IT READS IS OF BULK AT MOST 1048576: true; the input reads as it did. -/
def fnExactUpCountAfterUptoRow : OpenClaim := { program := "ytfbgpofpbdbkiaa", sum := "fc11f6eb1df5159795477580a19f6a7530d44ef46474818becc41cabd16c7521", func := "loop.example/g00846/laws.FnExactUpCountAfter", spec := "fnExactUpCountAfter", apart := false, narrowed := true }
def FnExactUpCountAfterUptoSaid : Prop := fnExactUpCountAfterUptoRow.holds Try.pinned (OpenSpec.upto fnExactUpCountAfterSpec)

/-- 'laws.FnExactSplitSides', WHERE WHAT IT READS IS OF BULK AT MOST 1048576: true; the input reads as it did. -/
def fnExactSplitSidesUptoRow : OpenClaim := { program := "ytfbgpofpbdbkiaa", sum := "fc11f6eb1df5159795477580a19f6a7530d44ef46474818becc41cabd16c7521", func := "loop.example/g00846/laws.FnExactSplitSides", spec := "fnExactSplitSides", apart := false, narrowed := true }
def FnExactSplitSidesUptoSaid : Prop := fnExactSplitSidesUptoRow.holds Try.pinned (OpenSpec.upto fnExactSplitSidesSpec)

end Rows
end Go.Proofs.Ytfbgpofpbdbkiaa
