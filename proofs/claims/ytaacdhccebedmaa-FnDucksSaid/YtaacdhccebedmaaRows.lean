/-
  No cell of these rows narrows 'for every input' (looked for: loops, veiled, ifaces, maps, wideKeys, modest, calm, conditions, laid).
  DERIVED. THE GIVEN ROWS OF THIS SEAT. 6 by the template 'for every input the law returns true; each argument reads behind the call as it read before'; 0 by the template 'total and deterministic' (their statements: YtaacdhccebedmaaTotals.lean).
  GIVEN WITH THE SEED: the statements are not yours to turn. If you find one false, say at which input.
  Laid BY PROGRAM, IN A SANDBOX (cutbox-rows.mjs): the forced cells as the released guide's own fill.sh prints them over the translation 4990eecdd5862e83… (all of the seat's roots in one cut). By AI agents, Wed Nov 11 2026. No macro, syntax, notation, axiom, sorry.
-/
import Derived.Test.YtaacdhccebedmaaChecked
import GoSem.Claim
import GoSem.ClaimJoined
import GoSem.ClaimMapViews
import Derived.JoinedTies
import Derived.KernelRfl
namespace Go.Proofs.Ytaacdhccebedmaa
/- THE CELL 'sum', in the pinned program and in every row, IS THE sha256 OF THE DUMP (.gsa) THAT YtaacdhccebedmaaProg.lean LOADS. Nothing in Lean hashes anything: it is a label: what it is worth is what the hold of that sum in a sandbox is worth. -/
noncomputable def Try.pinned : Pinned := { name := "ytaacdhccebedmaa", sum := "4990eecdd5862e8308b6d1b4117c01127bfbb1343c2b530a194f1de3d06bb9ac", checked := Try.checked }
namespace Rows
def none {H : Type} : Left H := { results := [], args := [] }

/-- 'laws.FnDucks': WHATEVER THE INPUT: true; the input reads as it did. -/
def fnDucksSpec : ChangeSpec := { name := "fnDucks", fn := fun _ => fun
  | [d] => { results := [.lit (.bool true)], args := [d] }
  | _ => none }
def fnDucksRow : OpenClaim := { program := "ytaacdhccebedmaa", sum := "4990eecdd5862e8308b6d1b4117c01127bfbb1343c2b530a194f1de3d06bb9ac", func := "loop.example/g00846/laws.FnDucks", spec := "fnDucks", inPlace := ["slices.overlaps[int]"], unfollowed := true, recurses := true, apart := false }
def FnDucksSaid : Prop := fnDucksRow.holds Try.pinned (OpenSpec.ofChange fnDucksSpec)

/-- ITS FALSE NEIGHBOUR: 'it returns false'. Refute it at one input. -/
def fnDucksWrong : ChangeSpec := { name := "fnDucks", fn := fun _ => fun
  | [d] => { results := [.lit (.bool false)], args := [d] }
  | _ => none }
def FnDucksWrongFalsely : Prop := fnDucksRow.holds Try.pinned (OpenSpec.ofChange fnDucksWrong)

/-- 'laws.FnExactLastIndex': WHATEVER THE INPUT: true; the input reads as it did. -/
def fnExactLastIndexSpec : ChangeSpec := { name := "fnExactLastIndex", fn := fun _ => fun
  | [d1, d2] => { results := [.lit (.bool true)], args := [d1, d2] }
  | _ => none }
def fnExactLastIndexRow : OpenClaim := { program := "ytaacdhccebedmaa", sum := "4990eecdd5862e8308b6d1b4117c01127bfbb1343c2b530a194f1de3d06bb9ac", func := "loop.example/g00846/laws.FnExactLastIndex", spec := "fnExactLastIndex", inPlace := ["slices.overlaps[int]"], unfollowed := true, recurses := true, apart := false }
def FnExactLastIndexSaid : Prop := fnExactLastIndexRow.holds Try.pinned (OpenSpec.ofChange fnExactLastIndexSpec)

/-- ITS FALSE NEIGHBOUR: 'it returns false'. Refute it at one input. -/
def fnExactLastIndexWrong : ChangeSpec := { name := "fnExactLastIndex", fn := fun _ => fun
  | [d1, d2] => { results := [.lit (.bool false)], args := [d1, d2] }
  | _ => none }
def FnExactLastIndexWrongFalsely : Prop := fnExactLastIndexRow.holds Try.pinned (OpenSpec.ofChange fnExactLastIndexWrong)

/-- 'laws.FnExactLastByPower': WHATEVER THE INPUT: true; the input reads as it did. -/
def fnExactLastByPowerSpec : ChangeSpec := { name := "fnExactLastByPower", fn := fun _ => fun
  | [d1, d2] => { results := [.lit (.bool true)], args := [d1, d2] }
  | _ => none }
def fnExactLastByPowerRow : OpenClaim := { program := "ytaacdhccebedmaa", sum := "4990eecdd5862e8308b6d1b4117c01127bfbb1343c2b530a194f1de3d06bb9ac", func := "loop.example/g00846/laws.FnExactLastByPower", spec := "fnExactLastByPower", inPlace := ["slices.overlaps[int]"], unfollowed := true, recurses := true, apart := false }
def FnExactLastByPowerSaid : Prop := fnExactLastByPowerRow.holds Try.pinned (OpenSpec.ofChange fnExactLastByPowerSpec)

/-- ITS FALSE NEIGHBOUR: 'it returns false'. Refute it at one input. -/
def fnExactLastByPowerWrong : ChangeSpec := { name := "fnExactLastByPower", fn := fun _ => fun
  | [d1, d2] => { results := [.lit (.bool false)], args := [d1, d2] }
  | _ => none }
def FnExactLastByPowerWrongFalsely : Prop := fnExactLastByPowerRow.holds Try.pinned (OpenSpec.ofChange fnExactLastByPowerWrong)

/-- 'laws.FnExactDealOrder': WHATEVER THE INPUT: true; the input reads as it did. -/
def fnExactDealOrderSpec : ChangeSpec := { name := "fnExactDealOrder", fn := fun _ => fun
  | [d1, d2] => { results := [.lit (.bool true)], args := [d1, d2] }
  | _ => none }
def fnExactDealOrderRow : OpenClaim := { program := "ytaacdhccebedmaa", sum := "4990eecdd5862e8308b6d1b4117c01127bfbb1343c2b530a194f1de3d06bb9ac", func := "loop.example/g00846/laws.FnExactDealOrder", spec := "fnExactDealOrder", inPlace := ["slices.overlaps[int]"], unfollowed := true, recurses := true, apart := false }
def FnExactDealOrderSaid : Prop := fnExactDealOrderRow.holds Try.pinned (OpenSpec.ofChange fnExactDealOrderSpec)

/-- ITS FALSE NEIGHBOUR: 'it returns false'. Refute it at one input. -/
def fnExactDealOrderWrong : ChangeSpec := { name := "fnExactDealOrder", fn := fun _ => fun
  | [d1, d2] => { results := [.lit (.bool false)], args := [d1, d2] }
  | _ => none }
def FnExactDealOrderWrongFalsely : Prop := fnExactDealOrderRow.holds Try.pinned (OpenSpec.ofChange fnExactDealOrderWrong)

/-- 'laws.FnExactPrepareDuck': WHATEVER THE INPUT: true; the input reads as it did. -/
def fnExactPrepareDuckSpec : ChangeSpec := { name := "fnExactPrepareDuck", fn := fun _ => fun
  | [d1, d2] => { results := [.lit (.bool true)], args := [d1, d2] }
  | _ => none }
def fnExactPrepareDuckRow : OpenClaim := { program := "ytaacdhccebedmaa", sum := "4990eecdd5862e8308b6d1b4117c01127bfbb1343c2b530a194f1de3d06bb9ac", func := "loop.example/g00846/laws.FnExactPrepareDuck", spec := "fnExactPrepareDuck", inPlace := ["slices.overlaps[int]"], unfollowed := true, recurses := true, apart := false }
def FnExactPrepareDuckSaid : Prop := fnExactPrepareDuckRow.holds Try.pinned (OpenSpec.ofChange fnExactPrepareDuckSpec)

/-- ITS FALSE NEIGHBOUR: 'it returns false'. Refute it at one input. -/
def fnExactPrepareDuckWrong : ChangeSpec := { name := "fnExactPrepareDuck", fn := fun _ => fun
  | [d1, d2] => { results := [.lit (.bool false)], args := [d1, d2] }
  | _ => none }
def FnExactPrepareDuckWrongFalsely : Prop := fnExactPrepareDuckRow.holds Try.pinned (OpenSpec.ofChange fnExactPrepareDuckWrong)

/-- 'laws.FnExactRoundsOf': WHATEVER THE INPUT: true; the input reads as it did. -/
def fnExactRoundsOfSpec : ChangeSpec := { name := "fnExactRoundsOf", fn := fun _ => fun
  | [d] => { results := [.lit (.bool true)], args := [d] }
  | _ => none }
def fnExactRoundsOfRow : OpenClaim := { program := "ytaacdhccebedmaa", sum := "4990eecdd5862e8308b6d1b4117c01127bfbb1343c2b530a194f1de3d06bb9ac", func := "loop.example/g00846/laws.FnExactRoundsOf", spec := "fnExactRoundsOf", apart := false }
def FnExactRoundsOfSaid : Prop := fnExactRoundsOfRow.holds Try.pinned (OpenSpec.ofChange fnExactRoundsOfSpec)

/-- ITS FALSE NEIGHBOUR: 'it returns false'. Refute it at one input. -/
def fnExactRoundsOfWrong : ChangeSpec := { name := "fnExactRoundsOf", fn := fun _ => fun
  | [d] => { results := [.lit (.bool false)], args := [d] }
  | _ => none }
def FnExactRoundsOfWrongFalsely : Prop := fnExactRoundsOfRow.holds Try.pinned (OpenSpec.ofChange fnExactRoundsOfWrong)

/- THE SECOND FORM. 'bulk': how many values and letters a reading holds, each counted each time it is reached (what is shared counts as often as it is met; a slice's spare places count too). A statement '..UptoSaid' is the law's where the arguments, and the package variables that the reading takes, are together of bulk at most 1048576: NARROWER than '..Said'. Prove '..Said' where nothing that the law and all that it calls make is longer than what came in: it says more and counts as full. Else prove '..UptoSaid'. A law counts once. -/
mutual
def uptoBulk {H : Type} : DataW H → Nat
  | .lit (.string bytes) => bytes.length + 1
  | .lit _ => 1
  | .nil => 1
  | .ptr d => uptoBulk d + 1
  | .slice elems spare => uptoBulkAll elems + uptoBulkAll spare + 1
  | .agg parts => uptoBulkAll parts + 1
  | .iface _ d => uptoBulk d + 1
  | .map entries => uptoBulkEntries entries + 1
  | .held _ => 1
def uptoBulkAll {H : Type} : List (DataW H) → Nat
  | [] => 0
  | d :: r => uptoBulk d + uptoBulkAll r
def uptoBulkEntries {H : Type} : List (Lit × DataW H) → Nat
  | [] => 0
  | x :: r => uptoBulkEntry x + uptoBulkEntries r
def uptoBulkEntry {H : Type} : Lit × DataW H → Nat
  | (.string bytes, d) => bytes.length + uptoBulk d + 1
  | (_, d) => uptoBulk d + 1
 end
def uptoSmall : (H : Type) → List (DataW H) → Bool := fun _ ds => decide (uptoBulkAll ds ≤ 1048576)
def OpenSpec.upto (s : _root_.Go.ChangeSpec) : _root_.Go.OpenSpec := { _root_.Go.OpenSpec.ofChange s with cond := some uptoSmall }

/-- 'laws.FnDucks', WHERE WHAT IT READS IS OF BULK AT MOST 1048576: true; the input reads as it did. -/
def fnDucksUptoRow : OpenClaim := { program := "ytaacdhccebedmaa", sum := "4990eecdd5862e8308b6d1b4117c01127bfbb1343c2b530a194f1de3d06bb9ac", func := "loop.example/g00846/laws.FnDucks", spec := "fnDucks", inPlace := ["slices.overlaps[int]"], unfollowed := true, recurses := true, apart := false, narrowed := true }
def FnDucksUptoSaid : Prop := fnDucksUptoRow.holds Try.pinned (OpenSpec.upto fnDucksSpec)

/-- 'laws.FnExactLastIndex', WHERE WHAT IT READS IS OF BULK AT MOST 1048576: true; the input reads as it did. -/
def fnExactLastIndexUptoRow : OpenClaim := { program := "ytaacdhccebedmaa", sum := "4990eecdd5862e8308b6d1b4117c01127bfbb1343c2b530a194f1de3d06bb9ac", func := "loop.example/g00846/laws.FnExactLastIndex", spec := "fnExactLastIndex", inPlace := ["slices.overlaps[int]"], unfollowed := true, recurses := true, apart := false, narrowed := true }
def FnExactLastIndexUptoSaid : Prop := fnExactLastIndexUptoRow.holds Try.pinned (OpenSpec.upto fnExactLastIndexSpec)

/-- 'laws.FnExactLastByPower', WHERE WHAT IT READS IS OF BULK AT MOST 1048576: true; the input reads as it did. -/
def fnExactLastByPowerUptoRow : OpenClaim := { program := "ytaacdhccebedmaa", sum := "4990eecdd5862e8308b6d1b4117c01127bfbb1343c2b530a194f1de3d06bb9ac", func := "loop.example/g00846/laws.FnExactLastByPower", spec := "fnExactLastByPower", inPlace := ["slices.overlaps[int]"], unfollowed := true, recurses := true, apart := false, narrowed := true }
def FnExactLastByPowerUptoSaid : Prop := fnExactLastByPowerUptoRow.holds Try.pinned (OpenSpec.upto fnExactLastByPowerSpec)

/-- 'laws.FnExactDealOrder', WHERE WHAT IT READS IS OF BULK AT MOST 1048576: true; the input reads as it did. -/
def fnExactDealOrderUptoRow : OpenClaim := { program := "ytaacdhccebedmaa", sum := "4990eecdd5862e8308b6d1b4117c01127bfbb1343c2b530a194f1de3d06bb9ac", func := "loop.example/g00846/laws.FnExactDealOrder", spec := "fnExactDealOrder", inPlace := ["slices.overlaps[int]"], unfollowed := true, recurses := true, apart := false, narrowed := true }
def FnExactDealOrderUptoSaid : Prop := fnExactDealOrderUptoRow.holds Try.pinned (OpenSpec.upto fnExactDealOrderSpec)

/-- 'laws.FnExactPrepareDuck', WHERE WHAT IT READS IS OF BULK AT MOST 1048576: true; the input reads as it did. -/
def fnExactPrepareDuckUptoRow : OpenClaim := { program := "ytaacdhccebedmaa", sum := "4990eecdd5862e8308b6d1b4117c01127bfbb1343c2b530a194f1de3d06bb9ac", func := "loop.example/g00846/laws.FnExactPrepareDuck", spec := "fnExactPrepareDuck", inPlace := ["slices.overlaps[int]"], unfollowed := true, recurses := true, apart := false, narrowed := true }
def FnExactPrepareDuckUptoSaid : Prop := fnExactPrepareDuckUptoRow.holds Try.pinned (OpenSpec.upto fnExactPrepareDuckSpec)

/-- 'laws.FnExactRoundsOf', WHERE WHAT IT READS IS OF BULK AT MOST 1048576: true; the input reads as it did. -/
def fnExactRoundsOfUptoRow : OpenClaim := { program := "ytaacdhccebedmaa", sum := "4990eecdd5862e8308b6d1b4117c01127bfbb1343c2b530a194f1de3d06bb9ac", func := "loop.example/g00846/laws.FnExactRoundsOf", spec := "fnExactRoundsOf", apart := false, narrowed := true }
def FnExactRoundsOfUptoSaid : Prop := fnExactRoundsOfUptoRow.holds Try.pinned (OpenSpec.upto fnExactRoundsOfSpec)

end Rows
end Go.Proofs.Ytaacdhccebedmaa
