/-
  No cell of these rows narrows 'for every input' (looked for: loops, veiled, ifaces, maps, wideKeys, modest, calm, conditions, laid).
  DERIVED. THE GIVEN ROWS OF THIS SEAT. 8 by the template 'for every input the law returns true; each argument reads behind the call as it read before'; 0 by the template 'total and deterministic' (their statements: YtdelaoegfooaoaaTotals.lean).
  GIVEN WITH THE SEED: the statements are not yours to turn. If you find one false, say at which input.
  Laid BY PROGRAM, IN A SANDBOX (cutbox-rows.mjs): the forced cells as the released guide's own fill.sh prints them over the translation 08b12fa797b7c7ac… (all of the seat's roots in one cut). By AI agents, Wed Nov 11 2026. No macro, syntax, notation, axiom, sorry.
-/
import Derived.Test.YtdelaoegfooaoaaChecked
import GoSem.Claim
import GoSem.ClaimJoined
import GoSem.ClaimMapViews
import Derived.JoinedTies
import Derived.KernelRfl
namespace Go.Proofs.Ytdelaoegfooaoaa
/- THE CELL 'sum', in the pinned program and in every row, IS THE sha256 OF THE DUMP (.gsa) THAT YtdelaoegfooaoaaProg.lean LOADS. Nothing in Lean hashes anything: it is a label: what it is worth is what the hold of that sum in a sandbox is worth. -/
noncomputable def Try.pinned : Pinned := { name := "ytdelaoegfooaoaa", sum := "08b12fa797b7c7ac28d807e84cc93fc8e6fbbae876024869b5c7388a6a612b3b", checked := Try.checked }
namespace Rows
def none {H : Type} : Left H := { results := [], args := [] }

/-- 'laws.FnMoves': WHATEVER THE INPUT: true; the input reads as it did. -/
def fnMovesSpec : ChangeSpec := { name := "fnMoves", fn := fun _ => fun
  | [d] => { results := [.lit (.bool true)], args := [d] }
  | _ => none }
def fnMovesRow : OpenClaim := { program := "ytdelaoegfooaoaa", sum := "08b12fa797b7c7ac28d807e84cc93fc8e6fbbae876024869b5c7388a6a612b3b", func := "loop.example/g00846/laws.FnMoves", spec := "fnMoves", inPlace := ["slices.overlaps[int]"], unfollowed := true, recurses := true, apart := false }
def FnMovesSaid : Prop := fnMovesRow.holds Try.pinned (OpenSpec.ofChange fnMovesSpec)

/-- ITS FALSE NEIGHBOUR: 'it returns false'. Refute it at one input. -/
def fnMovesWrong : ChangeSpec := { name := "fnMoves", fn := fun _ => fun
  | [d] => { results := [.lit (.bool false)], args := [d] }
  | _ => none }
def FnMovesWrongFalsely : Prop := fnMovesRow.holds Try.pinned (OpenSpec.ofChange fnMovesWrong)

/-- 'laws.FnUndone': WHATEVER THE INPUT: true; the input reads as it did. -/
def fnUndoneSpec : ChangeSpec := { name := "fnUndone", fn := fun _ => fun
  | [d] => { results := [.lit (.bool true)], args := [d] }
  | _ => none }
def fnUndoneRow : OpenClaim := { program := "ytdelaoegfooaoaa", sum := "08b12fa797b7c7ac28d807e84cc93fc8e6fbbae876024869b5c7388a6a612b3b", func := "loop.example/g00846/laws.FnUndone", spec := "fnUndone", inPlace := ["slices.overlaps[int]"], unfollowed := true, recurses := true, apart := false }
def FnUndoneSaid : Prop := fnUndoneRow.holds Try.pinned (OpenSpec.ofChange fnUndoneSpec)

/-- ITS FALSE NEIGHBOUR: 'it returns false'. Refute it at one input. -/
def fnUndoneWrong : ChangeSpec := { name := "fnUndone", fn := fun _ => fun
  | [d] => { results := [.lit (.bool false)], args := [d] }
  | _ => none }
def FnUndoneWrongFalsely : Prop := fnUndoneRow.holds Try.pinned (OpenSpec.ofChange fnUndoneWrong)

/-- 'laws.FnExactMoveOk': WHATEVER THE INPUT: true; the input reads as it did. -/
def fnExactMoveOkSpec : ChangeSpec := { name := "fnExactMoveOk", fn := fun _ => fun
  | [d1, d2] => { results := [.lit (.bool true)], args := [d1, d2] }
  | _ => none }
def fnExactMoveOkRow : OpenClaim := { program := "ytdelaoegfooaoaa", sum := "08b12fa797b7c7ac28d807e84cc93fc8e6fbbae876024869b5c7388a6a612b3b", func := "loop.example/g00846/laws.FnExactMoveOk", spec := "fnExactMoveOk", inPlace := ["slices.overlaps[int]"], unfollowed := true, recurses := true, apart := false }
def FnExactMoveOkSaid : Prop := fnExactMoveOkRow.holds Try.pinned (OpenSpec.ofChange fnExactMoveOkSpec)

/-- ITS FALSE NEIGHBOUR: 'it returns false'. Refute it at one input. -/
def fnExactMoveOkWrong : ChangeSpec := { name := "fnExactMoveOk", fn := fun _ => fun
  | [d1, d2] => { results := [.lit (.bool false)], args := [d1, d2] }
  | _ => none }
def FnExactMoveOkWrongFalsely : Prop := fnExactMoveOkRow.holds Try.pinned (OpenSpec.ofChange fnExactMoveOkWrong)

/-- 'laws.FnExactMoveName': WHATEVER THE INPUT: true; the input reads as it did. -/
def fnExactMoveNameSpec : ChangeSpec := { name := "fnExactMoveName", fn := fun _ => fun
  | [d] => { results := [.lit (.bool true)], args := [d] }
  | _ => none }
def fnExactMoveNameRow : OpenClaim := { program := "ytdelaoegfooaoaa", sum := "08b12fa797b7c7ac28d807e84cc93fc8e6fbbae876024869b5c7388a6a612b3b", func := "loop.example/g00846/laws.FnExactMoveName", spec := "fnExactMoveName", inPlace := ["slices.overlaps[int]"], unfollowed := true, recurses := true, apart := false }
def FnExactMoveNameSaid : Prop := fnExactMoveNameRow.holds Try.pinned (OpenSpec.ofChange fnExactMoveNameSpec)

/-- ITS FALSE NEIGHBOUR: 'it returns false'. Refute it at one input. -/
def fnExactMoveNameWrong : ChangeSpec := { name := "fnExactMoveName", fn := fun _ => fun
  | [d] => { results := [.lit (.bool false)], args := [d] }
  | _ => none }
def FnExactMoveNameWrongFalsely : Prop := fnExactMoveNameRow.holds Try.pinned (OpenSpec.ofChange fnExactMoveNameWrong)

/-- 'laws.FnExactMoveNamed': WHATEVER THE INPUT: true; the input reads as it did. -/
def fnExactMoveNamedSpec : ChangeSpec := { name := "fnExactMoveNamed", fn := fun _ => fun
  | [d] => { results := [.lit (.bool true)], args := [d] }
  | _ => none }
def fnExactMoveNamedRow : OpenClaim := { program := "ytdelaoegfooaoaa", sum := "08b12fa797b7c7ac28d807e84cc93fc8e6fbbae876024869b5c7388a6a612b3b", func := "loop.example/g00846/laws.FnExactMoveNamed", spec := "fnExactMoveNamed", inPlace := ["slices.overlaps[int]"], unfollowed := true, recurses := true, apart := false }
def FnExactMoveNamedSaid : Prop := fnExactMoveNamedRow.holds Try.pinned (OpenSpec.ofChange fnExactMoveNamedSpec)

/-- ITS FALSE NEIGHBOUR: 'it returns false'. Refute it at one input. -/
def fnExactMoveNamedWrong : ChangeSpec := { name := "fnExactMoveNamed", fn := fun _ => fun
  | [d] => { results := [.lit (.bool false)], args := [d] }
  | _ => none }
def FnExactMoveNamedWrongFalsely : Prop := fnExactMoveNamedRow.holds Try.pinned (OpenSpec.ofChange fnExactMoveNamedWrong)

/-- 'laws.FnExactPerform': WHATEVER THE INPUT: true; the input reads as it did. -/
def fnExactPerformSpec : ChangeSpec := { name := "fnExactPerform", fn := fun _ => fun
  | [d1, d2] => { results := [.lit (.bool true)], args := [d1, d2] }
  | _ => none }
def fnExactPerformRow : OpenClaim := { program := "ytdelaoegfooaoaa", sum := "08b12fa797b7c7ac28d807e84cc93fc8e6fbbae876024869b5c7388a6a612b3b", func := "loop.example/g00846/laws.FnExactPerform", spec := "fnExactPerform", inPlace := ["slices.overlaps[int]"], unfollowed := true, recurses := true, apart := false }
def FnExactPerformSaid : Prop := fnExactPerformRow.holds Try.pinned (OpenSpec.ofChange fnExactPerformSpec)

/-- ITS FALSE NEIGHBOUR: 'it returns false'. Refute it at one input. -/
def fnExactPerformWrong : ChangeSpec := { name := "fnExactPerform", fn := fun _ => fun
  | [d1, d2] => { results := [.lit (.bool false)], args := [d1, d2] }
  | _ => none }
def FnExactPerformWrongFalsely : Prop := fnExactPerformRow.holds Try.pinned (OpenSpec.ofChange fnExactPerformWrong)

/-- 'laws.FnExactPermOfMove': WHATEVER THE INPUT: true; the input reads as it did. -/
def fnExactPermOfMoveSpec : ChangeSpec := { name := "fnExactPermOfMove", fn := fun _ => fun
  | [d1, d2] => { results := [.lit (.bool true)], args := [d1, d2] }
  | _ => none }
def fnExactPermOfMoveRow : OpenClaim := { program := "ytdelaoegfooaoaa", sum := "08b12fa797b7c7ac28d807e84cc93fc8e6fbbae876024869b5c7388a6a612b3b", func := "loop.example/g00846/laws.FnExactPermOfMove", spec := "fnExactPermOfMove", inPlace := ["slices.overlaps[int]"], unfollowed := true, recurses := true, apart := false }
def FnExactPermOfMoveSaid : Prop := fnExactPermOfMoveRow.holds Try.pinned (OpenSpec.ofChange fnExactPermOfMoveSpec)

/-- ITS FALSE NEIGHBOUR: 'it returns false'. Refute it at one input. -/
def fnExactPermOfMoveWrong : ChangeSpec := { name := "fnExactPermOfMove", fn := fun _ => fun
  | [d1, d2] => { results := [.lit (.bool false)], args := [d1, d2] }
  | _ => none }
def FnExactPermOfMoveWrongFalsely : Prop := fnExactPermOfMoveRow.holds Try.pinned (OpenSpec.ofChange fnExactPermOfMoveWrong)

/-- 'laws.FnExactPerformAll': WHATEVER THE INPUT: true; the input reads as it did. -/
def fnExactPerformAllSpec : ChangeSpec := { name := "fnExactPerformAll", fn := fun _ => fun
  | [d1, d2] => { results := [.lit (.bool true)], args := [d1, d2] }
  | _ => none }
def fnExactPerformAllRow : OpenClaim := { program := "ytdelaoegfooaoaa", sum := "08b12fa797b7c7ac28d807e84cc93fc8e6fbbae876024869b5c7388a6a612b3b", func := "loop.example/g00846/laws.FnExactPerformAll", spec := "fnExactPerformAll", inPlace := ["slices.overlaps[int]"], unfollowed := true, recurses := true, apart := false }
def FnExactPerformAllSaid : Prop := fnExactPerformAllRow.holds Try.pinned (OpenSpec.ofChange fnExactPerformAllSpec)

/-- ITS FALSE NEIGHBOUR: 'it returns false'. Refute it at one input. -/
def fnExactPerformAllWrong : ChangeSpec := { name := "fnExactPerformAll", fn := fun _ => fun
  | [d1, d2] => { results := [.lit (.bool false)], args := [d1, d2] }
  | _ => none }
def FnExactPerformAllWrongFalsely : Prop := fnExactPerformAllRow.holds Try.pinned (OpenSpec.ofChange fnExactPerformAllWrong)

/- THE SECOND FORM. 'bulk': how many values and letters a reading holds, each counted each time it is reached (what is shared counts as often as it is met; a slice's spare places count too). A statement '..UptoSaid' is the law's where the arguments, and the package variables that the reading takes, are together of bulk at most 1048576: NARROWER than '..Said'. Prove '..Said' where nothing that the law and all that it calls make is longer than what came in: it says more and counts as full. Else prove '..UptoSaid'. A law counts once. -/
mutual
def uptoBulk {H : Type} : DataW H → Nat
  | .lit (.string bytes) => bytes.length + 1
  | .lit _ => 1
  | .nil => 1
  | .ptr d => uptoBulk d + 1
  | .slice elems spare => uptoBulkAll elems + uptoBulkAll spare + 1
  | .agg parts => uptoBulkAll parts + 1
  | .iface _ d => uptoBulk d + 1
  | .map entries => uptoBulkEntries entries + 1
  | .held _ => 1
def uptoBulkAll {H : Type} : List (DataW H) → Nat
  | [] => 0
  | d :: r => uptoBulk d + uptoBulkAll r
def uptoBulkEntries {H : Type} : List (Lit × DataW H) → Nat
  | [] => 0
  | x :: r => uptoBulkEntry x + uptoBulkEntries r
def uptoBulkEntry {H : Type} : Lit × DataW H → Nat
  | (.string bytes, d) => bytes.length + uptoBulk d + 1
  | (_, d) => uptoBulk d + 1
 end
def uptoSmall : (H : Type) → List (DataW H) → Bool := fun _ ds => decide (uptoBulkAll ds ≤ 1048576)
def OpenSpec.upto (s : _root_.Go.ChangeSpec) : _root_.Go.OpenSpec := { _root_.Go.OpenSpec.ofChange s with cond := some uptoSmall }

/-- 'laws.FnMoves', WHERE WHAT IT READS IS OF BULK AT MOST 1048576: true; the input reads as it did. -/
def fnMovesUptoRow : OpenClaim := { program := "ytdelaoegfooaoaa", sum := "08b12fa797b7c7ac28d807e84cc93fc8e6fbbae876024869b5c7388a6a612b3b", func := "loop.example/g00846/laws.FnMoves", spec := "fnMoves", inPlace := ["slices.overlaps[int]"], unfollowed := true, recurses := true, apart := false, narrowed := true }
def FnMovesUptoSaid : Prop := fnMovesUptoRow.holds Try.pinned (OpenSpec.upto fnMovesSpec)

/-- 'laws.FnUndone', WHERE WHAT IT READS IS OF BULK AT MOST 1048576: true; the input reads as it did. -/
def fnUndoneUptoRow : OpenClaim := { program := "ytdelaoegfooaoaa", sum := "08b12fa797b7c7ac28d807e84cc93fc8e6fbbae876024869b5c7388a6a612b3b", func := "loop.example/g00846/laws.FnUndone", spec := "fnUndone", inPlace := ["slices.overlaps[int]"], unfollowed := true, recurses := true, apart := false, narrowed := true }
def FnUndoneUptoSaid : Prop := fnUndoneUptoRow.holds Try.pinned (OpenSpec.upto fnUndoneSpec)

/-- 'laws.FnExactMoveOk', WHERE WHAT IT READS IS OF BULK AT MOST 1048576: true; the input reads as it did. -/
def fnExactMoveOkUptoRow : OpenClaim := { program := "ytdelaoegfooaoaa", sum := "08b12fa797b7c7ac28d807e84cc93fc8e6fbbae876024869b5c7388a6a612b3b", func := "loop.example/g00846/laws.FnExactMoveOk", spec := "fnExactMoveOk", inPlace := ["slices.overlaps[int]"], unfollowed := true, recurses := true, apart := false, narrowed := true }
def FnExactMoveOkUptoSaid : Prop := fnExactMoveOkUptoRow.holds Try.pinned (OpenSpec.upto fnExactMoveOkSpec)

/-- 'laws.FnExactMoveName', WHERE WHAT IT READS IS OF BULK AT MOST 1048576: true; the input reads as it did. -/
def fnExactMoveNameUptoRow : OpenClaim := { program := "ytdelaoegfooaoaa", sum := "08b12fa797b7c7ac28d807e84cc93fc8e6fbbae876024869b5c7388a6a612b3b", func := "loop.example/g00846/laws.FnExactMoveName", spec := "fnExactMoveName", inPlace := ["slices.overlaps[int]"], unfollowed := true, recurses := true, apart := false, narrowed := true }
def FnExactMoveNameUptoSaid : Prop := fnExactMoveNameUptoRow.holds Try.pinned (OpenSpec.upto fnExactMoveNameSpec)

/-- 'laws.FnExactMoveNamed', WHERE WHAT IT READS IS OF BULK AT MOST 1048576: true; the input reads as it did. -/
def fnExactMoveNamedUptoRow : OpenClaim := { program := "ytdelaoegfooaoaa", sum := "08b12fa797b7c7ac28d807e84cc93fc8e6fbbae876024869b5c7388a6a612b3b", func := "loop.example/g00846/laws.FnExactMoveNamed", spec := "fnExactMoveNamed", inPlace := ["slices.overlaps[int]"], unfollowed := true, recurses := true, apart := false, narrowed := true }
def FnExactMoveNamedUptoSaid : Prop := fnExactMoveNamedUptoRow.holds Try.pinned (OpenSpec.upto fnExactMoveNamedSpec)

/-- 'laws.FnExactPerform', WHERE WHAT IT READS IS OF BULK AT MOST 1048576: true; the input reads as it did. -/
def fnExactPerformUptoRow : OpenClaim := { program := "ytdelaoegfooaoaa", sum := "08b12fa797b7c7ac28d807e84cc93fc8e6fbbae876024869b5c7388a6a612b3b", func := "loop.example/g00846/laws.FnExactPerform", spec := "fnExactPerform", inPlace := ["slices.overlaps[int]"], unfollowed := true, recurses := true, apart := false, narrowed := true }
def FnExactPerformUptoSaid : Prop := fnExactPerformUptoRow.holds Try.pinned (OpenSpec.upto fnExactPerformSpec)

/-- 'laws.FnExactPermOfMove', WHERE WHAT IT READS IS OF BULK AT MOST 1048576: true; the input reads as it did. -/
def fnExactPermOfMoveUptoRow : OpenClaim := { program := "ytdelaoegfooaoaa", sum := "08b12fa797b7c7ac28d807e84cc93fc8e6fbbae876024869b5c7388a6a612b3b", func := "loop.example/g00846/laws.FnExactPermOfMove", spec := "fnExactPermOfMove", inPlace := ["slices.overlaps[int]"], unfollowed := true, recurses := true, apart := false, narrowed := true }
def FnExactPermOfMoveUptoSaid : Prop := fnExactPermOfMoveUptoRow.holds Try.pinned (OpenSpec.upto fnExactPermOfMoveSpec)

/-- 'laws.FnExactPerformAll', WHERE WHAT IT READS IS OF BULK AT MOST 1048576: true; the input reads as it did. -/
def fnExactPerformAllUptoRow : OpenClaim := { program := "ytdelaoegfooaoaa", sum := "08b12fa797b7c7ac28d807e84cc93fc8e6fbbae876024869b5c7388a6a612b3b", func := "loop.example/g00846/laws.FnExactPerformAll", spec := "fnExactPerformAll", inPlace := ["slices.overlaps[int]"], unfollowed := true, recurses := true, apart := false, narrowed := true }
def FnExactPerformAllUptoSaid : Prop := fnExactPerformAllUptoRow.holds Try.pinned (OpenSpec.upto fnExactPerformAllSpec)

end Rows
end Go.Proofs.Ytdelaoegfooaoaa
