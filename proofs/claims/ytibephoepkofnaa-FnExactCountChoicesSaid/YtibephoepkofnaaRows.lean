/-
  No cell of these rows narrows 'for every input' (looked for: loops, veiled, ifaces, maps, wideKeys, modest, calm, conditions, laid).
  DERIVED. THE GIVEN ROWS OF THIS SEAT. 5 by the template 'for every input the law returns true; each argument reads behind the call as it read before'; 0 by the template 'total and deterministic' (their statements: YtibephoepkofnaaTotals.lean).
  GIVEN WITH THE SEED: the statements are not yours to turn. If you find one false, say at which input.
  Laid BY PROGRAM, IN A SANDBOX (cutbox-rows.mjs): the forced cells as the released guide's own fill.sh prints them over the translation a4debf5f6356c10f… (all of the seat's roots in one cut). By AI agents, Wed Nov 11 2026. No macro, syntax, notation, axiom, sorry.
-/
import Derived.Test.YtibephoepkofnaaChecked
import GoSem.Claim
import GoSem.ClaimJoined
import GoSem.ClaimMapViews
import Derived.JoinedTies
import Derived.KernelRfl
namespace Go.Proofs.Ytibephoepkofnaa
/- THE CELL 'sum', in the pinned program and in every row, IS THE sha256 OF THE DUMP (.gsa) THAT YtibephoepkofnaaProg.lean LOADS. Nothing in Lean hashes anything: it is a label: what it is worth is what the hold of that sum in a sandbox is worth. -/
noncomputable def Try.pinned : Pinned := { name := "ytibephoepkofnaa", sum := "a4debf5f6356c10f88dee86a7ae62838dcd85a60b555de317387de9ecc805a73", checked := Try.checked }
namespace Rows
def none {H : Type} : Left H := { results := [], args := [] }

/-- 'laws.FnExactStepOk': WHATEVER THE INPUT: true; the input reads as it did. -/
def fnExactStepOkSpec : ChangeSpec := { name := "fnExactStepOk", fn := fun _ => fun
  | [d1, d2] => { results := [.lit (.bool true)], args := [d1, d2] }
  | _ => none }
def fnExactStepOkRow : OpenClaim := { program := "ytibephoepkofnaa", sum := "a4debf5f6356c10f88dee86a7ae62838dcd85a60b555de317387de9ecc805a73", func := "loop.example/g00846/laws.FnExactStepOk", spec := "fnExactStepOk", unfollowed := true, recurses := true, apart := false }
def FnExactStepOkSaid : Prop := fnExactStepOkRow.holds Try.pinned (OpenSpec.ofChange fnExactStepOkSpec)

/-- ITS FALSE NEIGHBOUR: 'it returns false'. Refute it at one input. -/
def fnExactStepOkWrong : ChangeSpec := { name := "fnExactStepOk", fn := fun _ => fun
  | [d1, d2] => { results := [.lit (.bool false)], args := [d1, d2] }
  | _ => none }
def FnExactStepOkWrongFalsely : Prop := fnExactStepOkRow.holds Try.pinned (OpenSpec.ofChange fnExactStepOkWrong)

/-- 'laws.FnExactTrickOk': WHATEVER THE INPUT: true; the input reads as it did. -/
def fnExactTrickOkSpec : ChangeSpec := { name := "fnExactTrickOk", fn := fun _ => fun
  | [d] => { results := [.lit (.bool true)], args := [d] }
  | _ => none }
def fnExactTrickOkRow : OpenClaim := { program := "ytibephoepkofnaa", sum := "a4debf5f6356c10f88dee86a7ae62838dcd85a60b555de317387de9ecc805a73", func := "loop.example/g00846/laws.FnExactTrickOk", spec := "fnExactTrickOk", unfollowed := true, recurses := true, apart := false }
def FnExactTrickOkSaid : Prop := fnExactTrickOkRow.holds Try.pinned (OpenSpec.ofChange fnExactTrickOkSpec)

/-- ITS FALSE NEIGHBOUR: 'it returns false'. Refute it at one input. -/
def fnExactTrickOkWrong : ChangeSpec := { name := "fnExactTrickOk", fn := fun _ => fun
  | [d] => { results := [.lit (.bool false)], args := [d] }
  | _ => none }
def FnExactTrickOkWrongFalsely : Prop := fnExactTrickOkRow.holds Try.pinned (OpenSpec.ofChange fnExactTrickOkWrong)

/-- 'laws.FnExactStartScene': WHATEVER THE INPUT: true; the input reads as it did. -/
def fnExactStartSceneSpec : ChangeSpec := { name := "fnExactStartScene", fn := fun _ => fun
  | [d] => { results := [.lit (.bool true)], args := [d] }
  | _ => none }
def fnExactStartSceneRow : OpenClaim := { program := "ytibephoepkofnaa", sum := "a4debf5f6356c10f88dee86a7ae62838dcd85a60b555de317387de9ecc805a73", func := "loop.example/g00846/laws.FnExactStartScene", spec := "fnExactStartScene", unfollowed := true, recurses := true, apart := false }
def FnExactStartSceneSaid : Prop := fnExactStartSceneRow.holds Try.pinned (OpenSpec.ofChange fnExactStartSceneSpec)

/-- ITS FALSE NEIGHBOUR: 'it returns false'. Refute it at one input. -/
def fnExactStartSceneWrong : ChangeSpec := { name := "fnExactStartScene", fn := fun _ => fun
  | [d] => { results := [.lit (.bool false)], args := [d] }
  | _ => none }
def FnExactStartSceneWrongFalsely : Prop := fnExactStartSceneRow.holds Try.pinned (OpenSpec.ofChange fnExactStartSceneWrong)

/-- 'laws.FnExactClaimHolds': WHATEVER THE INPUT: true; the input reads as it did. -/
def fnExactClaimHoldsSpec : ChangeSpec := { name := "fnExactClaimHolds", fn := fun _ => fun
  | [d1, d2] => { results := [.lit (.bool true)], args := [d1, d2] }
  | _ => none }
def fnExactClaimHoldsRow : OpenClaim := { program := "ytibephoepkofnaa", sum := "a4debf5f6356c10f88dee86a7ae62838dcd85a60b555de317387de9ecc805a73", func := "loop.example/g00846/laws.FnExactClaimHolds", spec := "fnExactClaimHolds", unfollowed := true, recurses := true, apart := false }
def FnExactClaimHoldsSaid : Prop := fnExactClaimHoldsRow.holds Try.pinned (OpenSpec.ofChange fnExactClaimHoldsSpec)

/-- ITS FALSE NEIGHBOUR: 'it returns false'. Refute it at one input. -/
def fnExactClaimHoldsWrong : ChangeSpec := { name := "fnExactClaimHolds", fn := fun _ => fun
  | [d1, d2] => { results := [.lit (.bool false)], args := [d1, d2] }
  | _ => none }
def FnExactClaimHoldsWrongFalsely : Prop := fnExactClaimHoldsRow.holds Try.pinned (OpenSpec.ofChange fnExactClaimHoldsWrong)

/-- 'laws.FnExactCountChoices': WHATEVER THE INPUT: true; the input reads as it did. -/
def fnExactCountChoicesSpec : ChangeSpec := { name := "fnExactCountChoices", fn := fun _ => fun
  | [d] => { results := [.lit (.bool true)], args := [d] }
  | _ => none }
def fnExactCountChoicesRow : OpenClaim := { program := "ytibephoepkofnaa", sum := "a4debf5f6356c10f88dee86a7ae62838dcd85a60b555de317387de9ecc805a73", func := "loop.example/g00846/laws.FnExactCountChoices", spec := "fnExactCountChoices", unfollowed := true, recurses := true, apart := false }
def FnExactCountChoicesSaid : Prop := fnExactCountChoicesRow.holds Try.pinned (OpenSpec.ofChange fnExactCountChoicesSpec)

/-- ITS FALSE NEIGHBOUR: 'it returns false'. Refute it at one input. -/
def fnExactCountChoicesWrong : ChangeSpec := { name := "fnExactCountChoices", fn := fun _ => fun
  | [d] => { results := [.lit (.bool false)], args := [d] }
  | _ => none }
def FnExactCountChoicesWrongFalsely : Prop := fnExactCountChoicesRow.holds Try.pinned (OpenSpec.ofChange fnExactCountChoicesWrong)

/- THE SECOND FORM. 'bulk': how many values and letters a reading holds, each counted each time it is reached (what is shared counts as often as it is met; a slice's spare places count too). A statement '..UptoSaid' is the law's where the arguments, and the package variables that the reading takes, are together of bulk at most 1048576: NARROWER than '..Said'. Prove '..Said' where nothing that the law and all that it calls make is longer than what came in: it says more and counts as full. Else prove '..UptoSaid'. A law counts once. -/
mutual
def uptoBulk {H : Type} : DataW H → Nat
  | .lit (.string bytes) => bytes.length + 1
  | .lit _ => 1
  | .nil => 1
  | .ptr d => uptoBulk d + 1
  | .slice elems spare => uptoBulkAll elems + uptoBulkAll spare + 1
  | .agg parts => uptoBulkAll parts + 1
  | .iface _ d => uptoBulk d + 1
  | .map entries => uptoBulkEntries entries + 1
  | .held _ => 1
def uptoBulkAll {H : Type} : List (DataW H) → Nat
  | [] => 0
  | d :: r => uptoBulk d + uptoBulkAll r
def uptoBulkEntries {H : Type} : List (Lit × DataW H) → Nat
  | [] => 0
  | x :: r => uptoBulkEntry x + uptoBulkEntries r
def uptoBulkEntry {H : Type} : Lit × DataW H → Nat
  | (.string bytes, d) => bytes.length + uptoBulk d + 1
  | (_, d) => uptoBulk d + 1
 end
def uptoSmall : (H : Type) → List (DataW H) → Bool := fun _ ds => decide (uptoBulkAll ds ≤ 1048576)
def OpenSpec.upto (s : _root_.Go.ChangeSpec) : _root_.Go.OpenSpec := { _root_.Go.OpenSpec.ofChange s with cond := some uptoSmall }

/-- 'laws.FnExactStepOk', WHERE WHAT IT READS IS OF BULK AT MOST 1048576: true; the input reads as it did. -/
def fnExactStepOkUptoRow : OpenClaim := { program := "ytibephoepkofnaa", sum := "a4debf5f6356c10f88dee86a7ae62838dcd85a60b555de317387de9ecc805a73", func := "loop.example/g00846/laws.FnExactStepOk", spec := "fnExactStepOk", unfollowed := true, recurses := true, apart := false, narrowed := true }
def FnExactStepOkUptoSaid : Prop := fnExactStepOkUptoRow.holds Try.pinned (OpenSpec.upto fnExactStepOkSpec)

/-- 'laws.FnExactTrickOk', WHERE WHAT IT READS IS OF BULK AT MOST 1048576: true; the input reads as it did. -/
def fnExactTrickOkUptoRow : OpenClaim := { program := "ytibephoepkofnaa", sum := "a4debf5f6356c10f88dee86a7ae62838dcd85a60b555de317387de9ecc805a73", func := "loop.example/g00846/laws.FnExactTrickOk", spec := "fnExactTrickOk", unfollowed := true, recurses := true, apart := false, narrowed := true }
def FnExactTrickOkUptoSaid : Prop := fnExactTrickOkUptoRow.holds Try.pinned (OpenSpec.upto fnExactTrickOkSpec)

/-- 'laws.FnExactStartScene', WHERE WHAT IT READS IS OF BULK AT MOST 1048576: true; the input reads as it did. -/
def fnExactStartSceneUptoRow : OpenClaim := { program := "ytibephoepkofnaa", sum := "a4debf5f6356c10f88dee86a7ae62838dcd85a60b555de317387de9ecc805a73", func := "loop.example/g00846/laws.FnExactStartScene", spec := "fnExactStartScene", unfollowed := true, recurses := true, apart := false, narrowed := true }
def FnExactStartSceneUptoSaid : Prop := fnExactStartSceneUptoRow.holds Try.pinned (OpenSpec.upto fnExactStartSceneSpec)

/-- 'laws.FnExactClaimHolds', WHERE WHAT IT READS IS OF BULK AT MOST 1048576: true; the input reads as it did. -/
def fnExactClaimHoldsUptoRow : OpenClaim := { program := "ytibephoepkofnaa", sum := "a4debf5f6356c10f88dee86a7ae62838dcd85a60b555de317387de9ecc805a73", func := "loop.example/g00846/laws.FnExactClaimHolds", spec := "fnExactClaimHolds", unfollowed := true, recurses := true, apart := false, narrowed := true }
def FnExactClaimHoldsUptoSaid : Prop := fnExactClaimHoldsUptoRow.holds Try.pinned (OpenSpec.upto fnExactClaimHoldsSpec)

/-- 'laws.FnExactCountChoices', WHERE WHAT IT READS IS OF BULK AT MOST 1048576: true; the input reads as it did. -/
def fnExactCountChoicesUptoRow : OpenClaim := { program := "ytibephoepkofnaa", sum := "a4debf5f6356c10f88dee86a7ae62838dcd85a60b555de317387de9ecc805a73", func := "loop.example/g00846/laws.FnExactCountChoices", spec := "fnExactCountChoices", unfollowed := true, recurses := true, apart := false, narrowed := true }
def FnExactCountChoicesUptoSaid : Prop := fnExactCountChoicesUptoRow.holds Try.pinned (OpenSpec.upto fnExactCountChoicesSpec)

end Rows
end Go.Proofs.Ytibephoepkofnaa
