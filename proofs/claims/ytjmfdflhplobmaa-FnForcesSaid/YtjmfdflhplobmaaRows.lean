/-
  No cell of these rows narrows 'for every input' (looked for: loops, veiled, ifaces, maps, wideKeys, modest, calm, conditions, laid).
  DERIVED. THE GIVEN ROWS OF THIS SEAT. 10 by the template 'for every input the law returns true; each argument reads behind the call as it read before'; 0 by the template 'total and deterministic' (their statements: YtjmfdflhplobmaaTotals.lean).
  GIVEN WITH THE SEED: the statements are not yours to turn. If you find one false, say at which input.
  Laid BY PROGRAM, IN A SANDBOX (cutbox-rows.mjs): the forced cells as the released guide's own fill.sh prints them over the translation ae1c42933b8594c9… (all of the seat's roots in one cut). By AI agents, Wed Nov 11 2026. No macro, syntax, notation, axiom, sorry.
-/
import Derived.Test.YtjmfdflhplobmaaChecked
import GoSem.Claim
import GoSem.ClaimJoined
import GoSem.ClaimMapViews
import Derived.JoinedTies
import Derived.KernelRfl
namespace Go.Proofs.Ytjmfdflhplobmaa
/- THE CELL 'sum', in the pinned program and in every row, IS THE sha256 OF THE DUMP (.gsa) THAT YtjmfdflhplobmaaProg.lean LOADS. Nothing in Lean hashes anything: it is a label: what it is worth is what the hold of that sum in a sandbox is worth. -/
noncomputable def Try.pinned : Pinned := { name := "ytjmfdflhplobmaa", sum := "ae1c42933b8594c99657c87b2418675a93b1f0af908ee7b89e5119350739bfea", checked := Try.checked }
namespace Rows
def none {H : Type} : Left H := { results := [], args := [] }

/-- 'laws.FnForces': WHATEVER THE INPUT: true; the input reads as it did. -/
def fnForcesSpec : ChangeSpec := { name := "fnForces", fn := fun _ => fun
  | [d] => { results := [.lit (.bool true)], args := [d] }
  | _ => none }
def fnForcesRow : OpenClaim := { program := "ytjmfdflhplobmaa", sum := "ae1c42933b8594c99657c87b2418675a93b1f0af908ee7b89e5119350739bfea", func := "loop.example/g00846/laws.FnForces", spec := "fnForces", unfollowed := true, recurses := true, apart := false }
def FnForcesSaid : Prop := fnForcesRow.holds Try.pinned (OpenSpec.ofChange fnForcesSpec)

/-- ITS FALSE NEIGHBOUR: 'it returns false'. Refute it at one input. -/
def fnForcesWrong : ChangeSpec := { name := "fnForces", fn := fun _ => fun
  | [d] => { results := [.lit (.bool false)], args := [d] }
  | _ => none }
def FnForcesWrongFalsely : Prop := fnForcesRow.holds Try.pinned (OpenSpec.ofChange fnForcesWrong)

/-- 'laws.FnEquivocal': WHATEVER THE INPUT: true; the input reads as it did. -/
def fnEquivocalSpec : ChangeSpec := { name := "fnEquivocal", fn := fun _ => fun
  | [d] => { results := [.lit (.bool true)], args := [d] }
  | _ => none }
def fnEquivocalRow : OpenClaim := { program := "ytjmfdflhplobmaa", sum := "ae1c42933b8594c99657c87b2418675a93b1f0af908ee7b89e5119350739bfea", func := "loop.example/g00846/laws.FnEquivocal", spec := "fnEquivocal", unfollowed := true, recurses := true, apart := false }
def FnEquivocalSaid : Prop := fnEquivocalRow.holds Try.pinned (OpenSpec.ofChange fnEquivocalSpec)

/-- ITS FALSE NEIGHBOUR: 'it returns false'. Refute it at one input. -/
def fnEquivocalWrong : ChangeSpec := { name := "fnEquivocal", fn := fun _ => fun
  | [d] => { results := [.lit (.bool false)], args := [d] }
  | _ => none }
def FnEquivocalWrongFalsely : Prop := fnEquivocalRow.holds Try.pinned (OpenSpec.ofChange fnEquivocalWrong)

/-- 'laws.FnExactForceOk': WHATEVER THE INPUT: true; the input reads as it did. -/
def fnExactForceOkSpec : ChangeSpec := { name := "fnExactForceOk", fn := fun _ => fun
  | [d] => { results := [.lit (.bool true)], args := [d] }
  | _ => none }
def fnExactForceOkRow : OpenClaim := { program := "ytjmfdflhplobmaa", sum := "ae1c42933b8594c99657c87b2418675a93b1f0af908ee7b89e5119350739bfea", func := "loop.example/g00846/laws.FnExactForceOk", spec := "fnExactForceOk", unfollowed := true, recurses := true, apart := false }
def FnExactForceOkSaid : Prop := fnExactForceOkRow.holds Try.pinned (OpenSpec.ofChange fnExactForceOkSpec)

/-- ITS FALSE NEIGHBOUR: 'it returns false'. Refute it at one input. -/
def fnExactForceOkWrong : ChangeSpec := { name := "fnExactForceOk", fn := fun _ => fun
  | [d] => { results := [.lit (.bool false)], args := [d] }
  | _ => none }
def FnExactForceOkWrongFalsely : Prop := fnExactForceOkRow.holds Try.pinned (OpenSpec.ofChange fnExactForceOkWrong)

/-- 'laws.FnExactEndsOf': WHATEVER THE INPUT: true; the input reads as it did. -/
def fnExactEndsOfSpec : ChangeSpec := { name := "fnExactEndsOf", fn := fun _ => fun
  | [d] => { results := [.lit (.bool true)], args := [d] }
  | _ => none }
def fnExactEndsOfRow : OpenClaim := { program := "ytjmfdflhplobmaa", sum := "ae1c42933b8594c99657c87b2418675a93b1f0af908ee7b89e5119350739bfea", func := "loop.example/g00846/laws.FnExactEndsOf", spec := "fnExactEndsOf", unfollowed := true, recurses := true, apart := false }
def FnExactEndsOfSaid : Prop := fnExactEndsOfRow.holds Try.pinned (OpenSpec.ofChange fnExactEndsOfSpec)

/-- ITS FALSE NEIGHBOUR: 'it returns false'. Refute it at one input. -/
def fnExactEndsOfWrong : ChangeSpec := { name := "fnExactEndsOf", fn := fun _ => fun
  | [d] => { results := [.lit (.bool false)], args := [d] }
  | _ => none }
def FnExactEndsOfWrongFalsely : Prop := fnExactEndsOfRow.holds Try.pinned (OpenSpec.ofChange fnExactEndsOfWrong)

/-- 'laws.FnExactIsForced': WHATEVER THE INPUT: true; the input reads as it did. -/
def fnExactIsForcedSpec : ChangeSpec := { name := "fnExactIsForced", fn := fun _ => fun
  | [d1, d2] => { results := [.lit (.bool true)], args := [d1, d2] }
  | _ => none }
def fnExactIsForcedRow : OpenClaim := { program := "ytjmfdflhplobmaa", sum := "ae1c42933b8594c99657c87b2418675a93b1f0af908ee7b89e5119350739bfea", func := "loop.example/g00846/laws.FnExactIsForced", spec := "fnExactIsForced", unfollowed := true, recurses := true, apart := false }
def FnExactIsForcedSaid : Prop := fnExactIsForcedRow.holds Try.pinned (OpenSpec.ofChange fnExactIsForcedSpec)

/-- ITS FALSE NEIGHBOUR: 'it returns false'. Refute it at one input. -/
def fnExactIsForcedWrong : ChangeSpec := { name := "fnExactIsForced", fn := fun _ => fun
  | [d1, d2] => { results := [.lit (.bool false)], args := [d1, d2] }
  | _ => none }
def FnExactIsForcedWrongFalsely : Prop := fnExactIsForcedRow.holds Try.pinned (OpenSpec.ofChange fnExactIsForcedWrong)

/-- 'laws.FnExactAnswersTo': WHATEVER THE INPUT: true; the input reads as it did. -/
def fnExactAnswersToSpec : ChangeSpec := { name := "fnExactAnswersTo", fn := fun _ => fun
  | [d1, d2] => { results := [.lit (.bool true)], args := [d1, d2] }
  | _ => none }
def fnExactAnswersToRow : OpenClaim := { program := "ytjmfdflhplobmaa", sum := "ae1c42933b8594c99657c87b2418675a93b1f0af908ee7b89e5119350739bfea", func := "loop.example/g00846/laws.FnExactAnswersTo", spec := "fnExactAnswersTo", unfollowed := true, recurses := true, apart := false }
def FnExactAnswersToSaid : Prop := fnExactAnswersToRow.holds Try.pinned (OpenSpec.ofChange fnExactAnswersToSpec)

/-- ITS FALSE NEIGHBOUR: 'it returns false'. Refute it at one input. -/
def fnExactAnswersToWrong : ChangeSpec := { name := "fnExactAnswersTo", fn := fun _ => fun
  | [d1, d2] => { results := [.lit (.bool false)], args := [d1, d2] }
  | _ => none }
def FnExactAnswersToWrongFalsely : Prop := fnExactAnswersToRow.holds Try.pinned (OpenSpec.ofChange fnExactAnswersToWrong)

/-- 'laws.FnExactPlayForce': WHATEVER THE INPUT: true; the input reads as it did. -/
def fnExactPlayForceSpec : ChangeSpec := { name := "fnExactPlayForce", fn := fun _ => fun
  | [d1, d2] => { results := [.lit (.bool true)], args := [d1, d2] }
  | _ => none }
def fnExactPlayForceRow : OpenClaim := { program := "ytjmfdflhplobmaa", sum := "ae1c42933b8594c99657c87b2418675a93b1f0af908ee7b89e5119350739bfea", func := "loop.example/g00846/laws.FnExactPlayForce", spec := "fnExactPlayForce", unfollowed := true, recurses := true, apart := false }
def FnExactPlayForceSaid : Prop := fnExactPlayForceRow.holds Try.pinned (OpenSpec.ofChange fnExactPlayForceSpec)

/-- ITS FALSE NEIGHBOUR: 'it returns false'. Refute it at one input. -/
def fnExactPlayForceWrong : ChangeSpec := { name := "fnExactPlayForce", fn := fun _ => fun
  | [d1, d2] => { results := [.lit (.bool false)], args := [d1, d2] }
  | _ => none }
def FnExactPlayForceWrongFalsely : Prop := fnExactPlayForceRow.holds Try.pinned (OpenSpec.ofChange fnExactPlayForceWrong)

/-- 'laws.FnExactDepthOfForce': WHATEVER THE INPUT: true; the input reads as it did. -/
def fnExactDepthOfForceSpec : ChangeSpec := { name := "fnExactDepthOfForce", fn := fun _ => fun
  | [d] => { results := [.lit (.bool true)], args := [d] }
  | _ => none }
def fnExactDepthOfForceRow : OpenClaim := { program := "ytjmfdflhplobmaa", sum := "ae1c42933b8594c99657c87b2418675a93b1f0af908ee7b89e5119350739bfea", func := "loop.example/g00846/laws.FnExactDepthOfForce", spec := "fnExactDepthOfForce", unfollowed := true, recurses := true, apart := false }
def FnExactDepthOfForceSaid : Prop := fnExactDepthOfForceRow.holds Try.pinned (OpenSpec.ofChange fnExactDepthOfForceSpec)

/-- ITS FALSE NEIGHBOUR: 'it returns false'. Refute it at one input. -/
def fnExactDepthOfForceWrong : ChangeSpec := { name := "fnExactDepthOfForce", fn := fun _ => fun
  | [d] => { results := [.lit (.bool false)], args := [d] }
  | _ => none }
def FnExactDepthOfForceWrongFalsely : Prop := fnExactDepthOfForceRow.holds Try.pinned (OpenSpec.ofChange fnExactDepthOfForceWrong)

/-- 'laws.FnExactPairForce': WHATEVER THE INPUT: true; the input reads as it did. -/
def fnExactPairForceSpec : ChangeSpec := { name := "fnExactPairForce", fn := fun _ => fun
  | [d1, d2] => { results := [.lit (.bool true)], args := [d1, d2] }
  | _ => none }
def fnExactPairForceRow : OpenClaim := { program := "ytjmfdflhplobmaa", sum := "ae1c42933b8594c99657c87b2418675a93b1f0af908ee7b89e5119350739bfea", func := "loop.example/g00846/laws.FnExactPairForce", spec := "fnExactPairForce", apart := false }
def FnExactPairForceSaid : Prop := fnExactPairForceRow.holds Try.pinned (OpenSpec.ofChange fnExactPairForceSpec)

/-- ITS FALSE NEIGHBOUR: 'it returns false'. Refute it at one input. -/
def fnExactPairForceWrong : ChangeSpec := { name := "fnExactPairForce", fn := fun _ => fun
  | [d1, d2] => { results := [.lit (.bool false)], args := [d1, d2] }
  | _ => none }
def FnExactPairForceWrongFalsely : Prop := fnExactPairForceRow.holds Try.pinned (OpenSpec.ofChange fnExactPairForceWrong)

/-- 'laws.FnExactFourForce': WHATEVER THE INPUT: true; the input reads as it did. -/
def fnExactFourForceSpec : ChangeSpec := { name := "fnExactFourForce", fn := fun _ => fun
  | [d1, d2] => { results := [.lit (.bool true)], args := [d1, d2] }
  | _ => none }
def fnExactFourForceRow : OpenClaim := { program := "ytjmfdflhplobmaa", sum := "ae1c42933b8594c99657c87b2418675a93b1f0af908ee7b89e5119350739bfea", func := "loop.example/g00846/laws.FnExactFourForce", spec := "fnExactFourForce", apart := false }
def FnExactFourForceSaid : Prop := fnExactFourForceRow.holds Try.pinned (OpenSpec.ofChange fnExactFourForceSpec)

/-- ITS FALSE NEIGHBOUR: 'it returns false'. Refute it at one input. -/
def fnExactFourForceWrong : ChangeSpec := { name := "fnExactFourForce", fn := fun _ => fun
  | [d1, d2] => { results := [.lit (.bool false)], args := [d1, d2] }
  | _ => none }
def FnExactFourForceWrongFalsely : Prop := fnExactFourForceRow.holds Try.pinned (OpenSpec.ofChange fnExactFourForceWrong)

/- THE SECOND FORM. 'bulk': how many values and letters a reading holds, each counted each time it is reached (what is shared counts as often as it is met; a slice's spare places count too). A statement '..UptoSaid' is the law's where the arguments, and the package variables that the reading takes, are together of bulk at most 1048576: NARROWER than '..Said'. Prove '..Said' where nothing that the law and all that it calls make is longer than what came in: it says more and counts as full. Else prove '..UptoSaid'. A law counts once. -/
mutual
def uptoBulk {H : Type} : DataW H → Nat
  | .lit (.string bytes) => bytes.length + 1
  | .lit _ => 1
  | .nil => 1
  | .ptr d => uptoBulk d + 1
  | .slice elems spare => uptoBulkAll elems + uptoBulkAll spare + 1
  | .agg parts => uptoBulkAll parts + 1
  | .iface _ d => uptoBulk d + 1
  | .map entries => uptoBulkEntries entries + 1
  | .held _ => 1
def uptoBulkAll {H : Type} : List (DataW H) → Nat
  | [] => 0
  | d :: r => uptoBulk d + uptoBulkAll r
def uptoBulkEntries {H : Type} : List (Lit × DataW H) → Nat
  | [] => 0
  | x :: r => uptoBulkEntry x + uptoBulkEntries r
def uptoBulkEntry {H : Type} : Lit × DataW H → Nat
  | (.string bytes, d) => bytes.length + uptoBulk d + 1
  | (_, d) => uptoBulk d + 1
 end
def uptoSmall : (H : Type) → List (DataW H) → Bool := fun _ ds => decide (uptoBulkAll ds ≤ 1048576)
def OpenSpec.upto (s : _root_.Go.ChangeSpec) : _root_.Go.OpenSpec := { _root_.Go.OpenSpec.ofChange s with cond := some uptoSmall }

/-- 'laws.FnForces', WHERE WHAT IT READS IS OF BULK AT MOST 1048576: true; the input reads as it did. -/
def fnForcesUptoRow : OpenClaim := { program := "ytjmfdflhplobmaa", sum := "ae1c42933b8594c99657c87b2418675a93b1f0af908ee7b89e5119350739bfea", func := "loop.example/g00846/laws.FnForces", spec := "fnForces", unfollowed := true, recurses := true, apart := false, narrowed := true }
def FnForcesUptoSaid : Prop := fnForcesUptoRow.holds Try.pinned (OpenSpec.upto fnForcesSpec)

/-- 'laws.FnEquivocal', WHERE WHAT IT READS IS OF BULK AT MOST 1048576: true; the input reads as it did. -/
def fnEquivocalUptoRow : OpenClaim := { program := "ytjmfdflhplobmaa", sum := "ae1c42933b8594c99657c87b2418675a93b1f0af908ee7b89e5119350739bfea", func := "loop.example/g00846/laws.FnEquivocal", spec := "fnEquivocal", unfollowed := true, recurses := true, apart := false, narrowed := true }
def FnEquivocalUptoSaid : Prop := fnEquivocalUptoRow.holds Try.pinned (OpenSpec.upto fnEquivocalSpec)

/-- 'laws.FnExactForceOk', WHERE WHAT IT READS IS OF BULK AT MOST 1048576: true; the input reads as it did. -/
def fnExactForceOkUptoRow : OpenClaim := { program := "ytjmfdflhplobmaa", sum := "ae1c42933b8594c99657c87b2418675a93b1f0af908ee7b89e5119350739bfea", func := "loop.example/g00846/laws.FnExactForceOk", spec := "fnExactForceOk", unfollowed := true, recurses := true, apart := false, narrowed := true }
def FnExactForceOkUptoSaid : Prop := fnExactForceOkUptoRow.holds Try.pinned (OpenSpec.upto fnExactForceOkSpec)

/-- 'laws.FnExactEndsOf', WHERE WHAT IT READS IS OF BULK AT MOST 1048576: true; the input reads as it did. -/
def fnExactEndsOfUptoRow : OpenClaim := { program := "ytjmfdflhplobmaa", sum := "ae1c42933b8594c99657c87b2418675a93b1f0af908ee7b89e5119350739bfea", func := "loop.example/g00846/laws.FnExactEndsOf", spec := "fnExactEndsOf", unfollowed := true, recurses := true, apart := false, narrowed := true }
def FnExactEndsOfUptoSaid : Prop := fnExactEndsOfUptoRow.holds Try.pinned (OpenSpec.upto fnExactEndsOfSpec)

/-- 'laws.FnExactIsForced', WHERE WHAT IT READS IS OF BULK AT MOST 1048576: true; the input reads as it did. -/
def fnExactIsForcedUptoRow : OpenClaim := { program := "ytjmfdflhplobmaa", sum := "ae1c42933b8594c99657c87b2418675a93b1f0af908ee7b89e5119350739bfea", func := "loop.example/g00846/laws.FnExactIsForced", spec := "fnExactIsForced", unfollowed := true, recurses := true, apart := false, narrowed := true }
def FnExactIsForcedUptoSaid : Prop := fnExactIsForcedUptoRow.holds Try.pinned (OpenSpec.upto fnExactIsForcedSpec)

/-- 'laws.FnExactAnswersTo', WHERE WHAT IT READS IS OF BULK AT MOST 1048576: true; the input reads as it did. -/
def fnExactAnswersToUptoRow : OpenClaim := { program := "ytjmfdflhplobmaa", sum := "ae1c42933b8594c99657c87b2418675a93b1f0af908ee7b89e5119350739bfea", func := "loop.example/g00846/laws.FnExactAnswersTo", spec := "fnExactAnswersTo", unfollowed := true, recurses := true, apart := false, narrowed := true }
def FnExactAnswersToUptoSaid : Prop := fnExactAnswersToUptoRow.holds Try.pinned (OpenSpec.upto fnExactAnswersToSpec)

/-- 'laws.FnExactPlayForce', WHERE WHAT IT READS IS OF BULK AT MOST 1048576: true; the input reads as it did. -/
def fnExactPlayForceUptoRow : OpenClaim := { program := "ytjmfdflhplobmaa", sum := "ae1c42933b8594c99657c87b2418675a93b1f0af908ee7b89e5119350739bfea", func := "loop.example/g00846/laws.FnExactPlayForce", spec := "fnExactPlayForce", unfollowed := true, recurses := true, apart := false, narrowed := true }
def FnExactPlayForceUptoSaid : Prop := fnExactPlayForceUptoRow.holds Try.pinned (OpenSpec.upto fnExactPlayForceSpec)

/-- 'laws.FnExactDepthOfForce', WHERE WHAT IT READS IS OF BULK AT MOST 1048576: true; the input reads as it did. -/
def fnExactDepthOfForceUptoRow : OpenClaim := { program := "ytjmfdflhplobmaa", sum := "ae1c42933b8594c99657c87b2418675a93b1f0af908ee7b89e5119350739bfea", func := "loop.example/g00846/laws.FnExactDepthOfForce", spec := "fnExactDepthOfForce", unfollowed := true, recurses := true, apart := false, narrowed := true }
def FnExactDepthOfForceUptoSaid : Prop := fnExactDepthOfForceUptoRow.holds Try.pinned (OpenSpec.upto fnExactDepthOfForceSpec)

/-- 'laws.FnExactPairForce', WHERE WHAT IT READS IS OF BULK AT MOST 1048576: true; the input reads as it did. -/
def fnExactPairForceUptoRow : OpenClaim := { program := "ytjmfdflhplobmaa", sum := "ae1c42933b8594c99657c87b2418675a93b1f0af908ee7b89e5119350739bfea", func := "loop.example/g00846/laws.FnExactPairForce", spec := "fnExactPairForce", apart := false, narrowed := true }
def FnExactPairForceUptoSaid : Prop := fnExactPairForceUptoRow.holds Try.pinned (OpenSpec.upto fnExactPairForceSpec)

/-- 'laws.FnExactFourForce', WHERE WHAT IT READS IS OF BULK AT MOST 1048576: true; the input reads as it did. -/
def fnExactFourForceUptoRow : OpenClaim := { program := "ytjmfdflhplobmaa", sum := "ae1c42933b8594c99657c87b2418675a93b1f0af908ee7b89e5119350739bfea", func := "loop.example/g00846/laws.FnExactFourForce", spec := "fnExactFourForce", apart := false, narrowed := true }
def FnExactFourForceUptoSaid : Prop := fnExactFourForceUptoRow.holds Try.pinned (OpenSpec.upto fnExactFourForceSpec)

end Rows
end Go.Proofs.Ytjmfdflhplobmaa
