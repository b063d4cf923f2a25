/-
  No cell of these rows narrows 'for every input' (looked for: loops, veiled, ifaces, maps, wideKeys, modest, calm, conditions, laid).
  DERIVED. THE GIVEN ROWS OF THIS SEAT. 9 by the template 'for every input the law returns true; each argument reads behind the call as it read before'; 0 by the template 'total and deterministic' (their statements: YtpmfiflpipcojaaTotals.lean).
  GIVEN WITH THE SEED: the statements are not yours to turn. If you find one false, say at which input.
  Laid BY PROGRAM, IN A SANDBOX (cutbox-rows.mjs): the forced cells as the released guide's own fill.sh prints them over the translation 246fca8e275ca642… (all of the seat's roots in one cut). By AI agents, Wed Nov 11 2026. No macro, syntax, notation, axiom, sorry.
-/
import Derived.Test.YtpmfiflpipcojaaChecked
import GoSem.Claim
import GoSem.ClaimJoined
import GoSem.ClaimMapViews
import Derived.JoinedTies
import Derived.KernelRfl
namespace Go.Proofs.Ytpmfiflpipcojaa
/- THE CELL 'sum', in the pinned program and in every row, IS THE sha256 OF THE DUMP (.gsa) THAT YtpmfiflpipcojaaProg.lean LOADS. Nothing in Lean hashes anything: it is a label: what it is worth is what the hold of that sum in a sandbox is worth. -/
noncomputable def Try.pinned : Pinned := { name := "ytpmfiflpipcojaa", sum := "246fca8e275ca6426c917ee797386ca545f831ec0abbfeda36c24f77444ebd55", checked := Try.checked }
namespace Rows
def none {H : Type} : Left H := { results := [], args := [] }

/-- 'laws.FnGilbreath': WHATEVER THE INPUT: true; the input reads as it did. -/
def fnGilbreathSpec : ChangeSpec := { name := "fnGilbreath", fn := fun _ => fun
  | [d] => { results := [.lit (.bool true)], args := [d] }
  | _ => none }
def fnGilbreathRow : OpenClaim := { program := "ytpmfiflpipcojaa", sum := "246fca8e275ca6426c917ee797386ca545f831ec0abbfeda36c24f77444ebd55", func := "loop.example/g00846/laws.FnGilbreath", spec := "fnGilbreath", unfollowed := true, recurses := true, apart := false }
def FnGilbreathSaid : Prop := fnGilbreathRow.holds Try.pinned (OpenSpec.ofChange fnGilbreathSpec)

/-- ITS FALSE NEIGHBOUR: 'it returns false'. Refute it at one input. -/
def fnGilbreathWrong : ChangeSpec := { name := "fnGilbreath", fn := fun _ => fun
  | [d] => { results := [.lit (.bool false)], args := [d] }
  | _ => none }
def FnGilbreathWrongFalsely : Prop := fnGilbreathRow.holds Try.pinned (OpenSpec.ofChange fnGilbreathWrong)

/-- 'laws.FnConverse': WHATEVER THE INPUT: true; the input reads as it did. -/
def fnConverseSpec : ChangeSpec := { name := "fnConverse", fn := fun _ => fun
  | [d] => { results := [.lit (.bool true)], args := [d] }
  | _ => none }
def fnConverseRow : OpenClaim := { program := "ytpmfiflpipcojaa", sum := "246fca8e275ca6426c917ee797386ca545f831ec0abbfeda36c24f77444ebd55", func := "loop.example/g00846/laws.FnConverse", spec := "fnConverse", inPlace := ["slices.overlaps[int]"], unfollowed := true, recurses := true, apart := false }
def FnConverseSaid : Prop := fnConverseRow.holds Try.pinned (OpenSpec.ofChange fnConverseSpec)

/-- ITS FALSE NEIGHBOUR: 'it returns false'. Refute it at one input. -/
def fnConverseWrong : ChangeSpec := { name := "fnConverse", fn := fun _ => fun
  | [d] => { results := [.lit (.bool false)], args := [d] }
  | _ => none }
def FnConverseWrongFalsely : Prop := fnConverseRow.holds Try.pinned (OpenSpec.ofChange fnConverseWrong)

/-- 'laws.FnExactIsGilbreath': WHATEVER THE INPUT: true; the input reads as it did. -/
def fnExactIsGilbreathSpec : ChangeSpec := { name := "fnExactIsGilbreath", fn := fun _ => fun
  | [d] => { results := [.lit (.bool true)], args := [d] }
  | _ => none }
def fnExactIsGilbreathRow : OpenClaim := { program := "ytpmfiflpipcojaa", sum := "246fca8e275ca6426c917ee797386ca545f831ec0abbfeda36c24f77444ebd55", func := "loop.example/g00846/laws.FnExactIsGilbreath", spec := "fnExactIsGilbreath", apart := false }
def FnExactIsGilbreathSaid : Prop := fnExactIsGilbreathRow.holds Try.pinned (OpenSpec.ofChange fnExactIsGilbreathSpec)

/-- ITS FALSE NEIGHBOUR: 'it returns false'. Refute it at one input. -/
def fnExactIsGilbreathWrong : ChangeSpec := { name := "fnExactIsGilbreath", fn := fun _ => fun
  | [d] => { results := [.lit (.bool false)], args := [d] }
  | _ => none }
def FnExactIsGilbreathWrongFalsely : Prop := fnExactIsGilbreathRow.holds Try.pinned (OpenSpec.ofChange fnExactIsGilbreathWrong)

/-- 'laws.FnExactGilbreathsOf': WHATEVER THE INPUT: true; the input reads as it did. -/
def fnExactGilbreathsOfSpec : ChangeSpec := { name := "fnExactGilbreathsOf", fn := fun _ => fun
  | [d] => { results := [.lit (.bool true)], args := [d] }
  | _ => none }
def fnExactGilbreathsOfRow : OpenClaim := { program := "ytpmfiflpipcojaa", sum := "246fca8e275ca6426c917ee797386ca545f831ec0abbfeda36c24f77444ebd55", func := "loop.example/g00846/laws.FnExactGilbreathsOf", spec := "fnExactGilbreathsOf", unfollowed := true, recurses := true, apart := false }
def FnExactGilbreathsOfSaid : Prop := fnExactGilbreathsOfRow.holds Try.pinned (OpenSpec.ofChange fnExactGilbreathsOfSpec)

/-- ITS FALSE NEIGHBOUR: 'it returns false'. Refute it at one input. -/
def fnExactGilbreathsOfWrong : ChangeSpec := { name := "fnExactGilbreathsOf", fn := fun _ => fun
  | [d] => { results := [.lit (.bool false)], args := [d] }
  | _ => none }
def FnExactGilbreathsOfWrongFalsely : Prop := fnExactGilbreathsOfRow.holds Try.pinned (OpenSpec.ofChange fnExactGilbreathsOfWrong)

/-- 'laws.FnExactGilbreathCut': WHATEVER THE INPUT: true; the input reads as it did. -/
def fnExactGilbreathCutSpec : ChangeSpec := { name := "fnExactGilbreathCut", fn := fun _ => fun
  | [d] => { results := [.lit (.bool true)], args := [d] }
  | _ => none }
def fnExactGilbreathCutRow : OpenClaim := { program := "ytpmfiflpipcojaa", sum := "246fca8e275ca6426c917ee797386ca545f831ec0abbfeda36c24f77444ebd55", func := "loop.example/g00846/laws.FnExactGilbreathCut", spec := "fnExactGilbreathCut", apart := false }
def FnExactGilbreathCutSaid : Prop := fnExactGilbreathCutRow.holds Try.pinned (OpenSpec.ofChange fnExactGilbreathCutSpec)

/-- ITS FALSE NEIGHBOUR: 'it returns false'. Refute it at one input. -/
def fnExactGilbreathCutWrong : ChangeSpec := { name := "fnExactGilbreathCut", fn := fun _ => fun
  | [d] => { results := [.lit (.bool false)], args := [d] }
  | _ => none }
def FnExactGilbreathCutWrongFalsely : Prop := fnExactGilbreathCutRow.holds Try.pinned (OpenSpec.ofChange fnExactGilbreathCutWrong)

/-- 'laws.FnExactHasBlocks': WHATEVER THE INPUT: true; the input reads as it did. -/
def fnExactHasBlocksSpec : ChangeSpec := { name := "fnExactHasBlocks", fn := fun _ => fun
  | [d1, d2] => { results := [.lit (.bool true)], args := [d1, d2] }
  | _ => none }
def fnExactHasBlocksRow : OpenClaim := { program := "ytpmfiflpipcojaa", sum := "246fca8e275ca6426c917ee797386ca545f831ec0abbfeda36c24f77444ebd55", func := "loop.example/g00846/laws.FnExactHasBlocks", spec := "fnExactHasBlocks", unfollowed := true, recurses := true, apart := false }
def FnExactHasBlocksSaid : Prop := fnExactHasBlocksRow.holds Try.pinned (OpenSpec.ofChange fnExactHasBlocksSpec)

/-- ITS FALSE NEIGHBOUR: 'it returns false'. Refute it at one input. -/
def fnExactHasBlocksWrong : ChangeSpec := { name := "fnExactHasBlocks", fn := fun _ => fun
  | [d1, d2] => { results := [.lit (.bool false)], args := [d1, d2] }
  | _ => none }
def FnExactHasBlocksWrongFalsely : Prop := fnExactHasBlocksRow.holds Try.pinned (OpenSpec.ofChange fnExactHasBlocksWrong)

/-- 'laws.FnExactAlternateOk': WHATEVER THE INPUT: true; the input reads as it did. -/
def fnExactAlternateOkSpec : ChangeSpec := { name := "fnExactAlternateOk", fn := fun _ => fun
  | [d] => { results := [.lit (.bool true)], args := [d] }
  | _ => none }
def fnExactAlternateOkRow : OpenClaim := { program := "ytpmfiflpipcojaa", sum := "246fca8e275ca6426c917ee797386ca545f831ec0abbfeda36c24f77444ebd55", func := "loop.example/g00846/laws.FnExactAlternateOk", spec := "fnExactAlternateOk", unfollowed := true, recurses := true, apart := false }
def FnExactAlternateOkSaid : Prop := fnExactAlternateOkRow.holds Try.pinned (OpenSpec.ofChange fnExactAlternateOkSpec)

/-- ITS FALSE NEIGHBOUR: 'it returns false'. Refute it at one input. -/
def fnExactAlternateOkWrong : ChangeSpec := { name := "fnExactAlternateOk", fn := fun _ => fun
  | [d] => { results := [.lit (.bool false)], args := [d] }
  | _ => none }
def FnExactAlternateOkWrongFalsely : Prop := fnExactAlternateOkRow.holds Try.pinned (OpenSpec.ofChange fnExactAlternateOkWrong)

/-- 'laws.FnExactPairsDiffer': WHATEVER THE INPUT: true; the input reads as it did. -/
def fnExactPairsDifferSpec : ChangeSpec := { name := "fnExactPairsDiffer", fn := fun _ => fun
  | [d] => { results := [.lit (.bool true)], args := [d] }
  | _ => none }
def fnExactPairsDifferRow : OpenClaim := { program := "ytpmfiflpipcojaa", sum := "246fca8e275ca6426c917ee797386ca545f831ec0abbfeda36c24f77444ebd55", func := "loop.example/g00846/laws.FnExactPairsDiffer", spec := "fnExactPairsDiffer", unfollowed := true, recurses := true, apart := false }
def FnExactPairsDifferSaid : Prop := fnExactPairsDifferRow.holds Try.pinned (OpenSpec.ofChange fnExactPairsDifferSpec)

/-- ITS FALSE NEIGHBOUR: 'it returns false'. Refute it at one input. -/
def fnExactPairsDifferWrong : ChangeSpec := { name := "fnExactPairsDiffer", fn := fun _ => fun
  | [d] => { results := [.lit (.bool false)], args := [d] }
  | _ => none }
def FnExactPairsDifferWrongFalsely : Prop := fnExactPairsDifferRow.holds Try.pinned (OpenSpec.ofChange fnExactPairsDifferWrong)

/-- 'laws.FnExactColorsAfter': WHATEVER THE INPUT: true; the input reads as it did. -/
def fnExactColorsAfterSpec : ChangeSpec := { name := "fnExactColorsAfter", fn := fun _ => fun
  | [d1, d2] => { results := [.lit (.bool true)], args := [d1, d2] }
  | _ => none }
def fnExactColorsAfterRow : OpenClaim := { program := "ytpmfiflpipcojaa", sum := "246fca8e275ca6426c917ee797386ca545f831ec0abbfeda36c24f77444ebd55", func := "loop.example/g00846/laws.FnExactColorsAfter", spec := "fnExactColorsAfter", apart := false }
def FnExactColorsAfterSaid : Prop := fnExactColorsAfterRow.holds Try.pinned (OpenSpec.ofChange fnExactColorsAfterSpec)

/-- ITS FALSE NEIGHBOUR: 'it returns false'. Refute it at one input. -/
def fnExactColorsAfterWrong : ChangeSpec := { name := "fnExactColorsAfter", fn := fun _ => fun
  | [d1, d2] => { results := [.lit (.bool false)], args := [d1, d2] }
  | _ => none }
def FnExactColorsAfterWrongFalsely : Prop := fnExactColorsAfterRow.holds Try.pinned (OpenSpec.ofChange fnExactColorsAfterWrong)

/- THE SECOND FORM. 'bulk': how many values and letters a reading holds, each counted each time it is reached (what is shared counts as often as it is met; a slice's spare places count too). A statement '..UptoSaid' is the law's where the arguments, and the package variables that the reading takes, are together of bulk at most 1048576: NARROWER than '..Said'. Prove '..Said' where nothing that the law and all that it calls make is longer than what came in: it says more and counts as full. Else prove '..UptoSaid'. A law counts once. -/
mutual
def uptoBulk {H : Type} : DataW H → Nat
  | .lit (.string bytes) => bytes.length + 1
  | .lit _ => 1
  | .nil => 1
  | .ptr d => uptoBulk d + 1
  | .slice elems spare => uptoBulkAll elems + uptoBulkAll spare + 1
  | .agg parts => uptoBulkAll parts + 1
  | .iface _ d => uptoBulk d + 1
  | .map entries => uptoBulkEntries entries + 1
  | .held _ => 1
def uptoBulkAll {H : Type} : List (DataW H) → Nat
  | [] => 0
  | d :: r => uptoBulk d + uptoBulkAll r
def uptoBulkEntries {H : Type} : List (Lit × DataW H) → Nat
  | [] => 0
  | x :: r => uptoBulkEntry x + uptoBulkEntries r
def uptoBulkEntry {H : Type} : Lit × DataW H → Nat
  | (.string bytes, d) => bytes.length + uptoBulk d + 1
  | (_, d) => uptoBulk d + 1
 end
def uptoSmall : (H : Type) → List (DataW H) → Bool := fun _ ds => decide (uptoBulkAll ds ≤ 1048576)
def OpenSpec.upto (s : _root_.Go.ChangeSpec) : _root_.Go.OpenSpec := { _root_.Go.OpenSpec.ofChange s with cond := some uptoSmall }

/-- 'laws.FnGilbreath', WHERE WHAT IT READS IS OF BULK AT MOST 1048576: true; the input reads as it did. -/
def fnGilbreathUptoRow : OpenClaim := { program := "ytpmfiflpipcojaa", sum := "246fca8e275ca6426c917ee797386ca545f831ec0abbfeda36c24f77444ebd55", func := "loop.example/g00846/laws.FnGilbreath", spec := "fnGilbreath", unfollowed := true, recurses := true, apart := false, narrowed := true }
def FnGilbreathUptoSaid : Prop := fnGilbreathUptoRow.holds Try.pinned (OpenSpec.upto fnGilbreathSpec)

/-- 'laws.FnConverse', WHERE WHAT IT READS IS OF BULK AT MOST 1048576: true; the input reads as it did. -/
def fnConverseUptoRow : OpenClaim := { program := "ytpmfiflpipcojaa", sum := "246fca8e275ca6426c917ee797386ca545f831ec0abbfeda36c24f77444ebd55", func := "loop.example/g00846/laws.FnConverse", spec := "fnConverse", inPlace := ["slices.overlaps[int]"], unfollowed := true, recurses := true, apart := false, narrowed := true }
def FnConverseUptoSaid : Prop := fnConverseUptoRow.holds Try.pinned (OpenSpec.upto fnConverseSpec)

/-- 'laws.FnExactIsGilbreath', WHERE WHAT IT READS IS OF BULK AT MOST 1048576: true; the input reads as it did. -/
def fnExactIsGilbreathUptoRow : OpenClaim := { program := "ytpmfiflpipcojaa", sum := "246fca8e275ca6426c917ee797386ca545f831ec0abbfeda36c24f77444ebd55", func := "loop.example/g00846/laws.FnExactIsGilbreath", spec := "fnExactIsGilbreath", apart := false, narrowed := true }
def FnExactIsGilbreathUptoSaid : Prop := fnExactIsGilbreathUptoRow.holds Try.pinned (OpenSpec.upto fnExactIsGilbreathSpec)

/-- 'laws.FnExactGilbreathsOf', WHERE WHAT IT READS IS OF BULK AT MOST 1048576: true; the input reads as it did. -/
def fnExactGilbreathsOfUptoRow : OpenClaim := { program := "ytpmfiflpipcojaa", sum := "246fca8e275ca6426c917ee797386ca545f831ec0abbfeda36c24f77444ebd55", func := "loop.example/g00846/laws.FnExactGilbreathsOf", spec := "fnExactGilbreathsOf", unfollowed := true, recurses := true, apart := false, narrowed := true }
def FnExactGilbreathsOfUptoSaid : Prop := fnExactGilbreathsOfUptoRow.holds Try.pinned (OpenSpec.upto fnExactGilbreathsOfSpec)

/-- 'laws.FnExactGilbreathCut', WHERE WHAT IT READS IS OF BULK AT MOST 1048576: true; the input reads as it did. -/
def fnExactGilbreathCutUptoRow : OpenClaim := { program := "ytpmfiflpipcojaa", sum := "246fca8e275ca6426c917ee797386ca545f831ec0abbfeda36c24f77444ebd55", func := "loop.example/g00846/laws.FnExactGilbreathCut", spec := "fnExactGilbreathCut", apart := false, narrowed := true }
def FnExactGilbreathCutUptoSaid : Prop := fnExactGilbreathCutUptoRow.holds Try.pinned (OpenSpec.upto fnExactGilbreathCutSpec)

/-- 'laws.FnExactHasBlocks', WHERE WHAT IT READS IS OF BULK AT MOST 1048576: true; the input reads as it did. -/
def fnExactHasBlocksUptoRow : OpenClaim := { program := "ytpmfiflpipcojaa", sum := "246fca8e275ca6426c917ee797386ca545f831ec0abbfeda36c24f77444ebd55", func := "loop.example/g00846/laws.FnExactHasBlocks", spec := "fnExactHasBlocks", unfollowed := true, recurses := true, apart := false, narrowed := true }
def FnExactHasBlocksUptoSaid : Prop := fnExactHasBlocksUptoRow.holds Try.pinned (OpenSpec.upto fnExactHasBlocksSpec)

/-- 'laws.FnExactAlternateOk', WHERE WHAT IT READS IS OF BULK AT MOST 1048576: true; the input reads as it did. -/
def fnExactAlternateOkUptoRow : OpenClaim := { program := "ytpmfiflpipcojaa", sum := "246fca8e275ca6426c917ee797386ca545f831ec0abbfeda36c24f77444ebd55", func := "loop.example/g00846/laws.FnExactAlternateOk", spec := "fnExactAlternateOk", unfollowed := true, recurses := true, apart := false, narrowed := true }
def FnExactAlternateOkUptoSaid : Prop := fnExactAlternateOkUptoRow.holds Try.pinned (OpenSpec.upto fnExactAlternateOkSpec)

/-- 'laws.FnExactPairsDiffer', WHERE WHAT IT READS IS OF BULK AT MOST 1048576: true; the input reads as it did. -/
def fnExactPairsDifferUptoRow : OpenClaim := { program := "ytpmfiflpipcojaa", sum := "246fca8e275ca6426c917ee797386ca545f831ec0abbfeda36c24f77444ebd55", func := "loop.example/g00846/laws.FnExactPairsDiffer", spec := "fnExactPairsDiffer", unfollowed := true, recurses := true, apart := false, narrowed := true }
def FnExactPairsDifferUptoSaid : Prop := fnExactPairsDifferUptoRow.holds Try.pinned (OpenSpec.upto fnExactPairsDifferSpec)

/-- 'laws.FnExactColorsAfter', WHERE WHAT IT READS IS OF BULK AT MOST 1048576: true; the input reads as it did. -/
def fnExactColorsAfterUptoRow : OpenClaim := { program := "ytpmfiflpipcojaa", sum := "246fca8e275ca6426c917ee797386ca545f831ec0abbfeda36c24f77444ebd55", func := "loop.example/g00846/laws.FnExactColorsAfter", spec := "fnExactColorsAfter", apart := false, narrowed := true }
def FnExactColorsAfterUptoSaid : Prop := fnExactColorsAfterUptoRow.holds Try.pinned (OpenSpec.upto fnExactColorsAfterSpec)

end Rows
end Go.Proofs.Ytpmfiflpipcojaa
