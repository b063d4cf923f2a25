/-
  No cell of these rows narrows 'for every input' (looked for: loops, veiled, ifaces, maps, wideKeys, modest, calm, conditions, laid).
  DERIVED. THE GIVEN ROWS OF THIS SEAT. 4 by the template 'for every input the law returns true; each argument reads behind the call as it read before'; 0 by the template 'total and deterministic' (their statements: YtioofakdklghpaaGreatTotals.lean).
  GIVEN WITH THE SEED: the statements are not yours to turn. If you find one false, say at which input.
  Laid BY PROGRAM, IN A SANDBOX (cutbox-rows.mjs): the forced cells as the released guide's own fill.sh prints them over the translation 54b76536b268eaf6… (all of the seat's roots in one cut). By AI agents, Wed Nov 11 2026. No macro, syntax, notation, axiom, sorry.
-/
import Derived.Test.YtioofakdklghpaaGreatChecked
import GoSem.Claim
import GoSem.ClaimJoined
import GoSem.ClaimMapViews
import Derived.JoinedTies
import Derived.KernelRfl
namespace Go.Proofs.YtioofakdklghpaaGreat
/- THE CELL 'sum', in the pinned program and in every row, IS THE sha256 OF THE DUMP (.gsa) THAT YtioofakdklghpaaGreatProg.lean LOADS. Nothing in Lean hashes anything: it is a label: what it is worth is what the hold of that sum in a sandbox is worth. -/
noncomputable def Tryz.pinned : Pinned := { name := "ytioofakdklghpaagreat", sum := "54b76536b268eaf65820cc6df6be0dd69dcd14a798a271814b14c8deb64abad1", checked := Tryz.checked }
namespace Rows
def none {H : Type} : Left H := { results := [], args := [] }

/-- 'laws.FnExactResultsOf': WHATEVER THE INPUT: true; the input reads as it did. -/
def fnExactResultsOfSpec : ChangeSpec := { name := "fnExactResultsOf", fn := fun _ => fun
  | [d1, d2] => { results := [.lit (.bool true)], args := [d1, d2] }
  | _ => none }
def fnExactResultsOfRow : OpenClaim := { program := "ytioofakdklghpaagreat", sum := "54b76536b268eaf65820cc6df6be0dd69dcd14a798a271814b14c8deb64abad1", func := "loop.example/g00846/laws.FnExactResultsOf", spec := "fnExactResultsOf", inPlace := ["slices.overlaps[int]"], unfollowed := true, recurses := true, apart := false }
def FnExactResultsOfSaid : Prop := fnExactResultsOfRow.holds Tryz.pinned (OpenSpec.ofChange fnExactResultsOfSpec)

/-- ITS FALSE NEIGHBOUR: 'it returns false'. Refute it at one input. -/
def fnExactResultsOfWrong : ChangeSpec := { name := "fnExactResultsOf", fn := fun _ => fun
  | [d1, d2] => { results := [.lit (.bool false)], args := [d1, d2] }
  | _ => none }
def FnExactResultsOfWrongFalsely : Prop := fnExactResultsOfRow.holds Tryz.pinned (OpenSpec.ofChange fnExactResultsOfWrong)

/-- 'laws.FnExactCountResults': WHATEVER THE INPUT: true; the input reads as it did. -/
def fnExactCountResultsSpec : ChangeSpec := { name := "fnExactCountResults", fn := fun _ => fun
  | [d1, d2] => { results := [.lit (.bool true)], args := [d1, d2] }
  | _ => none }
def fnExactCountResultsRow : OpenClaim := { program := "ytioofakdklghpaagreat", sum := "54b76536b268eaf65820cc6df6be0dd69dcd14a798a271814b14c8deb64abad1", func := "loop.example/g00846/laws.FnExactCountResults", spec := "fnExactCountResults", inPlace := ["slices.overlaps[int]"], unfollowed := true, recurses := true, apart := false }
def FnExactCountResultsSaid : Prop := fnExactCountResultsRow.holds Tryz.pinned (OpenSpec.ofChange fnExactCountResultsSpec)

/-- ITS FALSE NEIGHBOUR: 'it returns false'. Refute it at one input. -/
def fnExactCountResultsWrong : ChangeSpec := { name := "fnExactCountResults", fn := fun _ => fun
  | [d1, d2] => { results := [.lit (.bool false)], args := [d1, d2] }
  | _ => none }
def FnExactCountResultsWrongFalsely : Prop := fnExactCountResultsRow.holds Tryz.pinned (OpenSpec.ofChange fnExactCountResultsWrong)

/-- 'laws.FnExactIsResult': WHATEVER THE INPUT: true; the input reads as it did. -/
def fnExactIsResultSpec : ChangeSpec := { name := "fnExactIsResult", fn := fun _ => fun
  | [d1, d2, d3] => { results := [.lit (.bool true)], args := [d1, d2, d3] }
  | _ => none }
def fnExactIsResultRow : OpenClaim := { program := "ytioofakdklghpaagreat", sum := "54b76536b268eaf65820cc6df6be0dd69dcd14a798a271814b14c8deb64abad1", func := "loop.example/g00846/laws.FnExactIsResult", spec := "fnExactIsResult", inPlace := ["slices.overlaps[int]"], unfollowed := true, recurses := true, apart := false }
def FnExactIsResultSaid : Prop := fnExactIsResultRow.holds Tryz.pinned (OpenSpec.ofChange fnExactIsResultSpec)

/-- ITS FALSE NEIGHBOUR: 'it returns false'. Refute it at one input. -/
def fnExactIsResultWrong : ChangeSpec := { name := "fnExactIsResult", fn := fun _ => fun
  | [d1, d2, d3] => { results := [.lit (.bool false)], args := [d1, d2, d3] }
  | _ => none }
def FnExactIsResultWrongFalsely : Prop := fnExactIsResultRow.holds Tryz.pinned (OpenSpec.ofChange fnExactIsResultWrong)

/-- 'laws.FnExactResultsAfter': WHATEVER THE INPUT: true; the input reads as it did. -/
def fnExactResultsAfterSpec : ChangeSpec := { name := "fnExactResultsAfter", fn := fun _ => fun
  | [d1, d2] => { results := [.lit (.bool true)], args := [d1, d2] }
  | _ => none }
def fnExactResultsAfterRow : OpenClaim := { program := "ytioofakdklghpaagreat", sum := "54b76536b268eaf65820cc6df6be0dd69dcd14a798a271814b14c8deb64abad1", func := "loop.example/g00846/laws.FnExactResultsAfter", spec := "fnExactResultsAfter", inPlace := ["slices.overlaps[int]"], unfollowed := true, recurses := true, apart := false }
def FnExactResultsAfterSaid : Prop := fnExactResultsAfterRow.holds Tryz.pinned (OpenSpec.ofChange fnExactResultsAfterSpec)

/-- ITS FALSE NEIGHBOUR: 'it returns false'. Refute it at one input. -/
def fnExactResultsAfterWrong : ChangeSpec := { name := "fnExactResultsAfter", fn := fun _ => fun
  | [d1, d2] => { results := [.lit (.bool false)], args := [d1, d2] }
  | _ => none }
def FnExactResultsAfterWrongFalsely : Prop := fnExactResultsAfterRow.holds Tryz.pinned (OpenSpec.ofChange fnExactResultsAfterWrong)

/- THE SECOND FORM. 'bulk': how many values and letters a reading holds, each counted each time it is reached (what is shared counts as often as it is met; a slice's spare places count too). A statement '..UptoSaid' is the law's where the arguments, and the package variables that the reading takes, are together of bulk at most 1048576: NARROWER than '..Said'. Prove '..Said' where nothing that the law and all that it calls make is longer than what came in: it says more and counts as full. Else prove '..UptoSaid'. A law counts once. -/
mutual
def uptoBulk {H : Type} : DataW H → Nat
  | .lit (.string bytes) => bytes.length + 1
  | .lit _ => 1
  | .nil => 1
  | .ptr d => uptoBulk d + 1
  | .slice elems spare => uptoBulkAll elems + uptoBulkAll spare + 1
  | .agg parts => uptoBulkAll parts + 1
  | .iface _ d => uptoBulk d + 1
  | .map entries => uptoBulkEntries entries + 1
  | .held _ => 1
def uptoBulkAll {H : Type} : List (DataW H) → Nat
  | [] => 0
  | d :: r => uptoBulk d + uptoBulkAll r
def uptoBulkEntries {H : Type} : List (Lit × DataW H) → Nat
  | [] => 0
  | x :: r => uptoBulkEntry x + uptoBulkEntries r
def uptoBulkEntry {H : Type} : Lit × DataW H → Nat
  | (.string bytes, d) => bytes.length + uptoBulk d + 1
  | (_, d) => uptoBulk d + 1
 end
def uptoSmall : (H : Type) → List (DataW H) → Bool := fun _ ds => decide (uptoBulkAll ds ≤ 1048576)
def OpenSpec.upto (s : _root_.Go.ChangeSpec) : _root_.Go.OpenSpec := { _root_.Go.OpenSpec.ofChange s with cond := some uptoSmall }

/-- 'laws.FnExactResultsOf', WHERE WHAT IT READS IS OF BULK AT MOST 1048576: true; the input reads as it did. -/
def fnExactResultsOfUptoRow : OpenClaim := { program := "ytioofakdklghpaagreat", sum := "54b76536b268eaf65820cc6df6be0dd69dcd14a798a271814b14c8deb64abad1", func := "loop.example/g00846/laws.FnExactResultsOf", spec := "fnExactResultsOf", inPlace := ["slices.overlaps[int]"], unfollowed := true, recurses := true, apart := false, narrowed := true }
def FnExactResultsOfUptoSaid : Prop := fnExactResultsOfUptoRow.holds Tryz.pinned (OpenSpec.upto fnExactResultsOfSpec)

/-- 'laws.FnExactCountResults', WHERE WHAT IT READS IS OF BULK AT MOST 1048576: true; the input reads as it did. -/
def fnExactCountResultsUptoRow : OpenClaim := { program := "ytioofakdklghpaagreat", sum := "54b76536b268eaf65820cc6df6be0dd69dcd14a798a271814b14c8deb64abad1", func := "loop.example/g00846/laws.FnExactCountResults", spec := "fnExactCountResults", inPlace := ["slices.overlaps[int]"], unfollowed := true, recurses := true, apart := false, narrowed := true }
def FnExactCountResultsUptoSaid : Prop := fnExactCountResultsUptoRow.holds Tryz.pinned (OpenSpec.upto fnExactCountResultsSpec)

/-- 'laws.FnExactIsResult', WHERE WHAT IT READS IS OF BULK AT MOST 1048576: true; the input reads as it did. -/
def fnExactIsResultUptoRow : OpenClaim := { program := "ytioofakdklghpaagreat", sum := "54b76536b268eaf65820cc6df6be0dd69dcd14a798a271814b14c8deb64abad1", func := "loop.example/g00846/laws.FnExactIsResult", spec := "fnExactIsResult", inPlace := ["slices.overlaps[int]"], unfollowed := true, recurses := true, apart := false, narrowed := true }
def FnExactIsResultUptoSaid : Prop := fnExactIsResultUptoRow.holds Tryz.pinned (OpenSpec.upto fnExactIsResultSpec)

/-- 'laws.FnExactResultsAfter', WHERE WHAT IT READS IS OF BULK AT MOST 1048576: true; the input reads as it did. -/
def fnExactResultsAfterUptoRow : OpenClaim := { program := "ytioofakdklghpaagreat", sum := "54b76536b268eaf65820cc6df6be0dd69dcd14a798a271814b14c8deb64abad1", func := "loop.example/g00846/laws.FnExactResultsAfter", spec := "fnExactResultsAfter", inPlace := ["slices.overlaps[int]"], unfollowed := true, recurses := true, apart := false, narrowed := true }
def FnExactResultsAfterUptoSaid : Prop := fnExactResultsAfterUptoRow.holds Tryz.pinned (OpenSpec.upto fnExactResultsAfterSpec)

end Rows
end Go.Proofs.YtioofakdklghpaaGreat
