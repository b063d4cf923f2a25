/-
  No cell of these rows narrows 'for every input' (looked for: loops, veiled, ifaces, maps, wideKeys, modest, calm, conditions, laid).
  DERIVED. THE GIVEN ROWS OF THIS SEAT. 11 by the template 'for every input the law returns true; each argument reads behind the call as it read before'; 0 by the template 'total and deterministic' (their statements: YtijlfgbinpjkiaaTotals.lean).
  GIVEN WITH THE SEED: the statements are not yours to turn. If you find one false, say at which input.
  Laid BY PROGRAM, IN A SANDBOX (cutbox-rows.mjs): the forced cells as the released guide's own fill.sh prints them over the translation 18df0ed8b95d10f4… (all of the seat's roots in one cut). By AI agents, Wed Nov 11 2026. No macro, syntax, notation, axiom, sorry.
-/
import Derived.Test.YtijlfgbinpjkiaaChecked
import GoSem.Claim
import GoSem.ClaimJoined
import GoSem.ClaimMapViews
import Derived.JoinedTies
import Derived.KernelRfl
namespace Go.Proofs.Ytijlfgbinpjkiaa
/- THE CELL 'sum', in the pinned program and in every row, IS THE sha256 OF THE DUMP (.gsa) THAT YtijlfgbinpjkiaaProg.lean LOADS. Nothing in Lean hashes anything: it is a label: what it is worth is what the hold of that sum in a sandbox is worth. -/
noncomputable def Try.pinned : Pinned := { name := "ytijlfgbinpjkiaa", sum := "18df0ed8b95d10f445ac578157010f539b6faf4f93e6f7936acb0613710e66f8", checked := Try.checked }
namespace Rows
def none {H : Type} : Left H := { results := [], args := [] }

/-- 'laws.FnPerms': WHATEVER THE INPUT: true; the input reads as it did. -/
def fnPermsSpec : ChangeSpec := { name := "fnPerms", fn := fun _ => fun
  | [d] => { results := [.lit (.bool true)], args := [d] }
  | _ => none }
def fnPermsRow : OpenClaim := { program := "ytijlfgbinpjkiaa", sum := "18df0ed8b95d10f445ac578157010f539b6faf4f93e6f7936acb0613710e66f8", func := "loop.example/g00846/laws.FnPerms", spec := "fnPerms", apart := false }
def FnPermsSaid : Prop := fnPermsRow.holds Try.pinned (OpenSpec.ofChange fnPermsSpec)

/-- ITS FALSE NEIGHBOUR: 'it returns false'. Refute it at one input. -/
def fnPermsWrong : ChangeSpec := { name := "fnPerms", fn := fun _ => fun
  | [d] => { results := [.lit (.bool false)], args := [d] }
  | _ => none }
def FnPermsWrongFalsely : Prop := fnPermsRow.holds Try.pinned (OpenSpec.ofChange fnPermsWrong)

/-- 'laws.FnExactPermOk': WHATEVER THE INPUT: true; the input reads as it did. -/
def fnExactPermOkSpec : ChangeSpec := { name := "fnExactPermOk", fn := fun _ => fun
  | [d] => { results := [.lit (.bool true)], args := [d] }
  | _ => none }
def fnExactPermOkRow : OpenClaim := { program := "ytijlfgbinpjkiaa", sum := "18df0ed8b95d10f445ac578157010f539b6faf4f93e6f7936acb0613710e66f8", func := "loop.example/g00846/laws.FnExactPermOk", spec := "fnExactPermOk", apart := false }
def FnExactPermOkSaid : Prop := fnExactPermOkRow.holds Try.pinned (OpenSpec.ofChange fnExactPermOkSpec)

/-- ITS FALSE NEIGHBOUR: 'it returns false'. Refute it at one input. -/
def fnExactPermOkWrong : ChangeSpec := { name := "fnExactPermOk", fn := fun _ => fun
  | [d] => { results := [.lit (.bool false)], args := [d] }
  | _ => none }
def FnExactPermOkWrongFalsely : Prop := fnExactPermOkRow.holds Try.pinned (OpenSpec.ofChange fnExactPermOkWrong)

/-- 'laws.FnExactIdentityPerm': WHATEVER THE INPUT: true; the input reads as it did. -/
def fnExactIdentityPermSpec : ChangeSpec := { name := "fnExactIdentityPerm", fn := fun _ => fun
  | [d] => { results := [.lit (.bool true)], args := [d] }
  | _ => none }
def fnExactIdentityPermRow : OpenClaim := { program := "ytijlfgbinpjkiaa", sum := "18df0ed8b95d10f445ac578157010f539b6faf4f93e6f7936acb0613710e66f8", func := "loop.example/g00846/laws.FnExactIdentityPerm", spec := "fnExactIdentityPerm", apart := false }
def FnExactIdentityPermSaid : Prop := fnExactIdentityPermRow.holds Try.pinned (OpenSpec.ofChange fnExactIdentityPermSpec)

/-- ITS FALSE NEIGHBOUR: 'it returns false'. Refute it at one input. -/
def fnExactIdentityPermWrong : ChangeSpec := { name := "fnExactIdentityPerm", fn := fun _ => fun
  | [d] => { results := [.lit (.bool false)], args := [d] }
  | _ => none }
def FnExactIdentityPermWrongFalsely : Prop := fnExactIdentityPermRow.holds Try.pinned (OpenSpec.ofChange fnExactIdentityPermWrong)

/-- 'laws.FnExactComposePerms': WHATEVER THE INPUT: true; the input reads as it did. -/
def fnExactComposePermsSpec : ChangeSpec := { name := "fnExactComposePerms", fn := fun _ => fun
  | [d1, d2] => { results := [.lit (.bool true)], args := [d1, d2] }
  | _ => none }
def fnExactComposePermsRow : OpenClaim := { program := "ytijlfgbinpjkiaa", sum := "18df0ed8b95d10f445ac578157010f539b6faf4f93e6f7936acb0613710e66f8", func := "loop.example/g00846/laws.FnExactComposePerms", spec := "fnExactComposePerms", apart := false }
def FnExactComposePermsSaid : Prop := fnExactComposePermsRow.holds Try.pinned (OpenSpec.ofChange fnExactComposePermsSpec)

/-- ITS FALSE NEIGHBOUR: 'it returns false'. Refute it at one input. -/
def fnExactComposePermsWrong : ChangeSpec := { name := "fnExactComposePerms", fn := fun _ => fun
  | [d1, d2] => { results := [.lit (.bool false)], args := [d1, d2] }
  | _ => none }
def FnExactComposePermsWrongFalsely : Prop := fnExactComposePermsRow.holds Try.pinned (OpenSpec.ofChange fnExactComposePermsWrong)

/-- 'laws.FnExactInversePerm': WHATEVER THE INPUT: true; the input reads as it did. -/
def fnExactInversePermSpec : ChangeSpec := { name := "fnExactInversePerm", fn := fun _ => fun
  | [d] => { results := [.lit (.bool true)], args := [d] }
  | _ => none }
def fnExactInversePermRow : OpenClaim := { program := "ytijlfgbinpjkiaa", sum := "18df0ed8b95d10f445ac578157010f539b6faf4f93e6f7936acb0613710e66f8", func := "loop.example/g00846/laws.FnExactInversePerm", spec := "fnExactInversePerm", apart := false }
def FnExactInversePermSaid : Prop := fnExactInversePermRow.holds Try.pinned (OpenSpec.ofChange fnExactInversePermSpec)

/-- ITS FALSE NEIGHBOUR: 'it returns false'. Refute it at one input. -/
def fnExactInversePermWrong : ChangeSpec := { name := "fnExactInversePerm", fn := fun _ => fun
  | [d] => { results := [.lit (.bool false)], args := [d] }
  | _ => none }
def FnExactInversePermWrongFalsely : Prop := fnExactInversePermRow.holds Try.pinned (OpenSpec.ofChange fnExactInversePermWrong)

/-- 'laws.FnExactPowerPerm': WHATEVER THE INPUT: true; the input reads as it did. -/
def fnExactPowerPermSpec : ChangeSpec := { name := "fnExactPowerPerm", fn := fun _ => fun
  | [d1, d2] => { results := [.lit (.bool true)], args := [d1, d2] }
  | _ => none }
def fnExactPowerPermRow : OpenClaim := { program := "ytijlfgbinpjkiaa", sum := "18df0ed8b95d10f445ac578157010f539b6faf4f93e6f7936acb0613710e66f8", func := "loop.example/g00846/laws.FnExactPowerPerm", spec := "fnExactPowerPerm", apart := false }
def FnExactPowerPermSaid : Prop := fnExactPowerPermRow.holds Try.pinned (OpenSpec.ofChange fnExactPowerPermSpec)

/-- ITS FALSE NEIGHBOUR: 'it returns false'. Refute it at one input. -/
def fnExactPowerPermWrong : ChangeSpec := { name := "fnExactPowerPerm", fn := fun _ => fun
  | [d1, d2] => { results := [.lit (.bool false)], args := [d1, d2] }
  | _ => none }
def FnExactPowerPermWrongFalsely : Prop := fnExactPowerPermRow.holds Try.pinned (OpenSpec.ofChange fnExactPowerPermWrong)

/-- 'laws.FnExactOrderOfPerm': WHATEVER THE INPUT: true; the input reads as it did. -/
def fnExactOrderOfPermSpec : ChangeSpec := { name := "fnExactOrderOfPerm", fn := fun _ => fun
  | [d] => { results := [.lit (.bool true)], args := [d] }
  | _ => none }
def fnExactOrderOfPermRow : OpenClaim := { program := "ytijlfgbinpjkiaa", sum := "18df0ed8b95d10f445ac578157010f539b6faf4f93e6f7936acb0613710e66f8", func := "loop.example/g00846/laws.FnExactOrderOfPerm", spec := "fnExactOrderOfPerm", apart := false }
def FnExactOrderOfPermSaid : Prop := fnExactOrderOfPermRow.holds Try.pinned (OpenSpec.ofChange fnExactOrderOfPermSpec)

/-- ITS FALSE NEIGHBOUR: 'it returns false'. Refute it at one input. -/
def fnExactOrderOfPermWrong : ChangeSpec := { name := "fnExactOrderOfPerm", fn := fun _ => fun
  | [d] => { results := [.lit (.bool false)], args := [d] }
  | _ => none }
def FnExactOrderOfPermWrongFalsely : Prop := fnExactOrderOfPermRow.holds Try.pinned (OpenSpec.ofChange fnExactOrderOfPermWrong)

/-- 'laws.FnExactCyclesOf': WHATEVER THE INPUT: true; the input reads as it did. -/
def fnExactCyclesOfSpec : ChangeSpec := { name := "fnExactCyclesOf", fn := fun _ => fun
  | [d] => { results := [.lit (.bool true)], args := [d] }
  | _ => none }
def fnExactCyclesOfRow : OpenClaim := { program := "ytijlfgbinpjkiaa", sum := "18df0ed8b95d10f445ac578157010f539b6faf4f93e6f7936acb0613710e66f8", func := "loop.example/g00846/laws.FnExactCyclesOf", spec := "fnExactCyclesOf", apart := false }
def FnExactCyclesOfSaid : Prop := fnExactCyclesOfRow.holds Try.pinned (OpenSpec.ofChange fnExactCyclesOfSpec)

/-- ITS FALSE NEIGHBOUR: 'it returns false'. Refute it at one input. -/
def fnExactCyclesOfWrong : ChangeSpec := { name := "fnExactCyclesOf", fn := fun _ => fun
  | [d] => { results := [.lit (.bool false)], args := [d] }
  | _ => none }
def FnExactCyclesOfWrongFalsely : Prop := fnExactCyclesOfRow.holds Try.pinned (OpenSpec.ofChange fnExactCyclesOfWrong)

/-- 'laws.FnExactIsEven': WHATEVER THE INPUT: true; the input reads as it did. -/
def fnExactIsEvenSpec : ChangeSpec := { name := "fnExactIsEven", fn := fun _ => fun
  | [d] => { results := [.lit (.bool true)], args := [d] }
  | _ => none }
def fnExactIsEvenRow : OpenClaim := { program := "ytijlfgbinpjkiaa", sum := "18df0ed8b95d10f445ac578157010f539b6faf4f93e6f7936acb0613710e66f8", func := "loop.example/g00846/laws.FnExactIsEven", spec := "fnExactIsEven", apart := false }
def FnExactIsEvenSaid : Prop := fnExactIsEvenRow.holds Try.pinned (OpenSpec.ofChange fnExactIsEvenSpec)

/-- ITS FALSE NEIGHBOUR: 'it returns false'. Refute it at one input. -/
def fnExactIsEvenWrong : ChangeSpec := { name := "fnExactIsEven", fn := fun _ => fun
  | [d] => { results := [.lit (.bool false)], args := [d] }
  | _ => none }
def FnExactIsEvenWrongFalsely : Prop := fnExactIsEvenRow.holds Try.pinned (OpenSpec.ofChange fnExactIsEvenWrong)

/-- 'laws.FnExactArrangeBy': WHATEVER THE INPUT: true; the input reads as it did. -/
def fnExactArrangeBySpec : ChangeSpec := { name := "fnExactArrangeBy", fn := fun _ => fun
  | [d1, d2] => { results := [.lit (.bool true)], args := [d1, d2] }
  | _ => none }
def fnExactArrangeByRow : OpenClaim := { program := "ytijlfgbinpjkiaa", sum := "18df0ed8b95d10f445ac578157010f539b6faf4f93e6f7936acb0613710e66f8", func := "loop.example/g00846/laws.FnExactArrangeBy", spec := "fnExactArrangeBy", apart := false }
def FnExactArrangeBySaid : Prop := fnExactArrangeByRow.holds Try.pinned (OpenSpec.ofChange fnExactArrangeBySpec)

/-- ITS FALSE NEIGHBOUR: 'it returns false'. Refute it at one input. -/
def fnExactArrangeByWrong : ChangeSpec := { name := "fnExactArrangeBy", fn := fun _ => fun
  | [d1, d2] => { results := [.lit (.bool false)], args := [d1, d2] }
  | _ => none }
def FnExactArrangeByWrongFalsely : Prop := fnExactArrangeByRow.holds Try.pinned (OpenSpec.ofChange fnExactArrangeByWrong)

/-- 'laws.FnExactPermBetween': WHATEVER THE INPUT: true; the input reads as it did. -/
def fnExactPermBetweenSpec : ChangeSpec := { name := "fnExactPermBetween", fn := fun _ => fun
  | [d1, d2] => { results := [.lit (.bool true)], args := [d1, d2] }
  | _ => none }
def fnExactPermBetweenRow : OpenClaim := { program := "ytijlfgbinpjkiaa", sum := "18df0ed8b95d10f445ac578157010f539b6faf4f93e6f7936acb0613710e66f8", func := "loop.example/g00846/laws.FnExactPermBetween", spec := "fnExactPermBetween", apart := false }
def FnExactPermBetweenSaid : Prop := fnExactPermBetweenRow.holds Try.pinned (OpenSpec.ofChange fnExactPermBetweenSpec)

/-- ITS FALSE NEIGHBOUR: 'it returns false'. Refute it at one input. -/
def fnExactPermBetweenWrong : ChangeSpec := { name := "fnExactPermBetween", fn := fun _ => fun
  | [d1, d2] => { results := [.lit (.bool false)], args := [d1, d2] }
  | _ => none }
def FnExactPermBetweenWrongFalsely : Prop := fnExactPermBetweenRow.holds Try.pinned (OpenSpec.ofChange fnExactPermBetweenWrong)

/- THE SECOND FORM. 'bulk': how many values and letters a reading holds, each counted each time it is reached (what is shared counts as often as it is met; a slice's spare places count too). A statement '..UptoSaid' is the law's where the arguments, and the package variables that the reading takes, are together of bulk at most 1048576: NARROWER than '..Said'. Prove '..Said' where nothing that the law and all that it calls make is longer than what came in: it says more and counts as full. Else prove '..UptoSaid'. A law counts once. -/
mutual
def uptoBulk {H : Type} : DataW H → Nat
  | .lit (.string bytes) => bytes.length + 1
  | .lit _ => 1
  | .nil => 1
  | .ptr d => uptoBulk d + 1
  | .slice elems spare => uptoBulkAll elems + uptoBulkAll spare + 1
  | .agg parts => uptoBulkAll parts + 1
  | .iface _ d => uptoBulk d + 1
  | .map entries => uptoBulkEntries entries + 1
  | .held _ => 1
def uptoBulkAll {H : Type} : List (DataW H) → Nat
  | [] => 0
  | d :: r => uptoBulk d + uptoBulkAll r
def uptoBulkEntries {H : Type} : List (Lit × DataW H) → Nat
  | [] => 0
  | x :: r => uptoBulkEntry x + uptoBulkEntries r
def uptoBulkEntry {H : Type} : Lit × DataW H → Nat
  | (.string bytes, d) => bytes.length + uptoBulk d + 1
  | (_, d) => uptoBulk d + 1
 end
def uptoSmall : (H : Type) → List (DataW H) → Bool := fun _ ds => decide (uptoBulkAll ds ≤ 1048576)
def OpenSpec.upto (s : _root_.Go.ChangeSpec) : _root_.Go.OpenSpec := { _root_.Go.OpenSpec.ofChange s with cond := some uptoSmall }

/-- 'laws.FnPerms', WHERE WHAT IT READS IS OF BULK AT MOST 1048576: true; the input reads as it did. -/
def fnPermsUptoRow : OpenClaim := { program := "ytijlfgbinpjkiaa", sum := "18df0ed8b95d10f445ac578157010f539b6faf4f93e6f7936acb0613710e66f8", func := "loop.example/g00846/laws.FnPerms", spec := "fnPerms", apart := false, narrowed := true }
def FnPermsUptoSaid : Prop := fnPermsUptoRow.holds Try.pinned (OpenSpec.upto fnPermsSpec)

/-- 'laws.FnExactPermOk', WHERE WHAT IT READS IS OF BULK AT MOST 1048576: true; the input reads as it did. -/
def fnExactPermOkUptoRow : OpenClaim := { program := "ytijlfgbinpjkiaa", sum := "18df0ed8b95d10f445ac578157010f539b6faf4f93e6f7936acb0613710e66f8", func := "loop.example/g00846/laws.FnExactPermOk", spec := "fnExactPermOk", apart := false, narrowed := true }
def FnExactPermOkUptoSaid : Prop := fnExactPermOkUptoRow.holds Try.pinned (OpenSpec.upto fnExactPermOkSpec)

/-- 'laws.FnExactIdentityPerm', WHERE WHAT IT READS IS OF BULK AT MOST 1048576: true; the input reads as it did. -/
def fnExactIdentityPermUptoRow : OpenClaim := { program := "ytijlfgbinpjkiaa", sum := "18df0ed8b95d10f445ac578157010f539b6faf4f93e6f7936acb0613710e66f8", func := "loop.example/g00846/laws.FnExactIdentityPerm", spec := "fnExactIdentityPerm", apart := false, narrowed := true }
def FnExactIdentityPermUptoSaid : Prop := fnExactIdentityPermUptoRow.holds Try.pinned (OpenSpec.upto fnExactIdentityPermSpec)

/-- 'laws.FnExactComposePerms', WHERE WHAT IT READS IS OF BULK AT MOST 1048576: true; the input reads as it did. -/
def fnExactComposePermsUptoRow : OpenClaim := { program := "ytijlfgbinpjkiaa", sum := "18df0ed8b95d10f445ac578157010f539b6faf4f93e6f7936acb0613710e66f8", func := "loop.example/g00846/laws.FnExactComposePerms", spec := "fnExactComposePerms", apart := false, narrowed := true }
def FnExactComposePermsUptoSaid : Prop := fnExactComposePermsUptoRow.holds Try.pinned (OpenSpec.upto fnExactComposePermsSpec)

/-- 'laws.FnExactInversePerm', WHERE WHAT IT READS IS OF BULK AT MOST 1048576: true; the input reads as it did. -/
def fnExactInversePermUptoRow : OpenClaim := { program := "ytijlfgbinpjkiaa", sum := "18df0ed8b95d10f445ac578157010f539b6faf4f93e6f7936acb0613710e66f8", func := "loop.example/g00846/laws.FnExactInversePerm", spec := "fnExactInversePerm", apart := false, narrowed := true }
def FnExactInversePermUptoSaid : Prop := fnExactInversePermUptoRow.holds Try.pinned (OpenSpec.upto fnExactInversePermSpec)

/-- 'laws.FnExactPowerPerm', WHERE WHAT IT READS IS OF BULK AT MOST 1048576: true; the input reads as it did. -/
def fnExactPowerPermUptoRow : OpenClaim := { program := "ytijlfgbinpjkiaa", sum := "18df0ed8b95d10f445ac578157010f539b6faf4f93e6f7936acb0613710e66f8", func := "loop.example/g00846/laws.FnExactPowerPerm", spec := "fnExactPowerPerm", apart := false, narrowed := true }
def FnExactPowerPermUptoSaid : Prop := fnExactPowerPermUptoRow.holds Try.pinned (OpenSpec.upto fnExactPowerPermSpec)

/-- 'laws.FnExactOrderOfPerm', WHERE WHAT IT READS IS OF BULK AT MOST 1048576: true; the input reads as it did. -/
def fnExactOrderOfPermUptoRow : OpenClaim := { program := "ytijlfgbinpjkiaa", sum := "18df0ed8b95d10f445ac578157010f539b6faf4f93e6f7936acb0613710e66f8", func := "loop.example/g00846/laws.FnExactOrderOfPerm", spec := "fnExactOrderOfPerm", apart := false, narrowed := true }
def FnExactOrderOfPermUptoSaid : Prop := fnExactOrderOfPermUptoRow.holds Try.pinned (OpenSpec.upto fnExactOrderOfPermSpec)

/-- 'laws.FnExactCyclesOf', WHERE WHAT IT READS IS OF BULK AT MOST 1048576: true; the input reads as it did. -/
def fnExactCyclesOfUptoRow : OpenClaim := { program := "ytijlfgbinpjkiaa", sum := "18df0ed8b95d10f445ac578157010f539b6faf4f93e6f7936acb0613710e66f8", func := "loop.example/g00846/laws.FnExactCyclesOf", spec := "fnExactCyclesOf", apart := false, narrowed := true }
def FnExactCyclesOfUptoSaid : Prop := fnExactCyclesOfUptoRow.holds Try.pinned (OpenSpec.upto fnExactCyclesOfSpec)

/-- 'laws.FnExactIsEven', WHERE WHAT IT READS IS OF BULK AT MOST 1048576: true; the input reads as it did. -/
def fnExactIsEvenUptoRow : OpenClaim := { program := "ytijlfgbinpjkiaa", sum := "18df0ed8b95d10f445ac578157010f539b6faf4f93e6f7936acb0613710e66f8", func := "loop.example/g00846/laws.FnExactIsEven", spec := "fnExactIsEven", apart := false, narrowed := true }
def FnExactIsEvenUptoSaid : Prop := fnExactIsEvenUptoRow.holds Try.pinned (OpenSpec.upto fnExactIsEvenSpec)

/-- 'laws.FnExactArrangeBy', WHERE WHAT IT READS IS OF BULK AT MOST 1048576: true; the input reads as it did. -/
def fnExactArrangeByUptoRow : OpenClaim := { program := "ytijlfgbinpjkiaa", sum := "18df0ed8b95d10f445ac578157010f539b6faf4f93e6f7936acb0613710e66f8", func := "loop.example/g00846/laws.FnExactArrangeBy", spec := "fnExactArrangeBy", apart := false, narrowed := true }
def FnExactArrangeByUptoSaid : Prop := fnExactArrangeByUptoRow.holds Try.pinned (OpenSpec.upto fnExactArrangeBySpec)

/-- 'laws.FnExactPermBetween', WHERE WHAT IT READS IS OF BULK AT MOST 1048576: true; the input reads as it did. -/
def fnExactPermBetweenUptoRow : OpenClaim := { program := "ytijlfgbinpjkiaa", sum := "18df0ed8b95d10f445ac578157010f539b6faf4f93e6f7936acb0613710e66f8", func := "loop.example/g00846/laws.FnExactPermBetween", spec := "fnExactPermBetween", apart := false, narrowed := true }
def FnExactPermBetweenUptoSaid : Prop := fnExactPermBetweenUptoRow.holds Try.pinned (OpenSpec.upto fnExactPermBetweenSpec)

end Rows
end Go.Proofs.Ytijlfgbinpjkiaa
