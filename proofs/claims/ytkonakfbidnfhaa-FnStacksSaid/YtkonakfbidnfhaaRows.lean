/-
  No cell of these rows narrows 'for every input' (looked for: loops, veiled, ifaces, maps, wideKeys, modest, calm, conditions, laid).
  DERIVED. THE GIVEN ROWS OF THIS SEAT. 9 by the template 'for every input the law returns true; each argument reads behind the call as it read before'; 0 by the template 'total and deterministic' (their statements: YtkonakfbidnfhaaTotals.lean).
  GIVEN WITH THE SEED: the statements are not yours to turn. If you find one false, say at which input.
  Laid BY PROGRAM, IN A SANDBOX (cutbox-rows.mjs): the forced cells as the released guide's own fill.sh prints them over the translation dc3c385165cd00f1… (all of the seat's roots in one cut). By AI agents, Wed Nov 11 2026. No macro, syntax, notation, axiom, sorry.
-/
import Derived.Test.YtkonakfbidnfhaaChecked
import GoSem.Claim
import GoSem.ClaimJoined
import GoSem.ClaimMapViews
import Derived.JoinedTies
import Derived.KernelRfl
namespace Go.Proofs.Ytkonakfbidnfhaa
/- THE CELL 'sum', in the pinned program and in every row, IS THE sha256 OF THE DUMP (.gsa) THAT YtkonakfbidnfhaaProg.lean LOADS. Nothing in Lean hashes anything: it is a label: what it is worth is what the hold of that sum in a sandbox is worth. -/
noncomputable def Try.pinned : Pinned := { name := "ytkonakfbidnfhaa", sum := "dc3c385165cd00f15bb51ebf1d97490f30e5f3d8aa3b61c7430060f272dda76a", checked := Try.checked }
namespace Rows
def none {H : Type} : Left H := { results := [], args := [] }

/-- 'laws.FnStacks': WHATEVER THE INPUT: true; the input reads as it did. -/
def fnStacksSpec : ChangeSpec := { name := "fnStacks", fn := fun _ => fun
  | [d] => { results := [.lit (.bool true)], args := [d] }
  | _ => none }
def fnStacksRow : OpenClaim := { program := "ytkonakfbidnfhaa", sum := "dc3c385165cd00f15bb51ebf1d97490f30e5f3d8aa3b61c7430060f272dda76a", func := "loop.example/g00846/laws.FnStacks", spec := "fnStacks", unfollowed := true, recurses := true, plainKeys := false, apart := false }
def FnStacksSaid : Prop := fnStacksRow.holds Try.pinned (OpenSpec.ofChange fnStacksSpec)

/-- ITS FALSE NEIGHBOUR: 'it returns false'. Refute it at one input. -/
def fnStacksWrong : ChangeSpec := { name := "fnStacks", fn := fun _ => fun
  | [d] => { results := [.lit (.bool false)], args := [d] }
  | _ => none }
def FnStacksWrongFalsely : Prop := fnStacksRow.holds Try.pinned (OpenSpec.ofChange fnStacksWrong)

/-- 'laws.FnRegisters': WHATEVER THE INPUT: true; the input reads as it did. -/
def fnRegistersSpec : ChangeSpec := { name := "fnRegisters", fn := fun _ => fun
  | [d] => { results := [.lit (.bool true)], args := [d] }
  | _ => none }
def fnRegistersRow : OpenClaim := { program := "ytkonakfbidnfhaa", sum := "dc3c385165cd00f15bb51ebf1d97490f30e5f3d8aa3b61c7430060f272dda76a", func := "loop.example/g00846/laws.FnRegisters", spec := "fnRegisters", unfollowed := true, recurses := true, plainKeys := false, apart := false }
def FnRegistersSaid : Prop := fnRegistersRow.holds Try.pinned (OpenSpec.ofChange fnRegistersSpec)

/-- ITS FALSE NEIGHBOUR: 'it returns false'. Refute it at one input. -/
def fnRegistersWrong : ChangeSpec := { name := "fnRegisters", fn := fun _ => fun
  | [d] => { results := [.lit (.bool false)], args := [d] }
  | _ => none }
def FnRegistersWrongFalsely : Prop := fnRegistersRow.holds Try.pinned (OpenSpec.ofChange fnRegistersWrong)

/-- 'laws.FnExactStackOk': WHATEVER THE INPUT: true; the input reads as it did. -/
def fnExactStackOkSpec : ChangeSpec := { name := "fnExactStackOk", fn := fun _ => fun
  | [d] => { results := [.lit (.bool true)], args := [d] }
  | _ => none }
def fnExactStackOkRow : OpenClaim := { program := "ytkonakfbidnfhaa", sum := "dc3c385165cd00f15bb51ebf1d97490f30e5f3d8aa3b61c7430060f272dda76a", func := "loop.example/g00846/laws.FnExactStackOk", spec := "fnExactStackOk", unfollowed := true, recurses := true, plainKeys := false, apart := false }
def FnExactStackOkSaid : Prop := fnExactStackOkRow.holds Try.pinned (OpenSpec.ofChange fnExactStackOkSpec)

/-- ITS FALSE NEIGHBOUR: 'it returns false'. Refute it at one input. -/
def fnExactStackOkWrong : ChangeSpec := { name := "fnExactStackOk", fn := fun _ => fun
  | [d] => { results := [.lit (.bool false)], args := [d] }
  | _ => none }
def FnExactStackOkWrongFalsely : Prop := fnExactStackOkRow.holds Try.pinned (OpenSpec.ofChange fnExactStackOkWrong)

/-- 'laws.FnExactWindowAt': WHATEVER THE INPUT: true; the input reads as it did. -/
def fnExactWindowAtSpec : ChangeSpec := { name := "fnExactWindowAt", fn := fun _ => fun
  | [d1, d2] => { results := [.lit (.bool true)], args := [d1, d2] }
  | _ => none }
def fnExactWindowAtRow : OpenClaim := { program := "ytkonakfbidnfhaa", sum := "dc3c385165cd00f15bb51ebf1d97490f30e5f3d8aa3b61c7430060f272dda76a", func := "loop.example/g00846/laws.FnExactWindowAt", spec := "fnExactWindowAt", unfollowed := true, recurses := true, plainKeys := false, apart := false }
def FnExactWindowAtSaid : Prop := fnExactWindowAtRow.holds Try.pinned (OpenSpec.ofChange fnExactWindowAtSpec)

/-- ITS FALSE NEIGHBOUR: 'it returns false'. Refute it at one input. -/
def fnExactWindowAtWrong : ChangeSpec := { name := "fnExactWindowAt", fn := fun _ => fun
  | [d1, d2] => { results := [.lit (.bool false)], args := [d1, d2] }
  | _ => none }
def FnExactWindowAtWrongFalsely : Prop := fnExactWindowAtRow.holds Try.pinned (OpenSpec.ofChange fnExactWindowAtWrong)

/-- 'laws.FnExactFindWindow': WHATEVER THE INPUT: true; the input reads as it did. -/
def fnExactFindWindowSpec : ChangeSpec := { name := "fnExactFindWindow", fn := fun _ => fun
  | [d1, d2] => { results := [.lit (.bool true)], args := [d1, d2] }
  | _ => none }
def fnExactFindWindowRow : OpenClaim := { program := "ytkonakfbidnfhaa", sum := "dc3c385165cd00f15bb51ebf1d97490f30e5f3d8aa3b61c7430060f272dda76a", func := "loop.example/g00846/laws.FnExactFindWindow", spec := "fnExactFindWindow", unfollowed := true, recurses := true, plainKeys := false, apart := false }
def FnExactFindWindowSaid : Prop := fnExactFindWindowRow.holds Try.pinned (OpenSpec.ofChange fnExactFindWindowSpec)

/-- ITS FALSE NEIGHBOUR: 'it returns false'. Refute it at one input. -/
def fnExactFindWindowWrong : ChangeSpec := { name := "fnExactFindWindow", fn := fun _ => fun
  | [d1, d2] => { results := [.lit (.bool false)], args := [d1, d2] }
  | _ => none }
def FnExactFindWindowWrongFalsely : Prop := fnExactFindWindowRow.holds Try.pinned (OpenSpec.ofChange fnExactFindWindowWrong)

/-- 'laws.FnExactDeBruijn': WHATEVER THE INPUT: true; the input reads as it did. -/
def fnExactDeBruijnSpec : ChangeSpec := { name := "fnExactDeBruijn", fn := fun _ => fun
  | [d] => { results := [.lit (.bool true)], args := [d] }
  | _ => none }
def fnExactDeBruijnRow : OpenClaim := { program := "ytkonakfbidnfhaa", sum := "dc3c385165cd00f15bb51ebf1d97490f30e5f3d8aa3b61c7430060f272dda76a", func := "loop.example/g00846/laws.FnExactDeBruijn", spec := "fnExactDeBruijn", unfollowed := true, recurses := true, plainKeys := false, apart := false }
def FnExactDeBruijnSaid : Prop := fnExactDeBruijnRow.holds Try.pinned (OpenSpec.ofChange fnExactDeBruijnSpec)

/-- ITS FALSE NEIGHBOUR: 'it returns false'. Refute it at one input. -/
def fnExactDeBruijnWrong : ChangeSpec := { name := "fnExactDeBruijn", fn := fun _ => fun
  | [d] => { results := [.lit (.bool false)], args := [d] }
  | _ => none }
def FnExactDeBruijnWrongFalsely : Prop := fnExactDeBruijnRow.holds Try.pinned (OpenSpec.ofChange fnExactDeBruijnWrong)

/-- 'laws.FnExactShiftStack': WHATEVER THE INPUT: true; the input reads as it did. -/
def fnExactShiftStackSpec : ChangeSpec := { name := "fnExactShiftStack", fn := fun _ => fun
  | [d1, d2] => { results := [.lit (.bool true)], args := [d1, d2] }
  | _ => none }
def fnExactShiftStackRow : OpenClaim := { program := "ytkonakfbidnfhaa", sum := "dc3c385165cd00f15bb51ebf1d97490f30e5f3d8aa3b61c7430060f272dda76a", func := "loop.example/g00846/laws.FnExactShiftStack", spec := "fnExactShiftStack", unfollowed := true, recurses := true, plainKeys := false, apart := false }
def FnExactShiftStackSaid : Prop := fnExactShiftStackRow.holds Try.pinned (OpenSpec.ofChange fnExactShiftStackSpec)

/-- ITS FALSE NEIGHBOUR: 'it returns false'. Refute it at one input. -/
def fnExactShiftStackWrong : ChangeSpec := { name := "fnExactShiftStack", fn := fun _ => fun
  | [d1, d2] => { results := [.lit (.bool false)], args := [d1, d2] }
  | _ => none }
def FnExactShiftStackWrongFalsely : Prop := fnExactShiftStackRow.holds Try.pinned (OpenSpec.ofChange fnExactShiftStackWrong)

/-- 'laws.FnExactIsMaximal': WHATEVER THE INPUT: true; the input reads as it did. -/
def fnExactIsMaximalSpec : ChangeSpec := { name := "fnExactIsMaximal", fn := fun _ => fun
  | [d1, d2] => { results := [.lit (.bool true)], args := [d1, d2] }
  | _ => none }
def fnExactIsMaximalRow : OpenClaim := { program := "ytkonakfbidnfhaa", sum := "dc3c385165cd00f15bb51ebf1d97490f30e5f3d8aa3b61c7430060f272dda76a", func := "loop.example/g00846/laws.FnExactIsMaximal", spec := "fnExactIsMaximal", unfollowed := true, recurses := true, plainKeys := false, apart := false }
def FnExactIsMaximalSaid : Prop := fnExactIsMaximalRow.holds Try.pinned (OpenSpec.ofChange fnExactIsMaximalSpec)

/-- ITS FALSE NEIGHBOUR: 'it returns false'. Refute it at one input. -/
def fnExactIsMaximalWrong : ChangeSpec := { name := "fnExactIsMaximal", fn := fun _ => fun
  | [d1, d2] => { results := [.lit (.bool false)], args := [d1, d2] }
  | _ => none }
def FnExactIsMaximalWrongFalsely : Prop := fnExactIsMaximalRow.holds Try.pinned (OpenSpec.ofChange fnExactIsMaximalWrong)

/-- 'laws.FnExactCutStack': WHATEVER THE INPUT: true; the input reads as it did. -/
def fnExactCutStackSpec : ChangeSpec := { name := "fnExactCutStack", fn := fun _ => fun
  | [d1, d2] => { results := [.lit (.bool true)], args := [d1, d2] }
  | _ => none }
def fnExactCutStackRow : OpenClaim := { program := "ytkonakfbidnfhaa", sum := "dc3c385165cd00f15bb51ebf1d97490f30e5f3d8aa3b61c7430060f272dda76a", func := "loop.example/g00846/laws.FnExactCutStack", spec := "fnExactCutStack", unfollowed := true, recurses := true, plainKeys := false, apart := false }
def FnExactCutStackSaid : Prop := fnExactCutStackRow.holds Try.pinned (OpenSpec.ofChange fnExactCutStackSpec)

/-- ITS FALSE NEIGHBOUR: 'it returns false'. Refute it at one input. -/
def fnExactCutStackWrong : ChangeSpec := { name := "fnExactCutStack", fn := fun _ => fun
  | [d1, d2] => { results := [.lit (.bool false)], args := [d1, d2] }
  | _ => none }
def FnExactCutStackWrongFalsely : Prop := fnExactCutStackRow.holds Try.pinned (OpenSpec.ofChange fnExactCutStackWrong)

/- THE SECOND FORM. 'bulk': how many values and letters a reading holds, each counted each time it is reached (what is shared counts as often as it is met; a slice's spare places count too). A statement '..UptoSaid' is the law's where the arguments, and the package variables that the reading takes, are together of bulk at most 1048576: NARROWER than '..Said'. Prove '..Said' where nothing that the law and all that it calls make is longer than what came in: it says more and counts as full. Else prove '..UptoSaid'. A law counts once. -/
mutual
def uptoBulk {H : Type} : DataW H → Nat
  | .lit (.string bytes) => bytes.length + 1
  | .lit _ => 1
  | .nil => 1
  | .ptr d => uptoBulk d + 1
  | .slice elems spare => uptoBulkAll elems + uptoBulkAll spare + 1
  | .agg parts => uptoBulkAll parts + 1
  | .iface _ d => uptoBulk d + 1
  | .map entries => uptoBulkEntries entries + 1
  | .held _ => 1
def uptoBulkAll {H : Type} : List (DataW H) → Nat
  | [] => 0
  | d :: r => uptoBulk d + uptoBulkAll r
def uptoBulkEntries {H : Type} : List (Lit × DataW H) → Nat
  | [] => 0
  | x :: r => uptoBulkEntry x + uptoBulkEntries r
def uptoBulkEntry {H : Type} : Lit × DataW H → Nat
  | (.string bytes, d) => bytes.length + uptoBulk d + 1
  | (_, d) => uptoBulk d + 1
 end
def uptoSmall : (H : Type) → List (DataW H) → Bool := fun _ ds => decide (uptoBulkAll ds ≤ 1048576)
def OpenSpec.upto (s : _root_.Go.ChangeSpec) : _root_.Go.OpenSpec := { _root_.Go.OpenSpec.ofChange s with cond := some uptoSmall }

/-- 'laws.FnStacks', WHERE WHAT IT READS IS OF BULK AT MOST 1048576: true; the input reads as it did. -/
def fnStacksUptoRow : OpenClaim := { program := "ytkonakfbidnfhaa", sum := "dc3c385165cd00f15bb51ebf1d97490f30e5f3d8aa3b61c7430060f272dda76a", func := "loop.example/g00846/laws.FnStacks", spec := "fnStacks", unfollowed := true, recurses := true, plainKeys := false, apart := false, narrowed := true }
def FnStacksUptoSaid : Prop := fnStacksUptoRow.holds Try.pinned (OpenSpec.upto fnStacksSpec)

/-- 'laws.FnRegisters', WHERE WHAT IT READS IS OF BULK AT MOST 1048576: true; the input reads as it did. -/
def fnRegistersUptoRow : OpenClaim := { program := "ytkonakfbidnfhaa", sum := "dc3c385165cd00f15bb51ebf1d97490f30e5f3d8aa3b61c7430060f272dda76a", func := "loop.example/g00846/laws.FnRegisters", spec := "fnRegisters", unfollowed := true, recurses := true, plainKeys := false, apart := false, narrowed := true }
def FnRegistersUptoSaid : Prop := fnRegistersUptoRow.holds Try.pinned (OpenSpec.upto fnRegistersSpec)

/-- 'laws.FnExactStackOk', WHERE WHAT IT READS IS OF BULK AT MOST 1048576: true; the input reads as it did. -/
def fnExactStackOkUptoRow : OpenClaim := { program := "ytkonakfbidnfhaa", sum := "dc3c385165cd00f15bb51ebf1d97490f30e5f3d8aa3b61c7430060f272dda76a", func := "loop.example/g00846/laws.FnExactStackOk", spec := "fnExactStackOk", unfollowed := true, recurses := true, plainKeys := false, apart := false, narrowed := true }
def FnExactStackOkUptoSaid : Prop := fnExactStackOkUptoRow.holds Try.pinned (OpenSpec.upto fnExactStackOkSpec)

/-- 'laws.FnExactWindowAt', WHERE WHAT IT READS IS OF BULK AT MOST 1048576: true; the input reads as it did. -/
def fnExactWindowAtUptoRow : OpenClaim := { program := "ytkonakfbidnfhaa", sum := "dc3c385165cd00f15bb51ebf1d97490f30e5f3d8aa3b61c7430060f272dda76a", func := "loop.example/g00846/laws.FnExactWindowAt", spec := "fnExactWindowAt", unfollowed := true, recurses := true, plainKeys := false, apart := false, narrowed := true }
def FnExactWindowAtUptoSaid : Prop := fnExactWindowAtUptoRow.holds Try.pinned (OpenSpec.upto fnExactWindowAtSpec)

/-- 'laws.FnExactFindWindow', WHERE WHAT IT READS IS OF BULK AT MOST 1048576: true; the input reads as it did. -/
def fnExactFindWindowUptoRow : OpenClaim := { program := "ytkonakfbidnfhaa", sum := "dc3c385165cd00f15bb51ebf1d97490f30e5f3d8aa3b61c7430060f272dda76a", func := "loop.example/g00846/laws.FnExactFindWindow", spec := "fnExactFindWindow", unfollowed := true, recurses := true, plainKeys := false, apart := false, narrowed := true }
def FnExactFindWindowUptoSaid : Prop := fnExactFindWindowUptoRow.holds Try.pinned (OpenSpec.upto fnExactFindWindowSpec)

/-- 'laws.FnExactDeBruijn', WHERE WHAT IT READS IS OF BULK AT MOST 1048576: true; the input reads as it did. -/
def fnExactDeBruijnUptoRow : OpenClaim := { program := "ytkonakfbidnfhaa", sum := "dc3c385165cd00f15bb51ebf1d97490f30e5f3d8aa3b61c7430060f272dda76a", func := "loop.example/g00846/laws.FnExactDeBruijn", spec := "fnExactDeBruijn", unfollowed := true, recurses := true, plainKeys := false, apart := false, narrowed := true }
def FnExactDeBruijnUptoSaid : Prop := fnExactDeBruijnUptoRow.holds Try.pinned (OpenSpec.upto fnExactDeBruijnSpec)

/-- 'laws.FnExactShiftStack', WHERE WHAT IT READS IS OF BULK AT MOST 1048576: true; the input reads as it did. -/
def fnExactShiftStackUptoRow : OpenClaim := { program := "ytkonakfbidnfhaa", sum := "dc3c385165cd00f15bb51ebf1d97490f30e5f3d8aa3b61c7430060f272dda76a", func := "loop.example/g00846/laws.FnExactShiftStack", spec := "fnExactShiftStack", unfollowed := true, recurses := true, plainKeys := false, apart := false, narrowed := true }
def FnExactShiftStackUptoSaid : Prop := fnExactShiftStackUptoRow.holds Try.pinned (OpenSpec.upto fnExactShiftStackSpec)

/-- 'laws.FnExactIsMaximal', WHERE WHAT IT READS IS OF BULK AT MOST 1048576: true; the input reads as it did. -/
def fnExactIsMaximalUptoRow : OpenClaim := { program := "ytkonakfbidnfhaa", sum := "dc3c385165cd00f15bb51ebf1d97490f30e5f3d8aa3b61c7430060f272dda76a", func := "loop.example/g00846/laws.FnExactIsMaximal", spec := "fnExactIsMaximal", unfollowed := true, recurses := true, plainKeys := false, apart := false, narrowed := true }
def FnExactIsMaximalUptoSaid : Prop := fnExactIsMaximalUptoRow.holds Try.pinned (OpenSpec.upto fnExactIsMaximalSpec)

/-- 'laws.FnExactCutStack', WHERE WHAT IT READS IS OF BULK AT MOST 1048576: true; the input reads as it did. -/
def fnExactCutStackUptoRow : OpenClaim := { program := "ytkonakfbidnfhaa", sum := "dc3c385165cd00f15bb51ebf1d97490f30e5f3d8aa3b61c7430060f272dda76a", func := "loop.example/g00846/laws.FnExactCutStack", spec := "fnExactCutStack", unfollowed := true, recurses := true, plainKeys := false, apart := false, narrowed := true }
def FnExactCutStackUptoSaid : Prop := fnExactCutStackUptoRow.holds Try.pinned (OpenSpec.upto fnExactCutStackSpec)

end Rows
end Go.Proofs.Ytkonakfbidnfhaa
