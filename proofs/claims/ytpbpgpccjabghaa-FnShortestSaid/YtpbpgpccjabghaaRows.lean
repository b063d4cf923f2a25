/-
  No cell of these rows narrows 'for every input' (looked for: loops, veiled, ifaces, maps, wideKeys, modest, calm, conditions, laid).
  DERIVED. THE GIVEN ROWS OF THIS SEAT. 9 by the template 'for every input the law returns true; each argument reads behind the call as it read before'; 0 by the template 'total and deterministic' (their statements: YtpbpgpccjabghaaTotals.lean).
  GIVEN WITH THE SEED: the statements are not yours to turn. If you find one false, say at which input.
  Laid BY PROGRAM, IN A SANDBOX (cutbox-rows.mjs): the forced cells as the released guide's own fill.sh prints them over the translation efb274a6406b7ed2… (all of the seat's roots in one cut). By AI agents, Wed Nov 11 2026. No macro, syntax, notation, axiom, sorry.
-/
import Derived.Test.YtpbpgpccjabghaaChecked
import GoSem.Claim
import GoSem.ClaimJoined
import GoSem.ClaimMapViews
import Derived.JoinedTies
import Derived.KernelRfl
namespace Go.Proofs.Ytpbpgpccjabghaa
/- THE CELL 'sum', in the pinned program and in every row, IS THE sha256 OF THE DUMP (.gsa) THAT YtpbpgpccjabghaaProg.lean LOADS. Nothing in Lean hashes anything: it is a label: what it is worth is what the hold of that sum in a sandbox is worth. -/
noncomputable def Try.pinned : Pinned := { name := "ytpbpgpccjabghaa", sum := "efb274a6406b7ed2c464e1528405ca77342ddaf02a4e21745ca78de29ee049ec", checked := Try.checked }
namespace Rows
def none {H : Type} : Left H := { results := [], args := [] }

/-- 'laws.FnFaros': WHATEVER THE INPUT: true; the input reads as it did. -/
def fnFarosSpec : ChangeSpec := { name := "fnFaros", fn := fun _ => fun
  | [d] => { results := [.lit (.bool true)], args := [d] }
  | _ => none }
def fnFarosRow : OpenClaim := { program := "ytpbpgpccjabghaa", sum := "efb274a6406b7ed2c464e1528405ca77342ddaf02a4e21745ca78de29ee049ec", func := "loop.example/g00846/laws.FnFaros", spec := "fnFaros", inPlace := ["slices.overlaps[int]"], unfollowed := true, recurses := true, plainKeys := false, apart := false }
def FnFarosSaid : Prop := fnFarosRow.holds Try.pinned (OpenSpec.ofChange fnFarosSpec)

/-- ITS FALSE NEIGHBOUR: 'it returns false'. Refute it at one input. -/
def fnFarosWrong : ChangeSpec := { name := "fnFaros", fn := fun _ => fun
  | [d] => { results := [.lit (.bool false)], args := [d] }
  | _ => none }
def FnFarosWrongFalsely : Prop := fnFarosRow.holds Try.pinned (OpenSpec.ofChange fnFarosWrong)

/-- 'laws.FnShortest': WHATEVER THE INPUT: true; the input reads as it did. -/
def fnShortestSpec : ChangeSpec := { name := "fnShortest", fn := fun _ => fun
  | [d] => { results := [.lit (.bool true)], args := [d] }
  | _ => none }
def fnShortestRow : OpenClaim := { program := "ytpbpgpccjabghaa", sum := "efb274a6406b7ed2c464e1528405ca77342ddaf02a4e21745ca78de29ee049ec", func := "loop.example/g00846/laws.FnShortest", spec := "fnShortest", inPlace := ["slices.overlaps[int]"], unfollowed := true, recurses := true, plainKeys := false, apart := false }
def FnShortestSaid : Prop := fnShortestRow.holds Try.pinned (OpenSpec.ofChange fnShortestSpec)

/-- ITS FALSE NEIGHBOUR: 'it returns false'. Refute it at one input. -/
def fnShortestWrong : ChangeSpec := { name := "fnShortest", fn := fun _ => fun
  | [d] => { results := [.lit (.bool false)], args := [d] }
  | _ => none }
def FnShortestWrongFalsely : Prop := fnShortestRow.holds Try.pinned (OpenSpec.ofChange fnShortestWrong)

/-- 'laws.FnExactFaroPerm': WHATEVER THE INPUT: true; the input reads as it did. -/
def fnExactFaroPermSpec : ChangeSpec := { name := "fnExactFaroPerm", fn := fun _ => fun
  | [d1, d2] => { results := [.lit (.bool true)], args := [d1, d2] }
  | _ => none }
def fnExactFaroPermRow : OpenClaim := { program := "ytpbpgpccjabghaa", sum := "efb274a6406b7ed2c464e1528405ca77342ddaf02a4e21745ca78de29ee049ec", func := "loop.example/g00846/laws.FnExactFaroPerm", spec := "fnExactFaroPerm", inPlace := ["slices.overlaps[int]"], unfollowed := true, recurses := true, plainKeys := false, apart := false }
def FnExactFaroPermSaid : Prop := fnExactFaroPermRow.holds Try.pinned (OpenSpec.ofChange fnExactFaroPermSpec)

/-- ITS FALSE NEIGHBOUR: 'it returns false'. Refute it at one input. -/
def fnExactFaroPermWrong : ChangeSpec := { name := "fnExactFaroPerm", fn := fun _ => fun
  | [d1, d2] => { results := [.lit (.bool false)], args := [d1, d2] }
  | _ => none }
def FnExactFaroPermWrongFalsely : Prop := fnExactFaroPermRow.holds Try.pinned (OpenSpec.ofChange fnExactFaroPermWrong)

/-- 'laws.FnExactFaroOrder': WHATEVER THE INPUT: true; the input reads as it did. -/
def fnExactFaroOrderSpec : ChangeSpec := { name := "fnExactFaroOrder", fn := fun _ => fun
  | [d1, d2] => { results := [.lit (.bool true)], args := [d1, d2] }
  | _ => none }
def fnExactFaroOrderRow : OpenClaim := { program := "ytpbpgpccjabghaa", sum := "efb274a6406b7ed2c464e1528405ca77342ddaf02a4e21745ca78de29ee049ec", func := "loop.example/g00846/laws.FnExactFaroOrder", spec := "fnExactFaroOrder", inPlace := ["slices.overlaps[int]"], unfollowed := true, recurses := true, plainKeys := false, apart := false }
def FnExactFaroOrderSaid : Prop := fnExactFaroOrderRow.holds Try.pinned (OpenSpec.ofChange fnExactFaroOrderSpec)

/-- ITS FALSE NEIGHBOUR: 'it returns false'. Refute it at one input. -/
def fnExactFaroOrderWrong : ChangeSpec := { name := "fnExactFaroOrder", fn := fun _ => fun
  | [d1, d2] => { results := [.lit (.bool false)], args := [d1, d2] }
  | _ => none }
def FnExactFaroOrderWrongFalsely : Prop := fnExactFaroOrderRow.holds Try.pinned (OpenSpec.ofChange fnExactFaroOrderWrong)

/-- 'laws.FnExactFaroTo': WHATEVER THE INPUT: true; the input reads as it did. -/
def fnExactFaroToSpec : ChangeSpec := { name := "fnExactFaroTo", fn := fun _ => fun
  | [d1, d2] => { results := [.lit (.bool true)], args := [d1, d2] }
  | _ => none }
def fnExactFaroToRow : OpenClaim := { program := "ytpbpgpccjabghaa", sum := "efb274a6406b7ed2c464e1528405ca77342ddaf02a4e21745ca78de29ee049ec", func := "loop.example/g00846/laws.FnExactFaroTo", spec := "fnExactFaroTo", plainKeys := false, apart := false }
def FnExactFaroToSaid : Prop := fnExactFaroToRow.holds Try.pinned (OpenSpec.ofChange fnExactFaroToSpec)

/-- ITS FALSE NEIGHBOUR: 'it returns false'. Refute it at one input. -/
def fnExactFaroToWrong : ChangeSpec := { name := "fnExactFaroTo", fn := fun _ => fun
  | [d1, d2] => { results := [.lit (.bool false)], args := [d1, d2] }
  | _ => none }
def FnExactFaroToWrongFalsely : Prop := fnExactFaroToRow.holds Try.pinned (OpenSpec.ofChange fnExactFaroToWrong)

/-- 'laws.FnExactFaroRun': WHATEVER THE INPUT: true; the input reads as it did. -/
def fnExactFaroRunSpec : ChangeSpec := { name := "fnExactFaroRun", fn := fun _ => fun
  | [d1, d2] => { results := [.lit (.bool true)], args := [d1, d2] }
  | _ => none }
def fnExactFaroRunRow : OpenClaim := { program := "ytpbpgpccjabghaa", sum := "efb274a6406b7ed2c464e1528405ca77342ddaf02a4e21745ca78de29ee049ec", func := "loop.example/g00846/laws.FnExactFaroRun", spec := "fnExactFaroRun", inPlace := ["slices.overlaps[int]"], unfollowed := true, recurses := true, plainKeys := false, apart := false }
def FnExactFaroRunSaid : Prop := fnExactFaroRunRow.holds Try.pinned (OpenSpec.ofChange fnExactFaroRunSpec)

/-- ITS FALSE NEIGHBOUR: 'it returns false'. Refute it at one input. -/
def fnExactFaroRunWrong : ChangeSpec := { name := "fnExactFaroRun", fn := fun _ => fun
  | [d1, d2] => { results := [.lit (.bool false)], args := [d1, d2] }
  | _ => none }
def FnExactFaroRunWrongFalsely : Prop := fnExactFaroRunRow.holds Try.pinned (OpenSpec.ofChange fnExactFaroRunWrong)

/-- 'laws.FnExactShortestFaro': WHATEVER THE INPUT: true; the input reads as it did. -/
def fnExactShortestFaroSpec : ChangeSpec := { name := "fnExactShortestFaro", fn := fun _ => fun
  | [d1, d2, d3] => { results := [.lit (.bool true)], args := [d1, d2, d3] }
  | _ => none }
def fnExactShortestFaroRow : OpenClaim := { program := "ytpbpgpccjabghaa", sum := "efb274a6406b7ed2c464e1528405ca77342ddaf02a4e21745ca78de29ee049ec", func := "loop.example/g00846/laws.FnExactShortestFaro", spec := "fnExactShortestFaro", inPlace := ["slices.overlaps[int]"], unfollowed := true, recurses := true, plainKeys := false, apart := false }
def FnExactShortestFaroSaid : Prop := fnExactShortestFaroRow.holds Try.pinned (OpenSpec.ofChange fnExactShortestFaroSpec)

/-- ITS FALSE NEIGHBOUR: 'it returns false'. Refute it at one input. -/
def fnExactShortestFaroWrong : ChangeSpec := { name := "fnExactShortestFaro", fn := fun _ => fun
  | [d1, d2, d3] => { results := [.lit (.bool false)], args := [d1, d2, d3] }
  | _ => none }
def FnExactShortestFaroWrongFalsely : Prop := fnExactShortestFaroRow.holds Try.pinned (OpenSpec.ofChange fnExactShortestFaroWrong)

/-- 'laws.FnExactFaroGroup': WHATEVER THE INPUT: true; the input reads as it did. -/
def fnExactFaroGroupSpec : ChangeSpec := { name := "fnExactFaroGroup", fn := fun _ => fun
  | [d] => { results := [.lit (.bool true)], args := [d] }
  | _ => none }
def fnExactFaroGroupRow : OpenClaim := { program := "ytpbpgpccjabghaa", sum := "efb274a6406b7ed2c464e1528405ca77342ddaf02a4e21745ca78de29ee049ec", func := "loop.example/g00846/laws.FnExactFaroGroup", spec := "fnExactFaroGroup", inPlace := ["slices.overlaps[int]"], unfollowed := true, recurses := true, plainKeys := false, apart := false }
def FnExactFaroGroupSaid : Prop := fnExactFaroGroupRow.holds Try.pinned (OpenSpec.ofChange fnExactFaroGroupSpec)

/-- ITS FALSE NEIGHBOUR: 'it returns false'. Refute it at one input. -/
def fnExactFaroGroupWrong : ChangeSpec := { name := "fnExactFaroGroup", fn := fun _ => fun
  | [d] => { results := [.lit (.bool false)], args := [d] }
  | _ => none }
def FnExactFaroGroupWrongFalsely : Prop := fnExactFaroGroupRow.holds Try.pinned (OpenSpec.ofChange fnExactFaroGroupWrong)

/-- 'laws.FnExactIsCentral': WHATEVER THE INPUT: true; the input reads as it did. -/
def fnExactIsCentralSpec : ChangeSpec := { name := "fnExactIsCentral", fn := fun _ => fun
  | [d] => { results := [.lit (.bool true)], args := [d] }
  | _ => none }
def fnExactIsCentralRow : OpenClaim := { program := "ytpbpgpccjabghaa", sum := "efb274a6406b7ed2c464e1528405ca77342ddaf02a4e21745ca78de29ee049ec", func := "loop.example/g00846/laws.FnExactIsCentral", spec := "fnExactIsCentral", plainKeys := false, apart := false }
def FnExactIsCentralSaid : Prop := fnExactIsCentralRow.holds Try.pinned (OpenSpec.ofChange fnExactIsCentralSpec)

/-- ITS FALSE NEIGHBOUR: 'it returns false'. Refute it at one input. -/
def fnExactIsCentralWrong : ChangeSpec := { name := "fnExactIsCentral", fn := fun _ => fun
  | [d] => { results := [.lit (.bool false)], args := [d] }
  | _ => none }
def FnExactIsCentralWrongFalsely : Prop := fnExactIsCentralRow.holds Try.pinned (OpenSpec.ofChange fnExactIsCentralWrong)

/- THE SECOND FORM. 'bulk': how many values and letters a reading holds, each counted each time it is reached (what is shared counts as often as it is met; a slice's spare places count too). A statement '..UptoSaid' is the law's where the arguments, and the package variables that the reading takes, are together of bulk at most 1048576: NARROWER than '..Said'. Prove '..Said' where nothing that the law and all that it calls make is longer than what came in: it says more and counts as full. Else prove '..UptoSaid'. A law counts once. -/
mutual
def uptoBulk {H : Type} : DataW H → Nat
  | .lit (.string bytes) => bytes.length + 1
  | .lit _ => 1
  | .nil => 1
  | .ptr d => uptoBulk d + 1
  | .slice elems spare => uptoBulkAll elems + uptoBulkAll spare + 1
  | .agg parts => uptoBulkAll parts + 1
  | .iface _ d => uptoBulk d + 1
  | .map entries => uptoBulkEntries entries + 1
  | .held _ => 1
def uptoBulkAll {H : Type} : List (DataW H) → Nat
  | [] => 0
  | d :: r => uptoBulk d + uptoBulkAll r
def uptoBulkEntries {H : Type} : List (Lit × DataW H) → Nat
  | [] => 0
  | x :: r => uptoBulkEntry x + uptoBulkEntries r
def uptoBulkEntry {H : Type} : Lit × DataW H → Nat
  | (.string bytes, d) => bytes.length + uptoBulk d + 1
  | (_, d) => uptoBulk d + 1
 end
def uptoSmall : (H : Type) → List (DataW H) → Bool := fun _ ds => decide (uptoBulkAll ds ≤ 1048576)
def OpenSpec.upto (s : _root_.Go.ChangeSpec) : _root_.Go.OpenSpec := { _root_.Go.OpenSpec.ofChange s with cond := some uptoSmall }

/-- 'laws.FnFaros', WHERE WHAT IT READS IS OF BULK AT MOST 1048576: true; the input reads as it did. -/
def fnFarosUptoRow : OpenClaim := { program := "ytpbpgpccjabghaa", sum := "efb274a6406b7ed2c464e1528405ca77342ddaf02a4e21745ca78de29ee049ec", func := "loop.example/g00846/laws.FnFaros", spec := "fnFaros", inPlace := ["slices.overlaps[int]"], unfollowed := true, recurses := true, plainKeys := false, apart := false, narrowed := true }
def FnFarosUptoSaid : Prop := fnFarosUptoRow.holds Try.pinned (OpenSpec.upto fnFarosSpec)

/-- 'laws.FnShortest', WHERE WHAT IT READS IS OF BULK AT MOST 1048576: true; the input reads as it did. -/
def fnShortestUptoRow : OpenClaim := { program := "ytpbpgpccjabghaa", sum := "efb274a6406b7ed2c464e1528405ca77342ddaf02a4e21745ca78de29ee049ec", func := "loop.example/g00846/laws.FnShortest", spec := "fnShortest", inPlace := ["slices.overlaps[int]"], unfollowed := true, recurses := true, plainKeys := false, apart := false, narrowed := true }
def FnShortestUptoSaid : Prop := fnShortestUptoRow.holds Try.pinned (OpenSpec.upto fnShortestSpec)

/-- 'laws.FnExactFaroPerm', WHERE WHAT IT READS IS OF BULK AT MOST 1048576: true; the input reads as it did. -/
def fnExactFaroPermUptoRow : OpenClaim := { program := "ytpbpgpccjabghaa", sum := "efb274a6406b7ed2c464e1528405ca77342ddaf02a4e21745ca78de29ee049ec", func := "loop.example/g00846/laws.FnExactFaroPerm", spec := "fnExactFaroPerm", inPlace := ["slices.overlaps[int]"], unfollowed := true, recurses := true, plainKeys := false, apart := false, narrowed := true }
def FnExactFaroPermUptoSaid : Prop := fnExactFaroPermUptoRow.holds Try.pinned (OpenSpec.upto fnExactFaroPermSpec)

/-- 'laws.FnExactFaroOrder', WHERE WHAT IT READS IS OF BULK AT MOST 1048576: true; the input reads as it did. -/
def fnExactFaroOrderUptoRow : OpenClaim := { program := "ytpbpgpccjabghaa", sum := "efb274a6406b7ed2c464e1528405ca77342ddaf02a4e21745ca78de29ee049ec", func := "loop.example/g00846/laws.FnExactFaroOrder", spec := "fnExactFaroOrder", inPlace := ["slices.overlaps[int]"], unfollowed := true, recurses := true, plainKeys := false, apart := false, narrowed := true }
def FnExactFaroOrderUptoSaid : Prop := fnExactFaroOrderUptoRow.holds Try.pinned (OpenSpec.upto fnExactFaroOrderSpec)

/-- 'laws.FnExactFaroTo', WHERE WHAT IT READS IS OF BULK AT MOST 1048576: true; the input reads as it did. -/
def fnExactFaroToUptoRow : OpenClaim := { program := "ytpbpgpccjabghaa", sum := "efb274a6406b7ed2c464e1528405ca77342ddaf02a4e21745ca78de29ee049ec", func := "loop.example/g00846/laws.FnExactFaroTo", spec := "fnExactFaroTo", plainKeys := false, apart := false, narrowed := true }
def FnExactFaroToUptoSaid : Prop := fnExactFaroToUptoRow.holds Try.pinned (OpenSpec.upto fnExactFaroToSpec)

/-- 'laws.FnExactFaroRun', WHERE WHAT IT READS IS OF BULK AT MOST 1048576: true; the input reads as it did. -/
def fnExactFaroRunUptoRow : OpenClaim := { program := "ytpbpgpccjabghaa", sum := "efb274a6406b7ed2c464e1528405ca77342ddaf02a4e21745ca78de29ee049ec", func := "loop.example/g00846/laws.FnExactFaroRun", spec := "fnExactFaroRun", inPlace := ["slices.overlaps[int]"], unfollowed := true, recurses := true, plainKeys := false, apart := false, narrowed := true }
def FnExactFaroRunUptoSaid : Prop := fnExactFaroRunUptoRow.holds Try.pinned (OpenSpec.upto fnExactFaroRunSpec)

/-- 'laws.FnExactShortestFaro', WHERE WHAT IT READS IS OF BULK AT MOST 1048576: true; the input reads as it did. -/
def fnExactShortestFaroUptoRow : OpenClaim := { program := "ytpbpgpccjabghaa", sum := "efb274a6406b7ed2c464e1528405ca77342ddaf02a4e21745ca78de29ee049ec", func := "loop.example/g00846/laws.FnExactShortestFaro", spec := "fnExactShortestFaro", inPlace := ["slices.overlaps[int]"], unfollowed := true, recurses := true, plainKeys := false, apart := false, narrowed := true }
def FnExactShortestFaroUptoSaid : Prop := fnExactShortestFaroUptoRow.holds Try.pinned (OpenSpec.upto fnExactShortestFaroSpec)

/-- 'laws.FnExactFaroGroup', WHERE WHAT IT READS IS OF BULK AT MOST 1048576: true; the input reads as it did. -/
def fnExactFaroGroupUptoRow : OpenClaim := { program := "ytpbpgpccjabghaa", sum := "efb274a6406b7ed2c464e1528405ca77342ddaf02a4e21745ca78de29ee049ec", func := "loop.example/g00846/laws.FnExactFaroGroup", spec := "fnExactFaroGroup", inPlace := ["slices.overlaps[int]"], unfollowed := true, recurses := true, plainKeys := false, apart := false, narrowed := true }
def FnExactFaroGroupUptoSaid : Prop := fnExactFaroGroupUptoRow.holds Try.pinned (OpenSpec.upto fnExactFaroGroupSpec)

/-- 'laws.FnExactIsCentral', WHERE WHAT IT READS IS OF BULK AT MOST 1048576: true; the input reads as it did. -/
def fnExactIsCentralUptoRow : OpenClaim := { program := "ytpbpgpccjabghaa", sum := "efb274a6406b7ed2c464e1528405ca77342ddaf02a4e21745ca78de29ee049ec", func := "loop.example/g00846/laws.FnExactIsCentral", spec := "fnExactIsCentral", plainKeys := false, apart := false, narrowed := true }
def FnExactIsCentralUptoSaid : Prop := fnExactIsCentralUptoRow.holds Try.pinned (OpenSpec.upto fnExactIsCentralSpec)

end Rows
end Go.Proofs.Ytpbpgpccjabghaa
