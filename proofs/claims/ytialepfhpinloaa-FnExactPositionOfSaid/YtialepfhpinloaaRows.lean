/-
  No cell of these rows narrows 'for every input' (looked for: loops, veiled, ifaces, maps, wideKeys, modest, calm, conditions, laid).
  DERIVED. THE GIVEN ROWS OF THIS SEAT. 9 by the template 'for every input the law returns true; each argument reads behind the call as it read before'; 0 by the template 'total and deterministic' (their statements: YtialepfhpinloaaTotals.lean).
  GIVEN WITH THE SEED: the statements are not yours to turn. If you find one false, say at which input.
  Laid BY PROGRAM, IN A SANDBOX (cutbox-rows.mjs): the forced cells as the released guide's own fill.sh prints them over the translation 81fd340b32b87fe1… (all of the seat's roots in one cut). By AI agents, Wed Nov 11 2026. No macro, syntax, notation, axiom, sorry.
-/
import Derived.Test.YtialepfhpinloaaChecked
import GoSem.Claim
import GoSem.ClaimJoined
import GoSem.ClaimMapViews
import Derived.JoinedTies
import Derived.KernelRfl
namespace Go.Proofs.Ytialepfhpinloaa
/- THE CELL 'sum', in the pinned program and in every row, IS THE sha256 OF THE DUMP (.gsa) THAT YtialepfhpinloaaProg.lean LOADS. Nothing in Lean hashes anything: it is a label: what it is worth is what the hold of that sum in a sandbox is worth. -/
noncomputable def Try.pinned : Pinned := { name := "ytialepfhpinloaa", sum := "81fd340b32b87fe1f48f7a4fbc0bf662298c4c4951b470c1ea10bab028b77190", checked := Try.checked }
namespace Rows
def none {H : Type} : Left H := { results := [], args := [] }

/-- 'laws.FnExactCardOf': WHATEVER THE INPUT: true; the input reads as it did. -/
def fnExactCardOfSpec : ChangeSpec := { name := "fnExactCardOf", fn := fun _ => fun
  | [d] => { results := [.lit (.bool true)], args := [d] }
  | _ => none }
def fnExactCardOfRow : OpenClaim := { program := "ytialepfhpinloaa", sum := "81fd340b32b87fe1f48f7a4fbc0bf662298c4c4951b470c1ea10bab028b77190", func := "loop.example/g00846/laws.FnExactCardOf", spec := "fnExactCardOf", apart := false }
def FnExactCardOfSaid : Prop := fnExactCardOfRow.holds Try.pinned (OpenSpec.ofChange fnExactCardOfSpec)

/-- ITS FALSE NEIGHBOUR: 'it returns false'. Refute it at one input. -/
def fnExactCardOfWrong : ChangeSpec := { name := "fnExactCardOf", fn := fun _ => fun
  | [d] => { results := [.lit (.bool false)], args := [d] }
  | _ => none }
def FnExactCardOfWrongFalsely : Prop := fnExactCardOfRow.holds Try.pinned (OpenSpec.ofChange fnExactCardOfWrong)

/-- 'laws.FnExactIsUp': WHATEVER THE INPUT: true; the input reads as it did. -/
def fnExactIsUpSpec : ChangeSpec := { name := "fnExactIsUp", fn := fun _ => fun
  | [d] => { results := [.lit (.bool true)], args := [d] }
  | _ => none }
def fnExactIsUpRow : OpenClaim := { program := "ytialepfhpinloaa", sum := "81fd340b32b87fe1f48f7a4fbc0bf662298c4c4951b470c1ea10bab028b77190", func := "loop.example/g00846/laws.FnExactIsUp", spec := "fnExactIsUp", apart := false }
def FnExactIsUpSaid : Prop := fnExactIsUpRow.holds Try.pinned (OpenSpec.ofChange fnExactIsUpSpec)

/-- ITS FALSE NEIGHBOUR: 'it returns false'. Refute it at one input. -/
def fnExactIsUpWrong : ChangeSpec := { name := "fnExactIsUp", fn := fun _ => fun
  | [d] => { results := [.lit (.bool false)], args := [d] }
  | _ => none }
def FnExactIsUpWrongFalsely : Prop := fnExactIsUpRow.holds Try.pinned (OpenSpec.ofChange fnExactIsUpWrong)

/-- 'laws.FnExactTurnCard': WHATEVER THE INPUT: true; the input reads as it did. -/
def fnExactTurnCardSpec : ChangeSpec := { name := "fnExactTurnCard", fn := fun _ => fun
  | [d] => { results := [.lit (.bool true)], args := [d] }
  | _ => none }
def fnExactTurnCardRow : OpenClaim := { program := "ytialepfhpinloaa", sum := "81fd340b32b87fe1f48f7a4fbc0bf662298c4c4951b470c1ea10bab028b77190", func := "loop.example/g00846/laws.FnExactTurnCard", spec := "fnExactTurnCard", apart := false }
def FnExactTurnCardSaid : Prop := fnExactTurnCardRow.holds Try.pinned (OpenSpec.ofChange fnExactTurnCardSpec)

/-- ITS FALSE NEIGHBOUR: 'it returns false'. Refute it at one input. -/
def fnExactTurnCardWrong : ChangeSpec := { name := "fnExactTurnCard", fn := fun _ => fun
  | [d] => { results := [.lit (.bool false)], args := [d] }
  | _ => none }
def FnExactTurnCardWrongFalsely : Prop := fnExactTurnCardRow.holds Try.pinned (OpenSpec.ofChange fnExactTurnCardWrong)

/-- 'laws.FnExactPacketOk': WHATEVER THE INPUT: true; the input reads as it did. -/
def fnExactPacketOkSpec : ChangeSpec := { name := "fnExactPacketOk", fn := fun _ => fun
  | [d] => { results := [.lit (.bool true)], args := [d] }
  | _ => none }
def fnExactPacketOkRow : OpenClaim := { program := "ytialepfhpinloaa", sum := "81fd340b32b87fe1f48f7a4fbc0bf662298c4c4951b470c1ea10bab028b77190", func := "loop.example/g00846/laws.FnExactPacketOk", spec := "fnExactPacketOk", apart := false }
def FnExactPacketOkSaid : Prop := fnExactPacketOkRow.holds Try.pinned (OpenSpec.ofChange fnExactPacketOkSpec)

/-- ITS FALSE NEIGHBOUR: 'it returns false'. Refute it at one input. -/
def fnExactPacketOkWrong : ChangeSpec := { name := "fnExactPacketOk", fn := fun _ => fun
  | [d] => { results := [.lit (.bool false)], args := [d] }
  | _ => none }
def FnExactPacketOkWrongFalsely : Prop := fnExactPacketOkRow.holds Try.pinned (OpenSpec.ofChange fnExactPacketOkWrong)

/-- 'laws.FnExactCountUp': WHATEVER THE INPUT: true; the input reads as it did. -/
def fnExactCountUpSpec : ChangeSpec := { name := "fnExactCountUp", fn := fun _ => fun
  | [d] => { results := [.lit (.bool true)], args := [d] }
  | _ => none }
def fnExactCountUpRow : OpenClaim := { program := "ytialepfhpinloaa", sum := "81fd340b32b87fe1f48f7a4fbc0bf662298c4c4951b470c1ea10bab028b77190", func := "loop.example/g00846/laws.FnExactCountUp", spec := "fnExactCountUp", apart := false }
def FnExactCountUpSaid : Prop := fnExactCountUpRow.holds Try.pinned (OpenSpec.ofChange fnExactCountUpSpec)

/-- ITS FALSE NEIGHBOUR: 'it returns false'. Refute it at one input. -/
def fnExactCountUpWrong : ChangeSpec := { name := "fnExactCountUp", fn := fun _ => fun
  | [d] => { results := [.lit (.bool false)], args := [d] }
  | _ => none }
def FnExactCountUpWrongFalsely : Prop := fnExactCountUpRow.holds Try.pinned (OpenSpec.ofChange fnExactCountUpWrong)

/-- 'laws.FnExactPositionOf': WHATEVER THE INPUT: true; the input reads as it did. -/
def fnExactPositionOfSpec : ChangeSpec := { name := "fnExactPositionOf", fn := fun _ => fun
  | [d1, d2] => { results := [.lit (.bool true)], args := [d1, d2] }
  | _ => none }
def fnExactPositionOfRow : OpenClaim := { program := "ytialepfhpinloaa", sum := "81fd340b32b87fe1f48f7a4fbc0bf662298c4c4951b470c1ea10bab028b77190", func := "loop.example/g00846/laws.FnExactPositionOf", spec := "fnExactPositionOf", apart := false }
def FnExactPositionOfSaid : Prop := fnExactPositionOfRow.holds Try.pinned (OpenSpec.ofChange fnExactPositionOfSpec)

/-- ITS FALSE NEIGHBOUR: 'it returns false'. Refute it at one input. -/
def fnExactPositionOfWrong : ChangeSpec := { name := "fnExactPositionOf", fn := fun _ => fun
  | [d1, d2] => { results := [.lit (.bool false)], args := [d1, d2] }
  | _ => none }
def FnExactPositionOfWrongFalsely : Prop := fnExactPositionOfRow.holds Try.pinned (OpenSpec.ofChange fnExactPositionOfWrong)

/-- 'laws.FnExactNewPacket': WHATEVER THE INPUT: true; the input reads as it did. -/
def fnExactNewPacketSpec : ChangeSpec := { name := "fnExactNewPacket", fn := fun _ => fun
  | [d] => { results := [.lit (.bool true)], args := [d] }
  | _ => none }
def fnExactNewPacketRow : OpenClaim := { program := "ytialepfhpinloaa", sum := "81fd340b32b87fe1f48f7a4fbc0bf662298c4c4951b470c1ea10bab028b77190", func := "loop.example/g00846/laws.FnExactNewPacket", spec := "fnExactNewPacket", apart := false }
def FnExactNewPacketSaid : Prop := fnExactNewPacketRow.holds Try.pinned (OpenSpec.ofChange fnExactNewPacketSpec)

/-- ITS FALSE NEIGHBOUR: 'it returns false'. Refute it at one input. -/
def fnExactNewPacketWrong : ChangeSpec := { name := "fnExactNewPacket", fn := fun _ => fun
  | [d] => { results := [.lit (.bool false)], args := [d] }
  | _ => none }
def FnExactNewPacketWrongFalsely : Prop := fnExactNewPacketRow.holds Try.pinned (OpenSpec.ofChange fnExactNewPacketWrong)

/-- 'laws.FnExactIsArrangement': WHATEVER THE INPUT: true; the input reads as it did. -/
def fnExactIsArrangementSpec : ChangeSpec := { name := "fnExactIsArrangement", fn := fun _ => fun
  | [d1, d2] => { results := [.lit (.bool true)], args := [d1, d2] }
  | _ => none }
def fnExactIsArrangementRow : OpenClaim := { program := "ytialepfhpinloaa", sum := "81fd340b32b87fe1f48f7a4fbc0bf662298c4c4951b470c1ea10bab028b77190", func := "loop.example/g00846/laws.FnExactIsArrangement", spec := "fnExactIsArrangement", apart := false }
def FnExactIsArrangementSaid : Prop := fnExactIsArrangementRow.holds Try.pinned (OpenSpec.ofChange fnExactIsArrangementSpec)

/-- ITS FALSE NEIGHBOUR: 'it returns false'. Refute it at one input. -/
def fnExactIsArrangementWrong : ChangeSpec := { name := "fnExactIsArrangement", fn := fun _ => fun
  | [d1, d2] => { results := [.lit (.bool false)], args := [d1, d2] }
  | _ => none }
def FnExactIsArrangementWrongFalsely : Prop := fnExactIsArrangementRow.holds Try.pinned (OpenSpec.ofChange fnExactIsArrangementWrong)

/-- 'laws.FnExactSamePacket': WHATEVER THE INPUT: true; the input reads as it did. -/
def fnExactSamePacketSpec : ChangeSpec := { name := "fnExactSamePacket", fn := fun _ => fun
  | [d1, d2] => { results := [.lit (.bool true)], args := [d1, d2] }
  | _ => none }
def fnExactSamePacketRow : OpenClaim := { program := "ytialepfhpinloaa", sum := "81fd340b32b87fe1f48f7a4fbc0bf662298c4c4951b470c1ea10bab028b77190", func := "loop.example/g00846/laws.FnExactSamePacket", spec := "fnExactSamePacket", apart := false }
def FnExactSamePacketSaid : Prop := fnExactSamePacketRow.holds Try.pinned (OpenSpec.ofChange fnExactSamePacketSpec)

/-- ITS FALSE NEIGHBOUR: 'it returns false'. Refute it at one input. -/
def fnExactSamePacketWrong : ChangeSpec := { name := "fnExactSamePacket", fn := fun _ => fun
  | [d1, d2] => { results := [.lit (.bool false)], args := [d1, d2] }
  | _ => none }
def FnExactSamePacketWrongFalsely : Prop := fnExactSamePacketRow.holds Try.pinned (OpenSpec.ofChange fnExactSamePacketWrong)

/- THE SECOND FORM. 'bulk': how many values and letters a reading holds, each counted each time it is reached (what is shared counts as often as it is met; a slice's spare places count too). A statement '..UptoSaid' is the law's where the arguments, and the package variables that the reading takes, are together of bulk at most 1048576: NARROWER than '..Said'. Prove '..Said' where nothing that the law and all that it calls make is longer than what came in: it says more and counts as full. Else prove '..UptoSaid'. A law counts once. -/
mutual
def uptoBulk {H : Type} : DataW H → Nat
  | .lit (.string bytes) => bytes.length + 1
  | .lit _ => 1
  | .nil => 1
  | .ptr d => uptoBulk d + 1
  | .slice elems spare => uptoBulkAll elems + uptoBulkAll spare + 1
  | .agg parts => uptoBulkAll parts + 1
  | .iface _ d => uptoBulk d + 1
  | .map entries => uptoBulkEntries entries + 1
  | .held _ => 1
def uptoBulkAll {H : Type} : List (DataW H) → Nat
  | [] => 0
  | d :: r => uptoBulk d + uptoBulkAll r
def uptoBulkEntries {H : Type} : List (Lit × DataW H) → Nat
  | [] => 0
  | x :: r => uptoBulkEntry x + uptoBulkEntries r
def uptoBulkEntry {H : Type} : Lit × DataW H → Nat
  | (.string bytes, d) => bytes.length + uptoBulk d + 1
  | (_, d) => uptoBulk d + 1
 end
def uptoSmall : (H : Type) → List (DataW H) → Bool := fun _ ds => decide (uptoBulkAll ds ≤ 1048576)
def OpenSpec.upto (s : _root_.Go.ChangeSpec) : _root_.Go.OpenSpec := { _root_.Go.OpenSpec.ofChange s with cond := some uptoSmall }

/-- 'laws.FnExactCardOf', WHERE WHAT IT READS IS OF BULK AT MOST 1048576: true; the input reads as it did. -/
def fnExactCardOfUptoRow : OpenClaim := { program := "ytialepfhpinloaa", sum := "81fd340b32b87fe1f48f7a4fbc0bf662298c4c4951b470c1ea10bab028b77190", func := "loop.example/g00846/laws.FnExactCardOf", spec := "fnExactCardOf", apart := false, narrowed := true }
def FnExactCardOfUptoSaid : Prop := fnExactCardOfUptoRow.holds Try.pinned (OpenSpec.upto fnExactCardOfSpec)

/-- 'laws.FnExactIsUp', WHERE WHAT IT READS IS OF BULK AT MOST 1048576: true; the input reads as it did. -/
def fnExactIsUpUptoRow : OpenClaim := { program := "ytialepfhpinloaa", sum := "81fd340b32b87fe1f48f7a4fbc0bf662298c4c4951b470c1ea10bab028b77190", func := "loop.example/g00846/laws.FnExactIsUp", spec := "fnExactIsUp", apart := false, narrowed := true }
def FnExactIsUpUptoSaid : Prop := fnExactIsUpUptoRow.holds Try.pinned (OpenSpec.upto fnExactIsUpSpec)

/-- 'laws.FnExactTurnCard', WHERE WHAT IT READS IS OF BULK AT MOST 1048576: true; the input reads as it did. -/
def fnExactTurnCardUptoRow : OpenClaim := { program := "ytialepfhpinloaa", sum := "81fd340b32b87fe1f48f7a4fbc0bf662298c4c4951b470c1ea10bab028b77190", func := "loop.example/g00846/laws.FnExactTurnCard", spec := "fnExactTurnCard", apart := false, narrowed := true }
def FnExactTurnCardUptoSaid : Prop := fnExactTurnCardUptoRow.holds Try.pinned (OpenSpec.upto fnExactTurnCardSpec)

/-- 'laws.FnExactPacketOk', WHERE WHAT IT READS IS OF BULK AT MOST 1048576: true; the input reads as it did. -/
def fnExactPacketOkUptoRow : OpenClaim := { program := "ytialepfhpinloaa", sum := "81fd340b32b87fe1f48f7a4fbc0bf662298c4c4951b470c1ea10bab028b77190", func := "loop.example/g00846/laws.FnExactPacketOk", spec := "fnExactPacketOk", apart := false, narrowed := true }
def FnExactPacketOkUptoSaid : Prop := fnExactPacketOkUptoRow.holds Try.pinned (OpenSpec.upto fnExactPacketOkSpec)

/-- 'laws.FnExactCountUp', WHERE WHAT IT READS IS OF BULK AT MOST 1048576: true; the input reads as it did. -/
def fnExactCountUpUptoRow : OpenClaim := { program := "ytialepfhpinloaa", sum := "81fd340b32b87fe1f48f7a4fbc0bf662298c4c4951b470c1ea10bab028b77190", func := "loop.example/g00846/laws.FnExactCountUp", spec := "fnExactCountUp", apart := false, narrowed := true }
def FnExactCountUpUptoSaid : Prop := fnExactCountUpUptoRow.holds Try.pinned (OpenSpec.upto fnExactCountUpSpec)

/-- 'laws.FnExactPositionOf', WHERE WHAT IT READS IS OF BULK AT MOST 1048576: true; the input reads as it did. -/
def fnExactPositionOfUptoRow : OpenClaim := { program := "ytialepfhpinloaa", sum := "81fd340b32b87fe1f48f7a4fbc0bf662298c4c4951b470c1ea10bab028b77190", func := "loop.example/g00846/laws.FnExactPositionOf", spec := "fnExactPositionOf", apart := false, narrowed := true }
def FnExactPositionOfUptoSaid : Prop := fnExactPositionOfUptoRow.holds Try.pinned (OpenSpec.upto fnExactPositionOfSpec)

/-- 'laws.FnExactNewPacket', WHERE WHAT IT READS IS OF BULK AT MOST 1048576: true; the input reads as it did. -/
def fnExactNewPacketUptoRow : OpenClaim := { program := "ytialepfhpinloaa", sum := "81fd340b32b87fe1f48f7a4fbc0bf662298c4c4951b470c1ea10bab028b77190", func := "loop.example/g00846/laws.FnExactNewPacket", spec := "fnExactNewPacket", apart := false, narrowed := true }
def FnExactNewPacketUptoSaid : Prop := fnExactNewPacketUptoRow.holds Try.pinned (OpenSpec.upto fnExactNewPacketSpec)

/-- 'laws.FnExactIsArrangement', WHERE WHAT IT READS IS OF BULK AT MOST 1048576: true; the input reads as it did. -/
def fnExactIsArrangementUptoRow : OpenClaim := { program := "ytialepfhpinloaa", sum := "81fd340b32b87fe1f48f7a4fbc0bf662298c4c4951b470c1ea10bab028b77190", func := "loop.example/g00846/laws.FnExactIsArrangement", spec := "fnExactIsArrangement", apart := false, narrowed := true }
def FnExactIsArrangementUptoSaid : Prop := fnExactIsArrangementUptoRow.holds Try.pinned (OpenSpec.upto fnExactIsArrangementSpec)

/-- 'laws.FnExactSamePacket', WHERE WHAT IT READS IS OF BULK AT MOST 1048576: true; the input reads as it did. -/
def fnExactSamePacketUptoRow : OpenClaim := { program := "ytialepfhpinloaa", sum := "81fd340b32b87fe1f48f7a4fbc0bf662298c4c4951b470c1ea10bab028b77190", func := "loop.example/g00846/laws.FnExactSamePacket", spec := "fnExactSamePacket", apart := false, narrowed := true }
def FnExactSamePacketUptoSaid : Prop := fnExactSamePacketUptoRow.holds Try.pinned (OpenSpec.upto fnExactSamePacketSpec)

end Rows
end Go.Proofs.Ytialepfhpinloaa
