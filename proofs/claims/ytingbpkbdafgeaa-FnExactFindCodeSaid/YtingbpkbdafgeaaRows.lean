/-
  No cell of these rows narrows 'for every input' (looked for: loops, veiled, ifaces, maps, wideKeys, modest, calm, conditions, laid).
  DERIVED. THE GIVEN ROWS OF THIS SEAT. 9 by the template 'for every input the law returns true; each argument reads behind the call as it read before'; 0 by the template 'total and deterministic' (their statements: YtingbpkbdafgeaaTotals.lean).
  GIVEN WITH THE SEED: the statements are not yours to turn. If you find one false, say at which input.
  Laid BY PROGRAM, IN A SANDBOX (cutbox-rows.mjs): the forced cells as the released guide's own fill.sh prints them over the translation fa8ef00f81aa8bd2… (all of the seat's roots in one cut). By AI agents, Wed Nov 11 2026. No macro, syntax, notation, axiom, sorry.
-/
import Derived.Test.YtingbpkbdafgeaaChecked
import GoSem.Claim
import GoSem.ClaimJoined
import GoSem.ClaimMapViews
import Derived.JoinedTies
import Derived.KernelRfl
namespace Go.Proofs.Ytingbpkbdafgeaa
/- THE CELL 'sum', in the pinned program and in every row, IS THE sha256 OF THE DUMP (.gsa) THAT YtingbpkbdafgeaaProg.lean LOADS. Nothing in Lean hashes anything: it is a label: what it is worth is what the hold of that sum in a sandbox is worth. -/
noncomputable def Try.pinned : Pinned := { name := "ytingbpkbdafgeaa", sum := "fa8ef00f81aa8bd28fcecb8f3f99c50dd85465594dc91239f2d5a7e1bfdf300f", checked := Try.checked }
namespace Rows
def none {H : Type} : Left H := { results := [], args := [] }

/-- 'laws.FnCodes': WHATEVER THE INPUT: true; the input reads as it did. -/
def fnCodesSpec : ChangeSpec := { name := "fnCodes", fn := fun _ => fun
  | [d] => { results := [.lit (.bool true)], args := [d] }
  | _ => none }
def fnCodesRow : OpenClaim := { program := "ytingbpkbdafgeaa", sum := "fa8ef00f81aa8bd28fcecb8f3f99c50dd85465594dc91239f2d5a7e1bfdf300f", func := "loop.example/g00846/laws.FnCodes", spec := "fnCodes", unfollowed := true, recurses := true, apart := false }
def FnCodesSaid : Prop := fnCodesRow.holds Try.pinned (OpenSpec.ofChange fnCodesSpec)

/-- ITS FALSE NEIGHBOUR: 'it returns false'. Refute it at one input. -/
def fnCodesWrong : ChangeSpec := { name := "fnCodes", fn := fun _ => fun
  | [d] => { results := [.lit (.bool false)], args := [d] }
  | _ => none }
def FnCodesWrongFalsely : Prop := fnCodesRow.holds Try.pinned (OpenSpec.ofChange fnCodesWrong)

/-- 'laws.FnExactHandsOf': WHATEVER THE INPUT: true; the input reads as it did. -/
def fnExactHandsOfSpec : ChangeSpec := { name := "fnExactHandsOf", fn := fun _ => fun
  | [d1, d2] => { results := [.lit (.bool true)], args := [d1, d2] }
  | _ => none }
def fnExactHandsOfRow : OpenClaim := { program := "ytingbpkbdafgeaa", sum := "fa8ef00f81aa8bd28fcecb8f3f99c50dd85465594dc91239f2d5a7e1bfdf300f", func := "loop.example/g00846/laws.FnExactHandsOf", spec := "fnExactHandsOf", unfollowed := true, recurses := true, apart := false }
def FnExactHandsOfSaid : Prop := fnExactHandsOfRow.holds Try.pinned (OpenSpec.ofChange fnExactHandsOfSpec)

/-- ITS FALSE NEIGHBOUR: 'it returns false'. Refute it at one input. -/
def fnExactHandsOfWrong : ChangeSpec := { name := "fnExactHandsOf", fn := fun _ => fun
  | [d1, d2] => { results := [.lit (.bool false)], args := [d1, d2] }
  | _ => none }
def FnExactHandsOfWrongFalsely : Prop := fnExactHandsOfRow.holds Try.pinned (OpenSpec.ofChange fnExactHandsOfWrong)

/-- 'laws.FnExactMessagesOf': WHATEVER THE INPUT: true; the input reads as it did. -/
def fnExactMessagesOfSpec : ChangeSpec := { name := "fnExactMessagesOf", fn := fun _ => fun
  | [d1, d2] => { results := [.lit (.bool true)], args := [d1, d2] }
  | _ => none }
def fnExactMessagesOfRow : OpenClaim := { program := "ytingbpkbdafgeaa", sum := "fa8ef00f81aa8bd28fcecb8f3f99c50dd85465594dc91239f2d5a7e1bfdf300f", func := "loop.example/g00846/laws.FnExactMessagesOf", spec := "fnExactMessagesOf", unfollowed := true, recurses := true, apart := false }
def FnExactMessagesOfSaid : Prop := fnExactMessagesOfRow.holds Try.pinned (OpenSpec.ofChange fnExactMessagesOfSpec)

/-- ITS FALSE NEIGHBOUR: 'it returns false'. Refute it at one input. -/
def fnExactMessagesOfWrong : ChangeSpec := { name := "fnExactMessagesOf", fn := fun _ => fun
  | [d1, d2] => { results := [.lit (.bool false)], args := [d1, d2] }
  | _ => none }
def FnExactMessagesOfWrongFalsely : Prop := fnExactMessagesOfRow.holds Try.pinned (OpenSpec.ofChange fnExactMessagesOfWrong)

/-- 'laws.FnExactLargestDeck': WHATEVER THE INPUT: true; the input reads as it did. -/
def fnExactLargestDeckSpec : ChangeSpec := { name := "fnExactLargestDeck", fn := fun _ => fun
  | [d] => { results := [.lit (.bool true)], args := [d] }
  | _ => none }
def fnExactLargestDeckRow : OpenClaim := { program := "ytingbpkbdafgeaa", sum := "fa8ef00f81aa8bd28fcecb8f3f99c50dd85465594dc91239f2d5a7e1bfdf300f", func := "loop.example/g00846/laws.FnExactLargestDeck", spec := "fnExactLargestDeck", apart := false }
def FnExactLargestDeckSaid : Prop := fnExactLargestDeckRow.holds Try.pinned (OpenSpec.ofChange fnExactLargestDeckSpec)

/-- ITS FALSE NEIGHBOUR: 'it returns false'. Refute it at one input. -/
def fnExactLargestDeckWrong : ChangeSpec := { name := "fnExactLargestDeck", fn := fun _ => fun
  | [d] => { results := [.lit (.bool false)], args := [d] }
  | _ => none }
def FnExactLargestDeckWrongFalsely : Prop := fnExactLargestDeckRow.holds Try.pinned (OpenSpec.ofChange fnExactLargestDeckWrong)

/-- 'laws.FnExactCodeOk': WHATEVER THE INPUT: true; the input reads as it did. -/
def fnExactCodeOkSpec : ChangeSpec := { name := "fnExactCodeOk", fn := fun _ => fun
  | [d] => { results := [.lit (.bool true)], args := [d] }
  | _ => none }
def fnExactCodeOkRow : OpenClaim := { program := "ytingbpkbdafgeaa", sum := "fa8ef00f81aa8bd28fcecb8f3f99c50dd85465594dc91239f2d5a7e1bfdf300f", func := "loop.example/g00846/laws.FnExactCodeOk", spec := "fnExactCodeOk", unfollowed := true, recurses := true, apart := false }
def FnExactCodeOkSaid : Prop := fnExactCodeOkRow.holds Try.pinned (OpenSpec.ofChange fnExactCodeOkSpec)

/-- ITS FALSE NEIGHBOUR: 'it returns false'. Refute it at one input. -/
def fnExactCodeOkWrong : ChangeSpec := { name := "fnExactCodeOk", fn := fun _ => fun
  | [d] => { results := [.lit (.bool false)], args := [d] }
  | _ => none }
def FnExactCodeOkWrongFalsely : Prop := fnExactCodeOkRow.holds Try.pinned (OpenSpec.ofChange fnExactCodeOkWrong)

/-- 'laws.FnExactFindCode': WHATEVER THE INPUT: true; the input reads as it did. -/
def fnExactFindCodeSpec : ChangeSpec := { name := "fnExactFindCode", fn := fun _ => fun
  | [d1, d2] => { results := [.lit (.bool true)], args := [d1, d2] }
  | _ => none }
def fnExactFindCodeRow : OpenClaim := { program := "ytingbpkbdafgeaa", sum := "fa8ef00f81aa8bd28fcecb8f3f99c50dd85465594dc91239f2d5a7e1bfdf300f", func := "loop.example/g00846/laws.FnExactFindCode", spec := "fnExactFindCode", unfollowed := true, recurses := true, apart := false }
def FnExactFindCodeSaid : Prop := fnExactFindCodeRow.holds Try.pinned (OpenSpec.ofChange fnExactFindCodeSpec)

/-- ITS FALSE NEIGHBOUR: 'it returns false'. Refute it at one input. -/
def fnExactFindCodeWrong : ChangeSpec := { name := "fnExactFindCode", fn := fun _ => fun
  | [d1, d2] => { results := [.lit (.bool false)], args := [d1, d2] }
  | _ => none }
def FnExactFindCodeWrongFalsely : Prop := fnExactFindCodeRow.holds Try.pinned (OpenSpec.ofChange fnExactFindCodeWrong)

/-- 'laws.FnExactEncode': WHATEVER THE INPUT: true; the input reads as it did. -/
def fnExactEncodeSpec : ChangeSpec := { name := "fnExactEncode", fn := fun _ => fun
  | [d1, d2] => { results := [.lit (.bool true)], args := [d1, d2] }
  | _ => none }
def fnExactEncodeRow : OpenClaim := { program := "ytingbpkbdafgeaa", sum := "fa8ef00f81aa8bd28fcecb8f3f99c50dd85465594dc91239f2d5a7e1bfdf300f", func := "loop.example/g00846/laws.FnExactEncode", spec := "fnExactEncode", unfollowed := true, recurses := true, apart := false }
def FnExactEncodeSaid : Prop := fnExactEncodeRow.holds Try.pinned (OpenSpec.ofChange fnExactEncodeSpec)

/-- ITS FALSE NEIGHBOUR: 'it returns false'. Refute it at one input. -/
def fnExactEncodeWrong : ChangeSpec := { name := "fnExactEncode", fn := fun _ => fun
  | [d1, d2] => { results := [.lit (.bool false)], args := [d1, d2] }
  | _ => none }
def FnExactEncodeWrongFalsely : Prop := fnExactEncodeRow.holds Try.pinned (OpenSpec.ofChange fnExactEncodeWrong)

/-- 'laws.FnExactDecode': WHATEVER THE INPUT: true; the input reads as it did. -/
def fnExactDecodeSpec : ChangeSpec := { name := "fnExactDecode", fn := fun _ => fun
  | [d1, d2] => { results := [.lit (.bool true)], args := [d1, d2] }
  | _ => none }
def fnExactDecodeRow : OpenClaim := { program := "ytingbpkbdafgeaa", sum := "fa8ef00f81aa8bd28fcecb8f3f99c50dd85465594dc91239f2d5a7e1bfdf300f", func := "loop.example/g00846/laws.FnExactDecode", spec := "fnExactDecode", unfollowed := true, recurses := true, apart := false }
def FnExactDecodeSaid : Prop := fnExactDecodeRow.holds Try.pinned (OpenSpec.ofChange fnExactDecodeSpec)

/-- ITS FALSE NEIGHBOUR: 'it returns false'. Refute it at one input. -/
def fnExactDecodeWrong : ChangeSpec := { name := "fnExactDecode", fn := fun _ => fun
  | [d1, d2] => { results := [.lit (.bool false)], args := [d1, d2] }
  | _ => none }
def FnExactDecodeWrongFalsely : Prop := fnExactDecodeRow.holds Try.pinned (OpenSpec.ofChange fnExactDecodeWrong)

/-- 'laws.FnExactHallViolation': WHATEVER THE INPUT: true; the input reads as it did. -/
def fnExactHallViolationSpec : ChangeSpec := { name := "fnExactHallViolation", fn := fun _ => fun
  | [d1, d2] => { results := [.lit (.bool true)], args := [d1, d2] }
  | _ => none }
def fnExactHallViolationRow : OpenClaim := { program := "ytingbpkbdafgeaa", sum := "fa8ef00f81aa8bd28fcecb8f3f99c50dd85465594dc91239f2d5a7e1bfdf300f", func := "loop.example/g00846/laws.FnExactHallViolation", spec := "fnExactHallViolation", unfollowed := true, recurses := true, apart := false }
def FnExactHallViolationSaid : Prop := fnExactHallViolationRow.holds Try.pinned (OpenSpec.ofChange fnExactHallViolationSpec)

/-- ITS FALSE NEIGHBOUR: 'it returns false'. Refute it at one input. -/
def fnExactHallViolationWrong : ChangeSpec := { name := "fnExactHallViolation", fn := fun _ => fun
  | [d1, d2] => { results := [.lit (.bool false)], args := [d1, d2] }
  | _ => none }
def FnExactHallViolationWrongFalsely : Prop := fnExactHallViolationRow.holds Try.pinned (OpenSpec.ofChange fnExactHallViolationWrong)

/- THE SECOND FORM. 'bulk': how many values and letters a reading holds, each counted each time it is reached (what is shared counts as often as it is met; a slice's spare places count too). A statement '..UptoSaid' is the law's where the arguments, and the package variables that the reading takes, are together of bulk at most 1048576: NARROWER than '..Said'. Prove '..Said' where nothing that the law and all that it calls make is longer than what came in: it says more and counts as full. Else prove '..UptoSaid'. A law counts once. -/
mutual
def uptoBulk {H : Type} : DataW H → Nat
  | .lit (.string bytes) => bytes.length + 1
  | .lit _ => 1
  | .nil => 1
  | .ptr d => uptoBulk d + 1
  | .slice elems spare => uptoBulkAll elems + uptoBulkAll spare + 1
  | .agg parts => uptoBulkAll parts + 1
  | .iface _ d => uptoBulk d + 1
  | .map entries => uptoBulkEntries entries + 1
  | .held _ => 1
def uptoBulkAll {H : Type} : List (DataW H) → Nat
  | [] => 0
  | d :: r => uptoBulk d + uptoBulkAll r
def uptoBulkEntries {H : Type} : List (Lit × DataW H) → Nat
  | [] => 0
  | x :: r => uptoBulkEntry x + uptoBulkEntries r
def uptoBulkEntry {H : Type} : Lit × DataW H → Nat
  | (.string bytes, d) => bytes.length + uptoBulk d + 1
  | (_, d) => uptoBulk d + 1
 end
def uptoSmall : (H : Type) → List (DataW H) → Bool := fun _ ds => decide (uptoBulkAll ds ≤ 1048576)
def OpenSpec.upto (s : _root_.Go.ChangeSpec) : _root_.Go.OpenSpec := { _root_.Go.OpenSpec.ofChange s with cond := some uptoSmall }

/-- 'laws.FnCodes', WHERE WHAT IT READS IS OF BULK AT MOST 1048576: true; the input reads as it did. -/
def fnCodesUptoRow : OpenClaim := { program := "ytingbpkbdafgeaa", sum := "fa8ef00f81aa8bd28fcecb8f3f99c50dd85465594dc91239f2d5a7e1bfdf300f", func := "loop.example/g00846/laws.FnCodes", spec := "fnCodes", unfollowed := true, recurses := true, apart := false, narrowed := true }
def FnCodesUptoSaid : Prop := fnCodesUptoRow.holds Try.pinned (OpenSpec.upto fnCodesSpec)

/-- 'laws.FnExactHandsOf', WHERE WHAT IT READS IS OF BULK AT MOST 1048576: true; the input reads as it did. -/
def fnExactHandsOfUptoRow : OpenClaim := { program := "ytingbpkbdafgeaa", sum := "fa8ef00f81aa8bd28fcecb8f3f99c50dd85465594dc91239f2d5a7e1bfdf300f", func := "loop.example/g00846/laws.FnExactHandsOf", spec := "fnExactHandsOf", unfollowed := true, recurses := true, apart := false, narrowed := true }
def FnExactHandsOfUptoSaid : Prop := fnExactHandsOfUptoRow.holds Try.pinned (OpenSpec.upto fnExactHandsOfSpec)

/-- 'laws.FnExactMessagesOf', WHERE WHAT IT READS IS OF BULK AT MOST 1048576: true; the input reads as it did. -/
def fnExactMessagesOfUptoRow : OpenClaim := { program := "ytingbpkbdafgeaa", sum := "fa8ef00f81aa8bd28fcecb8f3f99c50dd85465594dc91239f2d5a7e1bfdf300f", func := "loop.example/g00846/laws.FnExactMessagesOf", spec := "fnExactMessagesOf", unfollowed := true, recurses := true, apart := false, narrowed := true }
def FnExactMessagesOfUptoSaid : Prop := fnExactMessagesOfUptoRow.holds Try.pinned (OpenSpec.upto fnExactMessagesOfSpec)

/-- 'laws.FnExactLargestDeck', WHERE WHAT IT READS IS OF BULK AT MOST 1048576: true; the input reads as it did. -/
def fnExactLargestDeckUptoRow : OpenClaim := { program := "ytingbpkbdafgeaa", sum := "fa8ef00f81aa8bd28fcecb8f3f99c50dd85465594dc91239f2d5a7e1bfdf300f", func := "loop.example/g00846/laws.FnExactLargestDeck", spec := "fnExactLargestDeck", apart := false, narrowed := true }
def FnExactLargestDeckUptoSaid : Prop := fnExactLargestDeckUptoRow.holds Try.pinned (OpenSpec.upto fnExactLargestDeckSpec)

/-- 'laws.FnExactCodeOk', WHERE WHAT IT READS IS OF BULK AT MOST 1048576: true; the input reads as it did. -/
def fnExactCodeOkUptoRow : OpenClaim := { program := "ytingbpkbdafgeaa", sum := "fa8ef00f81aa8bd28fcecb8f3f99c50dd85465594dc91239f2d5a7e1bfdf300f", func := "loop.example/g00846/laws.FnExactCodeOk", spec := "fnExactCodeOk", unfollowed := true, recurses := true, apart := false, narrowed := true }
def FnExactCodeOkUptoSaid : Prop := fnExactCodeOkUptoRow.holds Try.pinned (OpenSpec.upto fnExactCodeOkSpec)

/-- 'laws.FnExactFindCode', WHERE WHAT IT READS IS OF BULK AT MOST 1048576: true; the input reads as it did. -/
def fnExactFindCodeUptoRow : OpenClaim := { program := "ytingbpkbdafgeaa", sum := "fa8ef00f81aa8bd28fcecb8f3f99c50dd85465594dc91239f2d5a7e1bfdf300f", func := "loop.example/g00846/laws.FnExactFindCode", spec := "fnExactFindCode", unfollowed := true, recurses := true, apart := false, narrowed := true }
def FnExactFindCodeUptoSaid : Prop := fnExactFindCodeUptoRow.holds Try.pinned (OpenSpec.upto fnExactFindCodeSpec)

/-- 'laws.FnExactEncode', WHERE WHAT IT READS IS OF BULK AT MOST 1048576: true; the input reads as it did. -/
def fnExactEncodeUptoRow : OpenClaim := { program := "ytingbpkbdafgeaa", sum := "fa8ef00f81aa8bd28fcecb8f3f99c50dd85465594dc91239f2d5a7e1bfdf300f", func := "loop.example/g00846/laws.FnExactEncode", spec := "fnExactEncode", unfollowed := true, recurses := true, apart := false, narrowed := true }
def FnExactEncodeUptoSaid : Prop := fnExactEncodeUptoRow.holds Try.pinned (OpenSpec.upto fnExactEncodeSpec)

/-- 'laws.FnExactDecode', WHERE WHAT IT READS IS OF BULK AT MOST 1048576: true; the input reads as it did. -/
def fnExactDecodeUptoRow : OpenClaim := { program := "ytingbpkbdafgeaa", sum := "fa8ef00f81aa8bd28fcecb8f3f99c50dd85465594dc91239f2d5a7e1bfdf300f", func := "loop.example/g00846/laws.FnExactDecode", spec := "fnExactDecode", unfollowed := true, recurses := true, apart := false, narrowed := true }
def FnExactDecodeUptoSaid : Prop := fnExactDecodeUptoRow.holds Try.pinned (OpenSpec.upto fnExactDecodeSpec)

/-- 'laws.FnExactHallViolation', WHERE WHAT IT READS IS OF BULK AT MOST 1048576: true; the input reads as it did. -/
def fnExactHallViolationUptoRow : OpenClaim := { program := "ytingbpkbdafgeaa", sum := "fa8ef00f81aa8bd28fcecb8f3f99c50dd85465594dc91239f2d5a7e1bfdf300f", func := "loop.example/g00846/laws.FnExactHallViolation", spec := "fnExactHallViolation", unfollowed := true, recurses := true, apart := false, narrowed := true }
def FnExactHallViolationUptoSaid : Prop := fnExactHallViolationUptoRow.holds Try.pinned (OpenSpec.upto fnExactHallViolationSpec)

end Rows
end Go.Proofs.Ytingbpkbdafgeaa
