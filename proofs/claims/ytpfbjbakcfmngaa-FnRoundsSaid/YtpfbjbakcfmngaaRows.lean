/-
  No cell of these rows narrows 'for every input' (looked for: loops, veiled, ifaces, maps, wideKeys, modest, calm, conditions, laid).
  DERIVED. THE GIVEN ROWS OF THIS SEAT. 10 by the template 'for every input the law returns true; each argument reads behind the call as it read before'; 0 by the template 'total and deterministic' (their statements: YtpfbjbakcfmngaaTotals.lean).
  GIVEN WITH THE SEED: the statements are not yours to turn. If you find one false, say at which input.
  Laid BY PROGRAM, IN A SANDBOX (cutbox-rows.mjs): the forced cells as the released guide's own fill.sh prints them over the translation bde6b51765b02b4b… (all of the seat's roots in one cut). By AI agents, Wed Nov 11 2026. No macro, syntax, notation, axiom, sorry.
-/
import Derived.Test.YtpfbjbakcfmngaaChecked
import GoSem.Claim
import GoSem.ClaimJoined
import GoSem.ClaimMapViews
import Derived.JoinedTies
import Derived.KernelRfl
namespace Go.Proofs.Ytpfbjbakcfmngaa
/- THE CELL 'sum', in the pinned program and in every row, IS THE sha256 OF THE DUMP (.gsa) THAT YtpfbjbakcfmngaaProg.lean LOADS. Nothing in Lean hashes anything: it is a label: what it is worth is what the hold of that sum in a sandbox is worth. -/
noncomputable def Try.pinned : Pinned := { name := "ytpfbjbakcfmngaa", sum := "bde6b51765b02b4b36c5b508a4af7a650d2dd2efb4610ae183dbadd2e17a416d", checked := Try.checked }
namespace Rows
def none {H : Type} : Left H := { results := [], args := [] }

/-- 'laws.FnPiles': WHATEVER THE INPUT: true; the input reads as it did. -/
def fnPilesSpec : ChangeSpec := { name := "fnPiles", fn := fun _ => fun
  | [d] => { results := [.lit (.bool true)], args := [d] }
  | _ => none }
def fnPilesRow : OpenClaim := { program := "ytpfbjbakcfmngaa", sum := "bde6b51765b02b4b36c5b508a4af7a650d2dd2efb4610ae183dbadd2e17a416d", func := "loop.example/g00846/laws.FnPiles", spec := "fnPiles", inPlace := ["slices.overlaps[int]", "slices.overlaps[[]int]"], unfollowed := true, recurses := true, apart := false }
def FnPilesSaid : Prop := fnPilesRow.holds Try.pinned (OpenSpec.ofChange fnPilesSpec)

/-- ITS FALSE NEIGHBOUR: 'it returns false'. Refute it at one input. -/
def fnPilesWrong : ChangeSpec := { name := "fnPiles", fn := fun _ => fun
  | [d] => { results := [.lit (.bool false)], args := [d] }
  | _ => none }
def FnPilesWrongFalsely : Prop := fnPilesRow.holds Try.pinned (OpenSpec.ofChange fnPilesWrong)

/-- 'laws.FnRounds': WHATEVER THE INPUT: true; the input reads as it did. -/
def fnRoundsSpec : ChangeSpec := { name := "fnRounds", fn := fun _ => fun
  | [d] => { results := [.lit (.bool true)], args := [d] }
  | _ => none }
def fnRoundsRow : OpenClaim := { program := "ytpfbjbakcfmngaa", sum := "bde6b51765b02b4b36c5b508a4af7a650d2dd2efb4610ae183dbadd2e17a416d", func := "loop.example/g00846/laws.FnRounds", spec := "fnRounds", inPlace := ["slices.overlaps[int]"], unfollowed := true, recurses := true, apart := false }
def FnRoundsSaid : Prop := fnRoundsRow.holds Try.pinned (OpenSpec.ofChange fnRoundsSpec)

/-- ITS FALSE NEIGHBOUR: 'it returns false'. Refute it at one input. -/
def fnRoundsWrong : ChangeSpec := { name := "fnRounds", fn := fun _ => fun
  | [d] => { results := [.lit (.bool false)], args := [d] }
  | _ => none }
def FnRoundsWrongFalsely : Prop := fnRoundsRow.holds Try.pinned (OpenSpec.ofChange fnRoundsWrong)

/-- 'laws.FnExactPilesOk': WHATEVER THE INPUT: true; the input reads as it did. -/
def fnExactPilesOkSpec : ChangeSpec := { name := "fnExactPilesOk", fn := fun _ => fun
  | [d1, d2] => { results := [.lit (.bool true)], args := [d1, d2] }
  | _ => none }
def fnExactPilesOkRow : OpenClaim := { program := "ytpfbjbakcfmngaa", sum := "bde6b51765b02b4b36c5b508a4af7a650d2dd2efb4610ae183dbadd2e17a416d", func := "loop.example/g00846/laws.FnExactPilesOk", spec := "fnExactPilesOk", apart := false }
def FnExactPilesOkSaid : Prop := fnExactPilesOkRow.holds Try.pinned (OpenSpec.ofChange fnExactPilesOkSpec)

/-- ITS FALSE NEIGHBOUR: 'it returns false'. Refute it at one input. -/
def fnExactPilesOkWrong : ChangeSpec := { name := "fnExactPilesOk", fn := fun _ => fun
  | [d1, d2] => { results := [.lit (.bool false)], args := [d1, d2] }
  | _ => none }
def FnExactPilesOkWrongFalsely : Prop := fnExactPilesOkRow.holds Try.pinned (OpenSpec.ofChange fnExactPilesOkWrong)

/-- 'laws.FnExactPilesOf': WHATEVER THE INPUT: true; the input reads as it did. -/
def fnExactPilesOfSpec : ChangeSpec := { name := "fnExactPilesOf", fn := fun _ => fun
  | [d1, d2] => { results := [.lit (.bool true)], args := [d1, d2] }
  | _ => none }
def fnExactPilesOfRow : OpenClaim := { program := "ytpfbjbakcfmngaa", sum := "bde6b51765b02b4b36c5b508a4af7a650d2dd2efb4610ae183dbadd2e17a416d", func := "loop.example/g00846/laws.FnExactPilesOf", spec := "fnExactPilesOf", inPlace := ["slices.overlaps[int]"], apart := false }
def FnExactPilesOfSaid : Prop := fnExactPilesOfRow.holds Try.pinned (OpenSpec.ofChange fnExactPilesOfSpec)

/-- ITS FALSE NEIGHBOUR: 'it returns false'. Refute it at one input. -/
def fnExactPilesOfWrong : ChangeSpec := { name := "fnExactPilesOf", fn := fun _ => fun
  | [d1, d2] => { results := [.lit (.bool false)], args := [d1, d2] }
  | _ => none }
def FnExactPilesOfWrongFalsely : Prop := fnExactPilesOfRow.holds Try.pinned (OpenSpec.ofChange fnExactPilesOfWrong)

/-- 'laws.FnExactGatherPiles': WHATEVER THE INPUT: true; the input reads as it did. -/
def fnExactGatherPilesSpec : ChangeSpec := { name := "fnExactGatherPiles", fn := fun _ => fun
  | [d1, d2, d3] => { results := [.lit (.bool true)], args := [d1, d2, d3] }
  | _ => none }
def fnExactGatherPilesRow : OpenClaim := { program := "ytpfbjbakcfmngaa", sum := "bde6b51765b02b4b36c5b508a4af7a650d2dd2efb4610ae183dbadd2e17a416d", func := "loop.example/g00846/laws.FnExactGatherPiles", spec := "fnExactGatherPiles", inPlace := ["slices.overlaps[[]int]"], apart := false }
def FnExactGatherPilesSaid : Prop := fnExactGatherPilesRow.holds Try.pinned (OpenSpec.ofChange fnExactGatherPilesSpec)

/-- ITS FALSE NEIGHBOUR: 'it returns false'. Refute it at one input. -/
def fnExactGatherPilesWrong : ChangeSpec := { name := "fnExactGatherPiles", fn := fun _ => fun
  | [d1, d2, d3] => { results := [.lit (.bool false)], args := [d1, d2, d3] }
  | _ => none }
def FnExactGatherPilesWrongFalsely : Prop := fnExactGatherPilesRow.holds Try.pinned (OpenSpec.ofChange fnExactGatherPilesWrong)

/-- 'laws.FnExactPileRound': WHATEVER THE INPUT: true; the input reads as it did. -/
def fnExactPileRoundSpec : ChangeSpec := { name := "fnExactPileRound", fn := fun _ => fun
  | [d1, d2, d3, d4] => { results := [.lit (.bool true)], args := [d1, d2, d3, d4] }
  | _ => none }
def fnExactPileRoundRow : OpenClaim := { program := "ytpfbjbakcfmngaa", sum := "bde6b51765b02b4b36c5b508a4af7a650d2dd2efb4610ae183dbadd2e17a416d", func := "loop.example/g00846/laws.FnExactPileRound", spec := "fnExactPileRound", inPlace := ["slices.overlaps[int]", "slices.overlaps[[]int]"], unfollowed := true, recurses := true, apart := false }
def FnExactPileRoundSaid : Prop := fnExactPileRoundRow.holds Try.pinned (OpenSpec.ofChange fnExactPileRoundSpec)

/-- ITS FALSE NEIGHBOUR: 'it returns false'. Refute it at one input. -/
def fnExactPileRoundWrong : ChangeSpec := { name := "fnExactPileRound", fn := fun _ => fun
  | [d1, d2, d3, d4] => { results := [.lit (.bool false)], args := [d1, d2, d3, d4] }
  | _ => none }
def FnExactPileRoundWrongFalsely : Prop := fnExactPileRoundRow.holds Try.pinned (OpenSpec.ofChange fnExactPileRoundWrong)

/-- 'laws.FnExactIndexAfter': WHATEVER THE INPUT: true; the input reads as it did. -/
def fnExactIndexAfterSpec : ChangeSpec := { name := "fnExactIndexAfter", fn := fun _ => fun
  | [d1, d2, d3, d4] => { results := [.lit (.bool true)], args := [d1, d2, d3, d4] }
  | _ => none }
def fnExactIndexAfterRow : OpenClaim := { program := "ytpfbjbakcfmngaa", sum := "bde6b51765b02b4b36c5b508a4af7a650d2dd2efb4610ae183dbadd2e17a416d", func := "loop.example/g00846/laws.FnExactIndexAfter", spec := "fnExactIndexAfter", inPlace := ["slices.overlaps[int]"], apart := false }
def FnExactIndexAfterSaid : Prop := fnExactIndexAfterRow.holds Try.pinned (OpenSpec.ofChange fnExactIndexAfterSpec)

/-- ITS FALSE NEIGHBOUR: 'it returns false'. Refute it at one input. -/
def fnExactIndexAfterWrong : ChangeSpec := { name := "fnExactIndexAfter", fn := fun _ => fun
  | [d1, d2, d3, d4] => { results := [.lit (.bool false)], args := [d1, d2, d3, d4] }
  | _ => none }
def FnExactIndexAfterWrongFalsely : Prop := fnExactIndexAfterRow.holds Try.pinned (OpenSpec.ofChange fnExactIndexAfterWrong)

/-- 'laws.FnExactRoundsNeeded': WHATEVER THE INPUT: true; the input reads as it did. -/
def fnExactRoundsNeededSpec : ChangeSpec := { name := "fnExactRoundsNeeded", fn := fun _ => fun
  | [d1, d2, d3] => { results := [.lit (.bool true)], args := [d1, d2, d3] }
  | _ => none }
def fnExactRoundsNeededRow : OpenClaim := { program := "ytpfbjbakcfmngaa", sum := "bde6b51765b02b4b36c5b508a4af7a650d2dd2efb4610ae183dbadd2e17a416d", func := "loop.example/g00846/laws.FnExactRoundsNeeded", spec := "fnExactRoundsNeeded", inPlace := ["slices.overlaps[int]"], apart := false }
def FnExactRoundsNeededSaid : Prop := fnExactRoundsNeededRow.holds Try.pinned (OpenSpec.ofChange fnExactRoundsNeededSpec)

/-- ITS FALSE NEIGHBOUR: 'it returns false'. Refute it at one input. -/
def fnExactRoundsNeededWrong : ChangeSpec := { name := "fnExactRoundsNeeded", fn := fun _ => fun
  | [d1, d2, d3] => { results := [.lit (.bool false)], args := [d1, d2, d3] }
  | _ => none }
def FnExactRoundsNeededWrongFalsely : Prop := fnExactRoundsNeededRow.holds Try.pinned (OpenSpec.ofChange fnExactRoundsNeededWrong)

/-- 'laws.FnExactFixedIndex': WHATEVER THE INPUT: true; the input reads as it did. -/
def fnExactFixedIndexSpec : ChangeSpec := { name := "fnExactFixedIndex", fn := fun _ => fun
  | [d1, d2, d3] => { results := [.lit (.bool true)], args := [d1, d2, d3] }
  | _ => none }
def fnExactFixedIndexRow : OpenClaim := { program := "ytpfbjbakcfmngaa", sum := "bde6b51765b02b4b36c5b508a4af7a650d2dd2efb4610ae183dbadd2e17a416d", func := "loop.example/g00846/laws.FnExactFixedIndex", spec := "fnExactFixedIndex", inPlace := ["slices.overlaps[int]"], apart := false }
def FnExactFixedIndexSaid : Prop := fnExactFixedIndexRow.holds Try.pinned (OpenSpec.ofChange fnExactFixedIndexSpec)

/-- ITS FALSE NEIGHBOUR: 'it returns false'. Refute it at one input. -/
def fnExactFixedIndexWrong : ChangeSpec := { name := "fnExactFixedIndex", fn := fun _ => fun
  | [d1, d2, d3] => { results := [.lit (.bool false)], args := [d1, d2, d3] }
  | _ => none }
def FnExactFixedIndexWrongFalsely : Prop := fnExactFixedIndexRow.holds Try.pinned (OpenSpec.ofChange fnExactFixedIndexWrong)

/-- 'laws.FnExactPlacesFor': WHATEVER THE INPUT: true; the input reads as it did. -/
def fnExactPlacesForSpec : ChangeSpec := { name := "fnExactPlacesFor", fn := fun _ => fun
  | [d1, d2, d3, d4] => { results := [.lit (.bool true)], args := [d1, d2, d3, d4] }
  | _ => none }
def fnExactPlacesForRow : OpenClaim := { program := "ytpfbjbakcfmngaa", sum := "bde6b51765b02b4b36c5b508a4af7a650d2dd2efb4610ae183dbadd2e17a416d", func := "loop.example/g00846/laws.FnExactPlacesFor", spec := "fnExactPlacesFor", inPlace := ["slices.overlaps[int]"], unfollowed := true, recurses := true, apart := false }
def FnExactPlacesForSaid : Prop := fnExactPlacesForRow.holds Try.pinned (OpenSpec.ofChange fnExactPlacesForSpec)

/-- ITS FALSE NEIGHBOUR: 'it returns false'. Refute it at one input. -/
def fnExactPlacesForWrong : ChangeSpec := { name := "fnExactPlacesFor", fn := fun _ => fun
  | [d1, d2, d3, d4] => { results := [.lit (.bool false)], args := [d1, d2, d3, d4] }
  | _ => none }
def FnExactPlacesForWrongFalsely : Prop := fnExactPlacesForRow.holds Try.pinned (OpenSpec.ofChange fnExactPlacesForWrong)

/- THE SECOND FORM. 'bulk': how many values and letters a reading holds, each counted each time it is reached (what is shared counts as often as it is met; a slice's spare places count too). A statement '..UptoSaid' is the law's where the arguments, and the package variables that the reading takes, are together of bulk at most 1048576: NARROWER than '..Said'. Prove '..Said' where nothing that the law and all that it calls make is longer than what came in: it says more and counts as full. Else prove '..UptoSaid'. A law counts once. -/
mutual
def uptoBulk {H : Type} : DataW H → Nat
  | .lit (.string bytes) => bytes.length + 1
  | .lit _ => 1
  | .nil => 1
  | .ptr d => uptoBulk d + 1
  | .slice elems spare => uptoBulkAll elems + uptoBulkAll spare + 1
  | .agg parts => uptoBulkAll parts + 1
  | .iface _ d => uptoBulk d + 1
  | .map entries => uptoBulkEntries entries + 1
  | .held _ => 1
def uptoBulkAll {H : Type} : List (DataW H) → Nat
  | [] => 0
  | d :: r => uptoBulk d + uptoBulkAll r
def uptoBulkEntries {H : Type} : List (Lit × DataW H) → Nat
  | [] => 0
  | x :: r => uptoBulkEntry x + uptoBulkEntries r
def uptoBulkEntry {H : Type} : Lit × DataW H → Nat
  | (.string bytes, d) => bytes.length + uptoBulk d + 1
  | (_, d) => uptoBulk d + 1
 end
def uptoSmall : (H : Type) → List (DataW H) → Bool := fun _ ds => decide (uptoBulkAll ds ≤ 1048576)
def OpenSpec.upto (s : _root_.Go.ChangeSpec) : _root_.Go.OpenSpec := { _root_.Go.OpenSpec.ofChange s with cond := some uptoSmall }

/-- 'laws.FnPiles', WHERE WHAT IT READS IS OF BULK AT MOST 1048576: true; the input reads as it did. -/
def fnPilesUptoRow : OpenClaim := { program := "ytpfbjbakcfmngaa", sum := "bde6b51765b02b4b36c5b508a4af7a650d2dd2efb4610ae183dbadd2e17a416d", func := "loop.example/g00846/laws.FnPiles", spec := "fnPiles", inPlace := ["slices.overlaps[int]", "slices.overlaps[[]int]"], unfollowed := true, recurses := true, apart := false, narrowed := true }
def FnPilesUptoSaid : Prop := fnPilesUptoRow.holds Try.pinned (OpenSpec.upto fnPilesSpec)

/-- 'laws.FnRounds', WHERE WHAT IT READS IS OF BULK AT MOST 1048576: true; the input reads as it did. -/
def fnRoundsUptoRow : OpenClaim := { program := "ytpfbjbakcfmngaa", sum := "bde6b51765b02b4b36c5b508a4af7a650d2dd2efb4610ae183dbadd2e17a416d", func := "loop.example/g00846/laws.FnRounds", spec := "fnRounds", inPlace := ["slices.overlaps[int]"], unfollowed := true, recurses := true, apart := false, narrowed := true }
def FnRoundsUptoSaid : Prop := fnRoundsUptoRow.holds Try.pinned (OpenSpec.upto fnRoundsSpec)

/-- 'laws.FnExactPilesOk', WHERE WHAT IT READS IS OF BULK AT MOST 1048576: true; the input reads as it did. -/
def fnExactPilesOkUptoRow : OpenClaim := { program := "ytpfbjbakcfmngaa", sum := "bde6b51765b02b4b36c5b508a4af7a650d2dd2efb4610ae183dbadd2e17a416d", func := "loop.example/g00846/laws.FnExactPilesOk", spec := "fnExactPilesOk", apart := false, narrowed := true }
def FnExactPilesOkUptoSaid : Prop := fnExactPilesOkUptoRow.holds Try.pinned (OpenSpec.upto fnExactPilesOkSpec)

/-- 'laws.FnExactPilesOf', WHERE WHAT IT READS IS OF BULK AT MOST 1048576: true; the input reads as it did. -/
def fnExactPilesOfUptoRow : OpenClaim := { program := "ytpfbjbakcfmngaa", sum := "bde6b51765b02b4b36c5b508a4af7a650d2dd2efb4610ae183dbadd2e17a416d", func := "loop.example/g00846/laws.FnExactPilesOf", spec := "fnExactPilesOf", inPlace := ["slices.overlaps[int]"], apart := false, narrowed := true }
def FnExactPilesOfUptoSaid : Prop := fnExactPilesOfUptoRow.holds Try.pinned (OpenSpec.upto fnExactPilesOfSpec)

/-- 'laws.FnExactGatherPiles', WHERE WHAT IT READS IS OF BULK AT MOST 1048576: true; the input reads as it did. -/
def fnExactGatherPilesUptoRow : OpenClaim := { program := "ytpfbjbakcfmngaa", sum := "bde6b51765b02b4b36c5b508a4af7a650d2dd2efb4610ae183dbadd2e17a416d", func := "loop.example/g00846/laws.FnExactGatherPiles", spec := "fnExactGatherPiles", inPlace := ["slices.overlaps[[]int]"], apart := false, narrowed := true }
def FnExactGatherPilesUptoSaid : Prop := fnExactGatherPilesUptoRow.holds Try.pinned (OpenSpec.upto fnExactGatherPilesSpec)

/-- 'laws.FnExactPileRound', WHERE WHAT IT READS IS OF BULK AT MOST 1048576: true; the input reads as it did. -/
def fnExactPileRoundUptoRow : OpenClaim := { program := "ytpfbjbakcfmngaa", sum := "bde6b51765b02b4b36c5b508a4af7a650d2dd2efb4610ae183dbadd2e17a416d", func := "loop.example/g00846/laws.FnExactPileRound", spec := "fnExactPileRound", inPlace := ["slices.overlaps[int]", "slices.overlaps[[]int]"], unfollowed := true, recurses := true, apart := false, narrowed := true }
def FnExactPileRoundUptoSaid : Prop := fnExactPileRoundUptoRow.holds Try.pinned (OpenSpec.upto fnExactPileRoundSpec)

/-- 'laws.FnExactIndexAfter', WHERE WHAT IT READS IS OF BULK AT MOST 1048576: true; the input reads as it did. -/
def fnExactIndexAfterUptoRow : OpenClaim := { program := "ytpfbjbakcfmngaa", sum := "bde6b51765b02b4b36c5b508a4af7a650d2dd2efb4610ae183dbadd2e17a416d", func := "loop.example/g00846/laws.FnExactIndexAfter", spec := "fnExactIndexAfter", inPlace := ["slices.overlaps[int]"], apart := false, narrowed := true }
def FnExactIndexAfterUptoSaid : Prop := fnExactIndexAfterUptoRow.holds Try.pinned (OpenSpec.upto fnExactIndexAfterSpec)

/-- 'laws.FnExactRoundsNeeded', WHERE WHAT IT READS IS OF BULK AT MOST 1048576: true; the input reads as it did. -/
def fnExactRoundsNeededUptoRow : OpenClaim := { program := "ytpfbjbakcfmngaa", sum := "bde6b51765b02b4b36c5b508a4af7a650d2dd2efb4610ae183dbadd2e17a416d", func := "loop.example/g00846/laws.FnExactRoundsNeeded", spec := "fnExactRoundsNeeded", inPlace := ["slices.overlaps[int]"], apart := false, narrowed := true }
def FnExactRoundsNeededUptoSaid : Prop := fnExactRoundsNeededUptoRow.holds Try.pinned (OpenSpec.upto fnExactRoundsNeededSpec)

/-- 'laws.FnExactFixedIndex', WHERE WHAT IT READS IS OF BULK AT MOST 1048576: true; the input reads as it did. -/
def fnExactFixedIndexUptoRow : OpenClaim := { program := "ytpfbjbakcfmngaa", sum := "bde6b51765b02b4b36c5b508a4af7a650d2dd2efb4610ae183dbadd2e17a416d", func := "loop.example/g00846/laws.FnExactFixedIndex", spec := "fnExactFixedIndex", inPlace := ["slices.overlaps[int]"], apart := false, narrowed := true }
def FnExactFixedIndexUptoSaid : Prop := fnExactFixedIndexUptoRow.holds Try.pinned (OpenSpec.upto fnExactFixedIndexSpec)

/-- 'laws.FnExactPlacesFor', WHERE WHAT IT READS IS OF BULK AT MOST 1048576: true; the input reads as it did. -/
def fnExactPlacesForUptoRow : OpenClaim := { program := "ytpfbjbakcfmngaa", sum := "bde6b51765b02b4b36c5b508a4af7a650d2dd2efb4610ae183dbadd2e17a416d", func := "loop.example/g00846/laws.FnExactPlacesFor", spec := "fnExactPlacesFor", inPlace := ["slices.overlaps[int]"], unfollowed := true, recurses := true, apart := false, narrowed := true }
def FnExactPlacesForUptoSaid : Prop := fnExactPlacesForUptoRow.holds Try.pinned (OpenSpec.upto fnExactPlacesForSpec)

end Rows
end Go.Proofs.Ytpfbjbakcfmngaa
