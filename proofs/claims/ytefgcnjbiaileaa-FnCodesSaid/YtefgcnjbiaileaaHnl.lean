/- LargestDeck and HallViolation of the model. -/
import Derived.Test.YtefgcnjbiaileaaHno
set_option linter.unusedVariables false
set_option maxRecDepth 20000
namespace Go.Proofs.Ytefgcnjbiaileaa.Hnl
open Go.RowKit Fr _root_.Go.Proofs.Ytefgcnjbiaileaa.Own Pk Ins Rws Hnd Hno

def facF : Nat → Nat
  | 0 => 1
  | k + 1 => (k + 1) * facF k
/-- LargestDeck, plainly -/
def largestI (k : Int) : Int := if 1 ≤ k ∧ k ≤ 4 then (facF k.toNat : Int) + k - 1 else -1
theorem fac_small : ∀ j, j ≤ 5 → facF j ≤ 120 := by decide
/-- HallViolation, plainly -/
def hallI (n k : Int) : Bool := decide (1 ≤ k ∧ k ≤ 4) && decide ((messagesI n (k - 1)).length < (handsI n k).length)
end Go.Proofs.Ytefgcnjbiaileaa.Hnl
