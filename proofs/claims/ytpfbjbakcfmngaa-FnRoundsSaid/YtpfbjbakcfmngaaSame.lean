/- Whether two lists of ints are equal: slices.Equal, and SamePacket of the program and of the model; and NewPacket of both. -/
import Derived.Test.YtpfbjbakcfmngaaPkt
set_option linter.unusedVariables false
set_option maxRecDepth 20000
namespace Go.Proofs.Ytpfbjbakcfmngaa.Sam
open Go.RowKit Fr Own Pk Ins

theorem same_all (us vs : List Int) (hl : us.length = vs.length) (h : ∀ i, i < us.length → us.getD i 0 = vs.getD i 0) : us = vs := by
  refine List.ext_getElem hl fun i h1 h2 => ?_
  have := h i h1
  simpa [List.getD_eq_getElem?_getD, List.getElem?_eq_getElem h1, List.getElem?_eq_getElem h2] using this
theorem same_not (us vs : List Int) (i : Nat) (h : us.getD i 0 ≠ vs.getD i 0) : us ≠ vs := fun e => h (by rw [e])
/-- are the two lists one? -/
def sameB (us vs : List Int) : Bool := decide (us = vs)


end Go.Proofs.Ytpfbjbakcfmngaa.Sam
