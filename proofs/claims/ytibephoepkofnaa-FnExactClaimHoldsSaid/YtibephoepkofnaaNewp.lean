/- NewPacket of the program and of the model: the numbers from 0 on in new memory, or nil. -/
import Derived.Test.YtibephoepkofnaaPkt
set_option linter.unusedVariables false
set_option maxRecDepth 20000
namespace Go.Proofs.Ytibephoepkofnaa.Nwp
open Go.RowKit Fr Own Pk Ins

/-- the cards from 0 up to n -/
def newF (n : Int) : List Int := if 0 ≤ n ∧ n ≤ 12 then imarks 0 n.toNat else []
theorem newF_yes (m : Nat) (h : m ≤ 12) : newF (m : Int) = imarks 0 m := by unfold newF; rw [if_pos (by omega)]; rfl
theorem newF_no (n : Int) (h : ¬ (0 ≤ n ∧ n ≤ 12)) : newF n = [] := by unfold newF; rw [if_neg h]
theorem newF_len (n : Int) : (newF n).length ≤ 1048576 := by
  unfold newF
  split
  · rw [imarks_length]; omega
  · simp
theorem imarks_snoc (k : Int) (n : Nat) : imarks k (n + 1) = imarks k n ++ [k + (n : Int)] := by simp [imarks, List.range_succ]


end Go.Proofs.Ytibephoepkofnaa.Nwp
