/- Tricks, plainly: which steps, claims and tricks are valid, which scenes follow by a step, how a run goes, whether a claim holds. -/
import Derived.Test.YtibephoepkofnaaTst
import Derived.Test.YtibephoepkofnaaArr
import Derived.Test.YtibephoepkofnaaMvp
set_option linter.unusedVariables false
set_option maxRecDepth 20000
namespace Go.Proofs.Ytibephoepkofnaa.Tfp
open Go.RowKit Fr _root_.Go.Proofs.Ytibephoepkofnaa.Own Pk Pl Ins Pok Arr Mvp Tst

def choiceB (n k : Int) : Bool := decide (0 ≤ k ∧ k ≤ 4) && (decide (k ≠ 3 ∨ 2 ≤ n) && decide (k ≠ 2 ∨ n ≤ 7))
def stepB (n : Int) (s : SR) : Bool :=
  decide (1 ≤ n ∧ n ≤ 12) && (if s.k = 1 then mvB n s.d s.q && decide (s.a = 0) else if s.k = 2 then decide (s.d = 0 ∧ s.q = 0) && choiceB n s.a else if s.k = 3 then decide (s.d = 0 ∧ s.q = 0) && decide (0 ≤ s.a ∧ s.a < n) else false)
/-- is there a step that notes a card among the first k? -/
def notedB (ss : List SR) (k : Nat) : Bool := (ss.take k).any fun s => decide (s.k = 3)
def claimB (zs : List Int) (x a b : Int) (noted : Bool) : Bool :=
  if x = 0 ∨ x = 4 then decide (a = 0 ∧ b = 0) else if x = 1 then noted && decide (0 ≤ a ∧ a < zs.length ∧ b = 0) else if x = 2 then decide (0 ≤ a ∧ a ≤ zs.length ∧ b = 0) else if x = 3 then decide (0 ≤ posF zs a) && decide (0 ≤ b ∧ b < zs.length) else false
def trickB (zs : List Int) (ss : List SR) (x a b : Int) : Bool :=
  okB zs && (decide (1 ≤ zs.length ∧ ss.length ≤ 12) && ((List.range ss.length).all (fun i => stepB zs.length (ss.getD i sr0)) && claimB zs x a b (notedB ss ss.length)))
/-- a scene: the packet and the noted card -/
abbrev SC := List Int × Int
def countF (ss : List SR) : Nat := (ss.filter fun s => decide (s.k = 2)).length
def holdB (zs : List Int) (x a b : Int) (c : SC) : Bool :=
  if x = 1 then decide (0 ≤ c.2 ∧ posF c.1 c.2 = a) else if x = 2 then decide ((upTo c.1 c.1.length : Int) = a) else if x = 3 then decide (posF c.1 a = b) else if x = 4 then decide (c.1 = zs) else true
end Go.Proofs.Ytibephoepkofnaa.Tfp
