/- Stacks, plainly: windows, valid stacks, cuts, the greedy word and shift registers. -/
import Derived.Test.YtkonakfbidnfhaaStk
set_option linter.unusedVariables false
set_option maxRecDepth 20000
namespace Go.Proofs.Ytkonakfbidnfhaa.Skp
open Go.RowKit Fr _root_.Go.Proofs.Ytkonakfbidnfhaa.Own Pk Ins Rws

/-- the window of a cyclic list that begins at a place -/
def winF (zs : List Int) (m a : Nat) : List Int := (List.range m).map fun i => zs.getD ((a + i) % zs.length) 0
theorem winF_len (zs : List Int) (m a : Nat) : (winF zs m a).length = m := by simp [winF]
/-- are the first k windows different from each other? -/
def distB (zs : List Int) (m : Nat) : Nat → Bool
  | 0 => true
  | k + 1 => distB zs m k && decide (winF zs m k ∉ (List.range k).map (winF zs m))
/-- is it a valid stack? -/
def stkB (zs : List Int) (m : Int) : Bool := decide (1 ≤ m ∧ m ≤ 6 ∧ m ≤ zs.length ∧ zs.length ≤ 64) && zs.all (fun x => decide (x = 0 ∨ x = 1)) && distB zs m.toNat zs.length
theorem stk_parts {zs : List Int} {m : Int} (h : stkB zs m = true) : 1 ≤ m ∧ m ≤ 6 ∧ m ≤ zs.length ∧ zs.length ≤ 64 ∧ (∀ x ∈ zs, x = 0 ∨ x = 1) ∧ distB zs m.toNat zs.length = true := by
  unfold stkB at h
  rw [Bool.and_eq_true, Bool.and_eq_true, decide_eq_true_eq, List.all_eq_true] at h
  obtain ⟨⟨⟨h1, h2, h3, h4⟩, h5⟩, h6⟩ := h
  exact ⟨h1, h2, h3, h4, fun x hx => of_decide_eq_true (h5 x hx), h6⟩
def winB (zs : List Int) (m a : Int) : Bool := stkB zs m && decide (0 ≤ a ∧ a < zs.length)
def winA (zs : List Int) (m a : Int) : List Int := if winB zs m a then winF zs m.toNat a.toNat else []
theorem win_short (zs : List Int) (m a : Int) : (winA zs m a).length ≤ 1048576 := by
  unfold winA
  split
  next h =>
    unfold winB at h
    rw [Bool.and_eq_true] at h
    have := (stk_parts h.1).2.1
    rw [winF_len]; omega
  next => exact Nat.zero_le _
/-- the first place from i on, of f, where this window begins, or -1 -/
def findFrom (zs : List Int) (m : Nat) (q : List Int) : Nat → Nat → Int
  | 0, _ => -1
  | f + 1, i => if winF zs m i = q then (i : Int) else findFrom zs m q f (i + 1)
def findI (zs : List Int) (m : Int) (q : List Int) : Int := if stkB zs m then findFrom zs m.toNat q zs.length 0 else -1
def cutB (zs : List Int) (m k : Int) : Bool := winB zs m k
def cutS (zs : List Int) (m k : Int) : List Int := if cutB zs m k then zs.drop k.toNat ++ zs.take k.toNat else []
def cutM (zs : List Int) (m k : Int) : Int := if cutB zs m k then m else 0
theorem cut_short (zs : List Int) (m k : Int) : (cutS zs m k).length ≤ 1048576 := by
  unfold cutS
  split
  next h =>
    unfold cutB winB at h
    rw [Bool.and_eq_true] at h
    have := (stk_parts h.1).2.2.2.1
    simp; omega
  next => exact Nat.zero_le _
end Go.Proofs.Ytkonakfbidnfhaa.Skp
