/- Lists of elements: CountUp, PositionOf and SamePacket of the program and of the model, for every list of ints. -/
import Derived.Test.YtioofakdklghpaaPkt
import Derived.Test.YtioofakdklghpaaInts
set_option linter.unusedVariables false
set_option maxRecDepth 20000
namespace Go.Proofs.Ytioofakdklghpaa.Pl
open Go.RowKit Fr Own Pk Ins

/-- how many of the first k elements lie face up -/
def upTo (zs : List Int) : Nat → Nat
  | 0 => 0
  | k + 1 => upTo zs k + (if upB (zs.getD k 0) then 1 else 0)
theorem upTo_le (zs : List Int) (k : Nat) : upTo zs k ≤ k := by
  induction k with
  | zero => exact Nat.le_refl _
  | succ k ih => simp only [upTo]; split <;> omega
theorem upTo_yes (zs : List Int) (k : Nat) (h : upB (zs.getD k 0) = true) : upTo zs (k + 1) = upTo zs k + 1 := by simp only [upTo, h, if_true]
theorem upTo_no (zs : List Int) (k : Nat) (h : upB (zs.getD k 0) = false) : upTo zs (k + 1) = upTo zs k := by simp only [upTo, h]; simp


/-! ### PositionOf -/
/-- the first place from i on, of at most f, that bears the card, or -1 -/
def posFrom (zs : List Int) (card : Int) : Nat → Nat → Int
  | 0, _ => -1
  | f + 1, i => if 0 ≤ card ∧ cardF (zs.getD i 0) = card then (i : Int) else posFrom zs card f (i + 1)
def posF (zs : List Int) (card : Int) : Int := posFrom zs card zs.length 0
theorem posFrom_hit (zs : List Int) (card : Int) (f i : Nat) (h0 : 0 ≤ card) (h : cardF (zs.getD i 0) = card) : posFrom zs card (f + 1) i = i := by
  simp only [posFrom]; rw [if_pos ⟨h0, h⟩]
theorem posFrom_miss (zs : List Int) (card : Int) (f i : Nat) (h : ¬ (0 ≤ card ∧ cardF (zs.getD i 0) = card)) : posFrom zs card (f + 1) i = posFrom zs card f (i + 1) := by
  simp only [posFrom]; rw [if_neg h]
theorem posFrom_range (zs : List Int) (card : Int) (f i : Nat) : -1 ≤ posFrom zs card f i ∧ posFrom zs card f i < (i + f : Nat) := by
  induction f generalizing i with
  | zero => simp only [posFrom]; omega
  | succ f ih =>
    simp only [posFrom]
    split
    · omega
    · have := ih (i + 1); omega
theorem posF_range (zs : List Int) (card : Int) : -1 ≤ posF zs card ∧ posF zs card < zs.length := by
  have := posFrom_range zs card zs.length 0
  unfold posF; omega
theorem posFrom_neg (zs : List Int) (card : Int) (f i : Nat) : posFrom zs card f i < 0 ↔ ∀ j, i ≤ j → j < i + f → ¬ (0 ≤ card ∧ cardF (zs.getD j 0) = card) := by
  induction f generalizing i with
  | zero => simp only [posFrom]; constructor
            · intro _ j h1 h2; omega
            · intro _; omega
  | succ f ih =>
    by_cases h : 0 ≤ card ∧ cardF (zs.getD i 0) = card
    · rw [posFrom_hit zs card f i h.1 h.2]
      constructor
      · intro h1; omega
      · intro h1; exact absurd h (h1 i (Nat.le_refl _) (by omega))
    · rw [posFrom_miss zs card f i h, ih]
      constructor
      · intro h1 j hj1 hj2
        by_cases e : j = i
        · rw [e]; exact h
        · exact h1 j (by omega) (by omega)
      · intro h1 j hj1 hj2
        exact h1 j (by omega) (by omega)
theorem posF_neg (zs : List Int) (card : Int) : posF zs card < 0 ↔ ∀ j, j < zs.length → ¬ (0 ≤ card ∧ cardF (zs.getD j 0) = card) := by
  unfold posF
  rw [posFrom_neg]
  constructor
  · intro h j hj; exact h j (Nat.zero_le _) (by omega)
  · intro h j _ hj; exact h j (by omega)


end Go.Proofs.Ytioofakdklghpaa.Pl
