/- The model's moves: l04Back, l04Faro, l04Monge. -/
import Derived.Test.YtioofakdklghpaaMv4
set_option linter.unusedVariables false
set_option maxRecDepth 20000
namespace Go.Proofs.Ytioofakdklghpaa.Sv
open Go.RowKit Fr Own Pk Ins Pfn Rws Lb Cat Mvp Mv1 Mv2 Mv3

theorem sf_all : ((List.range 13).all fun n => (List.range 2).all fun k => sfaroL k (n + 1) ((List.range n).take (n / 2)) ((List.range n).drop (n / 2)) [] == faroL (List.range n) k) = true := by kernel_rfl
theorem sfaro_eq {zs : List Int} {k n : Nat} (hn : zs.length = n) (h12 : n ≤ 12) (hk : k ≤ 1) : sfaroL k (n + 1) (zs.take (n / 2)) (zs.drop (n / 2)) [] = faroL zs k := by
  have h1 := List.all_eq_true.1 sf_all n (List.mem_range.2 (by omega))
  have h2 := List.all_eq_true.1 h1 k (List.mem_range.2 (by omega))
  rw [beq_iff_eq] at h2
  have e := as_range zs
  rw [hn] at e
  rw [e, faro_map, ← h2, ← sfaro_map, List.map_take, List.map_drop]
  rfl
theorem row_nil {w : World} {B : Nat} {A : Option Addr} {n c : Nat} {xs : List Value} (h : w.ownsRow B 3 1 (.slice A n c) n xs) : A = none → c = 0 := by
  intro e
  rcases own_full h with ⟨_, _, h2⟩ | ⟨_, _, h2, _⟩
  · exact h2
  · rw [e] at h2; cases h2
theorem row_spot {w : World} {B : Nat} {A : Option Addr} {n c : Nat} {xs : List Value} (h : w.ownsRow B 3 1 (.slice A n c) n xs) : ∀ a, A = some a → a.spot = none := by
  intro a e
  rcases own_full h with ⟨h2, _, _⟩ | ⟨_, _, h2, _⟩
  · rw [e] at h2; cases h2
  · rw [e] at h2; simp only [Option.some.injEq] at h2; rw [h2]
theorem row_len {w : World} {B : Nat} {A : Option Addr} {n c : Nat} {zs : List Int} (h : w.ownsRow B 3 1 (.slice A n c) n (vals zs)) : zs.length = n := by have := h.1; rw [vals_len] at this; omega
theorem row_end {w w' : World} {A : Option Addr} {n c : Nat} {R : List Int} (h : w'.ownsRow w.heap.size 3 1 (.slice A n c) n (vals R)) (hb : Below w.heap.size w w') : IsIL w.heap.size R w (.returned (.slice A n c)) w' := by
  have hl := row_len h
  subst hl
  exact ⟨A, c, rfl, h, hb⟩

def mapUp (up : Bool) (l : List Int) : List Int := if up then l.map turnF else l
def backTo (up : Bool) (zs : List Int) (k r : Nat) : List Int := mapUp up ((zs.take k).drop r).reverse
theorem back_start (up : Bool) (zs : List Int) (k : Nat) (h : k ≤ zs.length) : backTo up zs k k = [] := by
  unfold backTo mapUp
  rw [List.drop_eq_nil_of_le (by rw [List.length_take]; omega)]
  split <;> rfl
theorem back_next (up : Bool) (zs : List Int) (k m : Nat) (hk : k ≤ zs.length) (hm : m < k) : backTo up zs k m = backTo up zs k (m + 1) ++ [if up then turnF (zs.getD m 0) else zs.getD m 0] := by
  have h1 : m < (zs.take k).length := by rw [List.length_take]; omega
  have h2 : (zs.take k)[m] = zs.getD m 0 := by
    rw [List.getElem_take, List.getD_eq_getElem?_getD, List.getElem?_eq_getElem (by omega)]
    rfl
  unfold backTo mapUp
  rw [List.drop_eq_getElem_cons h1, List.reverse_cons, h2]
  cases up
  · rfl
  · simp
end Go.Proofs.Ytioofakdklghpaa.Sv
