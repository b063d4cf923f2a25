/- Is a code sound (CodeOk of the model)? -/
import Derived.Test.YtefgcnjbiaileaaHnl
import Derived.Test.YtefgcnjbiaileaaHix
import Derived.Deep.QuietTactic
set_option linter.unusedVariables false
set_option maxRecDepth 20000
namespace Go.Proofs.Ytefgcnjbiaileaa.Hco
open Go.RowKit Fr _root_.Go.Proofs.Ytefgcnjbiaileaa.Own Pk Ins Rws Hnd Hno Fnd Hix

/-- a struct of an int and two lists of lists -/
abbrev coV (D : Int) (A : Option Addr) (n c : Nat) (A2 : Option Addr) (m c2 : Nat) : Value := .agg #[.int .i64 D, .slice A n c, .slice A2 m c2]
/-- the first j hands are those of Q, each with a message of its own -/
def coTo (Q Hs Ss : List (List Int)) (j : Nat) : Bool := (List.range j).all fun i => decide (Q.getD i [] = Hs.getD i []) && (shownB (Q.getD i []) (Ss.getD i []) && !decide (Ss.getD i [] ∈ Ss.take i))
def codeB (D : Int) (Hs Ss : List (List Int)) : Bool :=
  decide (1 ≤ D ∧ D ≤ 8) && (decide (1 ≤ Hs.length) && (decide (Ss.length = Hs.length) && (decide (1 ≤ ((Hs.getD 0 []).length : Int) ∧ ((Hs.getD 0 []).length : Int) ≤ D ∧ ((Hs.getD 0 []).length : Int) ≤ 4) &&
    (decide ((handsI D (Hs.getD 0 []).length).length = Hs.length) && coTo (handsI D (Hs.getD 0 []).length) Hs Ss Hs.length))))
theorem co_next (Q Hs Ss : List (List Int)) (j : Nat) : coTo Q Hs Ss (j + 1) = (coTo Q Hs Ss j && (decide (Q.getD j [] = Hs.getD j []) && (shownB (Q.getD j []) (Ss.getD j []) && !decide (Ss.getD j [] ∈ Ss.take j)))) := by
  unfold coTo
  rw [List.range_succ, List.all_append]
  simp
theorem co_more {Q Hs Ss : List (List Int)} {k n : Nat} (hk : k ≤ n) (e : coTo Q Hs Ss k = false) : coTo Q Hs Ss n = false := by
  unfold coTo at *
  rw [Bool.eq_false_iff] at *
  intro e2
  apply e
  rw [List.all_eq_true] at *
  exact fun i hi => e2 i (List.mem_range.2 (Nat.lt_of_lt_of_le (List.mem_range.1 hi) hk))
theorem range3 {W : World} {g : Nat} {x y z : Value} {e : TypeId} (h : W.heap[g]? = some (.cells #[x, y, z] e (0, 0))) : W.rangeAt g 0 [x, y, z] := by
  intro j v hv
  unfold World.cell?
  match j, hv with
  | 0, hv => simp at hv; subst hv; simp [h]
  | 1, hv => simp at hv; subst hv; simp [h]
  | 2, hv => simp at hv; subst hv; simp [h]
  | j + 3, hv => simp at hv
theorem box3 (w : World) (x y z : Value) : ∃ W, W = w.alloc (.cells #[x, y, z] 26) ∧ W.cell? ⟨w.heap.size, 0, none⟩ = some x ∧ W.cell? ⟨w.heap.size, 1, none⟩ = some y ∧ W.cell? ⟨w.heap.size, 2, none⟩ = some z ∧ Below w.heap.size w W ∧ w.heap.size < W.heap.size := by
  have ha := heap_alloc_new w (.cells #[x, y, z] 26)
  exact ⟨_, rfl, range3 ha 0 x rfl, range3 ha 1 y rfl, range3 ha 2 z rfl, box_below' w _, by simp⟩
theorem ll_below {w W : World} {A : Option Addr} {ls : List RD} (h : LL w A ls) (hb : Below w.heap.size w W) : LL W A ls := fun k hk => by
  obtain ⟨b, o, e, hc, hi⟩ := h k hk
  exact ⟨b, o, e, (hb.cell (World.block_lt_of_cell? w _ hc)).trans hc, (hi.below hb).more hb.size⟩
end Go.Proofs.Ytefgcnjbiaileaa.Hco
