/- Facts for FnEquivocal: the two forces, their ends, their depths. -/
import Derived.Test.YtjmfdflhplobmaaFes
import Derived.Test.YtjmfdflhplobmaaPff
import Derived.Test.YtjmfdflhplobmaaMkp
set_option linter.unusedVariables false
set_option maxRecDepth 20000
namespace Go.Proofs.Ytjmfdflhplobmaa.Feq
open Go.RowKit Fr _root_.Go.Proofs.Ytjmfdflhplobmaa.Own Pk Ins Pfn Rws Fpl Nod Nob Obc Pfo Frc

/-! ### four objects -/
theorem four_nx {x : Int} {i : Nat} (hi : i < 7) : nx (fourL x) i = if i = 0 then [1, 2] else if i = 1 then [3, 4] else if i = 2 then [5, 6] else [] := by
  have : i = 0 ∨ i = 1 ∨ i = 2 ∨ i = 3 ∨ i = 4 ∨ i = 5 ∨ i = 6 := by omega
  rcases this with e | e | e | e | e | e | e <;> subst e <;> rfl
theorem four_fi {x : Int} {i : Nat} (hi : i < 7) : fi (fourL x) i = if i < 3 then 0 else x := by
  have : i = 0 ∨ i = 1 ∨ i = 2 ∨ i = 3 ∨ i = 4 ∨ i = 5 ∨ i = 6 := by omega
  rcases this with e | e | e | e | e | e | e <;> subst e <;> rfl
theorem four_ok {x : Int} (hx : 0 ≤ x) : OkF (fourL x) where
  pos := by show 1 ≤ 7; omega
  small := by show 7 ≤ 40; omega
  down := by
    intro i hi k hk
    change i < 7 at hi
    show (i : Int) < k ∧ k < 7
    rw [four_nx hi] at hk
    split at hk
    · simp at hk; omega
    · split at hk
      · simp at hk; omega
      · split at hk
        · simp at hk; omega
        · cases hk
  fin := by
    intro i hi
    change i < 7 at hi
    rw [four_fi hi, four_nx hi]
    by_cases h : i < 3
    · rw [if_pos h]; exact ⟨Int.le_refl _, fun _ => rfl⟩
    · rw [if_neg h, if_neg (by omega), if_neg (by omega), if_neg (by omega)]
      exact ⟨hx, fun h => absurd rfl h⟩
  one := by
    intro k h1 h2
    change k < 7 at h2
    show ([1, 2, 3, 4, 5, 6] : List Int).count (k : Int) = 1
    have : k = 1 ∨ k = 2 ∨ k = 3 ∨ k = 4 ∨ k = 5 ∨ k = 6 := by omega
    rcases this with e | e | e | e | e | e <;> subst e <;> decide
theorem sort_same (x : Int) : sortU [x, x, x, x] = [x] ∧ sortU [x, x] = [x] := by
  constructor <;> simp [sortU, insU]
theorem four_leaves (x : Int) : leaves (fourL x) 7 = [x, x, x, x] := rfl
theorem four_forced {x : Int} (hx : 0 ≤ x) : forcedB (fourL x) x = true := by
  unfold forcedB endsI
  rw [ok_yes (four_ok hx)]
  refine decide_eq_true ?_
  show sortU (leaves (fourL x) 7) = [x]
  rw [four_leaves]
  exact (sort_same x).1
theorem four_depth {x : Int} (hx : 0 ≤ x) : depthI (fourL x) = 2 := by
  unfold depthI
  rw [ok_yes (four_ok hx)]
  rfl
theorem four_play {x : Int} (hx : 0 ≤ x) {k : Nat} (hk : k < 4) : ∃ j : Nat, playI (fourL x) [(k : Int) / 2, (k : Int) % 2] = j ∧ playB (fourL x) [(k : Int) / 2, (k : Int) % 2] = true ∧ 3 ≤ j ∧ j < 7 := by
  have h : k = 0 ∨ k = 1 ∨ k = 2 ∨ k = 3 := by omega
  have g : ∀ ws j, playF (fourL x) 0 ws = some j → playI (fourL x) ws = j ∧ playB (fourL x) ws = true := fun ws j e => play_good ((play_ok (four_ok hx) ws).trans e)
  rcases h with e | e | e | e <;> subst e
  · obtain ⟨a, b⟩ := g [0, 0] 3 rfl; exact ⟨3, a, b, by omega, by omega⟩
  · obtain ⟨a, b⟩ := g [0, 1] 4 rfl; exact ⟨4, a, b, by omega, by omega⟩
  · obtain ⟨a, b⟩ := g [1, 0] 5 rfl; exact ⟨5, a, b, by omega, by omega⟩
  · obtain ⟨a, b⟩ := g [1, 1] 6 rfl; exact ⟨6, a, b, by omega, by omega⟩
theorem four_fit {x : Int} (hx : 0 ≤ x ∧ x ≤ 99) : FitN (fourL x) := by
  intro v hv
  simp only [fourL, List.mem_cons, List.not_mem_nil, or_false] at hv
  rcases hv with e | e | e | e | e | e | e <;> subst e <;> refine ⟨?_, by simp only []; omega, by simp only []; omega⟩
  · exact fits_of (by decide)
  · exact fits_of (by decide)
  · exact fits_of (by decide)
  all_goals exact fun i hi => absurd hi (Nat.not_lt_zero _)
/-! ### two -/
def two (a x : Int) : List NV := [⟨sPoint, [1, 2], 0⟩, ⟨sayF (decide (a = x)), [], x⟩, ⟨sayF (decide (x = x)), [], x⟩]
theorem two_nx {a x : Int} {i : Nat} (hi : i < 3) : nx (two a x) i = if i = 0 then [1, 2] else [] := by
  have : i = 0 ∨ i = 1 ∨ i = 2 := by omega
  rcases this with e | e | e <;> subst e <;> rfl
theorem two_fi {a x : Int} {i : Nat} (hi : i < 3) : fi (two a x) i = if i = 0 then 0 else x := by
  have : i = 0 ∨ i = 1 ∨ i = 2 := by omega
  rcases this with e | e | e <;> subst e <;> rfl
theorem two_ok {a x : Int} (hx : 0 ≤ x) : OkF (two a x) where
  pos := by show 1 ≤ 3; omega
  small := by show 3 ≤ 40; omega
  down := by
    intro i hi k hk
    change i < 3 at hi
    show (i : Int) < k ∧ k < 3
    rw [two_nx hi] at hk
    split at hk
    · simp at hk; omega
    · cases hk
  fin := by
    intro i hi
    change i < 3 at hi
    rw [two_fi hi, two_nx hi]
    by_cases h : i = 0
    · rw [if_pos h]; exact ⟨Int.le_refl _, fun _ => rfl⟩
    · rw [if_neg h, if_neg h]
      exact ⟨hx, fun h => absurd rfl h⟩
  one := by
    intro k h1 h2
    change k < 3 at h2
    show ([1, 2] : List Int).count (k : Int) = 1
    have : k = 1 ∨ k = 2 := by omega
    rcases this with e | e <;> subst e <;> decide
theorem two_forced {a x : Int} (hx : 0 ≤ x) : forcedB (two a x) x = true := by
  unfold forcedB endsI
  rw [ok_yes (two_ok hx)]
  refine decide_eq_true ?_
  show sortU (leaves (two a x) 3) = [x]
  rw [show leaves (two a x) 3 = [x, x] from rfl]
  exact (sort_same x).2
theorem two_depth {a x : Int} (hx : 0 ≤ x) : depthI (two a x) = 1 := by
  unfold depthI
  rw [ok_yes (two_ok hx)]
  rfl
theorem two_fit {a x : Int} (hx : 0 ≤ x ∧ x ≤ 99) : FitN (two a x) := by
  intro v hv
  simp only [two, List.mem_cons, List.not_mem_nil, or_false] at hv
  rcases hv with e | e | e <;> subst e <;> refine ⟨?_, by simp only []; omega, by simp only []; omega⟩
  · exact fits_of (by decide)
  all_goals exact fun i hi => absurd hi (Nat.not_lt_zero _)
/-! ### the objects of the law -/
open Prm in
theorem perm_four {zs : List Int} (h : permB zs = true) (hl : zs.length = 4) {j : Nat} (hj : j < 4) : chB zs 4 (zs.getD j 0) = true ∧ 0 ≤ zs.getD j 0 ∧ zs.getD j 0 ≤ 3 ∧ 9 ∉ zs ∧ Fits zs := by
  have h2 := (permB_yes h).2
  have hm : zs.getD j 0 ∈ zs := by rw [List.getD_eq_getElem?_getD, List.getElem?_eq_getElem (by omega)]; exact List.getElem_mem _
  have hb : ∀ i, i < 4 → 0 ≤ zs.getD i 0 ∧ zs.getD i 0 ≤ 3 := fun i hi => by
    have := (h2 i (by omega)).1
    rw [hl] at this
    omega
  refine ⟨?_, (hb j hj).1, (hb j hj).2, fun h9 => ?_, fun i hi => ?_⟩
  · unfold chB okTo
    rw [hl, decide_eq_true rfl, decide_eq_true hm, Bool.and_true, Bool.true_and, List.all_eq_true]
    intro i hi
    have hi4 := List.mem_range.1 hi
    unfold Obc.okAt
    rw [decide_eq_true (p := 0 ≤ zs.getD i 0 ∧ zs.getD i 0 ≤ 99) (by have := hb i hi4; omega), decide_eq_false (h2 i (by omega)).2]
    rfl
  · obtain ⟨i, hi, e⟩ := List.mem_iff_getElem.1 h9
    have := hb i (by omega)
    rw [List.getD_eq_getElem?_getD, List.getElem?_eq_getElem hi, e] at this
    simp at this
  · have := hb i (by omega)
    omega
theorem four_yes {zs : List Int} {x : Int} (h : chB zs 4 x = true) : fourF zs x = fourL x := by unfold fourF; rw [if_pos h]
theorem ch_len {zs : List Int} {n : Nat} {x : Int} (h : zs.length ≠ n) : chB zs n x = false := by unfold chB; rw [decide_eq_false h]; rfl
theorem ch_mem {zs : List Int} {n : Nat} {x : Int} (h : x ∉ zs) : chB zs n x = false := by unfold chB; rw [decide_eq_false h, Bool.and_false]; rfl
theorem two_yes {a x : Int} (ha : 0 ≤ a ∧ a ≤ 3) (hx : 0 ≤ x ∧ x ≤ 3) : chB [a, x + 20] 2 (x + 20) = true ∧ pairF [a, x + 20] (x + 20) = two a (x + 20) := by
  have h : chB [a, x + 20] 2 (x + 20) = true := by
    unfold chB okTo Obc.okAt
    have e1 : (0 ≤ a ∧ a ≤ 99) := by omega
    have e2 : (0 ≤ x + 20 ∧ x + 20 ≤ 99) := by omega
    have e3 : ¬ x + 20 = a := by omega
    simp [List.range_succ, e1, e2, e3]
  refine ⟨h, ?_⟩
  unfold pairF
  rw [if_pos h]
  rfl
end Go.Proofs.Ytjmfdflhplobmaa.Feq
