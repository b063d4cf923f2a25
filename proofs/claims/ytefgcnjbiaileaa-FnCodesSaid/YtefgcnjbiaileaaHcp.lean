/- CodeOk of the model, the later cases. -/
import Derived.Test.YtefgcnjbiaileaaHco
set_option linter.unusedVariables false
set_option maxRecDepth 20000
namespace Go.Proofs.Ytefgcnjbiaileaa.Hcp
open Go.RowKit Fr _root_.Go.Proofs.Ytefgcnjbiaileaa.Own Pk Ins Rws Sam Hnd Hno Fnd Hix Hco

theorem ll_first {w : World} {A : Option Addr} {ls : List RD} {n : Nat} (h : LL w A ls) (hn : ls.length = n) (h1 : 1 ≤ n) : ∃ b o, A = some ⟨b, o, none⟩ ∧ w.cell? ⟨b, o, none⟩ = some (.slice (ls.getD 0 rd0).A (ls.getD 0 rd0).zs.length (ls.getD 0 rd0).c) := by
  obtain ⟨b, o, e, hc, _⟩ := h 0 (by omega)
  exact ⟨b, o, e, hc⟩
theorem zs_get (rs : List RD) {j : Nat} (h : j < rs.length) : (rs.map RD.zs).getD j [] = (rs.getD j rd0).zs := by
  simp [List.getD_eq_getElem?_getD, List.getElem?_eq_getElem h]
theorem get_take {rs : List RD} {i j : Nat} (h : i < j) : (rs.take j).getD i rd0 = rs.getD i rd0 := by
  simp only [List.getD_eq_getElem?_getD]
  rw [List.getElem?_take, if_pos h]
theorem ll_take {W : World} {A : Option Addr} {rs : List RD} (j : Nat) (h : LL W A rs) : LL W A (rs.take j) := fun i hi => by
  rw [List.length_take] at hi
  rw [get_take (by omega)]
  exact h i (by omega)
theorem hands_row (D : Int) (k j : Nat) : ((handsI D (k : Int)).getD j []).length ≤ 8 := by
  unfold handsI
  split
  · rename_i h
    by_cases hj : j < (handsF D.toNat (k : Int).toNat 0).length
    · rw [List.getD_eq_getElem?_getD, List.getElem?_eq_getElem hj]
      have := hands_each D.toNat (k : Int).toNat 0 _ (List.getElem_mem hj)
      simp only [Option.getD_some]
      omega
    · rw [List.getD_eq_getElem?_getD, List.getElem?_eq_none (by omega)]
      exact Nat.zero_le _
  · simp
end Go.Proofs.Ytefgcnjbiaileaa.Hcp
