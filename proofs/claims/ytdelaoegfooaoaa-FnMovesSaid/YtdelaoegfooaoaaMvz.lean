/- Which cards a move turns over, counted. -/
import Derived.Test.YtdelaoegfooaoaaPal
set_option linter.unusedVariables false
namespace Go.Proofs.Ytdelaoegfooaoaa.Mvz
open Go.RowKit Fr Own Pk Pl Pok Arr Ins Pfn Mvp Mok2 Pf Pa

/-- how many of the first i cards are turned over -/
def cnt (kd k i : Nat) : Nat := if kd = 3 then min i k else if kd = 8 then (if k < i then 1 else 0) else 0
theorem cnt_zero (kd k : Nat) : cnt kd k 0 = 0 := by
  unfold cnt
  split
  · omega
  · split
    · rw [if_neg (by omega)]
    · rfl
theorem cnt_le (kd k i : Nat) : cnt kd k i ≤ i + 1 := by
  unfold cnt
  split
  · omega
  · split
    · split <;> omega
    · omega
theorem cnt_no {kd k i : Nat} (h : trn kd k i = false) : cnt kd k (i + 1) = cnt kd k i := by
  have h2 : ¬ (kd = 3 ∧ i < k) ∧ ¬ (kd = 8 ∧ i = k) := by
    unfold trn at h
    simp only [Bool.or_eq_false_iff, Bool.and_eq_false_iff, decide_eq_false_iff_not] at h
    omega
  unfold cnt
  split
  · omega
  · split
    · split <;> split <;> omega
    · rfl
theorem cnt_yes {kd k i : Nat} (h : kd = 3 ∧ i < k ∨ kd = 8 ∧ i = k) : cnt kd k (i + 1) = cnt kd k i + 1 := by
  unfold cnt
  rcases h with ⟨rfl, h⟩ | ⟨rfl, h⟩
  · rw [if_pos rfl, if_pos rfl]; omega
  · subst h
    rw [if_neg (by decide), if_pos rfl, if_pos (by omega), if_neg (by decide), if_pos rfl, if_neg (by omega)]
theorem trn_yes {kd k i : Nat} (h : trn kd k i = true) : kd = 3 ∧ i < k ∨ kd = 8 ∧ i = k := by
  unfold trn at h
  simp only [Bool.or_eq_true, Bool.and_eq_true, decide_eq_true_eq] at h
  exact h
theorem cnt_flip {k m : Nat} (h : kOk 3 k m = true) : cnt 3 k m = k := by
  have h1 : k ≤ m := by unfold kOk at h; simpa using h
  unfold cnt
  rw [if_pos rfl]; omega
theorem cnt_turn {k m : Nat} (h : kOk 8 k m = true) : cnt 8 k m = 1 := by
  have h1 : k < m := by unfold kOk at h; simpa using h
  unfold cnt
  rw [if_neg (by decide), if_pos rfl, if_pos h1]
theorem cnt_else {kd k m : Nat} (h3 : kd ≠ 3) (h8 : kd ≠ 8) : cnt kd k m = 0 := by
  unfold cnt
  rw [if_neg h3, if_neg h8]
/-- where a card is after the move, and how -/
theorem turn_step {zs : List Int} {kd k m i : Nat} (hl : zs.length = m) (h : kOk kd k m = true) (hm : 1 ≤ m) (hz : okB zs = true) (hi : i < m) :
    ∃ j, j < m ∧ posF (moveF kd k zs) (cardF (zs.getD i 0)) = (j : Int) ∧
      ((upB ((moveF kd k zs).getD j 0) = upB (zs.getD i 0) ∧ cnt kd k (i + 1) = cnt kd k i) ∨
       ((kd = 3 ∧ i < k ∨ kd = 8 ∧ i = k) ∧ upB ((moveF kd k zs).getD j 0) = !upB (zs.getD i 0) ∧ cnt kd k (i + 1) = cnt kd k i + 1)) := by
  have h12 := (ok_parts hz).1
  have h' : kOk kd k zs.length = true := by rw [hl]; exact h
  obtain ⟨j, hj, e⟩ := src_onto h hm (by omega) hi
  have hlen := move_len h' (by omega) h12
  have hok := move_ok h' (by omega) hz
  have hc := move_card h' (by omega) h12 (j := j) (by omega)
  have hg := move_get h' (by omega) h12 (j := j) (by omega)
  rw [hl, e] at hc hg
  refine ⟨j, hj, by rw [← hc]; exact pos_at hok (by omega), ?_⟩
  cases ht : trn kd k i with
  | false =>
    rw [ht, if_neg (by decide)] at hg
    exact Or.inl ⟨by rw [hg], cnt_no ht⟩
  | true =>
    rw [ht, if_pos rfl] at hg
    exact Or.inr ⟨trn_yes ht, by rw [hg]; exact up_turn ((ok_parts hz).2.1 i (by omega)), cnt_yes (trn_yes ht)⟩
theorem mv_all {zs : List Int} {kd k m : Nat} (hl : zs.length = m) (h : kOk kd k m = true) (hm : 1 ≤ m) (hz : okB zs = true) :
    perfB zs (kd : Int) (k : Int) = true ∧ perfF zs (kd : Int) (k : Int) = moveF kd k zs ∧ (moveF kd k zs).length = m ∧ okB (moveF kd k zs) = true ∧
    mvB (m : Int) (kd : Int) (k : Int) = true ∧ pomF (m : Int) (kd : Int) (k : Int) = srcI kd k m ∧ (srcI kd k m).length = m ∧ arrB zs (moveF kd k zs) = true ∧ betF zs (moveF kd k zs) = srcI kd k m := by
  have h12 := (ok_parts hz).1
  have h' : kOk kd k zs.length = true := by rw [hl]; exact h
  have hmv : mvB (m : Int) (kd : Int) (k : Int) = true := by rw [mvB_some (by omega) (by omega) (by omega) (by omega)]; exact h
  have hb : perfB zs (kd : Int) (k : Int) = true := by unfold perfB; rw [hz, hl, hmv]; rfl
  have hlen := move_len h' (by omega) h12
  refine ⟨hb, by rw [perfF_yes hb]; rfl, by omega, move_ok h' (by omega) hz, hmv, by rw [pomF_yes hmv]; rfl, srcI_len h hm (by omega), move_arr h' (by omega) hz, ?_⟩
  rw [move_bet h' (by omega) hz, hl]
end Go.Proofs.Ytdelaoegfooaoaa.Mvz
