/- What is left of what is known after a look at a card or at the sides (SeeCard, SeeSides), of the model. -/
import Derived.Test.YthcggkhpamjjbaaGreatKno
import Derived.Test.YthcggkhpamjjbaaGreatBig
set_option linter.unusedVariables false
set_option maxRecDepth 20000
namespace Go.Proofs.YthcggkhpamjjbaaGreat.Kns
open Go.RowKit Fr _root_.Go.Proofs.YthcggkhpamjjbaaGreat.Own Pk Ins Pok Rws Lb Cat Srt Sst Arr Kno

/-- the packets that fit with what was seen -/
def seeF (f : List Int → Bool) (zss : List (List Int)) : List (List Int) := if knowB zss = true then zss.filter f else []
theorem see_no {f : List Int → Bool} {zss : List (List Int)} (h : knowB zss = false) : seeF f zss = [] := by unfold seeF; rw [h]; rfl
theorem see_yes {f : List Int → Bool} {zss : List (List Int)} (h : knowB zss = true) : seeF f zss = zss.filter f := by unfold seeF; rw [if_pos h]
def cardAt (p card : Int) (zs : List Int) : Bool := decide (0 ≤ p ∧ p < zs.length) && decide (cardF (zs.getD p.toNat 0) = card)
theorem arr_parts {ps qs : List Int} (h : arrB ps qs = true) : okB ps = true ∧ okB qs = true ∧ ps.length = qs.length := by
  unfold arrB at h
  rw [Bool.and_eq_true, Bool.and_eq_true, Bool.and_eq_true] at h
  exact ⟨h.1.1.1, h.1.1.2, of_decide_eq_true h.1.2⟩
/-- each packet of a valid list -/
theorem know_row {ls : List RD} {n : Nat} (hn : ls.length = n) (h : knowB (ls.map RD.zs) = true) (k : Nat) (hk : k < n) : okB (ls.getD k rd0).zs = true ∧ 1 ≤ (ls.getD k rd0).zs.length ∧ (ls.getD k rd0).zs.length ≤ 12 ∧ (ls.getD k rd0).zs.length = (ls.getD 0 rd0).zs.length := by
  obtain ⟨h1, h2, h3, h4⟩ := know_len h
  rw [List.length_map, hn] at h4
  have hs := h4 k hk
  unfold stepB at hs
  rw [Bool.and_eq_true, map_getD, map_getD] at hs
  obtain ⟨q1, q2, q3⟩ := arr_parts hs.1
  rw [map_getD] at h3
  exact ⟨q2, by omega, (okB_yes q2).1, q3.symm⟩
theorem know_few {ls : List RD} {n : Nat} (hn : ls.length = n) (h : knowB (ls.map RD.zs) = true) : 1 ≤ n ∧ n ≤ 3000 := by
  obtain ⟨h1, h2, _⟩ := know_len h
  rw [List.length_map, hn] at h1 h2
  exact ⟨h1, h2⟩
theorem filt_no {f : List Int → Bool} {ls : List RD} {k n : Nat} (hn : ls.length = n) (hk : k < n) (h : f (ls.getD k rd0).zs = false) : ((ls.map RD.zs).take (k + 1)).filter f = ((ls.map RD.zs).take k).filter f := by
  have e : (ls.map RD.zs).take (k + 1) = (ls.map RD.zs).take k ++ [(ls.getD k rd0).zs] := by
    rw [List.take_add_one, List.getElem?_map, List.getElem?_eq_getElem (by omega)]
    simp [List.getD_eq_getElem?_getD, List.getElem?_eq_getElem (show k < ls.length by omega)]
  rw [e, List.filter_append]
  simp only [List.filter_cons, h, List.filter_nil]
  simp
theorem filt_yes {f : List Int → Bool} {ls : List RD} {k n : Nat} (hn : ls.length = n) (hk : k < n) (h : f (ls.getD k rd0).zs = true) : ((ls.map RD.zs).take (k + 1)).filter f = ((ls.map RD.zs).take k).filter f ++ [(ls.getD k rd0).zs] := by
  have e : (ls.map RD.zs).take (k + 1) = (ls.map RD.zs).take k ++ [(ls.getD k rd0).zs] := by
    rw [List.take_add_one, List.getElem?_map, List.getElem?_eq_getElem (by omega)]
    simp [List.getD_eq_getElem?_getD, List.getElem?_eq_getElem (show k < ls.length by omega)]
  rw [e, List.filter_append]
  simp only [List.filter_cons, h, List.filter_nil]
  simp
theorem filt_len {f : List Int → Bool} {zss : List (List Int)} (k : Nat) : ((zss.take k).filter f).length ≤ k := by
  have h1 := List.length_filter_le f (zss.take k)
  rw [List.length_take] at h1
  omega
/-- a row has one more list -/
theorem snoc_zs {ro : List RD} {zss : List (List Int)} {r : RD} {zs : List Int} (h : ro.map RD.zs = zss) (hr : r.zs = zs) : (ro ++ [r]).map RD.zs = zss ++ [zs] := by
  rw [List.map_append, h]
  simp [hr]

theorem tots_filter (f : List Int → Bool) : ∀ l : List (List Int), tots (l.filter f) ≤ tots l
  | [] => Nat.le_refl _
  | x :: l => by
    have ih := tots_filter f l
    rw [List.filter_cons, tots_cons]
    split
    · rw [tots_cons]; omega
    · omega
theorem see_big (f : List Int → Bool) {zss : List (List Int)} (h : Big.BigSS zss) : Big.BigSS (seeF f zss) := by
  unfold seeF
  split
  · exact ⟨Nat.le_trans (List.length_filter_le f zss) h.1, Nat.le_trans (tots_filter f zss) h.2⟩
  · exact ⟨Nat.zero_le _, Nat.zero_le _⟩
def sidesB (up zs : List Int) : Bool := (List.range zs.length).all fun i => upB (zs.getD i 0) == hasB up (i : Int)
theorem sides_yes {up zs : List Int} (h : ∀ i, i < zs.length → upB (zs.getD i 0) = hasB up (i : Int)) : sidesB up zs = true := by
  unfold sidesB
  rw [List.all_eq_true]
  intro i hi
  rw [beq_iff_eq]
  exact h i (List.mem_range.1 hi)
theorem sides_no {up zs : List Int} {i : Nat} (hi : i < zs.length) (h : upB (zs.getD i 0) ≠ hasB up (i : Int)) : sidesB up zs = false := by
  rw [Bool.eq_false_iff]
  intro hs
  unfold sidesB at hs
  rw [List.all_eq_true] at hs
  exact h (beq_iff_eq.1 (hs i (List.mem_range.2 hi)))
end Go.Proofs.YthcggkhpamjjbaaGreat.Kns
