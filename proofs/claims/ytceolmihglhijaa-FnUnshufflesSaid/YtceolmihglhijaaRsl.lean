/- What the law of the riffles back needs of the plain lists. -/
import Derived.Test.YtceolmihglhijaaRsz
import Derived.Test.YtceolmihglhijaaMvp
set_option linter.unusedVariables false
set_option maxRecDepth 20000
namespace Go.Proofs.Ytceolmihglhijaa.Rsl
open Fr _root_.Go.Proofs.Ytceolmihglhijaa.Own Pk Ins Pl Prm Pfn Pok Arr Orb Cyc Grp Mvp Rsm Rss Rsh Rsw Rsz

theorem okp {zs : List Int} (h : permB zs = true) : okB zs = true := by
  have h12 := (permB_yes h).1
  have hc : ∀ i, i < zs.length → cardF (zs.getD i 0) = ((fOf zs i : Nat) : Int) := fun i hi => by
    have := (bij_of h).lt i hi
    rw [fOf_get h hi, cardF_down (by omega) (by omega)]
  refine ok_of h12 (fun i hi => by rw [hc i hi]; omega) (fun i j hi hj e => ?_)
  rw [hc i hi, hc j hj] at e
  exact (bij_of h).inj i j hi hj (by omega)
theorem bet_to {b zs : List Int} (hb : permB b = true) (h : permB zs = true) (hl : b.length = zs.length) : arrB b zs = true ∧ betF b zs = toF b zs := by
  have h12 := (permB_yes h).1
  have ha : arrB b zs = true := by
    rw [arr_in (okp hb) (okp h) hl]
    refine in_all (okp hb) (okp h) hl fun i hi => ?_
    have := (bij_of hb).lt i hi
    rw [fOf_get hb hi, cardF_down (by omega) (by omega), pos_pv h (by omega)]
    omega
  refine ⟨ha, ?_⟩
  rw [betF_yes ha]
  unfold btwF toF
  refine List.map_congr_left fun x hx => ?_
  have := (perm_mem h x).1 hx
  obtain ⟨v, rfl⟩ : ∃ v : Nat, x = v := ⟨x.toNat, by omega⟩
  rw [cardF_down (by omega) (by omega), pos_pv hb (by omega)]
  rfl
theorem to_isr {zs : List Int} (h : permB zs = true) : isrF (toF (backF zs) zs) = true := by
  rw [isrF_yes (to_nodup (back_perm h) h (back_len zs)), decide_eq_true (to_riffle h)]
theorem first_id {zs : List Int} (h : permB zs = true) : backN (unK zs) zs = imarks 0 zs.length := by
  have hp := backN_perm h (unK zs)
  have hl := backN_len zs (unK zs)
  have hc : cntS (backN (unK zs) zs) ≤ 1 := by
    have := backN_least h (unK zs) (Nat.le_refl _)
    rw [show leastN (cntS zs) - unK zs = 0 from Nat.sub_self _] at this
    exact least_zero.1 this
  have hid := id_of_cnt hp hc
  refine List.ext_getElem (by rw [hl, imarks_length]) fun i h1 h2 => ?_
  have e1 := fOf_get hp h1
  rw [hid i h1] at e1
  have e2 := imarks_get 0 zs.length i (by rw [← hl]; exact h1)
  rw [List.getD_eq_getElem?_getD, List.getElem?_eq_getElem h1, Option.getD_some] at e1
  rw [List.getD_eq_getElem?_getD, List.getElem?_eq_getElem h2, Option.getD_some] at e2
  rw [e1, e2]
  omega
theorem un_get {zs : List Int} (h : permB zs = true) (h0 : zs ≠ []) {i : Nat} (hi : i ≤ unK zs) : (unF zs).getD i [] = backN (unK zs - i) zs := by
  rw [← ptl_zero h h0, ptl]
  have hj : i < unK zs + 1 := by omega
  simp [List.getD_eq_getElem?_getD, hj]
theorem un_len {zs : List Int} (h : permB zs = true) (h0 : zs ≠ []) : (unF zs).length = unK zs + 1 := by rw [← ptl_zero h h0, ptl_len]
theorem least_pos {zs : List Int} (h : permB zs = true) (h0 : zs ≠ []) : 1 ≤ cntS zs ∧ leastF zs = ((unK zs : Nat) : Int) := by
  have hc : cntS zs ≠ 0 := fun e => by
    rcases (cnt_zero zs).1 e with q | q
    · rw [h] at q; cases q
    · exact h0 q
  refine ⟨by omega, ?_⟩
  unfold leastF
  rw [if_neg hc]
  rfl
theorem pow_iff {m k : Nat} (h12 : m ≤ 12) (h1 : 1 ≤ m) (hk : k ≤ leastN m) : (2 ^ k : Nat) < m ↔ k < leastN m := by
  have hl4 := least_le m
  have hkc : k = 0 ∨ k = 1 ∨ k = 2 ∨ k = 3 ∨ k = 4 := by omega
  unfold leastN at hk ⊢
  rcases hkc with rfl | rfl | rfl | rfl | rfl <;> repeat' split at hk <;> repeat' split <;> omega
end Go.Proofs.Ytceolmihglhijaa.Rsl
