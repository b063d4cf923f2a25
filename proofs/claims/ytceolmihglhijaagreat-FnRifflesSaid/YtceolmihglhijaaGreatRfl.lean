/- What the law of the riffles needs of the plain lists: a permutation is a riffle's result exactly if it has at most two rising sequences; all ways together are 2 to the power of n. -/
import Derived.Test.YtceolmihglhijaaGreatRcx
import Derived.Test.YtceolmihglhijaaGreatRsw
set_option linter.unusedVariables false
set_option maxRecDepth 20000
namespace Go.Proofs.YtceolmihglhijaaGreat.Rfl
open Fr _root_.Go.Proofs.YtceolmihglhijaaGreat.Own Pk Ins Prm Pfn Pok Cyc Wv Srt Mkr Raf Ro Rsm Rsh Rsw

theorem chk1 : ((List.range 8).all fun n => (rifI (imarks 0 n)).all isrF) = true := by kernel_rfl
theorem chk2 : ((List.range 8).all fun n => n == 0 || (decide (((cano (rifI (imarks 0 n))).map waysF).sum = ((2 ^ n : Nat) : Int)) && (cano (rifI (imarks 0 n))).all (fun x => decide (1 ≤ waysF x)))) = true := by kernel_rfl
theorem chk3 : ((List.range 8).all fun n => n == 0 || (raB 2 [imarks 0 n] && decide ((cano (rifI (imarks 0 n))).length = 2 ^ n - n))) = true := by kernel_rfl
theorem at_n {f : Nat → Bool} (h : (List.range 8).all f = true) {n : Nat} (hn : n ≤ 7) : f n = true := List.all_eq_true.1 h n (List.mem_range.2 (by omega))
theorem rif_isr {n : Nat} (hn : n ≤ 7) {q : List Int} (h : q ∈ rifI (imarks 0 n)) : isrF q = true := List.all_eq_true.1 (at_n chk1 hn) q h
theorem ways_sum {n : Nat} (h1 : 1 ≤ n) (hn : n ≤ 7) : ((cano (rifI (imarks 0 n))).map waysF).sum = ((2 ^ n : Nat) : Int) ∧ ∀ x ∈ cano (rifI (imarks 0 n)), 1 ≤ waysF x := by
  have h := at_n chk2 hn
  have h0 : (n == 0) = false := by simp; omega
  simp only [h0, Bool.false_or, Bool.and_eq_true, decide_eq_true_eq, List.all_eq_true] at h
  exact h
theorem res_n {n : Nat} (h1 : 1 ≤ n) (hn : n ≤ 7) : raB 2 [imarks 0 n] = true ∧ (cano (rifI (imarks 0 n))).length = 2 ^ n - n := by
  have h := at_n chk3 hn
  have h0 : (n == 0) = false := by simp; omega
  simp only [h0, Bool.false_or, Bool.and_eq_true, decide_eq_true_eq] at h
  exact h
theorem cano_one (zs : List Int) : cano [zs] = [zs] := (cano_of (sorted_short (by simp)) fun x => Iff.rfl).symm
theorem raR_rif {n : Nat} (h1 : 1 ≤ n) (hn : n ≤ 7) : raR 2 [imarks 0 n] = cano (rifI (imarks 0 n)) := by
  unfold raR
  rw [if_pos (res_n h1 hn).1]
  unfold raF
  rw [cano_one]
  simp [rowsF_2]
theorem ril_filter (p : Int → Bool) : ∀ q : List Int, ril (q.map p) (q.filter p) (q.filter fun x => !p x) = q
  | [] => rfl
  | x :: q => by cases h : p x <;> simp [ril, h, ril_filter p q]
theorem count_filter (p : Int → Bool) : ∀ q : List Int, (q.map p).count true = (q.filter p).length
  | [] => rfl
  | x :: q => by cases h : p x <;> simp [h, count_filter p q]
theorem rif_split {q zs : List Int} (p : Int → Bool) (h : q.filter p ++ q.filter (fun x => !p x) = zs) : rifOf zs (q.map p) = q := by
  unfold rifOf
  rw [count_filter, ← h, List.take_left, List.drop_left]
  exact ril_filter p q
theorem rif_in {q zs : List Int} (p : Int → Bool) (hl : q.length = zs.length) (h : q.filter p ++ q.filter (fun x => !p x) = zs) : q ∈ rifI zs := by
  obtain ⟨w, hw, e⟩ := bits_surj (q.map p)
  rw [List.length_map, hl] at hw e
  unfold rifI
  exact List.mem_map.2 ⟨w, List.mem_range.2 hw, by rw [e]; exact rif_split p h⟩
theorem is_id {q : List Int} (h : permB q = true) (hc : cntS q ≤ 1) : q = imarks 0 q.length := by
  have hid := id_of_cnt h hc
  refine List.ext_getElem (by rw [imarks_length]) fun i h1 h2 => ?_
  have e1 := fOf_get h h1
  rw [hid i h1] at e1
  have e2 := imarks_get 0 q.length i h1
  rw [List.getD_eq_getElem?_getD, List.getElem?_eq_getElem h1, Option.getD_some] at e1
  rw [List.getD_eq_getElem?_getD, List.getElem?_eq_getElem h2, Option.getD_some] at e2
  rw [e1, e2]
  omega
theorem isr_parts {q : List Int} (h : isrF q = true) : permB q = true ∧ cntS q ≤ 2 := by
  unfold isrF at h
  simp only [Bool.and_eq_true, decide_eq_true_eq] at h
  exact h
theorem isr_rif {n : Nat} {q : List Int} (hl : q.length = n) (h : isrF q = true) : q ∈ rifI (imarks 0 n) := by
  obtain ⟨hp, hc⟩ := isr_parts h
  by_cases h1 : cntS q ≤ 1
  · have e := is_id hp h1
    refine rif_in (fun _ => true) (by rw [imarks_length]; exact hl) ?_
    rw [List.filter_eq_self.2 (fun _ _ => rfl), List.filter_eq_nil_iff.2 (fun _ _ => by simp), List.append_nil, ← hl]
    exact e
  · have h2 : cntS q = 2 := by omega
    have hb := backN_least hp 1 (by rw [h2]; decide)
    rw [h2] at hb
    have hz : cntS (backF q) ≤ 1 := least_zero.1 hb
    have e := is_id (back_perm hp) hz
    rw [back_len, hl] at e
    exact rif_in (evB q) (by rw [imarks_length]; exact hl) e
theorem isr_same {n : Nat} (h1 : 1 ≤ n) (hn : n ≤ 7) {q : List Int} (hl : q.length = n) : isrB 2 (imarks 0 n) q = isrF q := by
  unfold isrB
  rw [raR_rif h1 hn]
  cases h : isrF q with
  | true => exact decide_eq_true ((cano_mem _ _).2 (isr_rif hl h))
  | false =>
    refine decide_eq_false fun hm => ?_
    have := rif_isr hn ((cano_mem _ _).1 hm)
    rw [h] at this
    cases this
/-- the lengths of the rising sequences -/
def lens (L : List (List Int)) (i : Nat) : Nat := ((L.take i).map List.length).sum
theorem lens_zero (L : List (List Int)) : lens L 0 = 0 := by simp [lens]
theorem lens_succ (L : List (List Int)) {i : Nat} (h : i < L.length) : lens L (i + 1) = lens L i + (L.getD i []).length := by
  unfold lens
  rw [List.take_add_one, List.getElem?_eq_getElem h, Option.toList_some, List.map_append, List.sum_append, List.getD_eq_getElem?_getD, List.getElem?_eq_getElem h, Option.getD_some]
  simp only [List.map_cons, List.map_nil, List.sum_cons, List.sum_nil]
  omega
theorem lens_mono (L : List (List Int)) {i j : Nat} (h : i ≤ j) : lens L i ≤ lens L j := by
  unfold lens
  obtain ⟨t, rfl⟩ : ∃ t, j = i + t := ⟨j - i, by omega⟩
  rw [List.take_add, List.map_append, List.sum_append]
  omega
theorem rs_sum (b : Nat → Bool) : ∀ n, ((rsF b n).map List.length).sum = n
  | 0 => rfl
  | n + 1 => by
    have ih := rs_sum b n
    simp only [rsF]
    split
    · simp [ih]
    · rcases List.eq_nil_or_concat (rsF b n) with e | ⟨L, r, e⟩
      · rw [e] at ih ⊢
        simp at ih
        simp [← ih]
      · rw [e] at ih ⊢
        simp at ih ⊢
        omega
theorem rise_sum {q : List Int} (h : permB q = true) : lens (riseI q) (riseI q).length = q.length := by
  unfold lens
  rw [List.take_length, riseI_yes h, List.map_map]
  have : (List.length ∘ ints) = List.length := funext fun l => ints_len l
  rw [this]
  exact rs_sum _ _
/-- the ways of the first results -/
def wsum (L : List (List Int)) (i : Nat) : Int := ((L.take i).map waysF).sum
theorem wsum_zero (L : List (List Int)) : wsum L 0 = 0 := by simp [wsum]
theorem wsum_succ (L : List (List Int)) {i : Nat} (h : i < L.length) : wsum L (i + 1) = wsum L i + waysF (L.getD i []) := by
  unfold wsum
  rw [List.take_add_one, List.getElem?_eq_getElem h, Option.toList_some, List.map_append, List.sum_append, List.getD_eq_getElem?_getD, List.getElem?_eq_getElem h, Option.getD_some]
  simp only [List.map_cons, List.map_nil, List.sum_cons, List.sum_nil]
  omega
theorem wsum_all (L : List (List Int)) : wsum L L.length = (L.map waysF).sum := by unfold wsum; rw [List.take_length]
theorem ways_bd {q : List Int} (h : q.length ≤ 12) : 0 ≤ waysF q ∧ waysF q ≤ 13 := by
  unfold waysF
  split
  · split <;> omega
  · omega
theorem wsum_bd {L : List (List Int)} (h : ∀ x ∈ L, x.length ≤ 12) : ∀ i, i ≤ L.length → 0 ≤ wsum L i ∧ wsum L i ≤ 13 * i
  | 0, _ => by rw [wsum_zero]; omega
  | i + 1, hi => by
    have ih := wsum_bd h i (by omega)
    rw [wsum_succ L (by omega)]
    have := ways_bd (h (L.getD i []) (by rw [List.getD_eq_getElem?_getD, List.getElem?_eq_getElem (by omega : i < L.length)]; exact List.getElem_mem _))
    omega
theorem im_ok {n : Nat} (hn : n ≤ 12) : permB (imarks 0 n) = true := by
  have : ((List.range 13).all fun n => permB (imarks 0 n)) = true := by kernel_rfl
  exact List.all_eq_true.1 this n (List.mem_range.2 (by omega))
theorem ok_im {n : Nat} (hn : n ≤ 12) : okB (imarks 0 n) = true := by
  have : ((List.range 13).all fun n => okB (imarks 0 n)) = true := by kernel_rfl
  exact List.all_eq_true.1 this n (List.mem_range.2 (by omega))
theorem rif_len {n : Nat} {q : List Int} (h : q ∈ rifI (imarks 0 n)) : q.length = n := by
  unfold rifI at h
  obtain ⟨w, hw, rfl⟩ := List.mem_map.1 h
  rw [(rif_perm (bitsN_len _ _)).length_eq, imarks_length]
end Go.Proofs.YtceolmihglhijaaGreat.Rfl
