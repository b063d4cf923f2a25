/- Permutations form a group: what the law of the group needs of composing, inverting, the order, the cycles and the parity. Plain mathematics on lists. -/
import Derived.Test.YtibephoepkofnaaOrd
import Derived.Test.YtibephoepkofnaaPar
set_option linter.unusedVariables false
set_option maxRecDepth 20000
namespace Go.Proofs.Ytibephoepkofnaa.Grp
open Go.RowKit Fr Own Pk Ins Pok Prm Rws Orb Cyc Pfn Sam Go.Proofs.Ytibephoepkofnaa.Ord

theorem perm_of {zs : List Int} (h1 : zs.length ≤ 12) (h2 : ∀ x, x < zs.length → 0 ≤ zs.getD x 0) (h3 : Bij (fOf zs) zs.length) : permB zs = true := by
  refine permB_all h1 fun k hk => ⟨⟨h2 k hk, ?_⟩, fun hm => ?_⟩
  · have := h3.lt k hk
    have := h2 k hk
    unfold fOf at *
    omega
  · obtain ⟨i, hi, e⟩ := List.mem_take_iff_getElem.1 hm
    have hik : i < k := by omega
    have e2 : zs.getD i 0 = zs.getD k 0 := by rw [← e, List.getD_eq_getElem?_getD, List.getElem?_eq_getElem (by omega)]; rfl
    have := h3.inj i k (by omega) hk (by unfold fOf; rw [e2])
    omega
theorem eq_of {us vs : List Int} (hl : us.length = vs.length) (hu : permB us = true) (hv : permB vs = true) (h : ∀ x, x < us.length → fOf us x = fOf vs x) : us = vs := by
  refine same_all us vs hl fun i hi => ?_
  rw [fOf_get hu hi, fOf_get hv (by omega), h i hi]
/-- every number is met -/
theorem onto {f : Nat → Nat} {n : Nat} (h : Bij f n) {v : Nat} (hv : v < n) : ∃ i, i < n ∧ f i = v := by
  obtain ⟨h1, h2, h3, h4⟩ := per_spec h hv
  refine ⟨it f (per f n v - 1) v, it_lt h _ hv, ?_⟩
  rw [← it_succ f, show per f n v - 1 + 1 = per f n v by omega]
  exact h3

/-! ### composing -/
theorem comp_f {us bs : List Int} (hb : permB bs = true) (x : Nat) (hx : x < bs.length) : fOf (joinF us bs) x = fOf us (fOf bs x) := by
  unfold fOf
  rw [joinF_get us bs x hx]
theorem comp_perm {us bs : List Int} (hu : permB us = true) (hb : permB bs = true) (hl : us.length = bs.length) : permB (joinF us bs) = true := by
  have h1 := bij_of hu
  have h2 := bij_of hb
  rw [hl] at h1
  refine perm_of (by rw [joinF_len]; exact perm_short hb) (fun x hx => ?_) ?_
  · rw [joinF_len] at hx
    rw [joinF_get us bs x hx, ← show fOf bs x = (bs.getD x 0).toNat from rfl, fOf_get hu (by rw [hl]; exact h2.lt x hx)]
    exact Int.natCast_nonneg _
  · rw [joinF_len]
    exact bij_congr (bij_comp h1 h2) fun x hx => (comp_f hb x hx).symm
theorem compB_yes {us bs : List Int} (hu : permB us = true) (hb : permB bs = true) (hl : us.length = bs.length) : compB us bs = true := by
  unfold compB; rw [hu, hb, decide_eq_true hl]; rfl

/-! ### inverting -/
theorem getD_set_self {zs : List Int} {i : Nat} {x : Int} (h : i < zs.length) : (zs.set i x).getD i 0 = x := by
  simp [List.getD_eq_getElem?_getD, h]
theorem getD_set_other {zs : List Int} {i j : Nat} {x : Int} (h : i ≠ j) : (zs.set i x).getD j 0 = zs.getD j 0 := by
  simp [List.getD_eq_getElem?_getD, List.getElem?_set_ne h]
theorem inv_at {zs : List Int} (h : permB zs = true) (k : Nat) (hk : k ≤ zs.length) : ∀ i, i < k → (invTo zs k).getD (fOf zs i) 0 = (i : Int) := by
  have hb := bij_of h
  induction k with
  | zero => intro i hi; omega
  | succ k ih =>
    intro i hi
    show ((invTo zs k).set (fOf zs k) (k : Int)).getD (fOf zs i) 0 = _
    by_cases e : i = k
    · subst e
      exact getD_set_self (by rw [invTo_len]; exact hb.lt i (by omega))
    · rw [getD_set_other (fun e2 => e (hb.inj _ _ (by omega) (by omega) e2.symm))]
      exact ih (by omega) i (by omega)
theorem inv_f {zs : List Int} (h : permB zs = true) (i : Nat) (hi : i < zs.length) : fOf (invF zs) (fOf zs i) = i := by
  rw [invF_yes h]
  show ((invTo zs zs.length).getD (fOf zs i) 0).toNat = i
  rw [inv_at h _ (Nat.le_refl _) i hi]; rfl
theorem invF_len {zs : List Int} (h : permB zs = true) : (invF zs).length = zs.length := by rw [invF_yes h, invTo_len]
theorem inv_perm {zs : List Int} (h : permB zs = true) : permB (invF zs) = true := by
  have hb := bij_of h
  have hl := invF_len h
  refine perm_of (by rw [hl]; exact perm_short h) (fun x hx => ?_) ⟨fun x hx => ?_, fun x y hx hy e => ?_⟩
  · rw [hl] at hx
    obtain ⟨i, hi, rfl⟩ := onto hb hx
    rw [invF_yes h, inv_at h _ (Nat.le_refl _) i hi]
    exact Int.natCast_nonneg _
  · rw [hl] at hx ⊢
    obtain ⟨i, hi, rfl⟩ := onto hb hx
    rw [inv_f h i hi]; exact hi
  · rw [hl] at hx hy
    obtain ⟨i, hi, rfl⟩ := onto hb hx
    obtain ⟨j, hj, rfl⟩ := onto hb hy
    rw [inv_f h i hi, inv_f h j hj] at e
    rw [e]

/-! ### the law's facts -/
section
variable {a b : List Int} {n : Nat}
theorem law_inv (ha : permB a = true) (hb : permB b = true) (hal : a.length = n) (hbl : b.length = n) : invF (joinF a b) = joinF (invF b) (invF a) := by
  have hc := comp_perm ha hb (by omega)
  have hcl := joinF_len a b
  have hia := inv_perm ha
  have hib := inv_perm hb
  have hw := comp_perm hib hia (by rw [invF_len ha, invF_len hb]; omega)
  refine eq_of (by rw [invF_len hc, joinF_len, joinF_len, invF_len ha]; omega) (inv_perm hc) hw fun x hx => ?_
  rw [invF_len hc] at hx
  obtain ⟨i, hi, rfl⟩ := onto (bij_of hc) hx
  rw [inv_f hc i hi]
  rw [hcl] at hi
  have hbi := (bij_of hb).lt i hi
  rw [comp_f hb i hi, comp_f hia _ (by rw [invF_len ha]; exact (bij_of ha).lt _ (by omega)), inv_f ha _ (by omega), inv_f hb i hi]
theorem id_get (n x : Nat) (hx : x < n) : (imarks 0 n).getD x 0 = (x : Int) := by rw [imarks_get 0 n x hx]; omega
theorem law_id (hc : permB a = true) (hl : a.length = n) : joinF a (invF a) = imarks 0 n := by
  refine same_all _ _ (by rw [joinF_len, imarks_length, invF_len hc, hl]) fun v hv => ?_
  rw [joinF_len, invF_len hc] at hv
  have hi := inv_perm hc
  have hp := comp_perm hc hi (by rw [invF_len hc])
  rw [fOf_get hp (by rw [joinF_len, invF_len hc]; exact hv), comp_f hi v (by rw [invF_len hc]; exact hv)]
  obtain ⟨i, hi2, rfl⟩ := onto (bij_of hc) hv
  rw [inv_f hc i hi2, id_get n _ (by rw [← hl]; exact (bij_of hc).lt i hi2)]
theorem ord_dvd (ha : permB a = true) : ∀ l ∈ (cycI a).map List.length, 1 ≤ l ∧ l ∣ ordF a := by
  intro l hl
  refine ⟨(cyc_bd ha l hl).1, ?_⟩
  rw [← cyc_lens ha]
  exact (lcmL_dvd _ _).1 (Nat.dvd_refl _) l hl
theorem dvd_840 : ∀ m, 1 ≤ m → m ≤ 8 → m ∣ 840 := by
  intro m h1 h2
  rcases (show m = 1 ∨ m = 2 ∨ m = 3 ∨ m = 4 ∨ m = 5 ∨ m = 6 ∨ m = 7 ∨ m = 8 by omega) with e | e | e | e | e | e | e | e <;> subst e <;> decide
theorem ord_840 (ha : permB a = true) (h8 : a.length ≤ 8) : 1 ≤ ordF a ∧ ordF a ≤ 840 := by
  have h1 := (ord_small ha).1
  rw [← ordF_yes ha] at h1
  refine ⟨h1, Nat.le_of_dvd (by omega) ?_⟩
  rw [← cyc_lens ha, lcmL_dvd]
  intro l hl
  have hb := (cyc_bd ha l hl).1
  rw [cycI_yes ha, List.map_map] at hl
  obtain ⟨c, hc, rfl⟩ := List.mem_map.1 hl
  have := cyc_len (bij_of ha) (Nat.le_refl _) hc
  simp only [Function.comp, ints_len] at *
  exact dvd_840 _ (by omega) (by omega)
theorem law_pow (ha : permB a = true) (hl : a.length = n) : powTo a (ordF a) = imarks 0 n := by
  have h := pow_same ha (ordF a)
  rw [ordF_yes ha, decide_eq_true (Nat.dvd_refl _)] at h
  rw [ordF_yes ha, of_decide_eq_true h]
  show imarks 0 a.length = _
  rw [hl]
/-- all points are marked in the end, each once -/
def sumL (ls : List Nat) : Nat := ls.foldl (· + ·) 0
theorem foldl_add (ls : List Nat) (m : Nat) : ls.foldl (· + ·) m = m + ls.foldl (· + ·) 0 := by
  induction ls generalizing m with
  | nil => simp
  | cons x ls ih => rw [List.foldl_cons, List.foldl_cons, ih, ih (0 + x)]; omega
theorem sumL_snoc (ls : List Nat) (x : Nat) : sumL (ls ++ [x]) = sumL ls + x := by
  unfold sumL; rw [List.foldl_append]; rfl
theorem cnt_mid {f : Nat → Nat} (h : Bij f n) {k : Nat} (hk : k < n) (hl : lead f n k = true) (t : Nat) (ht : t ≤ per f n k) : cnt (mid f n k t) n = cnt (old f n k) n + t := by
  induction t with
  | zero => exact cnt_congr fun x _ => mid_zero f n k x
  | succ t ih =>
    have h1 := ih (by omega)
    have hf := mid_free h hk hl (show t < per f n k by omega)
    have h2 : cnt (mid f n k t) n + 1 = cnt (mid f n k (t + 1)) n := by
      refine cnt_less (m := it f t k) (fun x hx => ?_) (it_lt h t hk) ?_
      · rw [mid_next f n k t x (by omega), Bool.or_eq_true, decide_eq_true_eq]
        constructor
        · intro hm
          exact ⟨Or.inl hm, fun e => by rw [e, hf] at hm; cases hm⟩
        · rintro ⟨hm | hm, hne⟩
          · exact hm
          · exact absurd hm hne
      · rw [mid_next f n k t _ (by omega), decide_eq_true rfl, Bool.or_true]
    omega
theorem cnt_old {f : Nat → Nat} (h : Bij f n) (k : Nat) (hk : k ≤ n) : cnt (old f n k) n = sumL ((cycTo f n k).map List.length) := by
  induction k with
  | zero =>
    have : cnt (old f n 0) n = cnt (fun _ => false) n := cnt_congr fun x _ => old_zero f n x
    rw [this]
    have : ∀ m, cnt (fun _ => false) m = 0 := by
      intro m
      induction m with
      | zero => rfl
      | succ m ih => rw [cnt_succ, ih]; rfl
    exact this n
  | succ k ih =>
    have h1 := ih (by omega)
    cases hl : lead f n k with
    | false =>
      rw [cycTo_no hl, ← h1]
      exact cnt_congr fun x _ => old_stay h (by omega) hl x
    | true =>
      rw [cycTo_yes hl, List.map_append, List.map_cons, List.map_nil, sumL_snoc, orb_len, ← h1]
      have h2 := cnt_mid h (show k < n by omega) hl (per f n k) (Nat.le_refl _)
      rw [← h2]
      exact (cnt_congr fun x _ => mid_all h (by omega) x).symm
theorem law_sum (ha : permB a = true) (hl : a.length = n) : sumL ((cycI a).map List.length) = n := by
  have hb := bij_of ha
  rw [cycI_yes ha, List.map_map]
  have e : (cycTo (fOf a) a.length a.length).map (List.length ∘ ints) = (cycTo (fOf a) a.length a.length).map List.length := List.map_congr_left fun l _ => by simp [ints_len]
  rw [e, ← cnt_old hb a.length (Nat.le_refl _)]
  have h1 : cnt (old (fOf a) a.length a.length) a.length = cnt (fun _ => true) a.length := cnt_congr fun x hx => by
    rw [old_iff hb (Nat.le_refl _)]
    exact ⟨x, hx, rel_refl _ x⟩
  have h2 : ∀ m, cnt (fun _ => true) m = m := by
    intro m
    induction m with
    | zero => rfl
    | succ m ih => rw [cnt_succ, ih]; rfl
  rw [h1, h2, hl]
theorem even_ev (ha : permB a = true) : evenF a = ev (fOf a) a.length := by
  rw [evenF_yes ha]
  unfold ev
  rw [orbs_cyc, cycI_yes ha, List.length_map, Bool.eq_iff_iff, decide_eq_true_eq, beq_iff_eq]
  exact Nat.dvd_iff_mod_eq_zero ..
theorem law_even (ha : permB a = true) (hb : permB b = true) (hal : a.length = n) (hbl : b.length = n) : evenF (joinF a b) = (evenF a == evenF b) := by
  have hc := comp_perm ha hb (by omega)
  rw [even_ev hc, even_ev ha, even_ev hb, joinF_len, hal, hbl]
  have h1 := bij_of ha
  have h2 := bij_of hb
  rw [hal] at h1
  rw [hbl] at h2
  rw [← even_comp h1 h2]
  exact (ev_congr (bij_comp h1 h2) fun x hx => (comp_f hb x (by omega)).symm).symm
end

/-! ### drawing a permutation -/
/-- one more number is mixed in -/
def shuf (zs : List Int) (at_ : Nat) : List Int := ((zs ++ [(zs.length : Int)]).set zs.length ((zs ++ [(zs.length : Int)]).getD at_ 0)).set at_ (zs.length : Int)
theorem shuf_len (zs : List Int) (k : Nat) : (shuf zs k).length = zs.length + 1 := by simp [shuf]
theorem shuf_get {zs : List Int} {k : Nat} (hk : k ≤ zs.length) (x : Nat) (hx : x < zs.length + 1) : (shuf zs k).getD x 0 = if x = k then (zs.length : Int) else if x = zs.length then zs.getD k 0 else zs.getD x 0 := by
  unfold shuf
  by_cases h1 : x = k
  · subst h1
    rw [if_pos rfl]
    exact getD_set_self (by simp; omega)
  · rw [if_neg h1, getD_set_other (fun e => h1 e.symm)]
    by_cases h2 : x = zs.length
    · subst h2
      rw [if_pos rfl, getD_set_self (by simp)]
      simp only [List.getD_eq_getElem?_getD]
      rw [List.getElem?_append_left (by omega)]
    · rw [if_neg h2, getD_set_other (fun e => h2 e.symm)]
      simp only [List.getD_eq_getElem?_getD]
      rw [List.getElem?_append_left (by omega)]
theorem shuf_perm {zs : List Int} {k : Nat} (h : permB zs = true) (h12 : zs.length < 12) (hk : k ≤ zs.length) : permB (shuf zs k) = true := by
  have hb := bij_of h
  have hget := fun x (hx : x < zs.length) => fOf_get h hx
  have hf : ∀ x, x < zs.length + 1 → fOf (shuf zs k) x = if x = k then zs.length else if x = zs.length then fOf zs k else fOf zs x := by
    intro x hx
    unfold fOf
    rw [shuf_get hk x hx]
    split
    · rfl
    · split <;> rfl
  refine perm_of (by rw [shuf_len]; omega) (fun x hx => ?_) ⟨fun x hx => ?_, fun x y hx hy e => ?_⟩
  · rw [shuf_len] at hx
    rw [shuf_get hk x hx]
    split
    · exact Int.natCast_nonneg _
    · split
      · rw [hget k (by omega)]; exact Int.natCast_nonneg _
      · rw [hget x (by omega)]; exact Int.natCast_nonneg _
  · rw [shuf_len] at hx ⊢
    rw [hf x hx]
    split
    · omega
    · split
      · have := hb.lt k (by omega); omega
      · have := hb.lt x (by omega); omega
  · rw [shuf_len] at hx hy
    rw [hf x hx, hf y hy] at e
    by_cases x1 : x = k
    · by_cases y1 : y = k
      · omega
      · rw [if_pos x1, if_neg y1] at e
        by_cases y2 : y = zs.length
        · rw [if_pos y2] at e; have := hb.lt k (by omega); omega
        · rw [if_neg y2] at e; have := hb.lt y (by omega); omega
    · rw [if_neg x1] at e
      by_cases x2 : x = zs.length
      · rw [if_pos x2] at e
        by_cases y1 : y = k
        · rw [if_pos y1] at e; have := hb.lt k (by omega); omega
        · rw [if_neg y1] at e
          by_cases y2 : y = zs.length
          · omega
          · rw [if_neg y2] at e
            have := hb.inj k y (by omega) (by omega) e
            omega
      · rw [if_neg x2] at e
        by_cases y1 : y = k
        · rw [if_pos y1] at e; have := hb.lt x (by omega); omega
        · rw [if_neg y1] at e
          by_cases y2 : y = zs.length
          · rw [if_pos y2] at e
            have := hb.inj x k (by omega) (by omega) e
            omega
          · rw [if_neg y2] at e
            exact hb.inj x y (by omega) (by omega) e
theorem perm_nil : permB [] = true := rfl
end Go.Proofs.Ytibephoepkofnaa.Grp
