/- The results of a choice of a small packet: how many there are, and that they are arrangements of it. -/
import Derived.Test.YtibephoepkofnaaGreatRcx
set_option linter.unusedVariables false
set_option maxRecDepth 20000
namespace Go.Proofs.YtibephoepkofnaaGreat.Rfc
open Fr _root_.Go.Proofs.YtibephoepkofnaaGreat.Own Pk Ins Pl Prm Pfn Pok Arr Mvp Wv Itr Srt Mkr Raf Ro Rcn

theorem cano_nodup (L : List (List Int)) : (cano L).Nodup := by
  have h := cano_sorted L
  rw [List.nodup_iff_pairwise_ne]
  exact h.imp fun {a b} h e => by rw [e, less_irr] at h; cases h
theorem len_nodup {L : List (List Int)} (h : L.Nodup) : (cano L).length = L.length :=
  Nat.le_antisymm ((cano_nodup L).length_le_of_subset fun x hx => (cano_mem L x).1 hx) (h.length_le_of_subset fun x hx => (cano_mem L x).2 hx)
theorem len_map {L : List (List Int)} {g : List Int → List Int} (h : ∀ a ∈ L, ∀ b ∈ L, g a = g b → a = b) : (cano (L.map g)).length = (cano L).length := by
  have hn : ((cano L).map g).Nodup := by
    rw [List.nodup_iff_pairwise_ne, List.pairwise_map]
    have q := cano_nodup L
    rw [List.nodup_iff_pairwise_ne] at q
    exact q.imp_of_mem fun {a b} ha hb hne e => hne (h a ((cano_mem _ _).1 ha) b ((cano_mem _ _).1 hb) e)
  have e : ∀ x, x ∈ cano (L.map g) ↔ x ∈ (cano L).map g := fun x => by
    rw [cano_mem, List.mem_map, List.mem_map]
    exact ⟨fun ⟨a, ha, q⟩ => ⟨a, (cano_mem _ _).2 ha, q⟩, fun ⟨a, ha, q⟩ => ⟨a, (cano_mem _ _).1 ha, q⟩⟩
  have hl : ((cano L).map g).length = (cano L).length := List.length_map ..
  have h1 := (cano_nodup (L.map g)).length_le_of_subset (l₂ := (cano L).map g) fun x hx => (e x).1 hx
  have h2 := hn.length_le_of_subset (l₂ := cano (L.map g)) fun x hx => (e x).2 hx
  omega
theorem as_im (zs : List Int) : (imarks 0 zs.length).map (fun i => zs.getD i.toNat 0) = zs := by
  refine List.ext_getElem (by simp [imarks]) fun i h1 h2 => ?_
  simp [imarks, List.getD_eq_getElem?_getD, List.getElem?_eq_getElem h2]
theorem chk : ((List.range 7).all fun n => n == 0 || decide ((cano (rifI (imarks 0 n))).length = 2 ^ n - n)) = true := by kernel_rfl
theorem map_inj {n : Nat} {f : Int → Int} {a b : List Int} (hf : ∀ x y : Int, 0 ≤ x ∧ x < n → 0 ≤ y ∧ y < n → f x = f y → x = y) (ha : ∀ x ∈ a, 0 ≤ x ∧ x < n) (hb : ∀ x ∈ b, 0 ≤ x ∧ x < n) (h : a.map f = b.map f) : a = b := by
  have hl : a.length = b.length := by have := congrArg List.length h; simpa using this
  refine List.ext_getElem hl fun i h1 h2 => ?_
  have e := congrArg (fun l => l[i]?) h
  simp only [List.getElem?_map, List.getElem?_eq_getElem h1, List.getElem?_eq_getElem h2, Option.map_some, Option.some.injEq] at e
  exact hf _ _ (ha _ (List.getElem_mem _)) (hb _ (List.getElem_mem _)) e
theorem im_mem {n : Nat} {x : Int} (h : x ∈ imarks 0 n) : 0 ≤ x ∧ x < n := by
  unfold imarks at h
  obtain ⟨i, hi, rfl⟩ := List.mem_map.1 h
  have := List.mem_range.1 hi
  omega
theorem rif_count {zs : List Int} (h : okB zs = true) (h1 : 1 ≤ zs.length) (h6 : zs.length ≤ 6) : (cano (rifI zs)).length = 2 ^ zs.length - zs.length := by
  have e : rifI zs = (rifI (imarks 0 zs.length)).map (List.map fun i => zs.getD i.toNat 0) := by
    unfold rifI
    rw [imarks_length, List.map_map]
    refine List.map_congr_left fun w _ => ?_
    have := rif_map (fun i => zs.getD i.toNat 0) (imarks 0 zs.length) (bitsN w zs.length)
    rw [as_im] at this
    exact this
  rw [e, len_map]
  · have q := List.all_eq_true.1 chk zs.length (List.mem_range.2 (by omega))
    have h0 : (zs.length == 0) = false := by simp; intro e; rw [e] at h1; simp at h1
    simp only [h0, Bool.false_or, decide_eq_true_eq] at q
    exact q
  · intro a ha b hb q
    have hp : ∀ a ∈ rifI (imarks 0 zs.length), ∀ x ∈ a, 0 ≤ x ∧ x < (zs.length : Int) := by
      intro a ha x hx
      unfold rifI at ha
      obtain ⟨w, hw, rfl⟩ := List.mem_map.1 ha
      exact im_mem ((rif_perm (bitsN_len _ _)).mem_iff.1 hx)
    refine map_inj (n := zs.length) (fun x y hx hy e => ?_) (hp a ha) (hp b hb) q
    have := (ok_parts h).2.2 x.toNat y.toNat (by omega) (by omega) (by rw [e])
    omega
theorem cut_head {zs : List Int} {k : Nat} (h : k < zs.length) : (moveF 1 k zs).getD 0 0 = zs.getD k 0 := by
  show (pureL 1 k zs).getD 0 0 = _
  have e : pureL 1 k zs = zs.drop k ++ zs.take k := rfl
  rw [e, List.getD_eq_getElem?_getD, List.getElem?_append_left (by rw [List.length_drop]; omega), List.getElem?_drop, Nat.add_zero, List.getD_eq_getElem?_getD]
theorem nodup_range {f : Nat → List Int} {n : Nat} (h : ∀ a b, a < n → b < n → f a = f b → a = b) : ((List.range n).map f).Nodup := by
  rw [List.nodup_iff_pairwise_ne, List.pairwise_map]
  have q : (List.range n).Nodup := List.nodup_range
  rw [List.nodup_iff_pairwise_ne] at q
  exact q.imp_of_mem fun {a b} ha hb hne e => hne (h a b (List.mem_range.1 ha) (List.mem_range.1 hb) e)
theorem cut_count {zs : List Int} (h : okB zs = true) : (cano (cutsF zs)).length = zs.length := by
  have : (cutsF zs).Nodup := nodup_range fun a b ha hb e => by
    have q := congrArg (fun l : List Int => l.getD 0 0) e
    simp only [cut_head ha, cut_head hb] at q
    exact (ok_parts h).2.2 a b ha hb (by rw [q])
  rw [len_nodup this]
  simp [cutsF]
theorem pick_count {zs : List Int} (h : okB zs = true) : (cano (picksF zs)).length = zs.length := by
  have : (picksF zs).Nodup := nodup_range fun a b ha hb e => by
    have q := congrArg (fun l : List Int => l.getD 0 0) e
    have q2 : zs.getD a 0 = zs.getD b 0 := q
    exact (ok_parts h).2.2 a b ha hb (by rw [q2])
  rw [len_nodup this]
  simp [picksF]
theorem cano_one (zs : List Int) : cano [zs] = [zs] := (cano_of (sorted_short (by simp)) fun x => Iff.rfl).symm
/-- how many results there are -/
def wantF (k n : Nat) : Nat := if k = 0 then 1 else if k = 2 then 2 ^ n - n else n
theorem raF_one (k : Int) (zs : List Int) : raF k [zs] = cano (rowsF k zs) := by
  unfold raF
  rw [cano_one]
  simp
theorem ok3 {n : Nat} (h : 2 ≤ n) : kOk 3 2 n = true := by
  unfold kOk
  rw [if_pos (by omega)]
  exact decide_eq_true h
theorem ok1 {n k : Nat} (h : k ≤ n) : kOk 1 k n = true := by
  unfold kOk
  rw [if_pos (by omega)]
  exact decide_eq_true h
theorem want_le {k n : Nat} (h6 : n ≤ 6) : wantF k n ≤ 64 := by
  unfold wantF
  have : 2 ^ n ≤ 2 ^ 6 := Nat.pow_le_pow_right (by decide) h6
  repeat' split
  all_goals omega
theorem res_len {zs : List Int} {k : Nat} (h : okB zs = true) (h1 : 1 ≤ zs.length) (h6 : zs.length ≤ 6) (hk : k ≤ 4) (h3 : k = 3 → 2 ≤ zs.length) : (raF (k : Int) [zs]).length = wantF k zs.length := by
  rw [raF_one]
  rcases (show k = 0 ∨ k = 1 ∨ k = 2 ∨ k = 3 ∨ k = 4 by omega) with rfl | rfl | rfl | rfl | rfl
  · show (cano [zs]).length = _
    rw [cano_one]; rfl
  · exact cut_count h
  · exact rif_count h h1 h6
  · have hk3 := ok3 (h3 rfl)
    have := cut_count (move_ok hk3 h1 h)
    rw [move_len hk3 h1 (by omega)] at this
    exact this
  · exact pick_count h
theorem res_ok {zs : List Int} {k : Nat} (h : okB zs = true) (h1 : 1 ≤ zs.length) (h6 : zs.length ≤ 6) (hk : k ≤ 4) (h3 : k = 3 → 2 ≤ zs.length) : raB (k : Int) [zs] = true := by
  have hl := res_len h h1 h6 hk h3
  have hw := want_le (k := k) h6
  unfold raB goodB
  have h4 : Ck.leastN (k : Int) ≤ zs.length := by
    unfold Ck.leastN
    split
    · have := h3 (by omega); omega
    · omega
  simp only [List.all_cons, List.all_nil, Bool.and_true, Bool.and_eq_true, decide_eq_true_eq]
  exact ⟨⟨⟨by omega, h⟩, h4⟩, by omega⟩
theorem res_no {zs : List Int} (h1 : zs.length < 2) : raB 3 [zs] = false := by
  unfold raB goodB
  have : decide (Ck.leastN 3 ≤ zs.length) = false := decide_eq_false (by have e : Ck.leastN 3 = 2 := rfl; rw [e]; omega)
  rw [List.all_cons, this, Bool.and_false]
  rfl
/-- arrangements -/
theorem arr_of {p q : List Int} (hp : okB p = true) (hq : okB q = true) (hl : p.length = q.length) (h : ∀ i, i < p.length → ∃ j, j < q.length ∧ cardF (q.getD j 0) = cardF (p.getD i 0)) : arrB p q = true := by
  rw [arr_in hp hq hl]
  refine in_all hp hq hl fun i hi => ?_
  obtain ⟨j, hj, e⟩ := h i hi
  rw [← e, pos_at hq hj]
  omega
theorem arr_parts {p q : List Int} (h : arrB p q = true) : okB p = true ∧ okB q = true ∧ p.length = q.length ∧ ∀ i, i < p.length → ∃ j, j < q.length ∧ cardF (q.getD j 0) = cardF (p.getD i 0) := by
  have h' := h
  unfold arrB at h
  simp only [Bool.and_eq_true, decide_eq_true_eq] at h
  obtain ⟨⟨⟨h1, h2⟩, h3⟩, h4⟩ := h
  refine ⟨h1, h2, h3, fun i hi => ?_⟩
  rcases Int.lt_or_le (posF q (cardF (p.getD i 0))) 0 with h5 | h5
  · rw [in_miss h1 h2 h3 i hi h5] at h4; cases h4
  · have h6 := mt (posF_neg q (cardF (p.getD i 0))).2 (by omega)
    rw [Classical.not_forall] at h6
    obtain ⟨j, h7⟩ := h6
    rw [Classical.not_imp, Classical.not_not] at h7
    exact ⟨j, h7.1, h7.2.2⟩
theorem arr_trans {p q r : List Int} (h1 : arrB p q = true) (h2 : arrB q r = true) : arrB p r = true := by
  obtain ⟨a1, a2, a3, a4⟩ := arr_parts h1
  obtain ⟨b1, b2, b3, b4⟩ := arr_parts h2
  refine arr_of a1 b2 (a3.trans b3) fun i hi => ?_
  obtain ⟨j, hj, e⟩ := a4 i hi
  obtain ⟨l, hl, e2⟩ := b4 j hj
  exact ⟨l, hl, e2.trans e⟩
theorem get_mem {q : List Int} {x : Int} (h : x ∈ q) : ∃ j, j < q.length ∧ q.getD j 0 = x := by
  obtain ⟨j, hj, e⟩ := List.getElem_of_mem h
  exact ⟨j, hj, by rw [List.getD_eq_getElem?_getD, List.getElem?_eq_getElem hj]; exact e⟩
theorem mem_get {q : List Int} {j : Nat} (h : j < q.length) : q.getD j 0 ∈ q := by
  rw [List.getD_eq_getElem?_getD, List.getElem?_eq_getElem h]
  exact List.getElem_mem _
theorem arr_perm {p q : List Int} (h : okB p = true) (hp : q.Perm p) : arrB p q = true := by
  have hl := hp.length_eq
  have hpp := ok_parts h
  have hn : (p.map cardF).Nodup := by
    rw [List.nodup_iff_pairwise_ne, List.pairwise_iff_getElem]
    intro i j hi hj hij e
    rw [List.length_map] at hi hj
    rw [List.getElem_map, List.getElem_map] at e
    have := hpp.2.2 i j hi hj (by simp only [List.getD_eq_getElem?_getD, List.getElem?_eq_getElem hi, List.getElem?_eq_getElem hj, Option.getD_some]; exact e)
    omega
  have hn2 : (q.map cardF).Nodup := (hp.map cardF).nodup_iff.2 hn
  rw [List.nodup_iff_pairwise_ne, List.pairwise_iff_getElem] at hn2
  have hlt : ∀ i j, i < j → j < q.length → cardF (q.getD i 0) ≠ cardF (q.getD j 0) := by
    intro i j hij hj e
    refine hn2 i j (by rw [List.length_map]; omega) (by rw [List.length_map]; exact hj) hij ?_
    rw [List.getElem_map, List.getElem_map]
    simp only [List.getD_eq_getElem?_getD, List.getElem?_eq_getElem hj, List.getElem?_eq_getElem (show i < q.length by omega), Option.getD_some] at e
    exact e
  have hq : okB q = true := by
    refine ok_of (by omega) (fun i hi => ?_) (fun i j hi hj e => ?_)
    · obtain ⟨j, hj, e⟩ := get_mem (hp.mem_iff.1 (mem_get hi))
      rw [← e]
      exact hpp.2.1 j hj
    · rcases Nat.lt_trichotomy i j with c | c | c
      · exact absurd e (hlt i j c hj)
      · exact c
      · exact absurd e.symm (hlt j i c hi)
  refine arr_of h hq hl.symm fun i hi => ?_
  obtain ⟨j, hj, e⟩ := get_mem (hp.mem_iff.2 (mem_get hi))
  exact ⟨j, hj, by rw [e]⟩
theorem pick_perm {zs : List Int} {i : Nat} (h : i < zs.length) : (pickOf zs i).Perm zs := by
  unfold pickOf
  have e : zs = zs.take i ++ zs.getD i 0 :: zs.drop (i + 1) := by
    conv => lhs; rw [← List.take_append_drop i zs]
    rw [List.drop_eq_getElem_cons h, List.getD_eq_getElem?_getD, List.getElem?_eq_getElem h]
    rfl
  conv => rhs; rw [e]
  exact List.perm_middle.symm
theorem cuts_arr {zs q : List Int} (h : okB zs = true) (h1 : 1 ≤ zs.length) (hq : q ∈ cutsF zs) : arrB zs q = true := by
  unfold cutsF at hq
  obtain ⟨i, hi, rfl⟩ := List.mem_map.1 hq
  have := List.mem_range.1 hi
  exact move_arr (ok1 (by omega)) h1 h
theorem res_arr {zs q : List Int} {k : Nat} (h : okB zs = true) (h1 : 1 ≤ zs.length) (hk : k ≤ 4) (h3 : k = 3 → 2 ≤ zs.length) (hq : q ∈ rowsF (k : Int) zs) : arrB zs q = true := by
  rcases (show k = 0 ∨ k = 1 ∨ k = 2 ∨ k = 3 ∨ k = 4 by omega) with rfl | rfl | rfl | rfl | rfl
  · have e : q = zs := by
      have q2 : q ∈ [zs] := hq
      simpa using q2
    subst e
    exact arr_perm h (List.Perm.refl _)
  · exact cuts_arr h h1 hq
  · have hq2 : q ∈ rifI zs := hq
    unfold rifI at hq2
    obtain ⟨w, hw, rfl⟩ := List.mem_map.1 hq2
    exact arr_perm h (rif_perm (bitsN_len _ _))
  · have hq2 : q ∈ cutsF (moveF 3 2 zs) := hq
    have hk3 := ok3 (h3 rfl)
    have hl := move_len hk3 h1 (ok_parts h).1
    exact arr_trans (move_arr hk3 h1 h) (cuts_arr (move_ok hk3 h1 h) (by omega) hq2)
  · have hq2 : q ∈ picksF zs := hq
    unfold picksF at hq2
    obtain ⟨i, hi, rfl⟩ := List.mem_map.1 hq2
    exact arr_perm h (pick_perm (List.mem_range.1 hi))
/-- what the law asks of the results, together -/
theorem res_all {zs : List Int} {k : Nat} (h : okB zs = true) (h1 : 1 ≤ zs.length) (h6 : zs.length ≤ 6) (hk : k ≤ 4) (h3 : k = 3 → 2 ≤ zs.length) :
    raB (k : Int) [zs] = true ∧ (raR (k : Int) [zs]).length = wantF k zs.length ∧ cntI (k : Int) zs = (wantF k zs.length : Nat) ∧ ∀ i, i < (raR (k : Int) [zs]).length →
      arrB zs ((raR (k : Int) [zs]).getD i []) = true ∧ isrB (k : Int) zs ((raR (k : Int) [zs]).getD i []) = true ∧ (1 ≤ i → (raR (k : Int) [zs]).getD (i - 1) [] ≠ (raR (k : Int) [zs]).getD i []) := by
  have hb := res_ok h h1 h6 hk h3
  have hr : raR (k : Int) [zs] = raF (k : Int) [zs] := by unfold raR; rw [if_pos hb]
  have hl : (raR (k : Int) [zs]).length = wantF k zs.length := by rw [hr]; exact res_len h h1 h6 hk h3
  refine ⟨hb, hl, ?_, fun i hi => ?_⟩
  · unfold cntI
    rw [if_pos hb, hl]
  · have hm : (raR (k : Int) [zs]).getD i [] ∈ raR (k : Int) [zs] := by
      rw [List.getD_eq_getElem?_getD, List.getElem?_eq_getElem hi]
      exact List.getElem_mem _
    refine ⟨?_, decide_eq_true hm, fun hi1 e => ?_⟩
    · have hm2 := hm
      rw [hr, raF_one] at hm2
      rw [hr, raF_one]
      exact res_arr h h1 hk h3 ((cano_mem _ _).1 hm2)
    · have hs : (raR (k : Int) [zs]).Nodup := by rw [hr, raF_one]; exact cano_nodup _
      rw [List.nodup_iff_pairwise_ne, List.pairwise_iff_getElem] at hs
      refine hs (i - 1) i (by omega) hi (by omega) ?_
      simp only [List.getD_eq_getElem?_getD, List.getElem?_eq_getElem hi, List.getElem?_eq_getElem (show i - 1 < (raR (k : Int) [zs]).length by omega), Option.getD_some] at e
      exact e
end Go.Proofs.YtibephoepkofnaaGreat.Rfc
