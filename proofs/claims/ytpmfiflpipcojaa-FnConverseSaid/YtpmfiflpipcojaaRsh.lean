/- One riffle back: the cards of the even rising sequences ahead of the others. Half of the sequences, rounded up, are left; what leads from there is a riffle. -/
import Derived.Test.YtpmfiflpipcojaaRsm
set_option linter.unusedVariables false
set_option maxRecDepth 20000
namespace Go.Proofs.Ytpmfiflpipcojaa.Rsh
open Fr _root_.Go.Proofs.Ytpmfiflpipcojaa.Own Prm Pfn Orb Cyc Grp Rsm

/-- one element ahead of another -/
theorem sub_idx {u v : Int} : ∀ {l : List Int}, [u, v].Sublist l → ∃ i j : Nat, i < j ∧ l[i]? = some u ∧ l[j]? = some v := by
  intro l
  induction l with
  | nil => intro h; cases h
  | cons x l ih =>
    intro h
    cases h with
    | cons _ h =>
      obtain ⟨i, j, h1, h2, h3⟩ := ih h
      exact ⟨i + 1, j + 1, by omega, by simpa using h2, by simpa using h3⟩
    | cons_cons _ h =>
      have hm := List.singleton_sublist.1 h
      obtain ⟨j, hj⟩ := List.mem_iff_getElem?.1 hm
      exact ⟨0, j + 1, by omega, rfl, by simpa using hj⟩
theorem idx_sub {u v : Int} : ∀ {l : List Int} {i j : Nat}, i < j → l[i]? = some u → l[j]? = some v → [u, v].Sublist l := by
  intro l
  induction l with
  | nil => intro i j _ h; simp at h
  | cons x l ih =>
    intro i j hij h1 h2
    obtain ⟨j, rfl⟩ : ∃ j', j = j' + 1 := ⟨j - 1, by omega⟩
    have h2' : l[j]? = some v := by simpa using h2
    cases i with
    | zero =>
      have e : x = u := by simpa using h1
      subst e
      exact List.Sublist.cons_cons _ (List.singleton_sublist.2 (List.mem_of_getElem? h2'))
    | succ i => exact List.Sublist.cons _ (ih (i := i) (j := j) (by omega) (by simpa using h1) h2')
theorem get_some {zs : List Int} {i : Nat} (hi : i < zs.length) : zs[i]? = some (zs.getD i 0) := by
  simp [List.getD_eq_getElem?_getD, List.getElem?_eq_getElem hi]
theorem get_of {zs : List Int} {i : Nat} {x : Int} (h : zs[i]? = some x) : i < zs.length ∧ zs.getD i 0 = x := by
  obtain ⟨h1, h2⟩ := List.getElem?_eq_some_iff.1 h
  exact ⟨h1, by simp [List.getD_eq_getElem?_getD, h]⟩
theorem bef_pv {zs : List Int} (h : permB zs = true) {u v : Nat} (hs : [(u : Int), (v : Int)].Sublist zs) : pv zs u < pv zs v := by
  obtain ⟨i, j, hij, h1, h2⟩ := sub_idx hs
  obtain ⟨a1, a2⟩ := get_of h1
  obtain ⟨b1, b2⟩ := get_of h2
  rw [fOf_get h a1] at a2
  rw [fOf_get h b1] at b2
  have e1 : fOf zs i = u := by omega
  have e2 : fOf zs j = v := by omega
  rw [← e1, ← e2, pv_at h a1, pv_at h b1]
  exact hij
theorem pv_bef {zs : List Int} (h : permB zs = true) {u v : Nat} (hu : u < zs.length) (hv : v < zs.length) (hp : pv zs u < pv zs v) : [(u : Int), (v : Int)].Sublist zs := by
  refine idx_sub hp ?_ ?_
  · rw [get_some (pv_lt h hu), fOf_get h (pv_lt h hu), at_pv h hu]
  · rw [get_some (pv_lt h hv), fOf_get h (pv_lt h hv), at_pv h hv]
/-! ### permutations as lists without repetition -/
theorem perm_mem {zs : List Int} (h : permB zs = true) (x : Int) : x ∈ zs ↔ 0 ≤ x ∧ x < zs.length := by
  constructor
  · intro hx
    obtain ⟨i, hi⟩ := List.mem_iff_getElem?.1 hx
    obtain ⟨a1, a2⟩ := get_of hi
    rw [fOf_get h a1] at a2
    have := (bij_of h).lt i a1
    omega
  · rintro ⟨h0, h1⟩
    obtain ⟨v, rfl⟩ : ∃ v : Nat, x = v := ⟨x.toNat, by omega⟩
    have hv : v < zs.length := by omega
    refine List.mem_of_getElem? (i := pv zs v) ?_
    rw [get_some (pv_lt h hv), fOf_get h (pv_lt h hv), at_pv h hv]
theorem perm_nodup {zs : List Int} (h : permB zs = true) : zs.Nodup := by
  rw [List.nodup_iff_pairwise_ne, List.pairwise_iff_getElem]
  intro i j hi hj hij e
  have e2 : fOf zs i = fOf zs j := by
    unfold fOf
    simp [List.getD_eq_getElem?_getD, List.getElem?_eq_getElem hi, List.getElem?_eq_getElem hj, e]
  have := (bij_of h).inj i j hi hj e2
  omega
theorem perm_mk {zs : List Int} (h1 : zs.length ≤ 12) (h2 : zs.Nodup) (h3 : ∀ x ∈ zs, 0 ≤ x ∧ x < zs.length) : permB zs = true := by
  have hm : ∀ i, i < zs.length → zs.getD i 0 ∈ zs := fun i hi => List.mem_of_getElem? (get_some hi)
  refine perm_of h1 (fun x hx => (h3 _ (hm x hx)).1) ⟨fun x hx => ?_, fun x y hx hy e => ?_⟩
  · have := h3 _ (hm x hx)
    unfold fOf; omega
  · have q1 := h3 _ (hm x hx)
    have q2 := h3 _ (hm y hy)
    have e2 : zs.getD x 0 = zs.getD y 0 := by unfold fOf at e; omega
    rw [List.nodup_iff_pairwise_ne, List.pairwise_iff_getElem] at h2
    simp only [List.getD_eq_getElem?_getD, List.getElem?_eq_getElem hx, List.getElem?_eq_getElem hy, Option.getD_some] at e2
    rcases Nat.lt_trichotomy x y with q | q | q
    · exact absurd e2 (h2 x y hx hy q)
    · exact q
    · exact absurd e2.symm (h2 y x hy hx q)
theorem perm_perm {zs ys : List Int} (h : permB zs = true) (hp : ys.Perm zs) : permB ys = true := by
  refine perm_mk ?_ (hp.nodup_iff.2 (perm_nodup h)) ?_
  · rw [hp.length_eq]; exact (permB_yes h).1
  · intro x hx
    rw [hp.length_eq]
    exact (perm_mem h x).1 (hp.mem_iff.1 hx)
/-! ### one riffle back -/
def evB (zs : List Int) (x : Int) : Bool := sqF (nb zs) x.toNat % 2 == 0
def backF (zs : List Int) : List Int := zs.filter (evB zs) ++ zs.filter (fun x => !evB zs x)
theorem back_perm_l (zs : List Int) : (backF zs).Perm zs := List.filter_append_perm _ _
theorem back_len (zs : List Int) : (backF zs).length = zs.length := (back_perm_l zs).length_eq
theorem back_perm {zs : List Int} (h : permB zs = true) : permB (backF zs) = true := perm_perm h (back_perm_l zs)
theorem sub_two {u v : Int} {l1 l2 : List Int} (h1 : u ∈ l1) (h2 : v ∈ l2) : [u, v].Sublist (l1 ++ l2) := by
  have := (List.singleton_sublist.2 h1).append (List.singleton_sublist.2 h2)
  simpa using this
theorem nb_succ (zs : List Int) (v : Nat) : nb zs (v + 1) = decide (pv zs (v + 1) < pv zs v) := by simp [nb]
theorem back_nb {zs : List Int} (h : permB zs = true) {v : Nat} (hv : v + 1 < zs.length) : nb (backF zs) (v + 1) = (nb zs (v + 1) && decide (sqF (nb zs) v % 2 = 1)) := by
  have hb := back_perm h
  have hl := back_len zs
  have hmv : ((v : Nat) : Int) ∈ zs := (perm_mem h _).2 ⟨by omega, by omega⟩
  have hmw : ((v + 1 : Nat) : Int) ∈ zs := (perm_mem h _).2 ⟨by omega, by omega⟩
  have hsq : sqF (nb zs) (v + 1) = sqF (nb zs) v + (if nb zs (v + 1) then 1 else 0) := rfl
  rw [nb_succ]
  cases hn : nb zs (v + 1) with
  | false =>
    rw [hn] at hsq
    simp only [Bool.false_eq_true, if_false, Nat.add_zero] at hsq
    rw [Bool.false_and, decide_eq_false_iff_not]
    rw [nb_succ, decide_eq_false_iff_not] at hn
    have hne : pv zs v ≠ pv zs (v + 1) := fun e => by
      have q1 := at_pv h (show v < zs.length by omega)
      have q2 := at_pv h hv
      rw [e, q2] at q1
      omega
    have hs := pv_bef h (by omega) hv (show pv zs v < pv zs (v + 1) by omega)
    have hev : evB zs ((v + 1 : Nat) : Int) = evB zs (v : Int) := by unfold evB; simp [hsq]
    have : [(v : Int), ((v + 1 : Nat) : Int)].Sublist (backF zs) := by
      unfold backF
      cases he : evB zs (v : Int) with
      | true =>
        rw [he] at hev
        have := hs.filter (evB zs)
        simp only [List.filter_cons, he, hev, if_true, List.filter_nil] at this
        exact this.trans (List.sublist_append_left _ _)
      | false =>
        rw [he] at hev
        have := hs.filter (fun x => !evB zs x)
        simp only [List.filter_cons, he, hev, Bool.not_false, if_true, List.filter_nil] at this
        exact this.trans (List.sublist_append_right _ _)
    have := bef_pv hb this
    omega
  | true =>
    rw [hn] at hsq
    simp only [if_true] at hsq
    rw [Bool.true_and]
    by_cases ho : sqF (nb zs) v % 2 = 1
    · rw [decide_eq_true ho, decide_eq_true_eq]
      refine bef_pv hb ?_
      unfold backF
      refine sub_two (List.mem_filter.2 ⟨hmw, ?_⟩) (List.mem_filter.2 ⟨hmv, ?_⟩)
      · unfold evB
        simp only [Int.toNat_natCast, beq_iff_eq]
        omega
      · unfold evB
        simp only [Int.toNat_natCast, Bool.not_eq_true', beq_eq_false_iff_ne]
        omega
    · rw [decide_eq_false ho, decide_eq_false_iff_not]
      have : [(v : Int), ((v + 1 : Nat) : Int)].Sublist (backF zs) := by
        unfold backF
        refine sub_two (List.mem_filter.2 ⟨hmv, ?_⟩) (List.mem_filter.2 ⟨hmw, ?_⟩)
        · unfold evB
          simp only [Int.toNat_natCast, beq_iff_eq]
          omega
        · unfold evB
          simp only [Int.toNat_natCast, Bool.not_eq_true', beq_eq_false_iff_ne]
          omega
      have := bef_pv hb this
      omega
theorem back_sq {zs : List Int} (h : permB zs = true) : ∀ v, v < zs.length → sqF (nb (backF zs)) v = sqF (nb zs) v / 2 := by
  intro v
  induction v with
  | zero => intro _; simp [sqF]
  | succ v ih =>
    intro hv
    have := ih (by omega)
    simp only [sqF]
    rw [this, back_nb h hv]
    cases hn : nb zs (v + 1) with
    | false => simp
    | true =>
      by_cases ho : sqF (nb zs) v % 2 = 1
      · simp [ho]; omega
      · simp [ho]; omega
theorem back_cnt {zs : List Int} (h : permB zs = true) : cntS (backF zs) = (cntS zs + 1) / 2 := by
  unfold cntS
  have hl := back_len zs
  by_cases e : zs = []
  · subst e; rfl
  · have e2 : backF zs ≠ [] := fun q => e (List.length_eq_zero_iff.1 (by rw [← hl, q]; rfl))
    have hz : zs.length ≠ 0 := by simpa using e
    rw [if_pos ⟨back_perm h, e2⟩, if_pos ⟨h, e⟩, hl, back_sq h _ (by omega)]
    omega
/-- the order itself has one rising sequence, and nothing else has -/
theorem id_of_cnt {zs : List Int} (h : permB zs = true) (hc : cntS zs ≤ 1) : ∀ i, i < zs.length → fOf zs i = i := by
  by_cases e : zs = []
  · subst e; intro i hi; cases hi
  unfold cntS at hc
  rw [if_pos ⟨h, e⟩] at hc
  have hz : zs.length ≠ 0 := by simpa using e
  have hno : ∀ v, v + 1 < zs.length → pv zs v < pv zs (v + 1) := by
    intro v hv
    have h1 := sqF_mono (nb zs) (show v + 1 ≤ zs.length - 1 by omega)
    have h2 : sqF (nb zs) (v + 1) = sqF (nb zs) v + (if nb zs (v + 1) then 1 else 0) := rfl
    have hn : nb zs (v + 1) = false := by
      cases q : nb zs (v + 1) with
      | false => rfl
      | true => rw [q] at h2; simp at h2; omega
    rw [nb_succ, decide_eq_false_iff_not] at hn
    have hne : pv zs v ≠ pv zs (v + 1) := fun e => by
      have q1 := at_pv h (show v < zs.length by omega)
      have q2 := at_pv h hv
      rw [e, q2] at q1
      omega
    omega
  have hge : ∀ v, v < zs.length → v ≤ pv zs v := by
    intro v
    induction v with
    | zero => intro _; exact Nat.zero_le _
    | succ v ih => intro hv; have := ih (by omega); have := hno v hv; omega
  have hle : ∀ d, d < zs.length → pv zs (zs.length - 1 - d) ≤ zs.length - 1 - d := by
    intro d
    induction d with
    | zero => intro _; have := pv_lt h (show zs.length - 1 < zs.length by omega); simp; omega
    | succ d ih =>
      intro hd
      have q1 := ih (by omega)
      have q2 := hno (zs.length - 1 - (d + 1)) (by omega)
      rw [show zs.length - 1 - (d + 1) + 1 = zs.length - 1 - d by omega] at q2
      omega
  intro i hi
  have h1 := hge i hi
  have h2 := hle (zs.length - 1 - i) (by omega)
  rw [show zs.length - 1 - (zs.length - 1 - i) = i by omega] at h2
  have := at_pv h hi
  rw [show pv zs i = i by omega] at this
  exact this
/-! ### what leads from there is a riffle -/
def toF (b zs : List Int) : List Int := zs.map fun x => ((pv b x.toNat : Nat) : Int)
theorem to_nodup {b zs : List Int} (hb : permB b = true) (h : permB zs = true) (hl : b.length = zs.length) : permB (toF b zs) = true := by
  have hL : (toF b zs).length = zs.length := by simp [toF]
  refine perm_mk (by rw [hL]; exact (permB_yes h).1) ?_ ?_
  · unfold toF
    rw [List.nodup_iff_pairwise_ne, List.pairwise_map]
    have hnd := perm_nodup h
    rw [List.nodup_iff_pairwise_ne] at hnd
    refine hnd.imp_of_mem fun {x y} hx hy hne e => hne ?_
    have hx' := (perm_mem h x).1 hx
    have hy' := (perm_mem h y).1 hy
    have e2 : pv b x.toNat = pv b y.toNat := by omega
    have q1 := at_pv hb (show x.toNat < b.length by omega)
    have q2 := at_pv hb (show y.toNat < b.length by omega)
    rw [e2, q2] at q1
    omega
  · intro x hx
    unfold toF at hx
    obtain ⟨y, hy, rfl⟩ := List.mem_map.1 hx
    have hy' := (perm_mem h y).1 hy
    have := pv_lt hb (show y.toNat < b.length by omega)
    rw [hL]
    omega
theorem to_ok {zs : List Int} (h : permB zs = true) {q : Nat} (hq : q + 1 < zs.length) (hs : q + 1 ≠ (zs.filter (evB zs)).length) : nb (toF (backF zs) zs) (q + 1) = false := by
  have hb := back_perm h
  have hl := back_len zs
  have ht := to_nodup hb h hl
  rw [nb_succ, decide_eq_false_iff_not]
  have hx : [(backF zs).getD q 0, (backF zs).getD (q + 1) 0].Sublist zs := by
    by_cases hlt : q + 1 < (zs.filter (evB zs)).length
    · have e : ∀ j, j < (zs.filter (evB zs)).length → (backF zs).getD j 0 = (zs.filter (evB zs)).getD j 0 := by
        intro j hj
        unfold backF
        simp only [List.getD_eq_getElem?_getD]
        rw [List.getElem?_append_left hj]
      rw [e q (by omega), e (q + 1) hlt]
      exact (idx_sub (Nat.lt_succ_self q) (get_some (by omega)) (get_some hlt)).trans List.filter_sublist
    · have e : ∀ j, (zs.filter (evB zs)).length ≤ j → (backF zs).getD j 0 = (zs.filter (fun x => !evB zs x)).getD (j - (zs.filter (evB zs)).length) 0 := by
        intro j hj
        unfold backF
        simp only [List.getD_eq_getElem?_getD]
        rw [List.getElem?_append_right hj]
      have hlen : (zs.filter (evB zs)).length + (zs.filter (fun x => !evB zs x)).length = zs.length := by rw [← hl]; unfold backF; simp
      rw [e q (by omega), e (q + 1) (by omega)]
      exact (idx_sub (show q - (zs.filter (evB zs)).length < q + 1 - (zs.filter (evB zs)).length by omega) (get_some (by omega)) (get_some (by omega))).trans List.filter_sublist
  have hm := hx.map fun x => ((pv (backF zs) x.toNat : Nat) : Int)
  have e : ∀ j, j < zs.length → pv (backF zs) ((backF zs).getD j 0).toNat = j := by
    intro j hj
    have := pv_at hb (i := j) (by omega)
    unfold fOf at this
    exact this
  simp only [List.map_cons, List.map_nil] at hm
  rw [e q (by omega), e (q + 1) hq] at hm
  have := bef_pv ht hm
  omega
theorem one_break {b : Nat → Bool} {s : Nat} : ∀ n, (∀ q, q < n → q + 1 ≠ s → b (q + 1) = false) → sqF b n ≤ if s ≤ n ∧ 0 < s then 1 else 0 := by
  intro n
  induction n with
  | zero => intro _; simp [sqF]
  | succ n ih =>
    intro h
    have q := ih fun q hq => h q (by omega)
    simp only [sqF]
    by_cases e : n + 1 = s
    · have hc : s ≤ n + 1 ∧ 0 < s := ⟨by omega, by omega⟩
      have hc2 : ¬ (s ≤ n ∧ 0 < s) := by omega
      rw [if_pos hc]
      rw [if_neg hc2] at q
      split <;> omega
    · rw [h n (by omega) e]
      simp only [Bool.false_eq_true, if_false, Nat.add_zero]
      split at q
      next hc => rw [if_pos (show s ≤ n + 1 ∧ 0 < s by omega)]; exact q
      next => omega
theorem to_riffle {zs : List Int} (h : permB zs = true) : cntS (toF (backF zs) zs) ≤ 2 := by
  unfold cntS
  split
  next hc =>
    have hL : (toF (backF zs) zs).length = zs.length := by simp [toF]
    have hz : (toF (backF zs) zs).length ≠ 0 := by simpa using hc.2
    have := one_break (b := nb (toF (backF zs) zs)) (s := (zs.filter (evB zs)).length) ((toF (backF zs) zs).length - 1) fun q hq hs => to_ok h (by omega) hs
    split at this <;> omega
  next => omega
/-! ### how many riffles -/
def leastN (c : Nat) : Nat := if c ≤ 1 then 0 else if c ≤ 2 then 1 else if c ≤ 4 then 2 else if c ≤ 8 then 3 else 4
theorem least_half {c : Nat} (h2 : 2 ≤ c) (h : c ≤ 12) : leastN ((c + 1) / 2) + 1 = leastN c := by
  unfold leastN
  repeat' split
  all_goals omega
theorem least_le (c : Nat) : leastN c ≤ 4 := by unfold leastN; repeat' split
                                                all_goals omega
theorem least_zero {c : Nat} : leastN c = 0 ↔ c ≤ 1 := by
  unfold leastN
  repeat' split
  all_goals omega
/-- back so many riffles -/
def backN : Nat → List Int → List Int
  | 0, zs => zs
  | k + 1, zs => backF (backN k zs)
theorem backN_perm {zs : List Int} (h : permB zs = true) (k : Nat) : permB (backN k zs) = true := by
  induction k with
  | zero => exact h
  | succ k ih => exact back_perm ih
theorem backN_len (zs : List Int) (k : Nat) : (backN k zs).length = zs.length := by
  induction k with
  | zero => rfl
  | succ k ih => exact (back_len _).trans ih
theorem backN_least {zs : List Int} (h : permB zs = true) : ∀ k, k ≤ leastN (cntS zs) → leastN (cntS (backN k zs)) = leastN (cntS zs) - k := by
  intro k
  induction k with
  | zero => intro _; rfl
  | succ k ih =>
    intro hk
    have q := ih (by omega)
    have q2 : ¬ cntS (backN k zs) ≤ 1 := fun e => by have := least_zero.2 e; omega
    have q3 := least_half (c := cntS (backN k zs)) (by omega) (cnt_le _)
    show leastN (cntS (backF (backN k zs))) = _
    rw [back_cnt (backN_perm h k)]
    omega
end Go.Proofs.Ytpmfiflpipcojaa.Rsh
