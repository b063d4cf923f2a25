/- Forces, plainly: what a list of nodes says, when it is valid, its ends, the answers that lead there, and what the two ways to reckon them have in common. -/
import Derived.Test.YtjmfdflhplobmaaRows
set_option linter.unusedVariables false
set_option maxRecDepth 20000
namespace Go.Proofs.Ytjmfdflhplobmaa.Fpl

/-- a node: what is said, the nodes that follow, the object at its end -/
structure NV where
  say : ByteArray
  next : List Int
  fin : Int
def nv0 : NV := ⟨ByteArray.empty, [], 0⟩
def nx (L : List NV) (i : Nat) : List Int := (L.getD i nv0).next
def fi (L : List NV) (i : Nat) : Int := (L.getD i nv0).fin
/-- all that follow nodes from i on, all that follow nodes before i -/
def low (L : List NV) (i : Nat) : List Int := (L.drop i).flatMap NV.next
def upto (L : List NV) (i : Nat) : List Int := (L.take i).flatMap NV.next
theorem low_step {L : List NV} {i : Nat} (h : i < L.length) : low L i = nx L i ++ low L (i + 1) := by
  unfold low nx
  rw [List.drop_eq_getElem_cons h, List.flatMap_cons, List.getD_eq_getElem?_getD, List.getElem?_eq_getElem h]
  rfl
theorem low_end {L : List NV} {i : Nat} (h : L.length ≤ i) : low L i = [] := by
  unfold low; rw [List.drop_eq_nil_of_le h]; rfl
theorem upto_step {L : List NV} {i : Nat} (h : i < L.length) : upto L (i + 1) = upto L i ++ nx L i := by
  unfold upto nx
  rw [List.take_succ_eq_append_getElem h, List.flatMap_append, List.getD_eq_getElem?_getD, List.getElem?_eq_getElem h]
  simp
theorem upto_zero (L : List NV) : upto L 0 = [] := by simp [upto]
theorem upto_all (L : List NV) : upto L L.length = low L 0 := by simp [upto, low]
theorem low_upto (L : List NV) (i : Nat) : low L 0 = upto L i ++ low L i := by
  unfold low upto
  rw [← List.flatMap_append, List.take_append_drop, List.drop_zero]
theorem nx_out {L : List NV} {i : Nat} (h : L.length ≤ i) : nx L i = [] := by
  unfold nx; rw [List.getD_eq_getElem?_getD, List.getElem?_eq_none h]; rfl
theorem mem_low {L : List NV} {m : Nat} {k : Int} (h : k ∈ low L m) : ∃ i, m ≤ i ∧ i < L.length ∧ k ∈ nx L i := by
  unfold low at h
  obtain ⟨x, hx, hk⟩ := List.mem_flatMap.1 h
  obtain ⟨j, hj, rfl⟩ := List.getElem_of_mem hx
  rw [List.length_drop] at hj
  refine ⟨m + j, by omega, by omega, ?_⟩
  unfold nx
  rw [List.getElem_drop] at hk
  rw [List.getD_eq_getElem?_getD, List.getElem?_eq_getElem (by omega)]
  exact hk

/-- a valid force -/
structure OkF (L : List NV) : Prop where
  pos : 1 ≤ L.length
  small : L.length ≤ 40
  down : ∀ i, i < L.length → ∀ k ∈ nx L i, (i : Int) < k ∧ k < L.length
  fin : ∀ i, i < L.length → 0 ≤ fi L i ∧ (nx L i ≠ [] → fi L i = 0)
  one : ∀ k : Nat, 1 ≤ k → k < L.length → (low L 0).count (k : Int) = 1
noncomputable def okB (L : List NV) : Bool := @decide (OkF L) (Classical.propDecidable _)
theorem ok_yes {L : List NV} (h : OkF L) : okB L = true := @decide_eq_true _ (Classical.propDecidable _) h
theorem ok_no {L : List NV} (h : ¬ OkF L) : okB L = false := @decide_eq_false _ (Classical.propDecidable _) h
theorem ok_of {L : List NV} (h : okB L = true) : OkF L := @of_decide_eq_true _ (Classical.propDecidable _) h

section
variable {L : List NV}
theorem OkF.child (h : OkF L) {i t : Nat} (hi : i < L.length) (ht : t < (nx L i).length) : ∃ c : Nat, (nx L i).getD t 0 = (c : Int) ∧ i < c ∧ c < L.length := by
  have hm : (nx L i).getD t 0 ∈ nx L i := by
    rw [List.getD_eq_getElem?_getD, List.getElem?_eq_getElem ht]; exact List.getElem_mem _
  have := h.down i hi _ hm
  exact ⟨((nx L i).getD t 0).toNat, by omega, by omega, by omega⟩
theorem OkF.cnt (h : OkF L) (k : Nat) : (low L 0).count (k : Int) ≤ 1 := by
  by_cases h0 : k = 0
  · subst h0
    rw [List.count_eq_zero.2 ?_]
    · omega
    · intro hm
      obtain ⟨i, _, hi, hk⟩ := mem_low hm
      have := h.down i hi _ hk
      omega
  · by_cases hk : k < L.length
    · rw [h.one k (by omega) hk]; omega
    · rw [List.count_eq_zero.2 ?_]
      · omega
      · intro hm
        obtain ⟨i, _, hi, hk2⟩ := mem_low hm
        have := h.down i hi _ hk2
        omega
theorem OkF.nodup (h : OkF L) : (low L 0).Nodup := by
  rw [List.nodup_iff_count]
  intro a
  by_cases ha : 0 ≤ a
  · obtain ⟨k, rfl⟩ : ∃ k : Nat, a = k := ⟨a.toNat, by omega⟩
    exact h.cnt k
  · rw [List.count_eq_zero.2 ?_]
    · omega
    · intro hm
      obtain ⟨i, _, hi, hk⟩ := mem_low hm
      have := h.down i hi _ hk
      omega
end

/-! ### the ends in the order of their answers -/
def endF (L : List NV) : Nat → Nat → List (List Int × Int)
  | 0, _ => []
  | f + 1, i => if nx L i = [] then [([], fi L i)] else
      (List.range (nx L i).length).flatMap fun t => (endF L f ((nx L i).getD t 0).toNat).map fun e => ((t : Int) :: e.1, e.2)
/-- the part of the first t answers -/
def endT (L : List NV) (f i t : Nat) : List (List Int × Int) := (List.range t).flatMap fun t => (endF L f ((nx L i).getD t 0).toNat).map fun e => ((t : Int) :: e.1, e.2)
theorem endT_step (L : List NV) (f i t : Nat) : endT L f i (t + 1) = endT L f i t ++ (endF L f ((nx L i).getD t 0).toNat).map fun e => ((t : Int) :: e.1, e.2) := by
  unfold endT; rw [List.range_succ, List.flatMap_append]; simp
theorem endF_leaf {L : List NV} {i : Nat} (f : Nat) (h : nx L i = []) : endF L (f + 1) i = [([], fi L i)] := by rw [endF, if_pos h]
theorem endF_node {L : List NV} {i : Nat} (f : Nat) (h : nx L i ≠ []) : endF L (f + 1) i = endT L f i (nx L i).length := by rw [endF, if_neg h]; rfl
theorem endT_zero (L : List NV) (f i : Nat) : endT L f i 0 = [] := rfl

theorem end_len (L : List NV) : ∀ (f i : Nat) (e : List Int × Int), e ∈ endF L f i → e.1.length < f
  | 0, i, e, h => by simp [endF] at h
  | f + 1, i, e, h => by
    rw [endF] at h
    split at h
    · simp at h; subst h; simp
    · obtain ⟨t, _, h2⟩ := List.mem_flatMap.1 h
      obtain ⟨e', he, rfl⟩ := List.mem_map.1 h2
      have := end_len L f _ e' he
      simp; omega

/-! ### how many ends -/
def free (L : List NV) (m : Nat) : List Nat := (List.range L.length).filter fun j => decide (m ≤ j) && !decide ((j : Int) ∈ low L m)
theorem mem_free {L : List NV} {m j : Nat} : j ∈ free L m ↔ j < L.length ∧ m ≤ j ∧ ¬ (j : Int) ∈ low L m := by
  unfold free; simp [List.mem_filter]
theorem free_nodup (L : List NV) (m : Nat) : (free L m).Nodup := List.Pairwise.filter _ List.nodup_range
def wt (L : List NV) (i : Nat) : Nat := (endF L (L.length - i) i).length
theorem end_fuel {L : List NV} (h : OkF L) : ∀ (f g i : Nat), i < L.length → L.length ≤ i + f → L.length ≤ i + g → endF L f i = endF L g i
  | 0, g, i, hi, hf, hg => by omega
  | f + 1, 0, i, hi, hf, hg => by omega
  | f + 1, g + 1, i, hi, hf, hg => by
    by_cases hl : nx L i = []
    · rw [endF_leaf f hl, endF_leaf g hl]
    · rw [endF_node f hl, endF_node g hl]
      unfold endT
      rw [List.flatMap_def, List.flatMap_def]
      congr 1
      refine List.map_congr_left fun t ht => ?_
      obtain ⟨c, hc, h1, h2⟩ := h.child hi (List.mem_range.1 ht)
      rw [hc, Int.toNat_natCast, end_fuel h f g c h2 (by omega) (by omega)]
def sumL (W : Nat → Nat) : List Nat → Nat
  | [] => 0
  | x :: l => W x + sumL W l
theorem sumL_app (W : Nat → Nat) (a b : List Nat) : sumL W (a ++ b) = sumL W a + sumL W b := by
  induction a with
  | nil => simp [sumL]
  | cons x a ih => simp only [List.cons_append, sumL, ih]; omega
theorem sumL_perm (W : Nat → Nat) {a b : List Nat} (h : a.Perm b) : sumL W a = sumL W b := by
  induction h with
  | nil => rfl
  | cons x _ ih => simp only [sumL, ih]
  | swap x y l => simp only [sumL]; omega
  | trans _ _ h1 h2 => exact h1.trans h2
theorem sumL_mem (W : Nat → Nat) {l : List Nat} {x : Nat} (h : x ∈ l) : W x ≤ sumL W l := by
  induction l with
  | nil => cases h
  | cons y l ih =>
    simp only [sumL]
    rcases List.mem_cons.1 h with rfl | h
    · omega
    · have := ih h; omega
theorem endT_len {L : List NV} (h : OkF L) {i : Nat} (hi : i < L.length) : ∀ t, t ≤ (nx L i).length → (endT L (L.length - i - 1) i t).length = sumL (wt L) (((nx L i).take t).map Int.toNat)
  | 0, _ => by simp [endT, sumL]
  | t + 1, ht => by
    obtain ⟨c, hc, h1, h2⟩ := h.child hi (show t < (nx L i).length by omega)
    rw [endT_step, List.length_append, endT_len h hi t (by omega), List.length_map, List.take_succ_eq_append_getElem (by omega), List.map_append, sumL_app, hc, Int.toNat_natCast]
    have hg : (nx L i)[t] = (c : Int) := by
      rw [← hc, List.getD_eq_getElem?_getD, List.getElem?_eq_getElem (by omega)]; rfl
    simp only [List.map_cons, List.map_nil, sumL, hg, Int.toNat_natCast, wt]
    rw [end_fuel h (L.length - i - 1) (L.length - c) c h2 (by omega) (by omega)]
    omega
theorem wt_step {L : List NV} (h : OkF L) {i : Nat} (hi : i < L.length) : wt L i = if nx L i = [] then 1 else sumL (wt L) ((nx L i).map Int.toNat) := by
  obtain ⟨f, hf⟩ : ∃ f, L.length - i = f + 1 := ⟨L.length - i - 1, by omega⟩
  unfold wt
  rw [hf]
  split
  · rename_i hl; rw [endF_leaf f hl]; rfl
  · rename_i hl
    rw [endF_node f hl, show f = L.length - i - 1 by omega, endT_len h hi _ (Nat.le_refl _), List.take_of_length_le (Nat.le_refl _)]
    rfl
theorem free_perm {L : List NV} (h : OkF L) {m : Nat} (hm : m < L.length) : (m :: free L (m + 1)).Perm ((nx L m).map Int.toNat ++ free L m) := by
  have hnd := h.nodup
  rw [low_upto L m, List.nodup_append] at hnd
  have hlow := hnd.2.1
  rw [low_step hm, List.nodup_append] at hlow
  have hto : ∀ k ∈ nx L m, ((k.toNat : Nat) : Int) = k := fun k hk => by have := h.down m hm k hk; omega
  refine (List.perm_ext_iff_of_nodup ?_ ?_).2 fun j => ?_
  · rw [List.nodup_cons]
    exact ⟨fun hc => by have := (mem_free.1 hc).2.1; omega, free_nodup L _⟩
  · rw [List.nodup_append]
    refine ⟨?_, free_nodup L _, ?_⟩
    · rw [List.Nodup, List.pairwise_map]
      refine List.Pairwise.imp_of_mem ?_ hlow.1
      intro a b ha hb hne e
      exact hne (by rw [← hto a ha, ← hto b hb, e])
    · rintro a ha b hb rfl
      obtain ⟨k, hk, rfl⟩ := List.mem_map.1 ha
      refine (mem_free.1 hb).2.2 ?_
      rw [hto k hk, low_step hm]
      exact List.mem_append_left _ hk
  · rw [List.mem_cons, List.mem_append, mem_free, mem_free, low_step hm, List.mem_append]
    constructor
    · rintro (rfl | ⟨h1, h2, h3⟩)
      · refine Or.inr ⟨hm, Nat.le_refl _, ?_⟩
        rintro (hc | hc)
        · have := h.down j hm _ hc; omega
        · obtain ⟨i, hi1, hi2, hi3⟩ := mem_low hc
          have := h.down i hi2 _ hi3
          omega
      · by_cases hc : (j : Int) ∈ nx L m
        · exact Or.inl (List.mem_map.2 ⟨_, hc, by simp⟩)
        · exact Or.inr ⟨h1, by omega, by rintro (h4 | h4) <;> contradiction⟩
    · rintro (hc | ⟨h1, h2, h3⟩)
      · obtain ⟨k, hk, rfl⟩ := List.mem_map.1 hc
        have hd := h.down m hm k hk
        refine Or.inr ⟨by omega, by omega, ?_⟩
        rw [hto k hk]
        exact fun h4 => hlow.2.2 k hk k h4 rfl
      · by_cases e : j = m
        · exact Or.inl e
        · exact Or.inr ⟨h1, by omega, fun h4 => h3 (Or.inr h4)⟩
theorem free_sum {L : List NV} (h : OkF L) : ∀ d m, L.length = m + d → sumL (wt L) (free L m) ≤ d
  | 0, m, hm => by
    have : free L m = [] := by
      refine List.eq_nil_iff_forall_not_mem.2 fun j hj => ?_
      have := mem_free.1 hj
      omega
    rw [this]; exact Nat.le_refl _
  | d + 1, m, hm => by
    have ih := free_sum h d (m + 1) (by omega)
    have hp := sumL_perm (wt L) (free_perm h (m := m) (by omega))
    rw [sumL_app] at hp
    simp only [sumL] at hp
    rw [wt_step h (by omega)] at hp
    split at hp
    · rename_i hl
      rw [hl] at hp
      simp only [List.map_nil, sumL] at hp
      omega
    · omega
theorem wt_le {L : List NV} (h : OkF L) {i : Nat} (hi : i < L.length) : wt L i ≤ L.length - i := by
  refine Nat.le_trans (sumL_mem (wt L) (mem_free.2 ⟨hi, Nat.le_refl _, fun hc => ?_⟩)) (free_sum h (L.length - i) i (by omega))
  obtain ⟨j, hj1, hj2, hj3⟩ := mem_low hc
  have := h.down j hj2 _ hj3
  omega
/-- not more ends than nodes -/
theorem end_few {L : List NV} (h : OkF L) {f i : Nat} (hi : i < L.length) (hf : L.length ≤ i + f) : (endF L f i).length ≤ 40 := by
  rw [end_fuel h f (L.length - i) i hi hf (by omega)]
  have := wt_le h hi
  have := h.small
  unfold wt at *
  omega
theorem endT_few {L : List NV} (h : OkF L) {f i t : Nat} (hi : i < L.length) (hf : L.length ≤ i + f + 1) (hl : nx L i ≠ []) (ht : t ≤ (nx L i).length) : (endT L f i t).length ≤ 40 := by
  have h1 := end_few h (f := f + 1) hi (by omega)
  rw [endF_node f hl] at h1
  obtain ⟨s, hs⟩ : ∃ s, (nx L i).length = t + s := ⟨(nx L i).length - t, by omega⟩
  rw [hs] at h1
  unfold endT at *
  rw [List.range_add, List.flatMap_append, List.length_append] at h1
  omega
/-! ### the least wrong answers, the depth, playing -/
def wrongF (L : List NV) (ob : Int) : Nat → Nat → Option (List Int)
  | 0, _ => none
  | f + 1, i => if nx L i = [] then (if fi L i = ob then none else some []) else
      (List.range (nx L i).length).findSome? fun t => (wrongF L ob f ((nx L i).getD t 0).toNat).map fun e => (t : Int) :: e
theorem wrong_end (L : List NV) (ob : Int) : ∀ f i, wrongF L ob f i = ((endF L f i).find? fun e => !decide (e.2 = ob)).map Prod.fst
  | 0, i => by simp [wrongF, endF]
  | f + 1, i => by
    rw [wrongF, endF]
    split
    · by_cases h : fi L i = ob
      · simp [h]
      · simp [h]
    · rw [List.find?_flatMap]
      have : ∀ l : List Nat, (l.findSome? fun t => (wrongF L ob f ((nx L i).getD t 0).toNat).map fun e => (t : Int) :: e) = (l.findSome? fun t => ((endF L f ((nx L i).getD t 0).toNat).map fun e => ((t : Int) :: e.1, e.2)).find? fun e => !decide (e.2 = ob)).map Prod.fst := by
        intro l
        induction l with
        | nil => rfl
        | cons t l ih =>
          rw [List.findSome?_cons, List.findSome?_cons, ih, wrong_end L ob f, List.find?_map]
          have hp : ((fun e : List Int × Int => !decide (e.2 = ob)) ∘ fun e : List Int × Int => ((t : Int) :: e.1, e.2)) = fun e => !decide (e.2 = ob) := rfl
          rw [hp]
          cases (endF L f ((nx L i).getD t 0).toNat).find? fun e => !decide (e.2 = ob) <;> rfl
      exact this _
def depthT (L : List NV) (D : Nat → Int) (i : Nat) : Nat → Int
  | 0 => 0
  | t + 1 => max (depthT L D i t) (1 + D ((nx L i).getD t 0).toNat)
def depthF (L : List NV) : Nat → Nat → Int
  | 0, _ => 0
  | f + 1, i => depthT L (depthF L f) i (nx L i).length
theorem depth_bd (L : List NV) : ∀ f i, 0 ≤ depthF L f i ∧ depthF L f i ≤ f
  | 0, i => by simp [depthF]
  | f + 1, i => by
    have : ∀ t, 0 ≤ depthT L (depthF L f) i t ∧ depthT L (depthF L f) i t ≤ f + 1 := by
      intro t
      induction t with
      | zero => simp [depthT]; omega
      | succ t ih =>
        have := depth_bd L f ((nx L i).getD t 0).toNat
        simp only [depthT]
        omega
    have := this (nx L i).length
    simp only [depthF]
    omega
/-- the greatest length from d on -/
def mlF (d : Int) (l : List (List Int × Int)) : Int := l.foldl (fun d e => max d (e.1.length : Int)) d
theorem ml_ge (l : List (List Int × Int)) : ∀ d, d ≤ mlF d l := by
  induction l with
  | nil => exact fun d => Int.le_refl _
  | cons e l ih => exact fun d => Int.le_trans (Int.le_max_left _ _) (ih _)
theorem ml_max (l : List (List Int × Int)) : ∀ d c, mlF (max d c) l = max d (mlF c l) := by
  induction l with
  | nil => exact fun d c => rfl
  | cons e l ih =>
    intro d c
    show mlF (max (max d c) _) l = max d (mlF (max c _) l)
    rw [Int.max_assoc, ih]
theorem ml_app (a b : List (List Int × Int)) (d : Int) : mlF d (a ++ b) = mlF (mlF d a) b := by unfold mlF; rw [List.foldl_append]
theorem ml_mem {l : List (List Int × Int)} {e : List Int × Int} (h : e ∈ l) : ∀ d, (e.1.length : Int) ≤ mlF d l := by
  induction l with
  | nil => cases h
  | cons x l ih =>
    intro d
    rcases List.mem_cons.1 h with rfl | h
    · exact Int.le_trans (Int.le_max_right _ _) (ml_ge l _)
    · exact ih h _
theorem ml_up (t : Int) : ∀ (l : List (List Int × Int)) (d : Int), mlF (1 + d) (l.map fun e => (t :: e.1, e.2)) = 1 + mlF d l
  | [], d => rfl
  | e :: l, d => by
    show mlF (max (1 + d) (((t :: e.1).length : Nat) : Int)) _ = 1 + mlF (max d _) l
    rw [← ml_up t l]
    congr 1
    simp only [List.length_cons]
    omega
theorem end_some {L : List NV} (h : OkF L) : ∀ (f i : Nat), i < L.length → L.length ≤ i + f → endF L f i ≠ []
  | 0, i, hi, hf => by omega
  | f + 1, i, hi, hf => by
    by_cases hl : nx L i = []
    · rw [endF_leaf f hl]; simp
    · rw [endF_node f hl]
      obtain ⟨s, hs⟩ : ∃ s, (nx L i).length = s + 1 := ⟨(nx L i).length - 1, by have := List.length_pos_iff.2 hl; omega⟩
      obtain ⟨c, hc, h1, h2⟩ := h.child hi (show s < (nx L i).length by omega)
      rw [hs, endT_step, hc, Int.toNat_natCast]
      intro e
      exact end_some h f c h2 (by omega) (by simpa using (List.append_eq_nil_iff.1 e).2)
theorem ml_depth {L : List NV} (h : OkF L) : ∀ (f i : Nat), i < L.length → L.length ≤ i + f → mlF (-1) (endF L f i) = depthF L f i
  | 0, i, hi, hf => by omega
  | f + 1, i, hi, hf => by
    by_cases hl : nx L i = []
    · rw [endF_leaf f hl, depthF, hl]; rfl
    · rw [endF_node f hl, depthF]
      have key : ∀ t, t ≤ (nx L i).length → mlF (-1) (endT L f i t) = if t = 0 then -1 else depthT L (depthF L f) i t := by
        intro t
        induction t with
        | zero => intro _; rfl
        | succ t ih =>
          intro ht
          obtain ⟨c, hc, h1, h2⟩ := h.child hi (show t < (nx L i).length by omega)
          have hd := ml_depth h f c h2 (by omega)
          have hu := ml_up (t : Int) (endF L f c) (-1)
          rw [hd] at hu
          have hb := depth_bd L f c
          rw [endT_step, ml_app, ih (by omega), hc, Int.toNat_natCast, if_neg (show ¬ t + 1 = 0 by omega)]
          simp only [depthT, hc, Int.toNat_natCast]
          have hz : (1 + -1 : Int) = 0 := by omega
          rw [hz] at hu
          have hne : endF L f c ≠ [] := end_some h f c h2 (by omega)
          have hx : ∀ d : Int, mlF d ((endF L f c).map fun e => ((t : Int) :: e.1, e.2)) = max d (1 + depthF L f c) := by
            intro d
            rw [← hu, ← ml_max]
            cases he : endF L f c with
            | nil => exact absurd he hne
            | cons e l =>
              show mlF (max d _) _ = mlF (max (max d 0) _) _
              congr 1
              simp only [List.length_cons]
              omega
          rw [hx]
          by_cases h0 : t = 0
          · subst h0; rw [if_pos rfl]; simp only [depthT]; omega
          · rw [if_neg h0]
      rw [key _ (Nat.le_refl _), if_neg (by have := List.length_pos_iff.2 hl; omega)]
def playF (L : List NV) : Nat → List Int → Option Nat
  | i, [] => some i
  | i, a :: ws => if 0 ≤ a ∧ a < (nx L i).length then playF L ((nx L i).getD a.toNat 0).toNat ws else none
theorem play_app (L : List NV) : ∀ (ws bs : List Int) (i : Nat), playF L i (ws ++ bs) = (playF L i ws).bind fun j => playF L j bs
  | [], bs, i => rfl
  | a :: ws, bs, i => by
    simp only [List.cons_append, playF]
    split
    · exact play_app L ws bs _
    · rfl
theorem play_in {L : List NV} (h : OkF L) : ∀ (ws : List Int) (i j : Nat), i < L.length → playF L i ws = some j → j < L.length
  | [], i, j, hi, e => by simp only [playF, Option.some.injEq] at e; omega
  | a :: ws, i, j, hi, e => by
    simp only [playF] at e
    split at e
    · rename_i ha
      obtain ⟨c, hc, h1, h2⟩ := h.child hi (show a.toNat < (nx L i).length by omega)
      rw [hc, Int.toNat_natCast] at e
      exact play_in h ws c j h2 e
    · cases e
theorem end_play {L : List NV} (h : OkF L) : ∀ (f i : Nat) (e : List Int × Int), i < L.length → e ∈ endF L f i → ∃ j, j < L.length ∧ playF L i e.1 = some j ∧ nx L j = [] ∧ e.2 = fi L j
  | 0, i, e, hi, he => by simp [endF] at he
  | f + 1, i, e, hi, he => by
    by_cases hl : nx L i = []
    · rw [endF_leaf f hl] at he
      simp at he
      subst he
      exact ⟨i, hi, rfl, hl, rfl⟩
    · rw [endF_node f hl] at he
      unfold endT at he
      obtain ⟨t, ht, h2⟩ := List.mem_flatMap.1 he
      obtain ⟨e', he', rfl⟩ := List.mem_map.1 h2
      have ht := List.mem_range.1 ht
      obtain ⟨c, hc, h1, h3⟩ := h.child hi ht
      rw [hc, Int.toNat_natCast] at he'
      obtain ⟨j, j1, j2, j3, j4⟩ := end_play h f c e' h3 he'
      refine ⟨j, j1, ?_, j3, j4⟩
      simp only [playF]
      rw [if_pos (by omega), Int.toNat_natCast, hc, Int.toNat_natCast, j2]
theorem play_end {L : List NV} (h : OkF L) : ∀ (ws : List Int) (f i j : Nat), i < L.length → L.length ≤ i + f → playF L i ws = some j → nx L j = [] → (ws, fi L j) ∈ endF L f i
  | [], f, i, j, hi, hf, e, hl => by
    simp only [playF, Option.some.injEq] at e
    subst e
    obtain ⟨g, rfl⟩ : ∃ g, f = g + 1 := ⟨f - 1, by omega⟩
    rw [endF_leaf g hl]
    simp
  | a :: ws, f, i, j, hi, hf, e, hl => by
    obtain ⟨g, rfl⟩ : ∃ g, f = g + 1 := ⟨f - 1, by omega⟩
    simp only [playF] at e
    split at e
    · rename_i ha
      obtain ⟨c, hc, h1, h2⟩ := h.child hi (show a.toNat < (nx L i).length by omega)
      rw [hc, Int.toNat_natCast] at e
      have := play_end h ws g c j h2 (by omega) e hl
      have hne : nx L i ≠ [] := by intro e; rw [e] at ha; simp at ha; omega
      rw [endF_node g hne]
      unfold endT
      refine List.mem_flatMap.2 ⟨a.toNat, List.mem_range.2 (by omega), List.mem_map.2 ⟨_, by rw [hc, Int.toNat_natCast]; exact this, ?_⟩⟩
      simp only [Prod.mk.injEq, List.cons.injEq, and_true]
      omega
    · cases e
theorem reach {L : List NV} (h : OkF L) : ∀ (d j : Nat), j ≤ d → j < L.length → ∃ ws, playF L 0 ws = some j
  | d, 0, _, _ => ⟨[], rfl⟩
  | 0, j + 1, hd, _ => by omega
  | d + 1, j + 1, hd, hj => by
    have hc : 0 < (low L 0).count ((j + 1 : Nat) : Int) := by rw [h.one (j + 1) (by omega) hj]; omega
    obtain ⟨p, _, hp, hk⟩ := mem_low (List.count_pos_iff.1 hc)
    have hlt := h.down p hp _ hk
    obtain ⟨ws, has⟩ := reach h d p (by omega) hp
    obtain ⟨t, ht, hg⟩ := List.getElem_of_mem hk
    refine ⟨ws ++ [(t : Int)], ?_⟩
    rw [play_app, has]
    simp only [Option.bind_some, playF]
    rw [if_pos (by omega), Int.toNat_natCast, List.getD_eq_getElem?_getD, List.getElem?_eq_getElem ht, Option.getD_some, hg, Int.toNat_natCast]
/-- the ends of the whole force -/
def ends (L : List NV) : List (List Int × Int) := endF L L.length 0
/-- the objects of the leaves before i -/
def leaves (L : List NV) (i : Nat) : List Int := ((List.range i).filter fun j => decide (nx L j = [])).map (fi L)
theorem ends_leaves {L : List NV} (h : OkF L) (x : Int) : x ∈ (ends L).map Prod.snd ↔ x ∈ leaves L L.length := by
  unfold leaves ends
  rw [List.mem_map, List.mem_map]
  constructor
  · rintro ⟨e, he, rfl⟩
    obtain ⟨j, h1, h2, h3, h4⟩ := end_play h _ 0 e h.pos he
    exact ⟨j, List.mem_filter.2 ⟨List.mem_range.2 h1, by simp [h3]⟩, h4.symm⟩
  · rintro ⟨j, hj, rfl⟩
    obtain ⟨h1, h2⟩ := List.mem_filter.1 hj
    have h1 := List.mem_range.1 h1
    have h2 : nx L j = [] := by simpa using h2
    obtain ⟨ws, has⟩ := reach h j j (Nat.le_refl _) h1
    exact ⟨_, play_end h ws L.length 0 j h.pos (by omega) has h2, rfl⟩

/-! ### lists in order without duplicates -/
def SortS (l : List Int) : Prop := l.Pairwise (· < ·)
theorem sort_eq : ∀ {a b : List Int}, SortS a → SortS b → (∀ x, x ∈ a ↔ x ∈ b) → a = b
  | [], [], _, _, _ => rfl
  | [], y :: b, _, _, h => absurd ((h y).2 List.mem_cons_self) (by simp)
  | x :: a, [], _, _, h => absurd ((h x).1 List.mem_cons_self) (by simp)
  | x :: a, y :: b, ha, hb, h => by
    have ha' := List.pairwise_cons.1 ha
    have hb' := List.pairwise_cons.1 hb
    have e : x = y := by
      have h1 := (h x).1 List.mem_cons_self
      have h2 := (h y).2 List.mem_cons_self
      rcases List.mem_cons.1 h1 with h1 | h1
      · exact h1
      · rcases List.mem_cons.1 h2 with h2 | h2
        · exact h2.symm
        · have := ha'.1 y h2
          have := hb'.1 x h1
          omega
    subst e
    rw [sort_eq ha'.2 hb'.2 fun z => ?_]
    constructor
    · intro hz
      have h1 := ha'.1 z hz
      rcases List.mem_cons.1 ((h z).1 (List.mem_cons_of_mem _ hz)) with h2 | h2
      · omega
      · exact h2
    · intro hz
      have h1 := hb'.1 z hz
      rcases List.mem_cons.1 ((h z).2 (List.mem_cons_of_mem _ hz)) with h2 | h2
      · omega
      · exact h2
def insU (x : Int) : List Int → List Int
  | [] => [x]
  | y :: l => if x < y then x :: y :: l else if x = y then y :: l else y :: insU x l
theorem mem_insU (x z : Int) : ∀ l, z ∈ insU x l ↔ z = x ∨ z ∈ l
  | [] => by simp [insU]
  | y :: l => by
    simp only [insU]
    split
    · simp
    · split
      · rename_i h; subst h; simp
      · rw [List.mem_cons, mem_insU x z l, List.mem_cons]
        constructor
        · rintro (h | h | h) <;> simp [h]
        · rintro (h | h | h) <;> simp [h]
theorem sort_insU (x : Int) : ∀ l, SortS l → SortS (insU x l)
  | [], _ => by simp [insU, SortS]
  | y :: l, h => by
    have h' := List.pairwise_cons.1 h
    simp only [insU]
    split
    · rename_i hx
      refine List.pairwise_cons.2 ⟨fun z hz => ?_, h⟩
      rcases List.mem_cons.1 hz with rfl | hz
      · exact hx
      · exact Int.lt_trans hx (h'.1 z hz)
    · split
      · exact h
      · refine List.pairwise_cons.2 ⟨fun z hz => ?_, sort_insU x l h'.2⟩
        rcases (mem_insU x z l).1 hz with rfl | hz
        · omega
        · exact h'.1 z hz
def sortU (l : List Int) : List Int := l.foldr insU []
theorem mem_sortU (z : Int) (l : List Int) : z ∈ sortU l ↔ z ∈ l := by
  unfold sortU
  induction l with
  | nil => simp
  | cons x l ih => rw [List.foldr_cons, mem_insU, ih, List.mem_cons]
theorem sort_sortU (l : List Int) : SortS (sortU l) := by
  unfold sortU
  induction l with
  | nil => exact List.Pairwise.nil
  | cons x l ih => exact sort_insU x _ ih
theorem sortU_of {a l : List Int} (h : SortS a) (hm : ∀ x, x ∈ a ↔ x ∈ l) : a = sortU l := sort_eq h (sort_sortU l) fun x => by rw [hm, mem_sortU]
/-- what EndsOf answers for a valid force -/
def objs (L : List NV) : List Int := sortU (leaves L L.length)
theorem objs_ends {L : List NV} (h : OkF L) {a : List Int} (hs : SortS a) (hm : ∀ x, x ∈ a ↔ x ∈ (ends L).map Prod.snd) : a = objs L :=
  sortU_of hs fun x => by rw [hm, ends_leaves h]
/-- all functions, for any list -/
noncomputable def endsI (L : List NV) : List Int := if okB L then objs L else []
noncomputable def forcedB (L : List NV) (ob : Int) : Bool := decide (endsI L = [ob])
noncomputable def wrongO (L : List NV) (ob : Int) : Option (List Int) := if okB L then wrongF L ob L.length 0 else none
noncomputable def playO (L : List NV) (ws : List Int) : Option Nat := if okB L then playF L 0 ws else none
noncomputable def depthI (L : List NV) : Int := if okB L then depthF L L.length 0 else -1
end Go.Proofs.Ytjmfdflhplobmaa.Fpl
