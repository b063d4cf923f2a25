/- The moves on lists, without a program: what each does, from which position each card comes, and what is kept. -/
import Derived.Test.YtibephoepkofnaaGreatGrp
set_option linter.unusedVariables false
set_option maxRecDepth 20000
namespace Go.Proofs.YtibephoepkofnaaGreat.Mvp
open Go.RowKit Pk Pl Pok Arr Prm Pfn Ins Nwp

section
variable {α β : Type}
def cutL (l : List α) (k : Nat) : List α := l.drop k ++ l.take k
def dealL (l : List α) (k : Nat) : List α := (l.take k).reverse ++ l.drop k
def interL : Nat → List α → List α → List α → List α
  | 0, u, v, q => q ++ v
  | f + 1, [], v, q => q ++ v
  | f + 1, x :: u, v, q => interL f v u (q ++ [x])
def faroL (l : List α) (k : Nat) : List α :=
  if k = 1 then interL (l.length + 1) (l.drop (l.length / 2)) (l.take (l.length / 2)) [] else interL (l.length + 1) (l.take (l.length / 2)) (l.drop (l.length / 2)) []
def sfaroL (k : Nat) : Nat → List α → List α → List α → List α
  | 0, _, _, q => q
  | f + 1, [], [], q => q
  | f + 1, [], y :: b, q => sfaroL k f [] b (q ++ [y])
  | f + 1, x :: a, [], q => sfaroL k f a [] (q ++ [x])
  | f + 1, x :: a, y :: b, q => if q.length % 2 = k then sfaroL k f a (y :: b) (q ++ [x]) else sfaroL k f (x :: a) b (q ++ [y])
def mongeL (k : Nat) : Nat → List α → List α → List α
  | i, [], q => q
  | i, x :: r, q => if i % 2 = k then mongeL k (i + 1) r (q ++ [x]) else mongeL k (i + 1) r (x :: q)
def milkL : Nat → List α → List α → List α
  | 0, p, q => p ++ q
  | f + 1, [], q => q
  | f + 1, [x], q => x :: q
  | f + 1, x :: y :: r, q => milkL f ((y :: r).take r.length) (x :: ((y :: r).drop r.length ++ q))
def duckL : Nat → List α → List α → Nat → List α
  | 0, p, q, s => p ++ q
  | f + 1, [], q, s => q
  | f + 1, [x], q, s => x :: q
  | f + 1, x :: y :: r, q, s => if s % 2 = 1 then duckL f (y :: r) (x :: q) (s + 1) else duckL f (y :: r ++ [x]) q (s + 1)
def underL (l : List α) (k : Nat) : List α := l.take k ++ (l.drop (k + 1) ++ (l.drop k).take 1)
/-- a move that turns no card over -/
def pureL (kd k : Nat) (l : List α) : List α :=
  if kd = 1 then cutL l k else if kd = 2 then dealL l k else if kd = 3 then dealL l k else if kd = 4 then faroL l k else if kd = 5 then mongeL k 0 l []
  else if kd = 6 then milkL (l.length + 1) l [] else if kd = 7 then duckL (2 * l.length + 2) l [] k else if kd = 9 then underL l k else l

theorem inter_map (g : α → β) : ∀ (f : Nat) (u v q : List α), interL f (u.map g) (v.map g) (q.map g) = (interL f u v q).map g
  | 0, u, v, q => by simp [interL]
  | f + 1, [], v, q => by simp [interL]
  | f + 1, x :: u, v, q => by
    have h := inter_map g f v u (q ++ [x])
    simpa [interL] using h
theorem sfaro_map (g : α → β) (k : Nat) : ∀ (f : Nat) (u v q : List α), sfaroL k f (u.map g) (v.map g) (q.map g) = (sfaroL k f u v q).map g
  | 0, u, v, q => by simp [sfaroL]
  | f + 1, [], [], q => by simp [sfaroL]
  | f + 1, [], y :: b, q => by
    have h := sfaro_map g k f [] b (q ++ [y])
    simpa [sfaroL] using h
  | f + 1, x :: a, [], q => by
    have h := sfaro_map g k f a [] (q ++ [x])
    simpa [sfaroL] using h
  | f + 1, x :: a, y :: b, q => by
    have h1 := sfaro_map g k f a (y :: b) (q ++ [x])
    have h2 := sfaro_map g k f (x :: a) b (q ++ [y])
    simp only [List.map_append, List.map_cons, List.map_nil] at h1 h2
    simp only [List.map_cons, sfaroL, List.length_map]
    split
    · exact h1
    · exact h2
theorem monge_map (g : α → β) (k : Nat) : ∀ (i : Nat) (l q : List α), mongeL k i (l.map g) (q.map g) = (mongeL k i l q).map g
  | i, [], q => by simp [mongeL]
  | i, x :: r, q => by
    have h1 := monge_map g k (i + 1) r (q ++ [x])
    have h2 := monge_map g k (i + 1) r (x :: q)
    simp only [List.map_append, List.map_cons, List.map_nil] at h1 h2
    simp only [List.map_cons, mongeL]
    split
    · exact h1
    · exact h2
theorem milk_map (g : α → β) : ∀ (f : Nat) (l q : List α), milkL f (l.map g) (q.map g) = (milkL f l q).map g
  | 0, l, q => by simp [milkL]
  | f + 1, [], q => by simp [milkL]
  | f + 1, [x], q => by simp [milkL]
  | f + 1, x :: y :: r, q => by
    have h := milk_map g f ((y :: r).take r.length) (x :: ((y :: r).drop r.length ++ q))
    simp only [List.map_cons, milkL, List.length_map]
    rw [← List.map_cons, ← List.map_take, ← List.map_drop, ← List.map_append, ← List.map_cons]
    exact h
theorem duck_map (g : α → β) : ∀ (f : Nat) (l q : List α) (s : Nat), duckL f (l.map g) (q.map g) s = (duckL f l q s).map g
  | 0, l, q, s => by simp [duckL]
  | f + 1, [], q, s => by simp [duckL]
  | f + 1, [x], q, s => by simp [duckL]
  | f + 1, x :: y :: r, q, s => by
    have h1 := duck_map g f (y :: r) (x :: q) (s + 1)
    have h2 := duck_map g f (y :: r ++ [x]) q (s + 1)
    simp only [List.map_append, List.map_cons, List.map_nil] at h1 h2
    simp only [List.map_cons, duckL]
    split
    · exact h1
    · exact h2
theorem faro_map (g : α → β) (k : Nat) (l : List α) : faroL (l.map g) k = (faroL l k).map g := by
  unfold faroL
  rw [List.length_map, ← List.map_drop, ← List.map_take]
  split
  · exact inter_map g _ _ _ []
  · exact inter_map g _ _ _ []
theorem pure_map (g : α → β) (kd k : Nat) (l : List α) : pureL kd k (l.map g) = (pureL kd k l).map g := by
  have hd : dealL (l.map g) k = (dealL l k).map g := by simp [dealL, List.map_take, List.map_drop, List.map_reverse]
  unfold pureL
  by_cases h1 : kd = 1
  · rw [if_pos h1, if_pos h1]; simp [cutL, List.map_take, List.map_drop]
  rw [if_neg h1, if_neg h1]
  by_cases h2 : kd = 2
  · rw [if_pos h2, if_pos h2]; exact hd
  rw [if_neg h2, if_neg h2]
  by_cases h3 : kd = 3
  · rw [if_pos h3, if_pos h3]; exact hd
  rw [if_neg h3, if_neg h3]
  by_cases h4 : kd = 4
  · rw [if_pos h4, if_pos h4]; exact faro_map g k l
  rw [if_neg h4, if_neg h4]
  by_cases h5 : kd = 5
  · rw [if_pos h5, if_pos h5]; exact monge_map g k 0 l []
  rw [if_neg h5, if_neg h5]
  by_cases h6 : kd = 6
  · rw [if_pos h6, if_pos h6, List.length_map]; exact milk_map g _ l []
  rw [if_neg h6, if_neg h6]
  by_cases h7 : kd = 7
  · rw [if_pos h7, if_pos h7, List.length_map]; exact duck_map g _ l [] k
  rw [if_neg h7, if_neg h7]
  by_cases h9 : kd = 9
  · rw [if_pos h9, if_pos h9]; simp [underL, List.map_take, List.map_drop]
  rw [if_neg h9, if_neg h9]
end

/-- may a move of this kind have this K with n cards? -/
def kOk (kd k n : Nat) : Bool := if kd = 1 ∨ kd = 2 ∨ kd = 3 then decide (k ≤ n) else if kd = 4 ∨ kd = 5 ∨ kd = 7 then decide (k ≤ 1) else if kd = 6 then decide (k = 0) else if kd = 8 ∨ kd = 9 then decide (k < n) else false
def mvB (n kd k : Int) : Bool := decide (1 ≤ n ∧ n ≤ 12) && decide (0 ≤ k ∧ 0 ≤ kd) && kOk kd.toNat k.toNat n.toNat
/-- what a move does -/
def moveF (kd k : Nat) (zs : List Int) : List Int := if kd = 3 then (zs.take k).reverse.map turnF ++ zs.drop k else if kd = 8 then zs.set k (turnF (zs.getD k 0)) else pureL kd k zs
def srcL (kd k n : Nat) : List Nat := pureL kd k (List.range n)
def trn (kd k i : Nat) : Bool := (decide (kd = 3) && decide (i < k)) || (decide (kd = 8) && decide (i = k))

theorem as_range (zs : List Int) : zs = (List.range zs.length).map fun i => zs.getD i 0 := by
  apply List.ext_getElem
  · simp
  · intro i h1 h2
    simp [List.getD_eq_getElem?_getD, List.getElem?_eq_getElem h1]
theorem move_src (kd k : Nat) (zs : List Int) (hk : k ≤ zs.length) : moveF kd k zs = (srcL kd k zs.length).map fun i => if trn kd k i = true then turnF (zs.getD i 0) else zs.getD i 0 := by
  unfold moveF srcL
  by_cases h3 : kd = 3
  · subst h3
    rw [if_pos rfl]
    have e : pureL 3 k (List.range zs.length) = ((List.range zs.length).take k).reverse ++ (List.range zs.length).drop k := rfl
    rw [e, List.map_append, List.map_reverse, List.map_reverse]
    congr 1
    · congr 1
      conv => lhs; rw [as_range zs]
      rw [← List.map_take, List.map_map]
      apply List.map_congr_left
      intro i hi
      have hik : i < k := by
        obtain ⟨j, hj, e⟩ := List.mem_take_iff_getElem.1 hi
        simp at e hj
        omega
      have ht : trn 3 k i = true := by simp [trn, hik]
      simp only [Function.comp]
      rw [if_pos ht]
    · conv => lhs; rw [as_range zs]
      rw [← List.map_drop]
      apply List.map_congr_left
      intro i hi
      have hik : k ≤ i := by
        obtain ⟨j, hj, e⟩ := List.mem_drop_iff_getElem.1 hi
        simp at e hj
        omega
      have ht : ¬ (trn 3 k i = true) := by simp [trn]; omega
      rw [if_neg ht]
  rw [if_neg h3]
  by_cases h8 : kd = 8
  · subst h8
    rw [if_pos rfl]
    have e : pureL 8 k (List.range zs.length) = List.range zs.length := rfl
    rw [e]
    apply List.ext_getElem
    · simp
    · intro i h1 h2
      have hi : i < zs.length := by simpa using h1
      rw [List.getElem_set]
      simp only [List.getElem_map, List.getElem_range]
      by_cases hik : k = i
      · subst hik
        have ht : trn 8 k k = true := by simp [trn]
        rw [if_pos rfl, if_pos ht]
      · have ht : ¬ (trn 8 k i = true) := by simp [trn]; omega
        rw [if_neg hik, if_neg ht]
        simp [List.getD_eq_getElem?_getD, hi]
  rw [if_neg h8]
  conv => lhs; rw [as_range zs]
  rw [pure_map]
  apply List.map_congr_left
  intro i _
  have ht : ¬ (trn kd k i = true) := by simp [trn, h3, h8]
  rw [if_neg ht]

def nodB : List Nat → Bool
  | [] => true
  | x :: r => !(r.contains x) && nodB r
theorem nodB_ok : ∀ (l : List Nat), nodB l = true → l.Nodup
  | [], _ => List.nodup_nil
  | x :: r, h => by
    simp only [nodB, Bool.and_eq_true, Bool.not_eq_true'] at h
    rw [List.nodup_cons]
    exact ⟨fun hm => by simp [hm] at h, nodB_ok r h.2⟩
def srcB (kd k n : Nat) : Bool := Nat.beq (srcL kd k n).length n && (srcL kd k n).all (fun i => Nat.blt i n) && nodB (srcL kd k n)
theorem src_all : ((List.range 13).all fun n => (List.range 10).all fun kd => (List.range 13).all fun k => !(kOk kd k n) || srcB kd k n) = true := by kernel_rfl
theorem kOk_le {kd k n : Nat} (h : kOk kd k n = true) (hn : 1 ≤ n) : kd ≤ 9 ∧ 1 ≤ kd ∧ k ≤ n := by
  unfold kOk at h
  split at h
  · simp at h; omega
  split at h
  · simp at h; omega
  split at h
  · simp at h; omega
  split at h
  · simp at h; omega
  · simp at h
theorem src_ok {kd k n : Nat} (h : kOk kd k n = true) (hn : 1 ≤ n) (hn2 : n ≤ 12) : (srcL kd k n).length = n ∧ (∀ i ∈ srcL kd k n, i < n) ∧ (srcL kd k n).Nodup := by
  have hk := kOk_le h hn
  have h1 := List.all_eq_true.1 src_all n (List.mem_range.2 (by omega))
  have h2 := List.all_eq_true.1 h1 kd (List.mem_range.2 (by omega))
  have h3 := List.all_eq_true.1 h2 k (List.mem_range.2 (by omega))
  rw [h] at h3
  simp only [Bool.not_true, Bool.false_or, srcB, Bool.and_eq_true] at h3
  refine ⟨Nat.eq_of_beq_eq_true h3.1.1, fun i hi => ?_, nodB_ok _ h3.2⟩
  have := List.all_eq_true.1 h3.1.2 i hi
  exact Nat.lt_of_succ_le (by simpa [Nat.blt] using this)
/-- where the card at position j comes from -/
def srcA (kd k n j : Nat) : Nat := (srcL kd k n).getD j 0
theorem src_lt {kd k n j : Nat} (h : kOk kd k n = true) (hn : 1 ≤ n) (hn2 : n ≤ 12) (hj : j < n) : srcA kd k n j < n := by
  obtain ⟨h1, h2, _⟩ := src_ok h hn hn2
  unfold srcA
  rw [List.getD_eq_getElem?_getD, List.getElem?_eq_getElem (by omega)]
  exact h2 _ (List.getElem_mem _)
theorem src_inj {kd k n i j : Nat} (h : kOk kd k n = true) (hn : 1 ≤ n) (hn2 : n ≤ 12) (hi : i < n) (hj : j < n) (he : srcA kd k n i = srcA kd k n j) : i = j := by
  obtain ⟨h1, _, h3⟩ := src_ok h hn hn2
  unfold srcA at he
  rw [List.getD_eq_getElem?_getD, List.getElem?_eq_getElem (by omega), List.getD_eq_getElem?_getD, List.getElem?_eq_getElem (by omega)] at he
  have hp := List.pairwise_iff_getElem.1 h3
  rcases Nat.lt_trichotomy i j with hij | hij | hij
  · exact absurd he (hp i j (by omega) (by omega) hij)
  · exact hij
  · exact absurd he.symm (hp j i (by omega) (by omega) hij)
theorem src_onto {kd k n v : Nat} (h : kOk kd k n = true) (hn : 1 ≤ n) (hn2 : n ≤ 12) (hv : v < n) : ∃ j, j < n ∧ srcA kd k n j = v :=
  Grp.onto ⟨fun i hi => src_lt h hn hn2 hi, fun i j hi hj e => src_inj h hn hn2 hi hj e⟩ hv
theorem move_len {kd k : Nat} {zs : List Int} (h : kOk kd k zs.length = true) (hn : 1 ≤ zs.length) (hn2 : zs.length ≤ 12) : (moveF kd k zs).length = zs.length := by
  rw [move_src kd k zs (kOk_le h hn).2.2, List.length_map, (src_ok h hn hn2).1]
theorem move_get {kd k j : Nat} {zs : List Int} (h : kOk kd k zs.length = true) (hn : 1 ≤ zs.length) (hn2 : zs.length ≤ 12) (hj : j < zs.length) :
    (moveF kd k zs).getD j 0 = if trn kd k (srcA kd k zs.length j) = true then turnF (zs.getD (srcA kd k zs.length j) 0) else zs.getD (srcA kd k zs.length j) 0 := by
  have hl := (src_ok h hn hn2).1
  rw [move_src kd k zs (kOk_le h hn).2.2]
  unfold srcA
  rw [List.getD_eq_getElem?_getD, List.getElem?_map, List.getElem?_eq_getElem (by omega), List.getD_eq_getElem?_getD (l := srcL kd k zs.length), List.getElem?_eq_getElem (by omega)]
  rfl

/-! ### what is kept -/
theorem card_turn (x : Int) : cardF (turnF x) = cardF x := by
  unfold turnF
  split
  · rename_i h
    by_cases h0 : 0 ≤ x
    · rw [cardF_down h0 h.2, cardF_up (by omega) (by omega)]; omega
    · rw [cardF_up h.1 (by omega), cardF_down (by omega) (by omega)]
  · rfl
theorem up_turn {x : Int} (h : 0 ≤ cardF x) : upB (turnF x) = !upB x := by
  have hb := cardF_pos h
  unfold turnF
  rw [if_pos hb]
  unfold upB
  by_cases h0 : 0 ≤ x
  · rw [decide_eq_true (by omega), decide_eq_false (by omega)]; rfl
  · rw [decide_eq_false (by omega), decide_eq_true (by omega)]; rfl
theorem turn_bd {x : Int} (h : -12 ≤ x ∧ x ≤ 11) : -12 ≤ turnF x ∧ turnF x ≤ 11 := by unfold turnF; rw [if_pos h]; omega
theorem ok_parts {zs : List Int} (h : okB zs = true) : zs.length ≤ 12 ∧ (∀ i, i < zs.length → 0 ≤ cardF (zs.getD i 0)) ∧ ∀ i j, i < zs.length → j < zs.length → cardF (zs.getD i 0) = cardF (zs.getD j 0) → i = j := by
  have hc : ∀ i, i < zs.length → 0 ≤ cardF (zs.getD i 0) := fun i hi => in_dist h i hi
  have hnew : ∀ k, k < zs.length → ∀ i, i < k → cardF (zs.getD i 0) ≠ cardF (zs.getD k 0) := by
    intro k hk i hik e
    have hm : cardF (zs.getD k 0) ∈ dist zs k := (dist_mem zs k _).2 ⟨hc k hk, i, hik, e⟩
    have hs := okB_stop zs k hk (dist_old zs k hm)
    rw [hs] at h
    cases h
  refine ⟨(okB_yes h).1, hc, fun i j hi hj e => ?_⟩
  rcases Nat.lt_trichotomy i j with hij | hij | hij
  · exact absurd e (hnew j hj i hij)
  · exact hij
  · exact absurd e.symm (hnew i hi j hij)
theorem ok_of {zs : List Int} (h1 : zs.length ≤ 12) (h2 : ∀ i, i < zs.length → 0 ≤ cardF (zs.getD i 0)) (h3 : ∀ i j, i < zs.length → j < zs.length → cardF (zs.getD i 0) = cardF (zs.getD j 0) → i = j) : okB zs = true := by
  have hd : ∀ k, k ≤ zs.length → (dist zs k).length = k := by
    intro k
    induction k with
    | zero => intro _; rfl
    | succ k ih =>
      intro hk
      have hm : cardF (zs.getD k 0) ∉ dist zs k := by
        intro hm
        obtain ⟨_, i, hi, e⟩ := (dist_mem zs k _).1 hm
        have := h3 i k (by omega) (by omega) e
        omega
      rw [dist_new zs k (h2 k (by omega)) hm, List.length_append, ih (by omega)]
      rfl
  unfold okB
  rw [decide_eq_true h1, decide_eq_true (hd _ (Nat.le_refl _))]
  rfl
theorem move_card {kd k j : Nat} {zs : List Int} (h : kOk kd k zs.length = true) (hn : 1 ≤ zs.length) (hn2 : zs.length ≤ 12) (hj : j < zs.length) :
    cardF ((moveF kd k zs).getD j 0) = cardF (zs.getD (srcA kd k zs.length j) 0) := by
  rw [move_get h hn hn2 hj]
  split
  · rw [card_turn]
  · rfl
theorem move_ok {kd k : Nat} {zs : List Int} (h : kOk kd k zs.length = true) (hn : 1 ≤ zs.length) (hz : okB zs = true) : okB (moveF kd k zs) = true := by
  obtain ⟨h1, h2, h3⟩ := ok_parts hz
  have hl := move_len h hn h1
  refine ok_of (by omega) (fun i hi => ?_) (fun i j hi hj e => ?_)
  · rw [move_card h hn h1 (by omega)]
    exact h2 _ (src_lt h hn h1 (by omega))
  · rw [move_card h hn h1 (by omega), move_card h hn h1 (by omega)] at e
    exact src_inj h hn h1 (by omega) (by omega) (h3 _ _ (src_lt h hn h1 (by omega)) (src_lt h hn h1 (by omega)) e)
theorem move_fits {kd k : Nat} {zs : List Int} (h : kOk kd k zs.length = true) (hn : 1 ≤ zs.length) (hz : okB zs = true) : Fits (moveF kd k zs) := by
  intro i hi
  have h1 := (ok_parts (move_ok h hn hz)).2.1 i hi
  have := cardF_pos h1
  omega
theorem ok_fits {zs : List Int} (hz : okB zs = true) : Fits zs := by
  intro i hi
  have h1 := (ok_parts hz).2.1 i hi
  have := cardF_pos h1
  omega
/-- the position of a card -/
theorem pos_at {zs : List Int} (hz : okB zs = true) {i : Nat} (hi : i < zs.length) : posF zs (cardF (zs.getD i 0)) = (i : Int) := by
  obtain ⟨h1, h2, h3⟩ := ok_parts hz
  have hgo : ∀ f s, s ≤ i → i < s + f → posFrom zs (cardF (zs.getD i 0)) f s = (i : Int) := by
    intro f
    induction f with
    | zero => intro s h1 h2; omega
    | succ f ih =>
      intro s hs hf
      by_cases hsi : s = i
      · subst hsi
        exact posFrom_hit zs _ f s (h2 s hi) rfl
      · rw [posFrom_miss zs _ f s (fun hc => hsi (h3 s i (by omega) hi hc.2))]
        exact ih (s + 1) (by omega) (by omega)
  exact hgo zs.length 0 (Nat.zero_le _) (by omega)
theorem move_arr {kd k : Nat} {zs : List Int} (h : kOk kd k zs.length = true) (hn : 1 ≤ zs.length) (hz : okB zs = true) : arrB zs (moveF kd k zs) = true := by
  have h1 := (ok_parts hz).1
  have hl := move_len h hn h1
  have h2 := move_ok h hn hz
  rw [arr_in hz h2 hl.symm]
  refine in_all hz h2 hl.symm (fun i hi => ?_)
  obtain ⟨j, hj, e⟩ := src_onto h hn h1 hi
  have hc := move_card h hn h1 hj
  rw [e] at hc
  rw [← hc, pos_at h2 (by omega)]
  omega
def srcI (kd k n : Nat) : List Int := (srcL kd k n).map fun i : Nat => (i : Int)
theorem srcI_len {kd k n : Nat} (h : kOk kd k n = true) (hn : 1 ≤ n) (hn2 : n ≤ 12) : (srcI kd k n).length = n := by rw [srcI, List.length_map, (src_ok h hn hn2).1]
theorem move_bet {kd k : Nat} {zs : List Int} (h : kOk kd k zs.length = true) (hn : 1 ≤ zs.length) (hz : okB zs = true) : betF zs (moveF kd k zs) = srcI kd k zs.length := by
  have h1 := (ok_parts hz).1
  have hl := move_len h hn h1
  have hs := srcI_len h hn h1
  rw [betF_yes (move_arr h hn hz)]
  refine Sam.same_all _ _ (by rw [btw_len, hl, hs]) (fun j hj => ?_)
  rw [btw_len, hl] at hj
  rw [btw_get _ _ _ (by omega), move_card h hn h1 hj, pos_at hz (src_lt h hn h1 hj)]
  unfold srcI srcA
  have hll := (src_ok h hn h1).1
  rw [List.getD_eq_getElem?_getD (l := List.map _ _), List.getElem?_map, List.getElem?_eq_getElem (by omega), List.getD_eq_getElem?_getD, List.getElem?_eq_getElem (by omega)]
  rfl
/-- the new packet is a packet -/
theorem new_ok (n : Nat) (hn : n ≤ 12) : okB (imarks 0 n) = true := by
  have hl := imarks_length 0 n
  refine ok_of (by omega) (fun i hi => ?_) (fun i j hi hj e => ?_)
  · rw [imarks_get 0 n i (by omega), cardF_down (by omega) (by omega)]; omega
  · rw [imarks_get 0 n i (by omega), imarks_get 0 n j (by omega), cardF_down (by omega) (by omega), cardF_down (by omega) (by omega)] at e
    omega
theorem new_cards {kd k n : Nat} (h : kOk kd k n = true) (hn : 1 ≤ n) (hn2 : n ≤ 12) : (moveF kd k (imarks 0 n)).map cardF = srcI kd k n := by
  have hl := imarks_length 0 n
  have h' : kOk kd k (imarks 0 n).length = true := by rw [hl]; exact h
  have hml := move_len h' (by omega) (by omega)
  have hs := srcI_len h hn hn2
  refine Sam.same_all _ _ (by rw [List.length_map, hml, hs, hl]) (fun j hj => ?_)
  rw [List.length_map, hml, hl] at hj
  have hll := (src_ok h hn hn2).1
  have hsl := src_lt h hn hn2 hj
  have e1 : (List.map cardF (moveF kd k (imarks 0 n))).getD j 0 = cardF ((moveF kd k (imarks 0 n)).getD j 0) := by
    rw [List.getD_eq_getElem?_getD, List.getElem?_map, List.getElem?_eq_getElem (by omega), List.getD_eq_getElem?_getD, List.getElem?_eq_getElem (by omega)]
    rfl
  rw [e1, move_card h' (by omega) (by omega) (by omega), hl, imarks_get 0 n _ hsl, cardF_down (by omega) (by omega)]
  unfold srcI srcA
  rw [List.getD_eq_getElem?_getD (l := List.map _ _), List.getElem?_map, List.getElem?_eq_getElem (by omega), List.getD_eq_getElem?_getD, List.getElem?_eq_getElem (by omega)]
  simp
end Go.Proofs.YtibephoepkofnaaGreat.Mvp
