/- Rising sequences as plain mathematics: which cards begin one, the lists of them, the index of a card's own, the list before the last riffle. -/
import Derived.Test.YtpmfiflpipcojaaGrp
set_option linter.unusedVariables false
set_option maxRecDepth 20000
namespace Go.Proofs.Ytpmfiflpipcojaa.Rsm
open Fr _root_.Go.Proofs.Ytpmfiflpipcojaa.Own Prm Pfn Orb Cyc Grp

/-- where a card lies -/
def pv (zs : List Int) (v : Nat) : Nat := fOf (invF zs) v
/-- the card begins a rising sequence -/
def nb (zs : List Int) (k : Nat) : Bool := decide (k = 0) || decide (pv zs k < pv zs (k - 1))
def rsF (b : Nat → Bool) : Nat → List (List Nat)
  | 0 => []
  | k + 1 => if b k then rsF b k ++ [[k]] else (rsF b k).dropLast ++ [(rsF b k).getLastD [] ++ [k]]
def riseI (zs : List Int) : List (List Int) := if permB zs then (rsF (nb zs) zs.length).map ints else []
theorem riseI_yes {zs : List Int} (h : permB zs = true) : riseI zs = (rsF (nb zs) zs.length).map ints := by unfold riseI; rw [if_pos h]
theorem riseI_no {zs : List Int} (h : permB zs = false) : riseI zs = [] := by unfold riseI; rw [h]; rfl
theorem nb_zero (zs : List Int) : nb zs 0 = true := by simp [nb]
theorem rsF_new {b : Nat → Bool} {k : Nat} (h : b k = true) : rsF b (k + 1) = rsF b k ++ [[k]] := by simp only [rsF]; rw [if_pos h]
theorem rsF_more {b : Nat → Bool} {k : Nat} {L : List (List Nat)} {r : List Nat} (h : b k = false) (e : rsF b k = L ++ [r]) : rsF b (k + 1) = L ++ [r ++ [k]] := by
  simp only [rsF]
  rw [h, e]
  simp
/-- index of the card's rising sequence -/
def sqF (b : Nat → Bool) : Nat → Nat
  | 0 => 0
  | v + 1 => sqF b v + (if b (v + 1) then 1 else 0)
theorem sqF_mono (b : Nat → Bool) {u v : Nat} (h : u ≤ v) : sqF b u ≤ sqF b v := by
  induction v with
  | zero => rw [Nat.le_zero.1 h]; exact Nat.le_refl _
  | succ v ih =>
    by_cases e : u = v + 1
    · rw [e]; exact Nat.le_refl _
    · have := ih (by omega); simp only [sqF]; omega
theorem sqF_le (b : Nat → Bool) (v : Nat) : sqF b v ≤ v := by
  induction v with
  | zero => exact Nat.le_refl _
  | succ v ih => simp only [sqF]; split <;> omega
theorem rsF_spec {b : Nat → Bool} (h0 : b 0 = true) : ∀ n, (rsF b (n + 1)).length = sqF b n + 1 ∧ (∃ L r, rsF b (n + 1) = L ++ [r] ∧ L.length = sqF b n) ∧ (∀ j, j < sqF b n + 1 → (rsF b (n + 1)).getD j [] ≠ []) ∧ (∀ j, ((rsF b (n + 1)).getD j []).Nodup) ∧ (∀ j v, v ∈ (rsF b (n + 1)).getD j [] ↔ v ≤ n ∧ sqF b v = j) := by
  intro n
  induction n with
  | zero =>
    have e : rsF b 1 = [[0]] := by rw [rsF_new h0]; rfl
    rw [e]
    refine ⟨rfl, ⟨[], [0], rfl, rfl⟩, ?_, ?_, ?_⟩
    · intro j hj
      have : j = 0 := by simp [sqF] at hj; omega
      subst this
      simp
    · intro j
      cases j <;> simp
    · intro j v
      cases j with
      | zero =>
        simp only [List.getD_cons_zero, List.mem_singleton]
        exact ⟨fun e => by subst e; exact ⟨Nat.le_refl _, rfl⟩, fun e => by omega⟩
      | succ j =>
        simp only [List.getD_cons_succ, List.getD_nil]
        refine ⟨fun e => (by cases e), fun e => ?_⟩
        have : v = 0 := by omega
        subst this
        simp [sqF] at e
  | succ n ih =>
    obtain ⟨h1, ⟨L, r, h2, h3⟩, h5, hnd, h4⟩ := ih
    cases hb : b (n + 1) with
    | true =>
      have hs : sqF b (n + 1) = sqF b n + 1 := by simp [sqF, hb]
      rw [rsF_new hb]
      refine ⟨by simp [h1, hs], ⟨rsF b (n + 1), [n + 1], rfl, by rw [hs]; exact h1⟩, ?_, ?_, ?_⟩
      · intro j hj
        by_cases hj2 : j < (rsF b (n + 1)).length
        · rw [List.getD_eq_getElem?_getD, List.getElem?_append_left hj2, ← List.getD_eq_getElem?_getD]
          exact h5 j (by omega)
        · have e : j = (rsF b (n + 1)).length := by omega
          subst e
          rw [List.getD_eq_getElem?_getD, List.getElem?_append_right (Nat.le_refl _)]
          simp
      · intro j
        rw [List.getD_eq_getElem?_getD]
        by_cases hj : j < (rsF b (n + 1)).length
        · rw [List.getElem?_append_left hj, ← List.getD_eq_getElem?_getD]; exact hnd j
        · by_cases e : j = (rsF b (n + 1)).length
          · subst e
            rw [List.getElem?_append_right (Nat.le_refl _)]
            simp
          · rw [List.getElem?_eq_none (by simp; omega)]
            simp
      · intro j v
        rw [List.getD_eq_getElem?_getD]
        by_cases hj : j < (rsF b (n + 1)).length
        · rw [List.getElem?_append_left hj, ← List.getD_eq_getElem?_getD, h4 j v]
          constructor
          · rintro ⟨q1, q2⟩; exact ⟨by omega, q2⟩
          · rintro ⟨q1, q2⟩
            refine ⟨?_, q2⟩
            rcases Nat.lt_or_ge v (n + 1) with q | q
            · omega
            · have : v = n + 1 := by omega
              subst this
              omega
        · by_cases e : j = (rsF b (n + 1)).length
          · subst e
            rw [List.getElem?_append_right (Nat.le_refl _)]
            simp only [Nat.sub_self, List.getElem?_cons_zero, Option.getD_some, List.mem_singleton]
            constructor
            · intro e; subst e; exact ⟨Nat.le_refl _, by omega⟩
            · rintro ⟨q1, q2⟩
              rcases Nat.lt_or_ge v (n + 1) with q | q
              · have := sqF_mono b (show v ≤ n by omega); omega
              · omega
          · rw [List.getElem?_eq_none (by simp; omega)]
            simp only [Option.getD_none]
            refine ⟨fun e => (by cases e), ?_⟩
            rintro ⟨q1, q2⟩
            have := sqF_mono b q1
            omega
    | false =>
      have hs : sqF b (n + 1) = sqF b n := by simp [sqF, hb]
      have hL : L.length + 1 = sqF b n + 1 := by rw [h3]
      have he := rsF_more hb h2
      rw [he]
      have hlast : (L ++ [r]).getD L.length [] = r := by
        rw [List.getD_eq_getElem?_getD, List.getElem?_append_right (Nat.le_refl _)]; simp
      have hlast2 : (L ++ [r ++ [n + 1]]).getD L.length [] = r ++ [n + 1] := by
        rw [List.getD_eq_getElem?_getD, List.getElem?_append_right (Nat.le_refl _)]; simp
      have hold : ∀ j, j ≠ L.length → (L ++ [r ++ [n + 1]]).getD j [] = (L ++ [r]).getD j [] := by
        intro j hj
        simp only [List.getD_eq_getElem?_getD]
        by_cases hj2 : j < L.length
        · rw [List.getElem?_append_left hj2, List.getElem?_append_left hj2]
        · rw [List.getElem?_eq_none (by simp; omega), List.getElem?_eq_none (by simp; omega)]
      rw [h2] at h4 h5 hnd
      refine ⟨by simp [hs, h3], ⟨L, r ++ [n + 1], rfl, by rw [hs]; exact h3⟩, ?_, ?_, ?_⟩
      · intro j hj
        by_cases e : j = L.length
        · subst e; rw [hlast2]; simp
        · rw [hold j e]; exact h5 j (by omega)
      · intro j
        by_cases e : j = L.length
        · subst e
          rw [hlast2]
          have q := hnd L.length
          rw [hlast] at q
          rw [List.nodup_append]
          refine ⟨q, by simp, ?_⟩
          intro a ha c hc e2
          rw [List.mem_singleton] at hc
          have q2 := (h4 L.length a).1 (by rw [hlast]; exact ha)
          omega
        · rw [hold j e]; exact hnd j
      · intro j v
        by_cases e : j = L.length
        · subst e
          rw [hlast2, List.mem_append, List.mem_singleton]
          have := h4 L.length v
          rw [hlast] at this
          rw [this]
          constructor
          · rintro (⟨q1, q2⟩ | q)
            · exact ⟨by omega, q2⟩
            · subst q; exact ⟨Nat.le_refl _, by omega⟩
          · rintro ⟨q1, q2⟩
            by_cases q : v = n + 1
            · exact Or.inr q
            · exact Or.inl ⟨by omega, q2⟩
        · rw [hold j e, h4 j v]
          constructor
          · rintro ⟨q1, q2⟩; exact ⟨by omega, q2⟩
          · rintro ⟨q1, q2⟩
            refine ⟨?_, q2⟩
            by_cases q : v = n + 1
            · subst q; omega
            · omega
/-- as many sequences as -/
def cntS (zs : List Int) : Nat := if permB zs = true ∧ zs ≠ [] then sqF (nb zs) (zs.length - 1) + 1 else 0
theorem rise_len (zs : List Int) : (riseI zs).length = cntS zs := by
  unfold cntS
  by_cases h : permB zs = true
  · rw [riseI_yes h]
    cases zs with
    | nil => rfl
    | cons z t =>
      rw [if_pos ⟨h, by simp⟩, List.length_map]
      exact (rsF_spec (nb_zero _) t.length).1
  · rw [riseI_no (Bool.eq_false_iff.2 h), if_neg (fun q => h q.1)]; rfl
theorem cnt_le (zs : List Int) : cntS zs ≤ 12 := by
  unfold cntS
  split
  next h =>
    have h1 := (permB_yes h.1).1
    have h2 := sqF_le (nb zs) (zs.length - 1)
    have h3 : zs.length ≠ 0 := by simpa using h.2
    omega
  next => omega
theorem cnt_zero (zs : List Int) : cntS zs = 0 ↔ permB zs = false ∨ zs = [] := by
  unfold cntS
  split
  next h => simp [h.1, h.2]
  next h =>
    refine ⟨fun _ => ?_, fun _ => rfl⟩
    by_cases q : permB zs = true
    · exact Or.inr (Classical.byContradiction fun e => h ⟨q, e⟩)
    · exact Or.inl (Bool.eq_false_iff.2 q)
/-! ### positions -/
theorem pv_at {zs : List Int} (h : permB zs = true) {i : Nat} (hi : i < zs.length) : pv zs (fOf zs i) = i := inv_f h i hi
theorem pv_lt {zs : List Int} (h : permB zs = true) {v : Nat} (hv : v < zs.length) : pv zs v < zs.length := by
  have hb := bij_of (inv_perm h)
  rw [invF_len h] at hb
  exact hb.lt v hv
theorem at_pv {zs : List Int} (h : permB zs = true) {v : Nat} (hv : v < zs.length) : fOf zs (pv zs v) = v := by
  have hb := bij_of (inv_perm h)
  rw [invF_len h] at hb
  have hp := pv_lt h hv
  exact hb.inj _ _ ((bij_of h).lt _ hp) hv (pv_at h hp)
theorem inv_get {zs : List Int} (h : permB zs = true) {v : Nat} (hv : v < zs.length) : (invF zs).getD v 0 = (pv zs v : Nat) := fOf_get (inv_perm h) (by rw [invF_len h]; exact hv)
end Go.Proofs.Ytpmfiflpipcojaa.Rsm
