/- Searching by breadth with the steps 0 and 1: the states in the order in which they are found, and the list of steps for each; no program. -/
import Derived.Test.YtpbpgpccjabghaaFpm
import Derived.Test.YtpbpgpccjabghaaOrb
set_option linter.unusedVariables false
set_option maxRecDepth 20000
namespace Go.Proofs.Ytpbpgpccjabghaa.Bfs
open Pa Mvp

section
variable {α : Type} [DecidableEq α]
/-- one look at a step k from the state at place t -/
def half (nx : Nat → α → α) (d : α) (s : List α × List (List Int)) (t k : Nat) : List α × List (List Int) :=
  if nx k (s.1.getD t d) ∈ s.1 then s else (s.1 ++ [nx k (s.1.getD t d)], s.2 ++ [s.2.getD t [] ++ [(k : Int)]])
def runB (nx : Nat → α → α) (d a : α) : Nat → List α × List (List Int)
  | 0 => ([a], [[]])
  | t + 1 => half nx d (half nx d (runB nx d a t) t 0) t 1
/-- behind k of the two looks from the state at place t -/
def stH (nx : Nat → α → α) (d a : α) (t : Nat) : Nat → List α × List (List Int)
  | 0 => runB nx d a t
  | k + 1 => half nx d (stH nx d a t k) t k
theorem st_two (nx : Nat → α → α) (d a : α) (t : Nat) : stH nx d a t 2 = runB nx d a (t + 1) := rfl
/-- what is asked of a state of the search that finds n in all: all through -/
def okSt (n : Nat) (good : α → Bool) (s : List α × List (List Int)) (t : Nat) : Bool :=
  decide (s.1.length ≤ n) && decide (t < s.1.length) && decide (s.2.length = s.1.length) && s.1.all good && (s.2.all fun l => decide (l.length ≤ 12)) && decide s.1.Nodup
def okRun (nx : Nat → α → α) (d a : α) (n : Nat) (good : α → Bool) : Bool :=
  ((List.range n).all fun t => (okSt n good (runB nx d a t) t && okSt n good (stH nx d a t 1) t)) && decide ((runB nx d a n).1.length = n) && decide ((runB nx d a n).2.length = n) && (runB nx d a n).1.all good
    && decide (runB nx d a n).1.Nodup && ((runB nx d a n).2.all fun l => decide (l.length ≤ 12))
    && ((List.range n).all fun t => decide ((runB nx d a t).1.getD t d = (runB nx d a n).1.getD t d) && decide ((runB nx d a t).2.getD t [] = (runB nx d a n).2.getD t []))
end
/-- where a card goes by a perfect shuffle -/
def nxI (n : Nat) (k : Nat) (a : Int) : Int := (((pomF (n : Int) 4 (k : Int)).idxOf a : Nat) : Int)
def goodI (n : Nat) (a : Int) : Bool := decide (0 ≤ a) && decide (a < n)
set_option maxHeartbeats 4000000 in
theorem int_chk : ([2, 4, 6, 8, 10, 12].all fun n => (List.range n).all fun a => okRun (nxI n) 0 (a : Int) n (goodI n) && (List.range 2).all fun k => decide (nxI n k a < n)) = true := by kernel_rfl
theorem idx_chk : ([2, 4, 6, 8, 10, 12].all fun n => (List.range 2).all fun k => (List.range n).all fun a => decide (Lib.idxOf (pomF (n : Int) 4 (k : Int)) (a : Int) = nxI n k a) && decide (Pl.posF (pomF (n : Int) 4 (k : Int)) (a : Int) = nxI n k a)) = true := by kernel_rfl
theorem even_mem {n : Nat} (h1 : 2 ≤ n) (h2 : n ≤ 12) (h3 : n % 2 = 0) : n ∈ [2, 4, 6, 8, 10, 12] := by
  have : n = 2 ∨ n = 4 ∨ n = 6 ∨ n = 8 ∨ n = 10 ∨ n = 12 := by omega
  rcases this with rfl | rfl | rfl | rfl | rfl | rfl <;> decide
theorem nx_eq {n k : Nat} {a : Int} (h1 : 2 ≤ n) (h2 : n ≤ 12) (h3 : n % 2 = 0) (hk : k ≤ 1) (ha0 : 0 ≤ a) (ha : a < n) : Lib.idxOf (pomF (n : Int) 4 (k : Int)) a = nxI n k a ∧ Pl.posF (pomF (n : Int) 4 (k : Int)) a = nxI n k a := by
  obtain ⟨j, rfl⟩ : ∃ j : Nat, a = j := ⟨a.toNat, by omega⟩
  have h := List.all_eq_true.1 (List.all_eq_true.1 (List.all_eq_true.1 idx_chk n (even_mem h1 h2 h3)) k (List.mem_range.2 (by omega))) j (List.mem_range.2 (by omega))
  rw [Bool.and_eq_true, decide_eq_true_eq, decide_eq_true_eq] at h
  exact h

section
variable {α : Type} [DecidableEq α]
/-- a state of the search -/
structure Stt (n : Nat) (good : α → Bool) (s : List α × List (List Int)) : Prop where
  few : s.1.length ≤ n
  same : s.2.length = s.1.length
  good : ∀ x ∈ s.1, good x = true
  short : ∀ l ∈ s.2, l.length ≤ 12
  nodup : s.1.Nodup
theorem ok_parts {n : Nat} {good : α → Bool} {s : List α × List (List Int)} {t : Nat} (h : okSt n good s t = true) : Stt n good s ∧ t < s.1.length := by
  unfold okSt at h
  simp only [Bool.and_eq_true, decide_eq_true_eq, List.all_eq_true] at h
  obtain ⟨⟨⟨⟨⟨h1, h2⟩, h3⟩, h4⟩, h5⟩, h6⟩ := h
  exact ⟨⟨h1, h3, h4, h5, h6⟩, h2⟩
structure Run (nx : Nat → α → α) (d a : α) (n : Nat) (good : α → Bool) : Prop where
  mid : ∀ t, t < n → Stt n good (runB nx d a t) ∧ t < (runB nx d a t).1.length ∧ Stt n good (stH nx d a t 1) ∧ t < (stH nx d a t 1).1.length
  fin : Stt n good (runB nx d a n)
  len : (runB nx d a n).1.length = n
  fix : ∀ t, t < n → (runB nx d a t).1.getD t d = (runB nx d a n).1.getD t d ∧ (runB nx d a t).2.getD t [] = (runB nx d a n).2.getD t []
theorem run_parts {nx : Nat → α → α} {d a : α} {n : Nat} {good : α → Bool} (h : okRun nx d a n good = true) : Run nx d a n good := by
  unfold okRun at h
  simp only [Bool.and_eq_true, decide_eq_true_eq, List.all_eq_true, List.mem_range] at h
  obtain ⟨⟨⟨⟨⟨⟨h1, h2⟩, h3⟩, h4⟩, h5⟩, h6⟩, h7⟩ := h
  refine ⟨fun t ht => ?_, ⟨by omega, by omega, h4, h6, h5⟩, h2, h7⟩
  obtain ⟨k1, k2⟩ := h1 t ht
  exact ⟨(ok_parts k1).1, (ok_parts k1).2, (ok_parts k2).1, (ok_parts k2).2⟩
theorem Run.st {nx : Nat → α → α} {d a : α} {n : Nat} {good : α → Bool} (h : Run nx d a n good) {t k : Nat} (ht : t < n) (hk : k ≤ 2) : Stt n good (stH nx d a t k) ∧ t < (stH nx d a t k).1.length := by
  have hm := h.mid t ht
  rcases (show k = 0 ∨ k = 1 ∨ k = 2 by omega) with rfl | rfl | rfl
  · exact ⟨hm.1, hm.2.1⟩
  · exact ⟨hm.2.2.1, hm.2.2.2⟩
  · rw [st_two]
    by_cases e : t + 1 < n
    · have := h.mid (t + 1) e
      exact ⟨this.1, by omega⟩
    · have e2 : t + 1 = n := by omega
      rw [e2]
      exact ⟨h.fin, by have := h.len; omega⟩
/-- a look at the state at place t leaves what is at t -/
theorem half_keep (nx : Nat → α → α) (d : α) (s : List α × List (List Int)) (t k i : Nat) (h1 : i < s.1.length) (h2 : i < s.2.length) : (half nx d s t k).1.getD i d = s.1.getD i d ∧ (half nx d s t k).2.getD i [] = s.2.getD i [] := by
  unfold half
  split
  · exact ⟨rfl, rfl⟩
  · simp only [List.getD_eq_getElem?_getD]
    rw [List.getElem?_append_left h1, List.getElem?_append_left h2]
    exact ⟨rfl, rfl⟩
theorem half_old {nx : Nat → α → α} {d : α} {s : List α × List (List Int)} {t k : Nat} (h : nx k (s.1.getD t d) ∈ s.1) : half nx d s t k = s := by unfold half; rw [if_pos h]
theorem half_new {nx : Nat → α → α} {d : α} {s : List α × List (List Int)} {t k : Nat} (h : nx k (s.1.getD t d) ∉ s.1) : half nx d s t k = (s.1 ++ [nx k (s.1.getD t d)], s.2 ++ [s.2.getD t [] ++ [(k : Int)]]) := by unfold half; rw [if_neg h]
/-- the list of steps that the search finds for a state -/
def found (nx : Nat → α → α) (d a : α) (n : Nat) (x : α) : List Int := (runB nx d a n).2.getD ((runB nx d a n).1.idxOf x) []
end
theorem good_iff {n : Nat} {x : Int} : goodI n x = true ↔ 0 ≤ x ∧ x < n := by unfold goodI; simp
theorem run_int {n : Nat} {a : Int} (h1 : 2 ≤ n) (h2 : n ≤ 12) (h3 : n % 2 = 0) (ha0 : 0 ≤ a) (ha : a < n) : Run (nxI n) 0 a n (goodI n) := by
  obtain ⟨j, rfl⟩ : ∃ j : Nat, a = j := ⟨a.toNat, by omega⟩
  have h := List.all_eq_true.1 (List.all_eq_true.1 int_chk n (even_mem h1 h2 h3)) j (List.mem_range.2 (by omega))
  rw [Bool.and_eq_true] at h
  exact run_parts h.1
theorem nx_lt {n k : Nat} {a : Int} (h1 : 2 ≤ n) (h2 : n ≤ 12) (h3 : n % 2 = 0) (hk : k ≤ 1) (ha0 : 0 ≤ a) (ha : a < n) : 0 ≤ nxI n k a ∧ nxI n k a < n := by
  obtain ⟨j, rfl⟩ : ∃ j : Nat, a = j := ⟨a.toNat, by omega⟩
  have h := List.all_eq_true.1 (List.all_eq_true.1 int_chk n (even_mem h1 h2 h3)) j (List.mem_range.2 (by omega))
  rw [Bool.and_eq_true] at h
  have := of_decide_eq_true (List.all_eq_true.1 h.2 k (List.mem_range.2 (by omega)))
  refine ⟨?_, this⟩
  unfold nxI
  omega
/-- every index is found -/
theorem all_found {l : List Int} {n : Nat} (hl : l.length = n) (hd : l.Nodup) (hg : ∀ x ∈ l, goodI n x = true) {x : Int} (h0 : 0 ≤ x) (h : x < n) : x ∈ l := by
  refine Decidable.byContradiction fun hx => ?_
  have h2 := Orb.nodup_le (x :: l) ((List.range n).map fun i => ((i : Nat) : Int)) (List.nodup_cons.2 ⟨hx, hd⟩) (fun y hy => by
    have hy2 : 0 ≤ y ∧ y < n := by
      rcases List.mem_cons.1 hy with rfl | hy
      · exact ⟨h0, h⟩
      · exact good_iff.1 (hg y hy)
    exact List.mem_map.2 ⟨y.toNat, List.mem_range.2 (by omega), by omega⟩)
  simp at h2
  omega
end Go.Proofs.Ytpbpgpccjabghaa.Bfs
