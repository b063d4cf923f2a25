/- Searching by breadth with the steps 0 up to p: the states in the order in which they are found, and the list of steps for each; no program but for the rounds of piles. -/
import Derived.Test.YtpfbjbakcfmngaaIxa
import Derived.Test.YtpfbjbakcfmngaaOrb
set_option linter.unusedVariables false
set_option maxRecDepth 20000
namespace Go.Proofs.Ytpfbjbakcfmngaa.Bfm
open Go.RowKit Plk Ixa

section
variable {α : Type} [DecidableEq α]
/-- one look at a step k from the state at place t -/
def half (nx : Nat → α → α) (d : α) (s : List α × List (List Int)) (t k : Nat) : List α × List (List Int) :=
  if nx k (s.1.getD t d) ∈ s.1 then s else (s.1 ++ [nx k (s.1.getD t d)], s.2 ++ [s.2.getD t [] ++ [(k : Int)]])
/-- the first k looks from the state at place t -/
def looks (nx : Nat → α → α) (d : α) (s : List α × List (List Int)) (t : Nat) : Nat → List α × List (List Int)
  | 0 => s
  | k + 1 => half nx d (looks nx d s t k) t k
def runB (nx : Nat → α → α) (d a : α) (p : Nat) : Nat → List α × List (List Int)
  | 0 => ([a], [[]])
  | t + 1 => looks nx d (runB nx d a p t) t p
/-- behind k of the looks from the state at place t -/
def stH (nx : Nat → α → α) (d a : α) (p t k : Nat) : List α × List (List Int) := looks nx d (runB nx d a p t) t k
theorem st_all (nx : Nat → α → α) (d a : α) (p t : Nat) : stH nx d a p t p = runB nx d a p (t + 1) := rfl
theorem st_succ (nx : Nat → α → α) (d a : α) (p t k : Nat) : stH nx d a p t (k + 1) = half nx d (stH nx d a p t k) t k := rfl
def okSt (n : Nat) (good : α → Bool) (s : List α × List (List Int)) (t : Nat) : Bool :=
  decide (s.1.length ≤ n) && decide (t < s.1.length) && decide (s.2.length = s.1.length) && s.1.all good && (s.2.all fun l => decide (l.length ≤ 12)) && decide s.1.Nodup
def okRun (nx : Nat → α → α) (d a : α) (p n : Nat) (good : α → Bool) : Bool :=
  ((List.range n).all fun t => (List.range p).all fun k => okSt n good (stH nx d a p t k) t) && decide ((runB nx d a p n).1.length = n) && decide ((runB nx d a p n).2.length = n) && (runB nx d a p n).1.all good
    && decide (runB nx d a p n).1.Nodup && ((runB nx d a p n).2.all fun l => decide (l.length ≤ 12))
    && ((List.range n).all fun t => decide ((runB nx d a p t).1.getD t d = (runB nx d a p n).1.getD t d) && decide ((runB nx d a p t).2.getD t [] = (runB nx d a p n).2.getD t []))
/-- a state of the search -/
structure Stt (n : Nat) (good : α → Bool) (s : List α × List (List Int)) : Prop where
  few : s.1.length ≤ n
  same : s.2.length = s.1.length
  good : ∀ x ∈ s.1, good x = true
  short : ∀ l ∈ s.2, l.length ≤ 12
  nodup : s.1.Nodup
theorem ok_parts {n : Nat} {good : α → Bool} {s : List α × List (List Int)} {t : Nat} (h : okSt n good s t = true) : Stt n good s ∧ t < s.1.length := by
  unfold okSt at h
  simp only [Bool.and_eq_true, decide_eq_true_eq, List.all_eq_true] at h
  obtain ⟨⟨⟨⟨⟨h1, h2⟩, h3⟩, h4⟩, h5⟩, h6⟩ := h
  exact ⟨⟨h1, h3, h4, h5, h6⟩, h2⟩
structure Run (nx : Nat → α → α) (d a : α) (p n : Nat) (good : α → Bool) : Prop where
  mid : ∀ t, t < n → ∀ k, k < p → Stt n good (stH nx d a p t k) ∧ t < (stH nx d a p t k).1.length
  fin : Stt n good (runB nx d a p n)
  len : (runB nx d a p n).1.length = n
  fix : ∀ t, t < n → (runB nx d a p t).1.getD t d = (runB nx d a p n).1.getD t d ∧ (runB nx d a p t).2.getD t [] = (runB nx d a p n).2.getD t []
theorem run_parts {nx : Nat → α → α} {d a : α} {p n : Nat} {good : α → Bool} (h : okRun nx d a p n good = true) : Run nx d a p n good := by
  unfold okRun at h
  simp only [Bool.and_eq_true, decide_eq_true_eq, List.all_eq_true, List.mem_range] at h
  obtain ⟨⟨⟨⟨⟨⟨h1, h2⟩, h3⟩, h4⟩, h5⟩, h6⟩, h7⟩ := h
  exact ⟨fun t ht k hk => ok_parts (h1 t ht k hk), ⟨by omega, by omega, h4, h6, h5⟩, h2, h7⟩
theorem Run.st {nx : Nat → α → α} {d a : α} {p n : Nat} {good : α → Bool} (h : Run nx d a p n good) (hp : 0 < p) {t k : Nat} (ht : t < n) (hk : k ≤ p) : Stt n good (stH nx d a p t k) ∧ t < (stH nx d a p t k).1.length := by
  by_cases hk2 : k < p
  · exact h.mid t ht k hk2
  · have e : k = p := by omega
    subst e
    rw [st_all]
    by_cases e : t + 1 < n
    · have := h.mid (t + 1) e 0 hp
      exact ⟨this.1, by have h2 : t + 1 < (runB nx d a k (t + 1)).1.length := this.2; omega⟩
    · have e2 : t + 1 = n := by omega
      rw [e2]
      exact ⟨h.fin, by have := h.len; omega⟩
/-- a look at the state at place t leaves what is at t -/
theorem half_keep (nx : Nat → α → α) (d : α) (s : List α × List (List Int)) (t k i : Nat) (h1 : i < s.1.length) (h2 : i < s.2.length) : (half nx d s t k).1.getD i d = s.1.getD i d ∧ (half nx d s t k).2.getD i [] = s.2.getD i [] := by
  unfold half
  split
  · exact ⟨rfl, rfl⟩
  · simp only [List.getD_eq_getElem?_getD]
    rw [List.getElem?_append_left h1, List.getElem?_append_left h2]
    exact ⟨rfl, rfl⟩
theorem half_old {nx : Nat → α → α} {d : α} {s : List α × List (List Int)} {t k : Nat} (h : nx k (s.1.getD t d) ∈ s.1) : half nx d s t k = s := by unfold half; rw [if_pos h]
theorem half_new {nx : Nat → α → α} {d : α} {s : List α × List (List Int)} {t k : Nat} (h : nx k (s.1.getD t d) ∉ s.1) : half nx d s t k = (s.1 ++ [nx k (s.1.getD t d)], s.2 ++ [s.2.getD t [] ++ [(k : Int)]]) := by unfold half; rw [if_neg h]
/-- the list of steps that the search finds for a state -/
def found (nx : Nat → α → α) (d a : α) (p n : Nat) (x : α) : List Int := (runB nx d a p n).2.getD ((runB nx d a p n).1.idxOf x) []
end
def goodI (n : Nat) (a : Int) : Bool := decide (0 ≤ a) && decide (a < n)
theorem good_iff {n : Nat} {x : Int} : goodI n x = true ↔ 0 ≤ x ∧ x < n := by unfold goodI; simp
/-- every index is found -/
theorem all_found {l : List Int} {n : Nat} (hl : l.length = n) (hd : l.Nodup) (hg : ∀ x ∈ l, goodI n x = true) {x : Int} (h0 : 0 ≤ x) (h : x < n) : x ∈ l := by
  refine Decidable.byContradiction fun hx => ?_
  have h2 := Orb.nodup_le (x :: l) ((List.range n).map fun i => ((i : Nat) : Int)) (List.nodup_cons.2 ⟨hx, hd⟩) (fun y hy => by
    have hy2 : 0 ≤ y ∧ y < n := by
      rcases List.mem_cons.1 hy with rfl | hy
      · exact ⟨h0, h⟩
      · exact good_iff.1 (hg y hy)
    exact List.mem_map.2 ⟨y.toNat, List.mem_range.2 (by omega), by omega⟩)
  simp at h2
  omega
theorem idx_lt {l : List Int} {x : Int} (h : x ∈ l) : l.idxOf x < l.length ∧ l.getD (l.idxOf x) 0 = x := by
  have h1 := List.idxOf_lt_length_of_mem h
  refine ⟨h1, ?_⟩
  rw [List.getD_eq_getElem?_getD, List.getElem?_eq_getElem h1]
  simp
/-- where a card goes by a round whose chosen pile is put at place k -/
def nxP (n m : Nat) (k : Nat) (a : Int) : Int := (idxN n m a.toNat k : Int)
set_option maxHeartbeats 4000000 in
theorem run_chk : ([2, 3, 4].all fun m => (List.range 13).all fun n => if m ≤ n ∧ n % m = 0 then (List.range n).all (fun a => okRun (nxP n m) 0 (a : Int) m n (goodI n)) else true) = true := by kernel_rfl
theorem run_piles {n m : Nat} {a : Int} (hm : m = 2 ∨ m = 3 ∨ m = 4) (h1 : m ≤ n) (h2 : n ≤ 12) (h3 : n % m = 0) (ha0 : 0 ≤ a) (ha : a < n) : Run (nxP n m) 0 a m n (goodI n) := by
  obtain ⟨j, rfl⟩ : ∃ j : Nat, a = j := ⟨a.toNat, by omega⟩
  have h := List.all_eq_true.1 (List.all_eq_true.1 run_chk m (by rcases hm with rfl | rfl | rfl <;> decide)) n (List.mem_range.2 (by omega))
  rw [if_pos ⟨h1, h3⟩] at h
  exact run_parts (List.all_eq_true.1 h j (List.mem_range.2 (by omega)))
theorem nxP_lt {n m k : Nat} {a : Int} (hm : m = 2 ∨ m = 3 ∨ m = 4) (h1 : m ≤ n) (h2 : n ≤ 12) (h3 : n % m = 0) (hk : k < m) (ha0 : 0 ≤ a) (ha : a < n) : 0 ≤ nxP n m k a ∧ nxP n m k a < n := by
  have := (chk_at hm h1 h2 h3 (i := a.toNat) (by omega) hk).2.2.2.2
  unfold nxP
  omega
end Go.Proofs.Ytpfbjbakcfmngaa.Bfm
