/- Facts for FnRounds: all chosen cards meet, and the found places bring a card to its target. -/
import Derived.Test.YtpfbjbakcfmngaaRne
import Derived.Test.YtpfbjbakcfmngaaPlf
set_option linter.unusedVariables false
set_option maxRecDepth 20000
namespace Go.Proofs.Ytpfbjbakcfmngaa.Rnx
open Go.RowKit Fr Plk Ixa Rne Bfm Plf

def chkQ (n m pl : Nat) : Bool :=
  decide (meetFrom n m pl n 0 = (-1, -1)) || (decide (0 ≤ (meetFrom n m pl n 0).1 ∧ (meetFrom n m pl n 0).1 ≤ n ∧ 0 ≤ (meetFrom n m pl n 0).2) && (List.range n).all fun i => decide ((itN n m pl i (meetFrom n m pl n 0).1.toNat : Int) = (meetFrom n m pl n 0).2))
set_option maxHeartbeats 4000000 in
theorem chkQ_all : ([2, 3, 4].all fun m => (List.range 13).all fun n => if m ≤ n ∧ n % m = 0 then (List.range m).all (fun pl => chkQ n m pl) else true) = true := by kernel_rfl
theorem meets {n m pl : Nat} (hm : m = 2 ∨ m = 3 ∨ m = 4) (h1 : m ≤ n) (h2 : n ≤ 12) (h3 : n % m = 0) (hp : pl < m) :
    meetFrom n m pl n 0 = (-1, -1) ∨ ∃ k x : Nat, meetFrom n m pl n 0 = ((k : Int), (x : Int)) ∧ k ≤ n ∧ ∀ i, i < n → itN n m pl i k = x := by
  have h := List.all_eq_true.1 (List.all_eq_true.1 chkQ_all m (by rcases hm with rfl | rfl | rfl <;> decide)) n (List.mem_range.2 (by omega))
  rw [if_pos ⟨h1, h3⟩] at h
  have h := List.all_eq_true.1 h pl (List.mem_range.2 hp)
  unfold chkQ at h
  rcases Bool.or_eq_true _ _ ▸ h with h | h
  · exact Or.inl (of_decide_eq_true h)
  · rw [Bool.and_eq_true, decide_eq_true_eq] at h
    obtain ⟨⟨a, b, c⟩, d⟩ := h
    refine Or.inr ⟨(meetFrom n m pl n 0).1.toNat, (meetFrom n m pl n 0).2.toNat, ?_, by omega, fun i hi => ?_⟩
    · refine Prod.ext ?_ ?_
      · show _ = (((meetFrom n m pl n 0).1.toNat : Nat) : Int); omega
      · show _ = (((meetFrom n m pl n 0).2.toNat : Nat) : Int); omega
    · have := of_decide_eq_true (List.all_eq_true.1 d i (List.mem_range.2 hi))
      omega
/-- where a card comes by a list of places -/
def wk (n m : Nat) : Nat → List Int → Nat
  | x, [] => x
  | x, y :: r => wk n m (idxN n m x y.toNat) r
def chkW (n m a : Nat) : Bool :=
  (List.range n).all fun j => decide ((wk n m a ((runB (nxP n m) 0 (a : Int) m n).2.getD j []) : Int) = (runB (nxP n m) 0 (a : Int) m n).1.getD j 0) && decide (((runB (nxP n m) 0 (a : Int) m n).2.getD j []).length ≤ n) && ((runB (nxP n m) 0 (a : Int) m n).2.getD j []).all fun y => decide (0 ≤ y ∧ y < (m : Int))
set_option maxHeartbeats 4000000 in
theorem chkW_all : ([2, 3, 4].all fun m => (List.range 13).all fun n => if m ≤ n ∧ n % m = 0 then (List.range n).all (fun a => chkW n m a) else true) = true := by kernel_rfl
theorem leads {n m a t : Nat} (hm : m = 2 ∨ m = 3 ∨ m = 4) (h1 : m ≤ n) (h2 : n ≤ 12) (h3 : n % m = 0) (ha : a < n) (ht : t < n) :
    ∃ L, plcL n m a t = L ∧ plcB n m a t = true ∧ wk n m a L = t ∧ L.length ≤ n ∧ ∀ i, i < L.length → 0 ≤ L.getD i 0 ∧ L.getD i 0 < (m : Int) := by
  have hb : plcB (n : Int) (m : Int) (a : Int) (t : Int) = true := by
    unfold plcB
    rw [ok_yes hm h1 h2 h3, show inB (a : Int) n = true from decide_eq_true ⟨by omega, by omega⟩, show inB (t : Int) n = true from decide_eq_true ⟨by omega, by omega⟩]
    rfl
  have R := run_piles (n := n) (m := m) (a := (a : Int)) hm h1 h2 h3 (by omega) (by omega)
  obtain ⟨g1, g2⟩ := idx_lt (all_found R.len R.fin.nodup R.fin.good (x := (t : Int)) (by omega) (by omega))
  have h := List.all_eq_true.1 (List.all_eq_true.1 chkW_all m (by rcases hm with rfl | rfl | rfl <;> decide)) n (List.mem_range.2 (by omega))
  rw [if_pos ⟨h1, h3⟩] at h
  have h := List.all_eq_true.1 h a (List.mem_range.2 ha)
  unfold chkW at h
  have h := List.all_eq_true.1 h _ (List.mem_range.2 (Nat.lt_of_lt_of_eq g1 R.len))
  rw [g2] at h
  simp only [Bool.and_eq_true, decide_eq_true_eq] at h
  obtain ⟨⟨q1, q2⟩, q3⟩ := h
  obtain ⟨F, hF⟩ : ∃ F, F = found (nxP n m) 0 (a : Int) m n (t : Int) := ⟨_, rfl⟩
  have hF2 : (runB (nxP n m) 0 (a : Int) m n).2.getD ((runB (nxP n m) 0 (a : Int) m n).1.idxOf (t : Int)) [] = F := hF.symm
  rw [hF2] at q1 q2 q3
  have hp : plcL (n : Int) (m : Int) (a : Int) (t : Int) = F := (plc_yes hb).trans hF.symm
  refine ⟨F, hp, hb, by omega, q2, fun i hi => ?_⟩
  have h6 := of_decide_eq_true (List.all_eq_true.1 q3 F[i] (List.getElem_mem hi))
  rw [List.getD_eq_getElem?_getD, List.getElem?_eq_getElem hi]
  exact h6
theorem wk_next {n m x j : Nat} {L : List Int} (h : j < L.length) : wk n m x (L.drop j) = wk n m (idxN n m x (L.getD j 0).toNat) (L.drop (j + 1)) := by
  rw [List.drop_eq_getElem_cons h, wk, List.getD_eq_getElem?_getD, List.getElem?_eq_getElem h]
  rfl
theorem wk_end {n m x j : Nat} {L : List Int} (h : L.length ≤ j) : wk n m x (L.drop j) = x := by
  rw [List.drop_eq_nil_of_le h]
  rfl
end Go.Proofs.Ytpfbjbakcfmngaa.Rnx
