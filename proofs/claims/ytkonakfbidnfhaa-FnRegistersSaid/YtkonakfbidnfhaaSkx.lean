/- What FnRegisters asks of the registers whose seed is 0, .., 0, 1: checked for every list of taps by the kernel. -/
import Derived.Test.YtkonakfbidnfhaaSko
set_option linter.unusedVariables false
set_option maxRecDepth 20000
namespace Go.Proofs.Ytkonakfbidnfhaa.Skx
open Go.RowKit Fr Pk Ins Skp Skv Skg Skq Skn Sko

/-- all lists that ascend from lo + 1 on, of k numbers -/
def ascL : Nat → Nat → List (List Int)
  | _, 0 => [[]]
  | lo, k + 1 => ascL (lo + 1) k ++ (ascL (lo + 1) k).map (((lo + 1 : Nat) : Int) :: ·)
theorem asc_in {n : Nat} : ∀ (k lo : Nat) (l : List Int) (last : Int), lo + k = n → (lo : Int) ≤ last → ascB n last l = true → l ∈ ascL lo k
  | 0, lo, l, last, hk, hl, h => by
    match l, h with
    | [], _ => simp [ascL]
    | t :: r, h =>
      have h2 := (asc_le h).2 t List.mem_cons_self
      omega
  | k + 1, lo, l, last, hk, hl, h => by
    unfold ascL
    refine List.mem_append.2 ?_
    match l, h with
    | [], h =>
      left
      refine asc_in (n := n) k (lo + 1) [] (n : Int) (by omega) (by omega) ?_
      unfold ascB
      exact decide_eq_true rfl
    | t :: r, h =>
      simp only [ascB, Bool.and_eq_true, decide_eq_true_eq] at h
      by_cases e : t = ((lo + 1 : Nat) : Int)
      · right
        subst e
        exact List.mem_map.2 ⟨r, asc_in (n := n) k (lo + 1) r ((lo + 1 : Nat) : Int) (by omega) (Int.le_refl _) h.2, rfl⟩
      · left
        refine asc_in (n := n) k (lo + 1) (t :: r) ((lo + 1 : Nat) : Int) (by omega) (Int.le_refl _) ?_
        simp only [ascB, Bool.and_eq_true, decide_eq_true_eq]
        exact ⟨by omega, h.2⟩
def regB (n : Nat) (taps : List Int) : Bool := let T := perT taps (eN n); decide (T ≤ 2 ^ n - 1) && (decide (T < n) || stkB ((colS taps (eN n) T).take T) n)
def regAll (n : Nat) : Bool := (ascL 0 n).all fun taps => !ascB n 0 taps || regB n taps
theorem reg1 : regAll 1 = true := by kernel_rfl
theorem reg2 : regAll 2 = true := by kernel_rfl
theorem reg3 : regAll 3 = true := by kernel_rfl
theorem reg4 : regAll 4 = true := by kernel_rfl
theorem reg5 : regAll 5 = true := by kernel_rfl
theorem reg6 : regAll 6 = true := by kernel_rfl
theorem eN_bits {n : Nat} : (eN n).all isCol = true := by
  refine List.all_eq_true.2 fun x hx => ?_
  unfold eN at hx
  rcases List.mem_append.1 hx with hx | hx
  · rw [List.eq_of_mem_replicate hx]; rfl
  · rw [List.mem_singleton.1 hx]; rfl
theorem eN_one {n : Nat} : (1 : Int) ∈ eN n := by unfold eN; simp
theorem reg_law {n : Nat} {taps : List Int} (h1 : 1 ≤ n) (h6 : n ≤ 6) (h : ascB n 0 taps = true) : shB taps (eN n) = true ∧ 1 ≤ perT taps (eN n) ∧ perT taps (eN n) ≤ 2 ^ n - 1 ∧ (n ≤ perT taps (eN n) → stkB ((colS taps (eN n) (perT taps (eN n))).take (perT taps (eN n))) n = true) ∧
    shS taps (eN n) = (colS taps (eN n) (perT taps (eN n))).take (perT taps (eN n)) ∧ (shS taps (eN n)).length = perT taps (eN n) ∧ shM taps (eN n) = n := by
  have hs : shB taps (eN n) = true := sh_is (by rw [eN_len h1]; exact ⟨h1, h6⟩) eN_bits eN_one (by rw [eN_len h1]; exact h)
  have hall : regAll n = true := by
    rcases (show n = 1 ∨ n = 2 ∨ n = 3 ∨ n = 4 ∨ n = 5 ∨ n = 6 by omega) with rfl | rfl | rfl | rfl | rfl | rfl
    · exact reg1
    · exact reg2
    · exact reg3
    · exact reg4
    · exact reg5
    · exact reg6
  have h2 := List.all_eq_true.1 hall taps (asc_in n 0 taps 0 (by omega) (Int.le_refl _) h)
  rw [h, Bool.not_true, Bool.false_or] at h2
  simp only [regB, Bool.and_eq_true, Bool.or_eq_true, decide_eq_true_eq] at h2
  obtain ⟨hG, hp, _, _, _⟩ := reg_all hs
  refine ⟨hs, hp, h2.1, fun hn => ?_, (sh_yes hs).1, ?_, ?_⟩
  · rcases h2.2 with h3 | h3
    · omega
    · exact h3
  · rw [(sh_yes hs).1, List.length_take, hG.len]
    omega
  · rw [(sh_yes hs).2, eN_len h1]
/-- what the taps so far are good for -/
def Pre (n : Nat) (t : Nat) (l : List Int) : Prop := ∀ r : List Int, r ≠ [] → ascB n ((t : Int) - 1) r = true → ascB n 0 (l ++ r) = true
theorem pre_start (n : Nat) : Pre n 1 [] := fun r _ h => h
theorem pre_skip {n t : Nat} {l : List Int} (h : Pre n t l) : Pre n (t + 1) l := fun r hr ha => h r hr (by
  cases r with
  | nil => exact absurd rfl hr
  | cons x q =>
    simp only [ascB, Bool.and_eq_true, decide_eq_true_eq] at ha ⊢
    exact ⟨by omega, ha.2⟩)
theorem pre_take {n t : Nat} {l : List Int} (h : Pre n t l) : Pre n (t + 1) (l ++ [(t : Int)]) := fun r hr ha => by
  rw [List.append_assoc]
  refine h _ (by simp) ?_
  show ascB n _ ((t : Int) :: r) = true
  simp only [ascB, Bool.and_eq_true, decide_eq_true_eq]
  refine ⟨by omega, ?_⟩
  have e : ((t + 1 : Nat) : Int) - 1 = (t : Int) := by omega
  rw [e] at ha
  exact ha
theorem pre_end {n : Nat} {l : List Int} (h : Pre n n l) : ascB n 0 (l ++ [(n : Int)]) = true := by
  refine h _ (by simp) ?_
  simp only [ascB, Bool.and_eq_true, decide_eq_true_eq]
  exact ⟨by omega, trivial⟩
end Go.Proofs.Ytkonakfbidnfhaa.Skx
