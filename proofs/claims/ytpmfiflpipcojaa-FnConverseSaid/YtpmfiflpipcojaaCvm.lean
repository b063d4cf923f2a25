/- What results from dealing and riffling, and what does not: all permutations of up to six cards and all Gilbreath permutations of seven, checked by the kernel. -/
import Derived.Test.YtpmfiflpipcojaaMgb
import Derived.Test.YtpmfiflpipcojaaRsc
import Derived.Test.YtpmfiflpipcojaaPf
set_option linter.unusedVariables false
set_option maxRecDepth 20000
namespace Go.Proofs.Ytpmfiflpipcojaa.Cvm
open Go.RowKit Fr _root_.Go.Proofs.Ytpmfiflpipcojaa.Own Pk Pok Ins Prm Pfn Arr Rws Gip Gir Mgb Rsm Pf Mvp

/-- all permutations, place by place -/
def allP (m : Nat) : Nat → List (List Int)
  | 0 => [[]]
  | k + 1 => (allP m k).flatMap fun p => ((imarks 0 m).filter fun x => !p.contains x).map fun x => p ++ [x]
theorem allP_take {q : List Int} (h : permB q = true) : ∀ k, k ≤ q.length → q.take k ∈ allP q.length k
  | 0, _ => by simp [allP]
  | k + 1, hk => by
    have ih := allP_take h k (by omega)
    obtain ⟨⟨h1, h2⟩, h3⟩ := (permB_yes h).2 k (by omega)
    rw [allP, List.mem_flatMap]
    refine ⟨q.take k, ih, ?_⟩
    rw [take_snoc q k (by omega)]
    refine List.mem_map.2 ⟨q.getD k 0, List.mem_filter.2 ⟨mem_imarks.2 ⟨h1, h2⟩, ?_⟩, rfl⟩
    simpa using h3
theorem perm_allP {q : List Int} (h : permB q = true) : q ∈ allP q.length q.length := by
  have := allP_take h q.length (Nat.le_refl _)
  rwa [List.take_length] at this

/-- dealing k cards of the new packet -/
def dealF (m k : Nat) : List Int := perfF (imarks 0 m) 2 (k : Int)
/-- may q result when both parts are riffled then? -/
def goodK (m k : Nat) (q : List Int) : Bool := decide ((riseI (betF (dealF m k) q)).length ≤ 1) || (decide ((riseI (betF (dealF m k) q)).length = 2) && decide (((riseI (betF (dealF m k) q)).getD 0 []).length = k))
def convOk (m : Nat) (q : List Int) : Bool :=
  ((List.range (m + 1)).all fun k => (!goodK m k q || gilB q) && arrB (dealF m k) q) && (((List.range (m + 1)).any fun k => goodK m k q) == gilB q)
theorem chk5 : ((List.range 6).all fun m => m == 0 || (allP m m).all (convOk m)) = true := by kernel_rfl
theorem chk6_0 : (((allP 6 6).drop 0).take 60).all (convOk 6) = true := by kernel_rfl
theorem chk6_1 : (((allP 6 6).drop 60).take 60).all (convOk 6) = true := by kernel_rfl
theorem chk6_2 : (((allP 6 6).drop 120).take 60).all (convOk 6) = true := by kernel_rfl
theorem chk6_3 : (((allP 6 6).drop 180).take 60).all (convOk 6) = true := by kernel_rfl
theorem chk6_4 : (((allP 6 6).drop 240).take 60).all (convOk 6) = true := by kernel_rfl
theorem chk6_5 : (((allP 6 6).drop 300).take 60).all (convOk 6) = true := by kernel_rfl
theorem chk6_6 : (((allP 6 6).drop 360).take 60).all (convOk 6) = true := by kernel_rfl
theorem chk6_7 : (((allP 6 6).drop 420).take 60).all (convOk 6) = true := by kernel_rfl
theorem chk6_8 : (((allP 6 6).drop 480).take 60).all (convOk 6) = true := by kernel_rfl
theorem chk6_9 : (((allP 6 6).drop 540).take 60).all (convOk 6) = true := by kernel_rfl
theorem chk6_10 : (((allP 6 6).drop 600).take 60).all (convOk 6) = true := by kernel_rfl
theorem chk6_11 : (((allP 6 6).drop 660).take 60).all (convOk 6) = true := by kernel_rfl
theorem len6 : (allP 6 6).length ≤ 720 := by
  have h : decide ((allP 6 6).length ≤ 720) = true := by kernel_rfl
  exact of_decide_eq_true h
theorem chk6 {q : List Int} (hq : q ∈ allP 6 6) : convOk 6 q = true := by
  obtain ⟨i, hi, rfl⟩ := List.getElem_of_mem hq
  have hl := len6
  have key : ∀ j, 60 * j ≤ i → i < 60 * j + 60 → (((allP 6 6).drop (60 * j)).take 60).all (convOk 6) = true → convOk 6 (allP 6 6)[i] = true := fun j h1 h2 h => by
    refine List.all_eq_true.1 h _ ?_
    have e : (((allP 6 6).drop (60 * j)).take 60)[i - 60 * j]? = some (allP 6 6)[i] := by
      rw [List.getElem?_take, if_pos (by omega), List.getElem?_drop, show 60 * j + (i - 60 * j) = i by omega, List.getElem?_eq_getElem hi]
    exact List.mem_of_getElem? e
  by_cases h0 : i < 60
  · exact key 0 (by omega) (by omega) chk6_0
  by_cases h1 : i < 120
  · exact key 1 (by omega) (by omega) chk6_1
  by_cases h2 : i < 180
  · exact key 2 (by omega) (by omega) chk6_2
  by_cases h3 : i < 240
  · exact key 3 (by omega) (by omega) chk6_3
  by_cases h4 : i < 300
  · exact key 4 (by omega) (by omega) chk6_4
  by_cases h5 : i < 360
  · exact key 5 (by omega) (by omega) chk6_5
  by_cases h6 : i < 420
  · exact key 6 (by omega) (by omega) chk6_6
  by_cases h7 : i < 480
  · exact key 7 (by omega) (by omega) chk6_7
  by_cases h8 : i < 540
  · exact key 8 (by omega) (by omega) chk6_8
  by_cases h9 : i < 600
  · exact key 9 (by omega) (by omega) chk6_9
  by_cases h10 : i < 660
  · exact key 10 (by omega) (by omega) chk6_10
  by_cases h11 : i < 720
  · exact key 11 (by omega) (by omega) chk6_11
  omega
theorem chk7 : ((gilsF 7).all (convOk 7)) = true := by kernel_rfl
theorem chkP : ((List.range 8).all fun m => m == 0 || ((List.range (m + 1)).all fun k => perfB (imarks 0 m) 2 (k : Int) && decide ((dealF m k).length = m))) = true := by kernel_rfl
theorem conv_ok {m : Nat} {q : List Int} (h1 : 1 ≤ m) (hl : q.length = m) (h : (permB q = true ∧ m ≤ 6) ∨ (q ∈ gilsF (m : Int) ∧ m ≤ 7)) : convOk m q = true := by
  rcases h with ⟨hp, h6⟩ | ⟨hg, h7⟩
  · have hq := perm_allP hp
    rw [hl] at hq
    by_cases e : m = 6
    · subst e; exact chk6 hq
    · have := List.all_eq_true.1 chk5 m (List.mem_range.2 (by omega))
      have h0 : (m == 0) = false := by simp; omega
      rw [h0, Bool.false_or] at this
      exact List.all_eq_true.1 this q hq
  · by_cases e : m = 7
    · subst e; exact List.all_eq_true.1 chk7 q hg
    · have hp := (gil_parts (gils_good h1 (by omega) hg).1).1
      have hq := perm_allP hp
      rw [hl] at hq
      by_cases e : m = 6
      · subst e; exact chk6 hq
      · have := List.all_eq_true.1 chk5 m (List.mem_range.2 (by omega))
        have h0 : (m == 0) = false := by simp; omega
        rw [h0, Bool.false_or] at this
        exact List.all_eq_true.1 this q hq
theorem conv_parts {m : Nat} {q : List Int} (h : convOk m q = true) : (∀ k, k ≤ m → (goodK m k q = true → gilB q = true) ∧ arrB (dealF m k) q = true) ∧ ((List.range (m + 1)).any fun k => goodK m k q) = gilB q := by
  unfold convOk at h
  rw [Bool.and_eq_true, beq_iff_eq] at h
  refine ⟨fun k hk => ?_, h.2⟩
  have := List.all_eq_true.1 h.1 k (List.mem_range.2 (by omega))
  simp only [Bool.and_eq_true, Bool.or_eq_true, Bool.not_eq_true'] at this
  refine ⟨fun hg => ?_, this.2⟩
  rcases this.1 with h2 | h2
  · rw [hg] at h2; cases h2
  · exact h2
theorem deal_ok {m k : Nat} (h1 : 1 ≤ m) (hm : m ≤ 7) (hk : k ≤ m) : perfB (imarks 0 m) 2 (k : Int) = true ∧ (dealF m k).length = m := by
  have := List.all_eq_true.1 chkP m (List.mem_range.2 (by omega))
  have h0 : (m == 0) = false := by simp; omega
  rw [h0, Bool.false_or] at this
  have := List.all_eq_true.1 this k (List.mem_range.2 (by omega))
  simpa only [Bool.and_eq_true, decide_eq_true_eq] using this
end Go.Proofs.Ytpmfiflpipcojaa.Cvm
