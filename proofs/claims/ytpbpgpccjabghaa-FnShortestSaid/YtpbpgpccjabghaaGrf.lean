/- The permutations that perfect shuffles give, as keys of a map: arrays of eight ints; the search among them. -/
import Derived.Test.YtpbpgpccjabghaaBfs
import Derived.Test.YtpbpgpccjabghaaFrame
import Derived.DeepKeys5
import Derived.Maps.Keyed
set_option linter.unusedVariables false
set_option maxRecDepth 20000
namespace Go.Proofs.Ytpbpgpccjabghaa.Grf
open Pa Mvp Pfn Bfs Ins Go.Maps

def pad (l : List Int) : List Int := l ++ List.replicate (8 - l.length) 0
def cells8 (l : List Int) : Array Value := ((pad l).map (Value.int .i64)).toArray
def enc (l : List Int) : Value := .agg (cells8 l)
def nxG (n : Nat) (k : Nat) (l : List Int) : List Int := joinF l (pomF (n : Int) 4 (k : Int))
noncomputable def goodG (n : Nat) (l : List Int) : Bool := decide (l.length = n) && (l.all fun x => decide (0 ≤ x) && decide (x < n)) && (keyOf Try.prog 73 (enc l)).isSome
def iot (n : Nat) : List Int := imarks 0 n
/-- how many there are -/
def gN (n : Nat) : Nat := if n = 2 then 2 else if n = 4 then 8 else 24
theorem keyedG : Keyed Try.prog 73 := Keyed.of_law (deep_law_gate Fr.laidOut (of_decide_eq_true (by kernel_rfl)) (of_decide_eq_true (by kernel_rfl)) (by kernel_rfl) (by kernel_rfl))
set_option maxHeartbeats 4000000 in
theorem grp_chk2 : okRun (nxG 2) [] (iot 2) 2 (goodG 2) = true := by kernel_rfl
set_option maxHeartbeats 4000000 in
theorem grp_chk4 : okRun (nxG 4) [] (iot 4) 8 (goodG 4) = true := by kernel_rfl
set_option maxHeartbeats 4000000 in
theorem grp_chk6 : okRun (nxG 6) [] (iot 6) 24 (goodG 6) = true := by kernel_rfl
set_option maxHeartbeats 4000000 in
theorem grp_chk8 : okRun (nxG 8) [] (iot 8) 24 (goodG 8) = true := by kernel_rfl
theorem even8 {n : Nat} (h1 : 2 ≤ n) (h2 : n ≤ 8) (h3 : n % 2 = 0) : n = 2 ∨ n = 4 ∨ n = 6 ∨ n = 8 := by omega
theorem run_grp {n : Nat} (h1 : 2 ≤ n) (h2 : n ≤ 8) (h3 : n % 2 = 0) : Run (nxG n) [] (iot n) (gN n) (goodG n) := by
  rcases even8 h1 h2 h3 with rfl | rfl | rfl | rfl
  · exact run_parts grp_chk2
  · exact run_parts grp_chk4
  · exact run_parts grp_chk6
  · exact run_parts grp_chk8
theorem gN_few {n : Nat} : gN n ≤ 24 := by unfold gN; split; · omega
                                           · split <;> omega
theorem half_mem {α : Type} [DecidableEq α] (nx : Nat → α → α) (d : α) (s : List α × List (List Int)) (t k : Nat) : nx k (s.1.getD t d) ∈ (half nx d s t k).1 := by
  by_cases h : nx k (s.1.getD t d) ∈ s.1
  · rw [half_old h]; exact h
  · rw [half_new h]; simp
theorem good_parts {n : Nat} {l : List Int} (h : goodG n l = true) : l.length = n ∧ (∀ x ∈ l, 0 ≤ x ∧ x < n) ∧ ∃ kl, keyOf Try.prog 73 (enc l) = some kl := by
  unfold goodG at h
  simp only [Bool.and_eq_true, decide_eq_true_eq, List.all_eq_true] at h
  exact ⟨h.1.1, h.1.2, Option.isSome_iff_exists.1 h.2⟩
theorem pad_len {l : List Int} (h : l.length ≤ 8) : (pad l).length = 8 := by unfold pad; simp; omega
theorem cells8_size {l : List Int} (h : l.length ≤ 8) : (cells8 l).size = 8 := by unfold cells8; simp [pad_len h]
theorem enc_inj {n : Nat} {a b : List Int} (ha : a.length = n) (hb : b.length = n) (h : enc a = enc b) : a = b := by
  unfold enc cells8 at h
  injection h with h
  have h2 := congrArg Array.toList h
  simp only [] at h2
  have h3 : pad a = pad b := by
    exact (List.map_inj_right (fun x y e => by injection e)).1 h2
  unfold pad at h3
  rw [ha, hb] at h3
  exact (List.append_inj h3 (by omega)).1
theorem faro_is {n k : Nat} {l : List Int} (h1 : 1 ≤ n) (h2 : n ≤ 12) (hk : k ≤ 1) (hl : l.length = n) : faroL l k = nxG n k l := by
  have h := move_src 4 k l (by omega)
  rw [hl] at h
  have e1 : moveF 4 k l = faroL l k := rfl
  have e2 : srcL 4 k n = faroL (List.range n) k := rfl
  have e3 := Fpm.fp_eq (n := n) (k := k) h1 h2 hk
  have e4 : imarks 0 n = (List.range n).map fun i => ((i : Nat) : Int) := by
    apply List.ext_getElem
    · simp [imarks_length]
    · intro i q1 q2
      have := imarks_get 0 n i (by simpa [imarks_length] using q1)
      simp [List.getD_eq_getElem?_getD, List.getElem?_eq_getElem q1] at this ⊢
      omega
  rw [e1] at h
  rw [h, e2]
  unfold nxG joinF
  rw [← e3, e4, faro_map, List.map_map]
  apply List.map_congr_left
  intro i _
  simp [trn]
end Go.Proofs.Ytpbpgpccjabghaa.Grf
