/- How large lists of nodes are, and that their parts fit. -/
import Derived.Test.YtjmfdflhplobmaaNom
set_option linter.unusedVariables false
set_option maxRecDepth 20000
namespace Go.Proofs.Ytjmfdflhplobmaa.Nob
open Go.RowKit Fr _root_.Go.Proofs.Ytjmfdflhplobmaa.Own Pk Ins Rws Fpl Nod Nom

def nsum : List NV → Nat
  | [] => 0
  | v :: L => v.next.length + nsum L
def BigN (L : List NV) : Prop := L.length + nsum L ≤ 1048576
def FitN (L : List NV) : Prop := ∀ v ∈ L, Fits v.next ∧ -9223372036854775808 ≤ v.fin ∧ v.fin ≤ 9223372036854775807
theorem nsum_mem {L : List NV} {v : NV} (h : v ∈ L) : v.next.length ≤ nsum L := by
  induction L with
  | nil => cases h
  | cons x L ih =>
    simp only [nsum]
    rcases List.mem_cons.1 h with rfl | h
    · omega
    · have := ih h; omega
theorem mem_nv {rs : List NR} {j : Nat} (h : j < rs.length) : (rs.getD j nr0).nv ∈ rs.map NR.nv := by
  rw [List.getD_eq_getElem?_getD, List.getElem?_eq_getElem h]
  exact List.mem_map.2 ⟨_, List.getElem_mem h, rfl⟩
theorem big_len {rs : List NR} {L : List NV} (hl : rs.map NR.nv = L) (hb : BigN L) (j : Nat) : (rs.getD j nr0).zs.length ≤ 1048576 := by
  by_cases h : j < rs.length
  · have h1 := nsum_mem (mem_nv h)
    rw [hl] at h1
    unfold BigN at hb
    have : (rs.getD j nr0).nv.next = (rs.getD j nr0).zs := rfl
    rw [this] at h1
    omega
  · rw [List.getD_eq_getElem?_getD, List.getElem?_eq_none (by omega)]
    exact Nat.zero_le _
theorem big_n {rs : List NR} {L : List NV} (hl : rs.map NR.nv = L) (hb : BigN L) : rs.length ≤ 1048576 := by
  have := congrArg List.length hl
  rw [List.length_map] at this
  unfold BigN at hb
  omega
theorem nsum_app (a b : List NV) : nsum (a ++ b) = nsum a + nsum b := by
  induction a with
  | nil => simp [nsum]
  | cons x a ih => simp only [List.cons_append, nsum, ih]; omega
theorem mpos_sum (rs : List NR) : ∀ k, k ≤ rs.length → mpos rs k = nsum ((rs.take k).map NR.nv) + 2 * k
  | 0, _ => by simp [mpos, nsum]
  | k + 1, h => by
    rw [List.take_succ_eq_append_getElem (by omega), List.map_append, nsum_app]
    simp only [mpos, List.map_cons, List.map_nil, nsum]
    rw [mpos_sum rs k (by omega), List.getD_eq_getElem?_getD, List.getElem?_eq_getElem (by omega)]
    show _ + (rs[k].zs.length + 2) = nsum _ + (rs[k].zs.length + 0) + 2 * (k + 1)
    omega
theorem big_mpos {rs : List NR} {L : List NV} {n : Nat} (hl : rs.map NR.nv = L) (hb : BigN L) (hn : rs.length = n) : mpos rs n ≤ 3145728 := by
  have h1 := mpos_sum rs n (by omega)
  rw [← hn, List.take_length, hl] at h1
  have h2 := congrArg List.length hl
  rw [List.length_map] at h2
  unfold BigN at hb
  rw [← hn]
  omega
theorem btot_sum (rs : List NR) : ∀ k, k ≤ rs.length → nsum ((rs.take k).map NR.nv) ≤ btot rs k
  | 0, _ => by simp [btot, nsum]
  | k + 1, h => by
    rw [List.take_succ_eq_append_getElem (by omega), List.map_append, nsum_app]
    simp only [btot, List.map_cons, List.map_nil, nsum]
    have := btot_sum rs k (by omega)
    rw [List.getD_eq_getElem?_getD, List.getElem?_eq_getElem (by omega)]
    show _ + (rs[k].zs.length + 0) ≤ _ + (rs[k].say.size + rs[k].zs.length)
    omega
theorem big_of {rs : List NR} {n : Nat} (hn : rs.length = n) (hg : n + btot rs n ≤ 1048576) : BigN (rs.map NR.nv) := by
  have := btot_sum rs n (by omega)
  rw [← hn, List.take_length] at this
  unfold BigN
  rw [List.length_map]
  rw [← hn] at hg
  omega
theorem fit_of {rs : List NR} (h : WfN rs) : FitN (rs.map NR.nv) := by
  intro v hv
  obtain ⟨r, hr, rfl⟩ := List.mem_map.1 hv
  obtain ⟨j, hj, rfl⟩ := List.getElem_of_mem hr
  have := h j hj
  rw [List.getD_eq_getElem?_getD, List.getElem?_eq_getElem hj] at this
  exact ⟨this.2.2.1, wf_lo this.2.2.2⟩
/-- the parts of node j -/
theorem nv_at {rs : List NR} {L : List NV} (hl : rs.map NR.nv = L) (j : Nat) : (rs.getD j nr0).zs = nx L j ∧ (rs.getD j nr0).fin = fi L j := by
  subst hl
  unfold nx fi
  simp only [List.getD_eq_getElem?_getD, List.getElem?_map]
  cases rs[j]? <;> exact ⟨rfl, rfl⟩
theorem fit_at {L : List NV} (h : FitN L) (j : Nat) : Fits (nx L j) ∧ -9223372036854775808 ≤ fi L j ∧ fi L j ≤ 9223372036854775807 := by
  by_cases hj : j < L.length
  · have := h L[j] (List.getElem_mem hj)
    unfold nx fi
    rw [List.getD_eq_getElem?_getD, List.getElem?_eq_getElem hj]
    exact this
  · unfold nx fi
    rw [List.getD_eq_getElem?_getD, List.getElem?_eq_none (by omega)]
    exact ⟨fun i hi => absurd hi (Nat.not_lt_zero _), by decide, by decide⟩
theorem nx_small {L : List NV} (h : BigN L) (j : Nat) : (nx L j).length ≤ 1048576 := by
  by_cases hj : j < L.length
  · have := nsum_mem (List.getElem_mem hj)
    unfold BigN at h
    unfold nx
    rw [List.getD_eq_getElem?_getD, List.getElem?_eq_getElem hj]
    show (L[j]).next.length ≤ _
    omega
  · rw [nx_out (by omega)]; exact Nat.zero_le _
end Go.Proofs.Ytjmfdflhplobmaa.Nob
