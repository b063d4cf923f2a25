/- What the functions on permutations do, second part: inverting, raising to a power, and the permutation between two packets, in the program and in the model. -/
import Derived.Test.YtioofakdklghpaaPfn
set_option linter.unusedVariables false
set_option maxRecDepth 20000
namespace Go.Proofs.Ytioofakdklghpaa.Pfn
open Go.RowKit Fr Own Pk Ins Pok Prm Pl Arr

/-! ### InversePerm -/
def invTo (zs : List Int) : Nat → List Int
  | 0 => List.replicate zs.length 0
  | k + 1 => (invTo zs k).set (zs.getD k 0).toNat (k : Int)
theorem invTo_len (zs : List Int) (k : Nat) : (invTo zs k).length = zs.length := by
  induction k with
  | zero => simp [invTo]
  | succ k ih => simp [invTo, ih]
theorem invTo_next (zs : List Int) (k y : Nat) (h : zs.getD k 0 = (y : Int)) : (invTo zs k).set y (k : Int) = invTo zs (k + 1) := by
  simp only [invTo]; rw [h]; rfl
def invF (zs : List Int) : List Int := if permB zs then invTo zs zs.length else []
theorem invF_yes {zs : List Int} (h : permB zs = true) : invF zs = invTo zs zs.length := by unfold invF; rw [if_pos h]
theorem invF_no {zs : List Int} (h : permB zs = false) : invF zs = [] := by unfold invF; rw [h]; rfl
def vals (zs : List Int) : List Value := zs.map (Value.int .i64)
theorem vals_len (zs : List Int) : (vals zs).length = zs.length := by simp [vals]
theorem vals_get {zs : List Int} {k : Nat} (h : k < zs.length) : (vals zs)[k]? = some (.int .i64 (zs.getD k 0)) := by
  simp [vals, List.getElem?_map, List.getElem?_eq_getElem h, List.getD_eq_getElem?_getD]
theorem vals_set (zs : List Int) (k : Nat) (x : Int) : (vals zs).set k (.int .i64 x) = vals (zs.set k x) := by
  simp [vals, List.map_set]
theorem vals_rep (n : Nat) : vals (List.replicate n 0) = List.replicate n (.int .i64 0) := by simp [vals]



/-! ### PowerPerm -/
def powTo (zs : List Int) : Nat → List Int
  | 0 => imarks 0 zs.length
  | k + 1 => joinF (powTo zs k) zs
theorem powTo_len (zs : List Int) (k : Nat) : (powTo zs k).length = zs.length := by
  cases k with
  | zero => simp [powTo, imarks_length]
  | succ k => simp [powTo, joinF_len]
theorem powTo_next (zs : List Int) (k : Nat) : joinF (powTo zs k) zs = powTo zs (k + 1) := rfl
def powB (zs : List Int) (k : Int) : Bool := permB zs && decide (0 ≤ k ∧ k ≤ 1000)
def powF (zs : List Int) (k : Int) : List Int := if powB zs k then powTo zs k.toNat else []
theorem powF_yes {zs : List Int} {k : Int} (h : powB zs k = true) : powF zs k = powTo zs k.toNat := by unfold powF; rw [if_pos h]
theorem powF_no {zs : List Int} {k : Int} (h : powB zs k = false) : powF zs k = [] := by unfold powF; rw [h]; rfl
theorem newF_id (zs : List Int) (n : Nat) (h : zs.length = n) (h2 : n ≤ 12) : Nwp.newF (n : Int) = powTo zs 0 := by rw [Nwp.newF_yes n h2]; unfold powTo; rw [h]

/-! ### PermBetween -/
def btwF (ps qs : List Int) : List Int := qs.map fun x => posF ps (cardF x)
theorem btw_len (ps qs : List Int) : (btwF ps qs).length = qs.length := by simp [btwF]
theorem btw_get (ps qs : List Int) (k : Nat) (h : k < qs.length) : (btwF ps qs).getD k 0 = posF ps (cardF (qs.getD k 0)) := by
  simp [btwF, List.getD_eq_getElem?_getD, List.getElem?_map, List.getElem?_eq_getElem h]
theorem btw_snoc (ps qs : List Int) (k : Nat) (h : k < qs.length) : btwF ps (qs.take (k + 1)) = btwF ps (qs.take k) ++ [posF ps (cardF (qs.getD k 0))] := by
  rw [take_snoc qs k h]; simp [btwF]
def betF (ps qs : List Int) : List Int := if arrB ps qs then btwF ps qs else []
theorem betF_yes {ps qs : List Int} (h : arrB ps qs = true) : betF ps qs = btwF ps qs := by unfold betF; rw [if_pos h]
theorem betF_no {ps qs : List Int} (h : arrB ps qs = false) : betF ps qs = [] := by unfold betF; rw [h]; rfl
theorem arr_short {ps qs : List Int} (h : arrB ps qs = true) : qs.length ≤ 12 := by
  unfold arrB at h
  rw [Bool.and_eq_true, Bool.and_eq_true, Bool.and_eq_true] at h
  exact (okB_yes h.1.1.2).1


theorem invF_short (zs : List Int) : (invF zs).length ≤ 1048576 := by
  unfold invF
  split
  · rename_i h; have := (permB_yes h).1; rw [invTo_len]; omega
  · exact Nat.zero_le _
theorem powF_short (zs : List Int) (k : Int) : (powF zs k).length ≤ 1048576 := by
  unfold powF
  split
  · rename_i h; unfold powB at h; rw [Bool.and_eq_true] at h; have := (permB_yes h.1).1; rw [powTo_len]; omega
  · exact Nat.zero_le _
theorem betF_short (ps qs : List Int) : (betF ps qs).length ≤ 1048576 := by
  unfold betF
  split
  · rename_i h; have := arr_short h; rw [btw_len]; omega
  · exact Nat.zero_le _
end Go.Proofs.Ytioofakdklghpaa.Pfn
