/- What the functions on permutations do, in the program and in the model: composing, inverting, raising to a power, arranging a packet, and the permutation between two packets. What the functions on permutations do, second part: inverting, raising to a power, and the permutation between two packets, in the program and in the model. -/
import Derived.Test.YtibephoepkofnaaPerm
import Derived.Test.YtibephoepkofnaaArr
import Derived.Test.YtibephoepkofnaaNewp
set_option linter.unusedVariables false
set_option maxRecDepth 20000
namespace Go.Proofs.Ytibephoepkofnaa.Pfn
open Go.RowKit Fr Own Pk Ins Pok Prm

/-- a call hands back a list of ints of its own and a bool -/
def IsILB (B : Nat) (zs : List Int) (b : Bool) (w : World) (e : Ending) (w' : World) : Prop :=
  ∃ A c, e = .returned (.tuple #[.slice A zs.length c, .bool b]) ∧ w'.ownsRow B 3 1 (.slice A zs.length c) zs.length (zs.map (Value.int .i64)) ∧ Below B w w'
theorem own_cap {w : World} {B : Nat} {e : TypeId} {size : Nat} {A : Option Addr} {n c : Nat} {xs : List Value} (h : w.ownsRow B e size (.slice A n c) n xs) : n ≤ c := by
  rcases h.2 with ⟨h1, h2⟩ | ⟨g, cap, cur, hv, _, _, hc, _⟩
  · omega
  · simp only [Value.slice.injEq] at hv
    omega

/-- the elements of ls at the places that zs names -/
def joinF (ls zs : List Int) : List Int := zs.map fun x => ls.getD x.toNat 0
theorem joinF_len (ls zs : List Int) : (joinF ls zs).length = zs.length := by simp [joinF]
theorem joinF_get (ls zs : List Int) (k : Nat) (h : k < zs.length) : (joinF ls zs).getD k 0 = ls.getD (zs.getD k 0).toNat 0 := by
  simp [joinF, List.getD_eq_getElem?_getD, List.getElem?_map, List.getElem?_eq_getElem h]
theorem joinF_snoc (ls zs : List Int) (k : Nat) (h : k < zs.length) (y : Nat) (hy : zs.getD k 0 = (y : Int)) : joinF ls (zs.take (k + 1)) = joinF ls (zs.take k) ++ [ls.getD y 0] := by
  rw [take_snoc zs k h, hy]; simp [joinF]
/-- all places named are there -/
def inR (zs : List Int) (m : Nat) : Prop := ∀ i, i < zs.length → 0 ≤ zs.getD i 0 ∧ zs.getD i 0 < (m : Int)
theorem inR_perm {zs : List Int} (h : permB zs = true) : inR zs zs.length := fun i hi => ((permB_yes h).2 i hi).1


/-! ### ComposePerms -/
def compB (us bs : List Int) : Bool := permB us && permB bs && decide (us.length = bs.length)
def compF (us bs : List Int) : List Int := if compB us bs then joinF us bs else []
theorem compF_yes {us bs : List Int} (h : compB us bs = true) : compF us bs = joinF us bs := by unfold compF; rw [if_pos h]
theorem compF_no {us bs : List Int} (h : compB us bs = false) : compF us bs = [] := by unfold compF; rw [h]; rfl
theorem nil_ilb (w : World) (B : Nat) : IsILB B [] false w (.returned (.tuple #[.slice none 0 0, .bool false])) w := ⟨none, 0, rfl, World.ownsRow_nil _ _ _ _, Below.refl _ _⟩
theorem perm_short {zs : List Int} (h : permB zs = true) : zs.length ≤ 12 := (permB_yes h).1
theorem il_after {B : Nat} {zs : List Int} {w w1 w2 : World} {e : Ending} (h : IsIL w1.heap.size zs w1 e w2) (hb : Below B w w1) (hs : B ≤ w1.heap.size) : IsIL B zs w e w2 := by
  obtain ⟨A, c, he, ho, hb2⟩ := h
  exact ⟨A, c, he, own_mono ho hs, hb.trans (hb2.mono hs)⟩


/-! ### ArrangeBy -/
def arrgB (us bs : List Int) : Bool := okB us && permB bs && decide (us.length = bs.length)
def arrgF (us bs : List Int) : List Int := if arrgB us bs then joinF us bs else []
theorem arrgF_yes {us bs : List Int} (h : arrgB us bs = true) : arrgF us bs = joinF us bs := by unfold arrgF; rw [if_pos h]
theorem arrgF_no {us bs : List Int} (h : arrgB us bs = false) : arrgF us bs = [] := by unfold arrgF; rw [h]; rfl
theorem comp_len {us bs : List Int} (h : compB us bs = true) : bs.length ≤ 12 ∧ permB us = true ∧ permB bs = true ∧ us.length = bs.length := by
  unfold compB at h
  rw [Bool.and_eq_true, Bool.and_eq_true, decide_eq_true_eq] at h
  exact ⟨(permB_yes h.1.2).1, h.1.1, h.1.2, h.2⟩
theorem compF_short (us bs : List Int) : (compF us bs).length ≤ 1048576 := by
  unfold compF
  split
  · rename_i h; have := (comp_len h).1; rw [joinF_len]; omega
  · exact Nat.zero_le _
theorem arrg_len {us bs : List Int} (h : arrgB us bs = true) : bs.length ≤ 12 ∧ okB us = true ∧ permB bs = true ∧ us.length = bs.length := by
  unfold arrgB at h
  rw [Bool.and_eq_true, Bool.and_eq_true, decide_eq_true_eq] at h
  exact ⟨(permB_yes h.1.2).1, h.1.1, h.1.2, h.2⟩
theorem arrgF_short (us bs : List Int) : (arrgF us bs).length ≤ 1048576 := by
  unfold arrgF
  split
  · rename_i h; have := (arrg_len h).1; rw [joinF_len]; omega
  · exact Nat.zero_le _
end Go.Proofs.Ytibephoepkofnaa.Pfn

namespace Go.Proofs.Ytibephoepkofnaa.Pfn
open Go.RowKit Fr Own Pk Ins Pok Prm Pl Arr

/-! ### InversePerm -/
def invTo (zs : List Int) : Nat → List Int
  | 0 => List.replicate zs.length 0
  | k + 1 => (invTo zs k).set (zs.getD k 0).toNat (k : Int)
theorem invTo_len (zs : List Int) (k : Nat) : (invTo zs k).length = zs.length := by
  induction k with
  | zero => simp [invTo]
  | succ k ih => simp [invTo, ih]
theorem invTo_next (zs : List Int) (k y : Nat) (h : zs.getD k 0 = (y : Int)) : (invTo zs k).set y (k : Int) = invTo zs (k + 1) := by
  simp only [invTo]; rw [h]; rfl
def invF (zs : List Int) : List Int := if permB zs then invTo zs zs.length else []
theorem invF_yes {zs : List Int} (h : permB zs = true) : invF zs = invTo zs zs.length := by unfold invF; rw [if_pos h]
theorem invF_no {zs : List Int} (h : permB zs = false) : invF zs = [] := by unfold invF; rw [h]; rfl
def vals (zs : List Int) : List Value := zs.map (Value.int .i64)
theorem vals_len (zs : List Int) : (vals zs).length = zs.length := by simp [vals]
theorem vals_get {zs : List Int} {k : Nat} (h : k < zs.length) : (vals zs)[k]? = some (.int .i64 (zs.getD k 0)) := by
  simp [vals, List.getElem?_map, List.getElem?_eq_getElem h, List.getD_eq_getElem?_getD]
theorem vals_set (zs : List Int) (k : Nat) (x : Int) : (vals zs).set k (.int .i64 x) = vals (zs.set k x) := by
  simp [vals, List.map_set]
theorem vals_rep (n : Nat) : vals (List.replicate n 0) = List.replicate n (.int .i64 0) := by simp [vals]



/-! ### PowerPerm -/
def powTo (zs : List Int) : Nat → List Int
  | 0 => imarks 0 zs.length
  | k + 1 => joinF (powTo zs k) zs
theorem powTo_len (zs : List Int) (k : Nat) : (powTo zs k).length = zs.length := by
  cases k with
  | zero => simp [powTo, imarks_length]
  | succ k => simp [powTo, joinF_len]
theorem powTo_next (zs : List Int) (k : Nat) : joinF (powTo zs k) zs = powTo zs (k + 1) := rfl
def powB (zs : List Int) (k : Int) : Bool := permB zs && decide (0 ≤ k ∧ k ≤ 1000)
def powF (zs : List Int) (k : Int) : List Int := if powB zs k then powTo zs k.toNat else []
theorem powF_yes {zs : List Int} {k : Int} (h : powB zs k = true) : powF zs k = powTo zs k.toNat := by unfold powF; rw [if_pos h]
theorem powF_no {zs : List Int} {k : Int} (h : powB zs k = false) : powF zs k = [] := by unfold powF; rw [h]; rfl
theorem newF_id (zs : List Int) (n : Nat) (h : zs.length = n) (h2 : n ≤ 12) : Nwp.newF (n : Int) = powTo zs 0 := by rw [Nwp.newF_yes n h2]; unfold powTo; rw [h]

/-! ### PermBetween -/
def btwF (ps qs : List Int) : List Int := qs.map fun x => posF ps (cardF x)
theorem btw_len (ps qs : List Int) : (btwF ps qs).length = qs.length := by simp [btwF]
theorem btw_get (ps qs : List Int) (k : Nat) (h : k < qs.length) : (btwF ps qs).getD k 0 = posF ps (cardF (qs.getD k 0)) := by
  simp [btwF, List.getD_eq_getElem?_getD, List.getElem?_map, List.getElem?_eq_getElem h]
theorem btw_snoc (ps qs : List Int) (k : Nat) (h : k < qs.length) : btwF ps (qs.take (k + 1)) = btwF ps (qs.take k) ++ [posF ps (cardF (qs.getD k 0))] := by
  rw [take_snoc qs k h]; simp [btwF]
def betF (ps qs : List Int) : List Int := if arrB ps qs then btwF ps qs else []
theorem betF_yes {ps qs : List Int} (h : arrB ps qs = true) : betF ps qs = btwF ps qs := by unfold betF; rw [if_pos h]
theorem betF_no {ps qs : List Int} (h : arrB ps qs = false) : betF ps qs = [] := by unfold betF; rw [h]; rfl
theorem arr_short {ps qs : List Int} (h : arrB ps qs = true) : qs.length ≤ 12 := by
  unfold arrB at h
  rw [Bool.and_eq_true, Bool.and_eq_true, Bool.and_eq_true] at h
  exact (okB_yes h.1.1.2).1


theorem invF_short (zs : List Int) : (invF zs).length ≤ 1048576 := by
  unfold invF
  split
  · rename_i h; have := (permB_yes h).1; rw [invTo_len]; omega
  · exact Nat.zero_le _
theorem powF_short (zs : List Int) (k : Int) : (powF zs k).length ≤ 1048576 := by
  unfold powF
  split
  · rename_i h; unfold powB at h; rw [Bool.and_eq_true] at h; have := (permB_yes h.1).1; rw [powTo_len]; omega
  · exact Nat.zero_le _
theorem betF_short (ps qs : List Int) : (betF ps qs).length ≤ 1048576 := by
  unfold betF
  split
  · rename_i h; have := arr_short h; rw [btw_len]; omega
  · exact Nat.zero_le _
end Go.Proofs.Ytibephoepkofnaa.Pfn
