/- What the functions on permutations do, in the program and in the model: composing, inverting, raising to a power, arranging a packet, and the permutation between two packets. -/
import Derived.Test.YtioofakdklghpaaPerm
import Derived.Test.YtioofakdklghpaaArr
import Derived.Test.YtioofakdklghpaaNewp
set_option linter.unusedVariables false
set_option maxRecDepth 20000
namespace Go.Proofs.Ytioofakdklghpaa.Pfn
open Go.RowKit Fr Own Pk Ins Pok Prm

/-- a call hands back a list of ints of its own and a bool -/
def IsILB (B : Nat) (zs : List Int) (b : Bool) (w : World) (e : Ending) (w' : World) : Prop :=
  ∃ A c, e = .returned (.tuple #[.slice A zs.length c, .bool b]) ∧ w'.ownsRow B 3 1 (.slice A zs.length c) zs.length (zs.map (Value.int .i64)) ∧ Below B w w'
theorem own_cap {w : World} {B : Nat} {e : TypeId} {size : Nat} {A : Option Addr} {n c : Nat} {xs : List Value} (h : w.ownsRow B e size (.slice A n c) n xs) : n ≤ c := by
  rcases h.2 with ⟨h1, h2⟩ | ⟨g, cap, cur, hv, _, _, hc, _⟩
  · omega
  · simp only [Value.slice.injEq] at hv
    omega

/-- the elements of ls at the places that zs names -/
def joinF (ls zs : List Int) : List Int := zs.map fun x => ls.getD x.toNat 0
theorem joinF_len (ls zs : List Int) : (joinF ls zs).length = zs.length := by simp [joinF]
theorem joinF_get (ls zs : List Int) (k : Nat) (h : k < zs.length) : (joinF ls zs).getD k 0 = ls.getD (zs.getD k 0).toNat 0 := by
  simp [joinF, List.getD_eq_getElem?_getD, List.getElem?_map, List.getElem?_eq_getElem h]
theorem joinF_snoc (ls zs : List Int) (k : Nat) (h : k < zs.length) (y : Nat) (hy : zs.getD k 0 = (y : Int)) : joinF ls (zs.take (k + 1)) = joinF ls (zs.take k) ++ [ls.getD y 0] := by
  rw [take_snoc zs k h, hy]; simp [joinF]
/-- all places named are there -/
def inR (zs : List Int) (m : Nat) : Prop := ∀ i, i < zs.length → 0 ≤ zs.getD i 0 ∧ zs.getD i 0 < (m : Int)
theorem inR_perm {zs : List Int} (h : permB zs = true) : inR zs zs.length := fun i hi => ((permB_yes h).2 i hi).1


/-! ### ComposePerms -/
def compB (us bs : List Int) : Bool := permB us && permB bs && decide (us.length = bs.length)
def compF (us bs : List Int) : List Int := if compB us bs then joinF us bs else []
theorem compF_yes {us bs : List Int} (h : compB us bs = true) : compF us bs = joinF us bs := by unfold compF; rw [if_pos h]
theorem compF_no {us bs : List Int} (h : compB us bs = false) : compF us bs = [] := by unfold compF; rw [h]; rfl
theorem nil_ilb (w : World) (B : Nat) : IsILB B [] false w (.returned (.tuple #[.slice none 0 0, .bool false])) w := ⟨none, 0, rfl, World.ownsRow_nil _ _ _ _, Below.refl _ _⟩
theorem perm_short {zs : List Int} (h : permB zs = true) : zs.length ≤ 12 := (permB_yes h).1
theorem il_after {B : Nat} {zs : List Int} {w w1 w2 : World} {e : Ending} (h : IsIL w1.heap.size zs w1 e w2) (hb : Below B w w1) (hs : B ≤ w1.heap.size) : IsIL B zs w e w2 := by
  obtain ⟨A, c, he, ho, hb2⟩ := h
  exact ⟨A, c, he, own_mono ho hs, hb.trans (hb2.mono hs)⟩


/-! ### ArrangeBy -/
def arrgB (us bs : List Int) : Bool := okB us && permB bs && decide (us.length = bs.length)
def arrgF (us bs : List Int) : List Int := if arrgB us bs then joinF us bs else []
theorem arrgF_yes {us bs : List Int} (h : arrgB us bs = true) : arrgF us bs = joinF us bs := by unfold arrgF; rw [if_pos h]
theorem arrgF_no {us bs : List Int} (h : arrgB us bs = false) : arrgF us bs = [] := by unfold arrgF; rw [h]; rfl
theorem comp_len {us bs : List Int} (h : compB us bs = true) : bs.length ≤ 12 ∧ permB us = true ∧ permB bs = true ∧ us.length = bs.length := by
  unfold compB at h
  rw [Bool.and_eq_true, Bool.and_eq_true, decide_eq_true_eq] at h
  exact ⟨(permB_yes h.1.2).1, h.1.1, h.1.2, h.2⟩
theorem compF_short (us bs : List Int) : (compF us bs).length ≤ 1048576 := by
  unfold compF
  split
  · rename_i h; have := (comp_len h).1; rw [joinF_len]; omega
  · exact Nat.zero_le _
theorem arrg_len {us bs : List Int} (h : arrgB us bs = true) : bs.length ≤ 12 ∧ okB us = true ∧ permB bs = true ∧ us.length = bs.length := by
  unfold arrgB at h
  rw [Bool.and_eq_true, Bool.and_eq_true, decide_eq_true_eq] at h
  exact ⟨(permB_yes h.1.2).1, h.1.1, h.1.2, h.2⟩
theorem arrgF_short (us bs : List Int) : (arrgF us bs).length ≤ 1048576 := by
  unfold arrgF
  split
  · rename_i h; have := (arrg_len h).1; rw [joinF_len]; omega
  · exact Nat.zero_le _
end Go.Proofs.Ytioofakdklghpaa.Pfn
