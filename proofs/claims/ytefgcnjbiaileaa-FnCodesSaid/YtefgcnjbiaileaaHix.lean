/- Where a list lies in a list of lists (l12Index), and whether a message shows cards of a hand (l12Shown). -/
import Derived.Test.YtefgcnjbiaileaaFnd
import Derived.Test.YtefgcnjbiaileaaPok
import Derived.BigQuiet
import Derived.Deep.RegionHeld3
set_option linter.unusedVariables false
set_option maxRecDepth 20000
namespace Go.Proofs.Ytefgcnjbiaileaa.Hix
open Go.RowKit Fr _root_.Go.Proofs.Ytefgcnjbiaileaa.Own Pk Ins Rws Sam Fnd

/-- the first place of q in L, or -1 -/
def idxI (q : List Int) (L : List (List Int)) : Int := if q ∈ L then (L.idxOf q : Int) else -1
theorem idx_at {q : List Int} {ls : List RD} {k : Nat} (hk : k < ls.length) (h0 : inK q ls k = false) (h1 : (ls.getD k rd0).zs = q) : idxI q (ls.map RD.zs) = (k : Int) := by
  unfold inK at h0
  have hn : ¬ q ∈ (ls.map RD.zs).take k := by
    rw [← List.map_take]
    exact of_decide_eq_false h0
  have hq : (ls.map RD.zs)[k]'(by rw [List.length_map]; exact hk) = q := by
    rw [List.getElem_map]
    rw [List.getD_eq_getElem?_getD, List.getElem?_eq_getElem hk] at h1
    exact h1
  have hkl : k < (ls.map RD.zs).length := by rw [List.length_map]; exact hk
  have hm : q ∈ ls.map RD.zs := by
    rw [← hq]
    exact List.getElem_mem _
  unfold idxI
  rw [if_pos hm]
  have e : ls.map RD.zs = (ls.map RD.zs).take k ++ q :: (ls.map RD.zs).drop (k + 1) := by
    rw [← hq, ← List.drop_eq_getElem_cons hkl, List.take_append_drop]
  rw [e, List.idxOf_append, if_neg hn, List.idxOf_cons_self, List.length_take, Nat.zero_add, Nat.min_eq_left (by omega)]
theorem idx_not {q : List Int} {ls : List RD} {n : Nat} (hn : ls.length = n) (h0 : inK q ls n = false) : idxI q (ls.map RD.zs) = -1 := by
  unfold inK at h0
  rw [← hn, List.take_length] at h0
  unfold idxI
  rw [if_neg (of_decide_eq_false h0)]
/-- the first k elements of m are different elements of the hand -/
def shTo (h m : List Int) (k : Nat) : Bool := (List.range k).all fun i => decide (m.getD i 0 ∈ h) && !decide (m.getD i 0 ∈ m.take i)
def shownB (h m : List Int) : Bool := decide (m.length + 1 = h.length) && shTo h m m.length
theorem sh_next (h m : List Int) (k : Nat) : shTo h m (k + 1) = (shTo h m k && (decide (m.getD k 0 ∈ h) && !decide (m.getD k 0 ∈ m.take k))) := by
  unfold shTo
  rw [List.range_succ, List.all_append]
  simp
theorem sh_more {h m : List Int} {k n : Nat} (hk : k ≤ n) (e : shTo h m k = false) : shTo h m n = false := by
  unfold shTo at *
  rw [Bool.eq_false_iff] at *
  intro e2
  apply e
  rw [List.all_eq_true] at *
  exact fun i hi => e2 i (List.mem_range.2 (Nat.lt_of_lt_of_le (List.mem_range.1 hi) hk))
theorem ints_take {w : World} {B : Nat} {A : Option Addr} {zs : List Int} (k : Nat) (h : IntsAt w B .i64 A zs) : IntsAt w B .i64 A (zs.take k) := by
  intro j hj
  rw [List.length_take] at hj
  obtain ⟨b, o, hA, hlt, hc⟩ := h j (by omega)
  refine ⟨b, o, hA, hlt, hc.trans ?_⟩
  simp only [List.getD_eq_getElem?_getD]
  rw [List.getElem?_take, if_pos (by omega)]
end Go.Proofs.Ytefgcnjbiaileaa.Hix
