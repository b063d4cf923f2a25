/- PermOk of the program (by marks in an array) and of the model (by looking back), for all lists of ints; rows of bools. -/
import Derived.Test.YtibephoepkofnaaGreatPok
import Derived.Deep.RegionWith
set_option linter.unusedVariables false
set_option maxRecDepth 20000
namespace Go.Proofs.YtibephoepkofnaaGreat.Prm
open Go.RowKit Fr Own Pk Ins Pok

/-! ### rows of bools -/
def brow (m : Nat) (f : Nat → Bool) : List Value := (List.range m).map fun v => .bool (f v)
theorem brow_len (m : Nat) (f : Nat → Bool) : (brow m f).length = m := by simp [brow]
theorem brow_get {m : Nat} {f : Nat → Bool} {j : Nat} (h : j < m) : (brow m f)[j]? = some (.bool (f j)) := by simp [brow, h]
theorem brow_congr {m : Nat} {f g : Nat → Bool} (h : ∀ v, v < m → f v = g v) : brow m f = brow m g := by
  unfold brow
  exact List.map_congr_left fun v hv => by rw [h v (List.mem_range.1 hv)]
theorem brow_set (m : Nat) (f : Nat → Bool) (j : Nat) : (brow m f).set j (.bool true) = brow m (fun v => f v || decide (v = j)) := by
  refine List.ext_getElem (by simp [brow]) fun i h1 h2 => ?_
  simp only [List.getElem_set, brow, List.getElem_map, List.getElem_range]
  split
  · rename_i h; subst h; simp
  · rename_i h; have : ¬ i = j := fun e => h e.symm
    simp [this]
theorem brow_none (m : Nat) : brow m (fun _ => false) = List.replicate m (.bool false) := by
  unfold brow
  refine List.ext_getElem (by simp) fun i h1 h2 => by simp

/-! ### permutations -/
/-- place k holds a place of the list that none before it holds -/
def okAt (zs : List Int) (k : Nat) : Prop := (0 ≤ zs.getD k 0 ∧ zs.getD k 0 < (zs.length : Nat)) ∧ zs.getD k 0 ∉ zs.take k
def okAtB (zs : List Int) (k : Nat) : Bool := decide (0 ≤ zs.getD k 0 ∧ zs.getD k 0 < (zs.length : Nat)) && !decide (zs.getD k 0 ∈ zs.take k)
theorem okAt_iff (zs : List Int) (k : Nat) : okAtB zs k = true ↔ okAt zs k := by
  unfold okAtB okAt
  rw [Bool.and_eq_true, decide_eq_true_eq, Bool.not_eq_true', decide_eq_false_iff_not]
/-- is the list a permutation? -/
def permB (zs : List Int) : Bool := decide (zs.length ≤ 12) && (List.range zs.length).all (okAtB zs)
theorem permB_long {zs : List Int} (h : 12 < zs.length) : permB zs = false := by unfold permB; rw [decide_eq_false (by omega)]; rfl
theorem permB_bad {zs : List Int} (k : Nat) (hk : k < zs.length) (h : ¬ okAt zs k) : permB zs = false := by
  unfold permB
  rw [Bool.and_eq_false_iff]
  refine Or.inr (Bool.eq_false_iff.2 fun hall => h ?_)
  exact (okAt_iff zs k).1 (List.all_eq_true.1 hall k (List.mem_range.2 hk))
theorem permB_all {zs : List Int} (h1 : zs.length ≤ 12) (h2 : ∀ k, k < zs.length → okAt zs k) : permB zs = true := by
  unfold permB
  rw [decide_eq_true h1, Bool.true_and]
  exact List.all_eq_true.2 fun k hk => (okAt_iff zs k).2 (h2 k (List.mem_range.1 hk))
theorem permB_yes {zs : List Int} (h : permB zs = true) : zs.length ≤ 12 ∧ ∀ k, k < zs.length → okAt zs k := by
  unfold permB at h
  rw [Bool.and_eq_true, decide_eq_true_eq] at h
  exact ⟨h.1, fun k hk => (okAt_iff zs k).1 (List.all_eq_true.1 h.2 k (List.mem_range.2 hk))⟩
theorem ok_next {zs : List Int} {k : Nat} (h : ∀ i, i < k → okAt zs i) (hk : okAt zs k) : ∀ i, i < k + 1 → okAt zs i := by
  intro i hi
  by_cases e : i = k
  · rw [e]; exact hk
  · exact h i (by omega)
theorem take_snoc (zs : List Int) (k : Nat) (h : k < zs.length) : zs.take (k + 1) = zs.take k ++ [zs.getD k 0] := by
  rw [List.take_succ_eq_append_getElem h, List.getD_eq_getElem?_getD, List.getElem?_eq_getElem h]; rfl
/-- the marks behind k rounds -/
def seenF (zs : List Int) (k : Nat) : Nat → Bool := fun v => decide ((v : Int) ∈ zs.take k)
theorem seen_next (zs : List Int) (k m y : Nat) (h : k < zs.length) (hy : zs.getD k 0 = (y : Int)) : (brow m (seenF zs k)).set y (.bool true) = brow m (seenF zs (k + 1)) := by
  rw [brow_set]
  refine brow_congr fun v _ => ?_
  unfold seenF
  rw [take_snoc zs k h, hy, Bool.eq_iff_iff]
  simp only [Bool.or_eq_true, decide_eq_true_eq, List.mem_append, List.mem_singleton]
  constructor
  · rintro (h1 | h1)
    · exact Or.inl h1
    · exact Or.inr (by omega)
  · rintro (h1 | h1)
    · exact Or.inl h1
    · exact Or.inr (by omega)
theorem seen_zero (zs : List Int) (m : Nat) : brow m (seenF zs 0) = List.replicate m (.bool false) := by
  rw [← brow_none]; exact brow_congr fun v _ => by simp [seenF]

theorem ints_take {w : World} {B : Nat} {A : Option Addr} {zs : List Int} (k : Nat) (h : IntsAt w B .i64 A zs) : IntsAt w B .i64 A (zs.take k) := by
  intro j hj
  rw [List.length_take] at hj
  obtain ⟨b, o, hA, hlt, hc⟩ := h j (by omega)
  refine ⟨b, o, hA, hlt, hc.trans ?_⟩
  simp only [List.getD_eq_getElem?_getD]
  rw [List.getElem?_take, if_pos (by omega)]
end Go.Proofs.YtibephoepkofnaaGreat.Prm
