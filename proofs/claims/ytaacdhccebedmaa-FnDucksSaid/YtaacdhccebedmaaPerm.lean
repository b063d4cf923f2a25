/- PermOk of the program (by marks in an array) and of the model (by looking back), for all lists of ints; rows of bools. -/
import Derived.Test.YtaacdhccebedmaaPok
import Derived.Deep.RegionWith
set_option linter.unusedVariables false
set_option maxRecDepth 20000
namespace Go.Proofs.Ytaacdhccebedmaa.Prm
open Go.RowKit Fr Own Pk Ins Pok

/-! ### rows of bools -/
def brow (m : Nat) (f : Nat → Bool) : List Value := (List.range m).map fun v => .bool (f v)
theorem brow_len (m : Nat) (f : Nat → Bool) : (brow m f).length = m := by simp [brow]
theorem brow_get {m : Nat} {f : Nat → Bool} {j : Nat} (h : j < m) : (brow m f)[j]? = some (.bool (f j)) := by simp [brow, h]
theorem brow_congr {m : Nat} {f g : Nat → Bool} (h : ∀ v, v < m → f v = g v) : brow m f = brow m g := by
  unfold brow
  exact List.map_congr_left fun v hv => by rw [h v (List.mem_range.1 hv)]
theorem brow_set (m : Nat) (f : Nat → Bool) (j : Nat) : (brow m f).set j (.bool true) = brow m (fun v => f v || decide (v = j)) := by
  refine List.ext_getElem (by simp [brow]) fun i h1 h2 => ?_
  simp only [List.getElem_set, brow, List.getElem_map, List.getElem_range]
  split
  · rename_i h; subst h; simp
  · rename_i h; have : ¬ i = j := fun e => h e.symm
    simp [this]
theorem brow_none (m : Nat) : brow m (fun _ => false) = List.replicate m (.bool false) := by
  unfold brow
  refine List.ext_getElem (by simp) fun i h1 h2 => by simp

/-! ### permutations -/
/-- place k holds a place of the list that none before it holds -/
def okAt (zs : List Int) (k : Nat) : Prop := (0 ≤ zs.getD k 0 ∧ zs.getD k 0 < (zs.length : Nat)) ∧ zs.getD k 0 ∉ zs.take k
def okAtB (zs : List Int) (k : Nat) : Bool := decide (0 ≤ zs.getD k 0 ∧ zs.getD k 0 < (zs.length : Nat)) && !decide (zs.getD k 0 ∈ zs.take k)
theorem okAt_iff (zs : List Int) (k : Nat) : okAtB zs k = true ↔ okAt zs k := by
  unfold okAtB okAt
  rw [Bool.and_eq_true, decide_eq_true_eq, Bool.not_eq_true', decide_eq_false_iff_not]
/-- is the list a permutation? -/
def permB (zs : List Int) : Bool := decide (zs.length ≤ 12) && (List.range zs.length).all (okAtB zs)
theorem permB_long {zs : List Int} (h : 12 < zs.length) : permB zs = false := by unfold permB; rw [decide_eq_false (by omega)]; rfl
theorem permB_bad {zs : List Int} (k : Nat) (hk : k < zs.length) (h : ¬ okAt zs k) : permB zs = false := by
  unfold permB
  rw [Bool.and_eq_false_iff]
  refine Or.inr (Bool.eq_false_iff.2 fun hall => h ?_)
  exact (okAt_iff zs k).1 (List.all_eq_true.1 hall k (List.mem_range.2 hk))
theorem permB_all {zs : List Int} (h1 : zs.length ≤ 12) (h2 : ∀ k, k < zs.length → okAt zs k) : permB zs = true := by
  unfold permB
  rw [decide_eq_true h1, Bool.true_and]
  exact List.all_eq_true.2 fun k hk => (okAt_iff zs k).2 (h2 k (List.mem_range.1 hk))
theorem permB_yes {zs : List Int} (h : permB zs = true) : zs.length ≤ 12 ∧ ∀ k, k < zs.length → okAt zs k := by
  unfold permB at h
  rw [Bool.and_eq_true, decide_eq_true_eq] at h
  exact ⟨h.1, fun k hk => (okAt_iff zs k).1 (List.all_eq_true.1 h.2 k (List.mem_range.2 hk))⟩
theorem ok_next {zs : List Int} {k : Nat} (h : ∀ i, i < k → okAt zs i) (hk : okAt zs k) : ∀ i, i < k + 1 → okAt zs i := by
  intro i hi
  by_cases e : i = k
  · rw [e]; exact hk
  · exact h i (by omega)
theorem take_snoc (zs : List Int) (k : Nat) (h : k < zs.length) : zs.take (k + 1) = zs.take k ++ [zs.getD k 0] := by
  rw [List.take_succ_eq_append_getElem h, List.getD_eq_getElem?_getD, List.getElem?_eq_getElem h]; rfl
/-- the marks behind k rounds -/
def seenF (zs : List Int) (k : Nat) : Nat → Bool := fun v => decide ((v : Int) ∈ zs.take k)
theorem seen_next (zs : List Int) (k m y : Nat) (h : k < zs.length) (hy : zs.getD k 0 = (y : Int)) : (brow m (seenF zs k)).set y (.bool true) = brow m (seenF zs (k + 1)) := by
  rw [brow_set]
  refine brow_congr fun v _ => ?_
  unfold seenF
  rw [take_snoc zs k h, hy, Bool.eq_iff_iff]
  simp only [Bool.or_eq_true, decide_eq_true_eq, List.mem_append, List.mem_singleton]
  constructor
  · rintro (h1 | h1)
    · exact Or.inl h1
    · exact Or.inr (by omega)
  · rintro (h1 | h1)
    · exact Or.inl h1
    · exact Or.inr (by omega)
theorem seen_zero (zs : List Int) (m : Nat) : brow m (seenF zs 0) = List.replicate m (.bool false) := by
  rw [← brow_none]; exact brow_congr fun v _ => by simp [seenF]

set_option maxHeartbeats 1000000 in
theorem impl_perm (A : Option Addr) (n c : Nat) (zs : List Int) (w : World) (hn : zs.length = n) (hn2 : n ≤ 9223372036854775807) (hz : Fits zs) (hss : IntsAt w w.heap.size .i64 A zs) :
    Calls Try.prog 53 #[.slice A n c] w fun e w' => e = .returned (.bool (permB zs)) ∧ Below w.heap.size w w' := by
  by_cases h12 : n ≤ 12
  · have HN := Lib.hid hn
    clear hn
    have hk12 : decide ((12 : Int) < (n : Int)) = false := decide_eq_false (by omega)
    go_enter Try.func53, Try.ntmps53
    have hown0 : (w.alloc (.cells #[.bool false, .bool false, .bool false, .bool false, .bool false, .bool false, .bool false, .bool false, .bool false, .bool false, .bool false, .bool false] 78)).ownsRow w.heap.size 78 1 (.slice (some ⟨w.heap.size, 0, none⟩) 12 12) 12 (brow 12 (seenF zs 0)) := by
      rw [seen_zero]
      exact World.ownsRow_lit w _ 12 (Nat.le_refl _) (by unfold maxLen; omega) rfl
    have HOWN0 := Lib.hid hown0
    clear hown0
    go_wp2
    go_loopw [5, 11] (fun _ i wr => ∃ k : Nat, k ≤ n ∧ i = .int .i64 k ∧ Hid (∀ i, i < k → okAt zs i) ∧ wr.ownsRow w.heap.size 78 1 (.slice (some ⟨w.heap.size, 0, none⟩) 12 12) 12 (brow 12 (seenF zs k)) ∧ Below w.heap.size w wr) (fun _ i _ => n - (intOf i).toNat)
    case atStart => exact ⟨0, Nat.zero_le _, rfl, (fun i hi => absurd hi (Nat.not_lt_zero _)), HOWN0.out, (Below.refl _ w).alloc (Nat.le_refl _) _⟩
    case round =>
      obtain ⟨k, hk, rfl, HG, hown, hbw⟩ := hrel
      clear HOWN0
      by_cases hlt : k < n
      · obtain ⟨b, o, rfl, hbb, hc⟩ := (hss.below hbw) k (by rw [HN.out]; exact hlt)
        obtain ⟨hx1, hx2⟩ := hz k (by rw [HN.out]; exact hlt)
        have hlt' : k < zs.length := by rw [HN.out]; exact hlt
        have hlow : zs.getD k 0 < 0 → permB zs = false := fun h => permB_bad k hlt' (fun ho => by have := ho.1.1; omega)
        have hhigh : (n : Int) ≤ zs.getD k 0 → permB zs = false := fun h => permB_bad k hlt' (fun ho => by have := ho.1.2; rw [HN.out] at this; omega)
        have htwice : zs.getD k 0 ∈ zs.take k → permB zs = false := fun h => permB_bad k hlt' (fun ho => ho.2 h)
        have hgood : 0 ≤ zs.getD k 0 → zs.getD k 0 < (n : Nat) → zs.getD k 0 ∉ zs.take k → okAt zs k := fun h1 h2 h3 => ⟨⟨h1, by rw [HN.out]; exact h2⟩, h3⟩
        have hsn := fun y => seen_next zs k 12 y hlt'
        generalize zs.getD k 0 = x at hc hx1 hx2 hlow hhigh htwice hgood hsn
        by_cases h0 : x < 0
        · have HS := Lib.hid (hlow h0)
          clear hlow hhigh htwice hgood hsn HG hlt'
          go_wp2
          go_ret
          exact ⟨ret_b HS.out.symm, hbw⟩
        · have h0' : decide (x < 0) = false := decide_eq_false h0
          by_cases h1 : (n : Int) ≤ x
          · have HS := Lib.hid (hhigh h1)
            clear hlow hhigh htwice hgood hsn HG hlt'
            go_wp2
            go_ret
            exact ⟨ret_b HS.out.symm, hbw⟩
          · have h1' : decide ((n : Int) ≤ x) = false := decide_eq_false h1
            obtain ⟨y, rfl⟩ : ∃ y : Nat, x = y := ⟨x.toNat, by omega⟩
            have hy : y < 12 := by omega
            have hcell : wr.cell? ⟨w.heap.size, y, none⟩ = some (.bool (seenF zs k y)) := by rw [hown.cellAt y (by omega)]; exact brow_get hy
            have hst := hown.stored y (.bool true)
            rw [hsn y rfl] at hst
            have hfz := hown.frozenAt y
            by_cases hm : (y : Int) ∈ zs.take k
            · rw [show seenF zs k y = true from decide_eq_true hm] at hcell
              have HS := Lib.hid (htwice hm)
              clear hlow hhigh htwice hgood hsn HG hlt' hst hm
              go_wp2
              go_ret
              exact ⟨ret_b HS.out.symm, hbw⟩
            · rw [show seenF zs k y = false from decide_eq_false hm] at hcell
              have HS := Lib.hid (hgood (by omega) (by omega) hm)
              have HST := Lib.hid hst
              have HB2 := Lib.hid (hbw.setCell (p := ⟨w.heap.size, y, none⟩) (Nat.le_refl _) (.bool true))
              clear hlow hhigh htwice hgood hsn hlt' hst hm
              go_wp2
              go_roundw
              case rel => exact ⟨k + 1, by omega, by go_num, ok_next HG.out HS.out, HST.out.1, HB2.out⟩
              case measure => simp [intOf]; omega
      · have hkn : k = n := by omega
        have HS := Lib.hid (permB_all (zs := zs) (by rw [HN.out]; exact h12) (fun i hi => HG.out i (by rw [hkn, ← HN.out]; exact hi)))
        clear HG hkn
        go_wp2
        go_ret
        exact ⟨ret_b HS.out.symm, hbw⟩
  · have HS := Lib.hid (permB_long (zs := zs) (by omega))
    have h12' : (12 : Int) < (n : Int) := by omega
    clear hn
    go_enter Try.func53, Try.ntmps53
    go_wp2
    go_ret
    exact ⟨ret_b HS.out.symm, Below.refl _ w⟩
theorem ints_take {w : World} {B : Nat} {A : Option Addr} {zs : List Int} (k : Nat) (h : IntsAt w B .i64 A zs) : IntsAt w B .i64 A (zs.take k) := by
  intro j hj
  rw [List.length_take] at hj
  obtain ⟨b, o, hA, hlt, hc⟩ := h j (by omega)
  refine ⟨b, o, hA, hlt, hc.trans ?_⟩
  simp only [List.getD_eq_getElem?_getD]
  rw [List.getElem?_take, if_pos (by omega)]
end Go.Proofs.Ytaacdhccebedmaa.Prm
