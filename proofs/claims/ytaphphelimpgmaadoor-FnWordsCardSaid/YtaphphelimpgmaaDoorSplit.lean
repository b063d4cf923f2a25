/- The contracts of the two functions SplitAny: a list of strings in new memory, the same list for both. -/
import Derived.Test.YtaphphelimpgmaaDoorOwn
import Derived.BigQuiet
import Derived.Deep.QuietTactic
set_option linter.unusedVariables false
namespace Go.Proofs.YtaphphelimpgmaaDoor.Spl
open Go.RowKit Fr Own

def hit (by_ : List UInt8) (c : UInt8) : Bool := by_.any fun d => c == d
/-- after i bytes: the parts that are complete, and where the next one begins -/
def splitTo (s by_ : ByteArray) : Nat → List ByteArray × Nat
  | 0 => ([], 0)
  | i + 1 => if hit by_.data.toList (s.data.toList.getD i 0) then ((splitTo s by_ i).1 ++ [s.extract (splitTo s by_ i).2 i], i + 1) else splitTo s by_ i
def parts (s by_ : ByteArray) : List ByteArray := (splitTo s by_ s.size).1 ++ [s.extract (splitTo s by_ s.size).2 s.size]

theorem splitTo_len (s by_ : ByteArray) (i : Nat) : (splitTo s by_ i).1.length ≤ i ∧ (splitTo s by_ i).2 ≤ i := by
  induction i with
  | zero => exact ⟨Nat.le_refl _, Nat.le_refl _⟩
  | succ i ih =>
    unfold splitTo
    split
    · simp only [List.length_append, List.length_cons, List.length_nil]
      omega
    · omega
theorem parts_len (s by_ : ByteArray) : (parts s by_).length = (splitTo s by_ s.size).1.length + 1 := by simp [parts]
theorem splitTo_yes (s by_ : ByteArray) (i : Nat) (h : i < s.size) (hh : hit by_.data.toList s[i] = true) : splitTo s by_ (i + 1) = ((splitTo s by_ i).1 ++ [s.extract (splitTo s by_ i).2 i], i + 1) := by
  have e : s.data.toList.getD i 0 = s[i] := by
    rw [List.getD_eq_getElem?_getD, List.getElem?_eq_getElem (by rw [len_size]; exact h)]; rfl
  conv => lhs; unfold splitTo
  rw [e, if_pos hh]
theorem splitTo_no (s by_ : ByteArray) (i : Nat) (h : i < s.size) (hh : hit by_.data.toList s[i] = false) : splitTo s by_ (i + 1) = splitTo s by_ i := by
  have e : s.data.toList.getD i 0 = s[i] := by
    rw [List.getD_eq_getElem?_getD, List.getElem?_eq_getElem (by rw [len_size]; exact h)]; rfl
  conv => lhs; unfold splitTo
  rw [e, hh]; simp

def IsParts (B : Nat) (ss : List ByteArray) (w : World) (e : Ending) (w' : World) : Prop :=
  ∃ g c, e = .returned (.slice (some ⟨g, 0, none⟩) ss.length c) ∧ w'.ownsRow B 9 1 (.slice (some ⟨g, 0, none⟩) ss.length c) ss.length (ss.map Value.string) ∧ Below B w w'

/-- the 256 marks of the bytes -/
def TabAt (w : World) (b : Nat) (f : Nat → Bool) : Prop := ∀ i, i < 256 → w.cell? ⟨b, i, none⟩ = some (.bool (f i)) ∧ w.frozen? ⟨b, i, none⟩ = false

def falses : Array Value := Array.replicate 256 (.bool false)
theorem zero_tab (w : World) : (zeroValue 46).run Tryd.prog w = .ok (.agg falses) w := by kernel_rfl
theorem tab_zero (w : World) (t : TypeId) : TabAt (w.alloc (.cells falses t)) w.heap.size (fun _ => false) := by
  intro i hi
  have hh : (w.alloc (.cells falses t)).heap[w.heap.size]? = some (.cells falses t (0, 0)) := heap_alloc_new w _
  refine ⟨?_, Lib.frozen_of_heap hh i⟩
  rw [Lib.cell_of_heap hh]
  simp [falses, hi]
theorem TabAt.set {w : World} {b : Nat} {f g : Nat → Bool} (h : TabAt w b f) (i : Nat) (hi : i < 256) (hg : ∀ j, g j = (j == i || f j)) : TabAt (w.setCell ⟨b, i, none⟩ (.bool true)) b g := by
  intro j hj
  have h1 := h j hj
  refine ⟨?_, by rw [World.frozen?_setCell]; exact h1.2⟩
  by_cases e : j = i
  · subst e
    rw [World.cell?_setCell_same' w _ _ (by rw [h1.1]; rfl), hg]; simp
  · rw [World.cell?_setCell_other _ _ _ _ (by intro h; simp only [Addr.mk.injEq] at h; exact e h.2.1.symm), h1.1, hg]
    simp [e]
theorem TabAt.below {w w' : World} {b B : Nat} {f : Nat → Bool} (h : TabAt w b f) (hB : Below B w w') (hb : b < B) : TabAt w' b f := by
  intro j hj
  have h1 := h j hj
  exact ⟨(hB.cell (p := ⟨b, j, none⟩) hb).trans h1.1, (hB.frozen (p := ⟨b, j, none⟩) hb).trans h1.2⟩
def tabF (l : List UInt8) (c : Nat) : Bool := l.any fun d => d.toNat == c
theorem tabF_next (b : ByteArray) (k : Nat) (h : k < b.size) (c : Nat) : tabF (b.data.toList.take (k + 1)) c = (c == b[k].toNat || tabF (b.data.toList.take k) c) := by
  have e : b.data.toList.take (k + 1) = b.data.toList.take k ++ [b[k]] := by
    rw [List.take_succ_eq_append_getElem (by simpa using h)]; rfl
  rw [e, tabF, List.any_append]
  simp only [List.any_cons, List.any_nil, Bool.or_false, tabF]
  rw [Bool.or_comm]
  congr 1
  rw [Bool.eq_iff_iff]; simp; omega
theorem tabF_hit (l : List UInt8) (c : UInt8) : tabF l c.toNat = hit l c := by
  unfold tabF hit
  congr 1
  funext d
  rw [Bool.eq_iff_iff]; simp
  constructor
  · intro h; exact (UInt8.toNat_inj.1 h).symm
  · intro h; rw [h]

set_option maxHeartbeats 1000000 in
theorem impl_any (s by_ : ByteArray) (w : World) (hs : s.size ≤ 1048576) (hb : by_.size ≤ 1048576) :
    Calls Tryd.prog 11 #[.string s, .string by_] w (IsParts w.heap.size (parts s by_) w) := by
  obtain ⟨i0, hi, hz0, hz1, hz2⟩ := info_parts infoString
  go_enter Tryd.func11, Tryd.ntmps11
  have hzt := zero_tab
  go_wp2
  go_loopw [6, 12] (fun _ i wr => ∃ k : Nat, k ≤ by_.size ∧ i = .int .i64 k ∧ TabAt wr w.heap.size (tabF (by_.data.toList.take k)) ∧ Below w.heap.size w wr ∧ w.heap.size < wr.heap.size) (fun _ i _ => by_.size - (intOf i).toNat)
  case atStart => exact ⟨0, Nat.zero_le _, rfl, tab_zero w 46, (Below.refl _ w).alloc (Nat.le_refl _) _, by simp⟩
  case round =>
    obtain ⟨k, hk, rfl, hT, hbk, hsk⟩ := hrel
    by_cases hlt : k < by_.size
    · have hlt8 : by_[k].toNat < 256 := by_[k].toNat_lt
      obtain ⟨hc, hfz⟩ := hT by_[k].toNat hlt8
      have hT2 := hT.set by_[k].toNat hlt8 (tabF_next by_ k hlt)
      have hb2 := hbk.setCell (p := ⟨w.heap.size, by_[k].toNat, none⟩) (Nat.le_refl _) (.bool true)
      have HT2 := Lib.hid hT2
      have HB2 := Lib.hid hb2
      clear hT hT2 hb2
      go_wp2
      go_roundw
      case rel => exact ⟨k + 1, by omega, by go_num, HT2.out, HB2.out, by simpa using hsk⟩
      case measure => simp [intOf]; omega
    · have hkn : k = by_.size := by omega
      have htk : by_.data.toList.take k = by_.data.toList := List.take_of_length_le (by rw [len_size]; omega)
      rw [htk] at hT
      clear htk hkn
      obtain ⟨wt, rfl⟩ : ∃ wt : World, wt = wr := ⟨_, rfl⟩
      go_wp2
      go_loopw [7, 8, 9, 22] (fun v p _ i wr => ∃ k : Nat, k ≤ s.size ∧ i = .int .i64 k ∧ (∃ q : Nat, Hid (q = (splitTo s by_ k).2) ∧ p = .int .i64 q) ∧ wr.ownsRow (w.heap.size + 1) 9 1 v (splitTo s by_ k).1.length ((splitTo s by_ k).1.map Value.string) ∧ Below w.heap.size w wr ∧ Below (w.heap.size + 1) wt wr) (fun _ _ _ i _ => s.size - (intOf i).toNat)
      case atStart => exact ⟨0, Nat.zero_le _, rfl, ⟨0, rfl, rfl⟩, World.ownsRow_nil _ _ _ _, hbk, Below.refl _ _⟩
      case round =>
        obtain ⟨k, hk, rfl, ⟨q, HQ, rfl⟩, hown, hbw, hbt⟩ := hrel
        have hl := splitTo_len s by_ k
        have hl1 := hl.1
        have hq : q ≤ k := by rw [HQ.out]; exact hl.2
        have hsz := hbt.size
        by_cases hlt : k < s.size
        · have hlt8 : s[k].toNat < 256 := s[k].toNat_lt
          have hc := ((hT.below hbt (by omega)) s[k].toNat hlt8).1
          rw [tabF_hit] at hc
          by_cases hh : hit by_.data.toList s[k] = true
          · rw [hh] at hc
            have hst := splitTo_yes s by_ k hlt hh
            rw [← HQ.out] at hst
            have HS := Lib.hid hst
            clear hst hh hl
            go_wp2_with (at_builtin; refine app_one rfl (.tmp 30) (.tmp 35) 29 rfl (w.heap.size + 1) 9 i0 (.string ⟨#[]⟩) 16 Tryd.underlying29 hi hz0 hz1 hz2 (by decide) rfl _ _ _ rfl hown (.string (s.extract q k)) rfl rfl (by omega) (by omega) ?_; intro g c w2 hown2 hb2)
            go_roundw
            case rel => exact ⟨k + 1, by omega, by go_num, ⟨k + 1, by rw [HS.out]; rfl, by go_num⟩, by rw [HS.out]; simpa using hown2, hbw.trans (hb2.mono (by omega)), hbt.trans hb2⟩
            case measure => simp [intOf]; omega
          · have hh' : hit by_.data.toList s[k] = false := Bool.eq_false_iff.2 hh
            rw [hh'] at hc
            have hst := splitTo_no s by_ k hlt hh'
            have HS := Lib.hid hst
            clear hst hh hh' hl
            go_wp2
            go_roundw
            case rel => exact ⟨k + 1, by omega, by go_num, ⟨q, by rw [HS.out]; exact HQ, rfl⟩, by rw [HS.out]; exact hown, hbw, hbt⟩
            case measure => simp [intOf]; omega
        · have hkn : k = s.size := by omega
          have hpl := parts_len s by_
          rw [hkn] at hown HQ hl1
          have HP := Lib.hid hpl
          clear hkn hl hpl
          go_wp2_with (at_builtin; refine app_one rfl (.tmp 40) (.tmp 44) 29 rfl (w.heap.size + 1) 9 i0 (.string ⟨#[]⟩) 16 Tryd.underlying29 hi hz0 hz1 hz2 (by decide) rfl _ _ _ rfl hown (.string (s.extract q s.size)) rfl rfl (by omega) (by omega) ?_; intro g c w2 hown2 hb2)
          go_ret
          refine ⟨g, c, by rw [HP.out]; rfl, ?_, hbw.trans (hb2.mono (by omega))⟩
          have hp : parts s by_ = (splitTo s by_ s.size).1 ++ [s.extract q s.size] := by rw [HQ.out]; rfl
          rw [hp]
          simpa using own_mono hown2 (Nat.le_succ _)

theorem hit_no (by_ : ByteArray) (c : UInt8) (h : hit by_.data.toList c = false) (k : Nat) (hk : k < by_.size) : (c == by_[k]) = false := by
  unfold hit at h
  rw [List.any_eq_false] at h
  have hm : by_[k] ∈ by_.data.toList := by
    have : by_[k] = by_.data[k]'hk := rfl
    rw [this]; simp
  simpa using h _ hm
theorem hit_yes (by_ : ByteArray) (c : UInt8) (k : Nat) (hk : k < by_.size) (h : c = by_[k]) : hit by_.data.toList c = true := by
  unfold hit
  rw [List.any_eq_true]
  have hm : by_[k] ∈ by_.data.toList := by
    have : by_[k] = by_.data[k]'hk := rfl
    rw [this]; simp
  exact ⟨_, hm, by simp [h]⟩
/-- no place below k bears c -/
def noneTo (by_ : ByteArray) (c : UInt8) (k : Nat) : Prop := ∀ j, (h : j < by_.size) → j < k → c ≠ by_[j]
theorem none_all (by_ : ByteArray) (c : UInt8) (h : noneTo by_ c by_.size) : hit by_.data.toList c = false := by
  unfold hit
  rw [List.any_eq_false]
  intro d hd
  obtain ⟨j, hj, e⟩ := List.mem_iff_getElem.1 hd
  have hj' : j < by_.size := by rw [← len_size]; exact hj
  have := h j hj' hj'
  have e2 : by_[j] = d := by rw [← e]; rfl
  rw [e2] at this
  simpa using this


end Go.Proofs.YtaphphelimpgmaaDoor.Spl
