/- What joinParts returns for a list of strings that lies in older memory: the strings one behind the other, with the separator between, as long as the result has at most 2^46 bytes. -/
import Derived.Test.YtaphphelimpgmaaDoorShelf
import Derived.Test.YtaphphelimpgmaaDoorBuilder
import Derived.Test.YtaphphelimpgmaaDoorFrame
set_option linter.unusedVariables false
namespace Go.Proofs.YtaphphelimpgmaaDoor.Joi
open Go.RowKit Fr

theorem ret_str {a b : List UInt8} (h : a = b) : Ending.returned (.string ⟨a.toArray⟩) = .returned (.string ⟨b.toArray⟩) := by rw [h]

/-- the first k strings, the separator between them -/
def joinTo (by_ : List UInt8) (ss : List ByteArray) : Nat → List UInt8
  | 0 => []
  | k + 1 => (joinTo by_ ss k ++ (if k = 0 then [] else by_)) ++ (ss.getD k ByteArray.empty).data.toList

theorem joinTo_le (by_ : List UInt8) (ss : List ByteArray) (j k : Nat) (h : j ≤ k) : (joinTo by_ ss j).length ≤ (joinTo by_ ss k).length := by
  induction k with
  | zero => obtain rfl : j = 0 := by omega
            exact Nat.le_refl _
  | succ k ih =>
    by_cases e : j = k + 1
    · subst e; exact Nat.le_refl _
    · have := ih (by omega)
      simp only [joinTo, List.length_append]
      omega

set_option maxHeartbeats 1000000 in
theorem parts_any (by_ : ByteArray) (A : Option Addr) (n c : Nat) (ss : List ByteArray) (w : World) (hn : ss.length = n) (hn2 : n ≤ 9223372036854775807)
    (hss : StrsAt w w.heap.size A ss) (hlen : (joinTo by_.data.toList ss n).length ≤ 70368744177664) :
    Calls Tryd.prog 23 #[.string by_, .slice A n c] w fun e w' => e = .returned (.string ⟨(joinTo by_.data.toList ss n).toArray⟩) ∧ Below w.heap.size w w' := by
  have HN := Lib.hid hn
  clear hn
  go_enter Tryd.func23, Tryd.ntmps23
  go_wp2
  go_loopw [6, 7, 10] (fun _ _ i wr => ∃ k : Nat, k ≤ n ∧ i = .int .i64 k ∧ Lib.IsBuilder 54 5 w.heap.size w.heap.size (Lib.byteCells (joinTo by_.data.toList ss k)) wr ∧ Below w.heap.size w wr) (fun _ _ i _ => n - (intOf i).toNat)
  case atStart => exact ⟨0, Nat.zero_le _, rfl, Lib.fresh_isBuilder 54 5 w, (Below.refl _ w).alloc (Nat.le_refl _) _⟩
  case round =>
    obtain ⟨k, hk, rfl, hI, hbw⟩ := hrel
    have hsz := hbw.size
    by_cases hlt : k < n
    · obtain ⟨b, o, rfl, hbb, hc⟩ := hss.below hbw k (by rw [HN.out]; exact hlt)
      have hl1 := joinTo_le by_.data.toList ss (k + 1) n (by omega)
      have hl2 : joinTo by_.data.toList ss (k + 1) = (joinTo by_.data.toList ss k ++ (if k = 0 then [] else by_.data.toList)) ++ (ss.getD k ByteArray.empty).data.toList := rfl
      generalize ss.getD k ByteArray.empty = x at hl2 hc
      have hx : x.data.toList.length = x.size := Array.length_toList
      have hy : by_.data.toList.length = by_.size := Array.length_toList
      by_cases hk0 : k = 0
      · subst hk0
        have hl3 : (joinTo by_.data.toList ss 1).length = x.size := by rw [hl2]; simp [joinTo, hx]
        rw [Nat.zero_add] at hl1
        have hx2 : x.size ≤ 140737488355328 := by omega
        have HL2 := Lib.hid hl2
        have HL3 := Lib.hid hl3
        have HB := Lib.hid hlen
        clear hl2 hl3 hx hy hl1 hlen
        rw [Nat.add_zero] at hc
        go_wp2_with (go_at_call 30; refine (Bld.write_any w.heap.size w.heap.size _ x _ hI (by simp [joinTo, Lib.byteCells]; omega) hsz).mono ?_; rintro e w1 ⟨rfl, h1, hb1⟩)
        have hb2 := hbw.trans hb1
        go_wp2
        go_roundw
        case rel => exact ⟨1, by omega, rfl, by rw [HL2.out]; simpa [joinTo, Lib.byteCells, Lib.strCells] using h1, hb2⟩
        case measure => simp [intOf]; omega
      · have hk1 : 0 < k := by omega
        rw [if_neg hk0] at hl2
        have hl3 : (joinTo by_.data.toList ss (k + 1)).length = (joinTo by_.data.toList ss k).length + by_.size + x.size := by rw [hl2, List.length_append, List.length_append, hx, hy]
        have hx2 : (joinTo by_.data.toList ss k).length + by_.size ≤ 140737488355328 := by omega
        have hx3 : (joinTo by_.data.toList ss k).length + by_.size + x.size ≤ 140737488355328 := by omega
        have HL2 := Lib.hid hl2
        have HB := Lib.hid hlen
        clear hl2 hl3 hl1 hlen hx
        have HY := Lib.hid hy
        clear hy
        go_wp2_with fail
        refine (Bld.write_any w.heap.size w.heap.size _ by_ _ hI (by rw [Lib.byteCells_length]; exact hx2) hsz).mono ?_
        rintro e w1 ⟨rfl, h1, hb1⟩
        have hb2 := hbw.trans hb1
        have hsz1 := hb2.size
        go_wp2_with fail
        refine (Bld.write_any w.heap.size w.heap.size _ x _ h1 (by rw [List.length_append, Lib.byteCells_length, Lib.strCells_length]; exact hx3) hsz1).mono ?_
        rintro e w2 ⟨rfl, h2, hb3⟩
        have hb4 := hb2.trans hb3
        go_wp2
        go_roundw
        case rel => exact ⟨k + 1, by omega, by go_num, by rw [HL2.out, Lib.byteCells_append, Lib.byteCells_append]; exact h2, hb4⟩
        case measure => simp [intOf]; omega
    · have hkn : k = n := by omega
      subst hkn
      go_wp2_with (go_at_call 31; refine (Tryd.Builder_String_any w.heap.size w.heap.size _ _ hI hsz).mono ?_)
      rintro e w1 ⟨rfl, hb1⟩
      go_wp2
      go_ret
      exact ⟨rfl, hbw.trans hb1⟩

end Go.Proofs.YtaphphelimpgmaaDoor.Joi
