/- The contracts of the two functions Join. -/
import Derived.Test.YtaphphelimpgmaaStrs
set_option linter.unusedVariables false
namespace Go.Proofs.Ytaphphelimpgmaa.Jn
open Go.RowKit Joi Str Fr

theorem cat_mk (x y : List UInt8) (b : ByteArray) (h : b.data.toList = y) : (ByteArray.mk x.toArray ++ b) = ⟨(x ++ y).toArray⟩ := by
  rw [← h]
  obtain ⟨⟨l⟩⟩ := b
  exact ByteArray.mk_append_mk x l
theorem size_mk (l : List UInt8) : (ByteArray.mk l.toArray).size = l.length := by simp [ByteArray.size]

set_option maxHeartbeats 1000000 in
theorem spec_any (by_ : ByteArray) (A : Option Addr) (n c : Nat) (ss : List ByteArray) (w : World) (hn : ss.length = n) (hn2 : n ≤ 9223372036854775807)
    (hss : StrsAt w w.heap.size A ss) (hlen : (joinTo by_.data.toList ss n).length ≤ 70368744177664) (hby : by_.size ≤ 70368744177664) :
    Calls Try.prog 21 #[.slice A n c, .string by_] w fun e w' => e = .returned (.string ⟨(joinTo by_.data.toList ss n).toArray⟩) ∧ w = w' := by
  have HN := Lib.hid hn
  clear hn
  go_enter Try.func21, Try.ntmps21
  go_wp2
  go_loop [5, 6, 7, 10] (fun s _ _ i => ∃ k : Nat, k ≤ n ∧ i = .int .i64 k ∧ ∃ t : ByteArray, Hid (t = ⟨(joinTo by_.data.toList ss k).toArray⟩) ∧ s = .string t) (fun _ _ _ i => n - (intOf i).toNat)
  case atStart => exact ⟨0, Nat.zero_le _, rfl, _, rfl, rfl⟩
  case round =>
    obtain ⟨k, hk, rfl, t, HT, rfl⟩ := hrel
    have hl0 := joinTo_le by_.data.toList ss k n hk
    have hts : t.size = (joinTo by_.data.toList ss k).length := by rw [HT.out, size_mk]
    by_cases hlt : k < n
    · obtain ⟨b, o, rfl, hbb, hc⟩ := hss k (by rw [HN.out]; exact hlt)
      have hl1 := joinTo_le by_.data.toList ss (k + 1) n (by omega)
      have hl2 : joinTo by_.data.toList ss (k + 1) = (joinTo by_.data.toList ss k ++ (if k = 0 then [] else by_.data.toList)) ++ (ss.getD k ByteArray.empty).data.toList := rfl
      generalize ss.getD k ByteArray.empty = x at hl2 hc
      have hx := len_size x
      have hy := len_size by_
      by_cases hk0 : k = 0
      · subst hk0
        have hl3 : (joinTo by_.data.toList ss 1).length = x.size := by
          have := congrArg List.length hl2
          simpa [joinTo, hx] using this
        rw [Nat.zero_add] at hl1 hl2
        have hx2 : t.size + x.size ≤ 9223372036854775807 := by omega
        have hT : t ++ x = ⟨(joinTo by_.data.toList ss 1).toArray⟩ := by
          rw [HT.out, cat_mk _ _ x rfl, hl2]
          rfl
        have HT2 := Lib.hid hT
        clear hl2 hl3 hx hy hl1 hlen hT hts hl0
        rw [Nat.add_zero] at hc
        go_wp2
        go_round
        case rel => exact ⟨1, by omega, rfl, _, HT2, rfl⟩
        case measure => simp [intOf]; omega
      · have hk1 : 0 < k := by omega
        rw [if_neg hk0] at hl2
        have hl3 : (joinTo by_.data.toList ss (k + 1)).length = (joinTo by_.data.toList ss k).length + by_.size + x.size := by rw [hl2, List.length_append, List.length_append, hx, hy]
        have hx2 : t.size + by_.size ≤ 9223372036854775807 := by omega
        have hT1 : t ++ by_ = ⟨(joinTo by_.data.toList ss k ++ by_.data.toList).toArray⟩ := by rw [HT.out, cat_mk _ _ by_ rfl]
        have hx3 : (t ++ by_).size + x.size ≤ 9223372036854775807 := by rw [hT1, size_mk, List.length_append, hy]; omega
        have hT : t ++ by_ ++ x = ⟨(joinTo by_.data.toList ss (k + 1)).toArray⟩ := by rw [hT1, cat_mk _ _ x rfl, hl2]
        have HT2 := Lib.hid hT
        have HY := Lib.hid hy
        clear hl2 hl3 hl1 hlen hx hy hT hT1 hts hl0
        go_wp2
        go_round
        case rel => exact ⟨k + 1, by omega, by go_num, _, HT2, rfl⟩
        case measure => simp [intOf]; omega
    · have hkn : k = n := by omega
      have hT : t = ⟨(joinTo by_.data.toList ss n).toArray⟩ := by rw [← hkn]; exact HT.out
      have HT2 := Lib.hid hT
      clear hT hkn hts hl0
      go_wp2
      go_ret
      exact ⟨congrArg (fun x => Ending.returned (.string x)) HT2.out, rfl⟩

theorem impl_any (by_ : ByteArray) (A : Option Addr) (n c : Nat) (ss : List ByteArray) (w : World) (hn : ss.length = n) (hn2 : n ≤ 9223372036854775807)
    (hss : StrsAt w w.heap.size A ss) (hlen : (joinTo by_.data.toList ss n).length ≤ 70368744177664) :
    Calls Try.prog 23 #[.slice A n c, .string by_] w fun e w' => e = .returned (.string ⟨(joinTo by_.data.toList ss n).toArray⟩) ∧ Below w.heap.size w w' := by
  go_enter Try.func23, Try.ntmps23
  go_wp2_with fail
  refine (parts_any by_ A n c ss _ hn hn2 hss hlen).mono ?_
  rintro e w1 ⟨rfl, hb⟩
  go_wp2
  go_ret
  exact ⟨rfl, hb⟩

end Go.Proofs.Ytaphphelimpgmaa.Jn
