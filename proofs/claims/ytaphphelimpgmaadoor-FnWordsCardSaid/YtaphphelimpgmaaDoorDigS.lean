/- What the model's IsDigits returns for every string of at most 2^63 - 1 bytes. -/
import Derived.Test.YtaphphelimpgmaaDoorRows
import Derived.WalkKit
import Derived.WalkSpells
import Derived.WalkLawsBesides
import Derived.BigQuiet
import Derived.Deep.QuietTactic
import Derived.Lib.Hide
import Derived.Lib.OthersKept
set_option linter.unusedVariables false
namespace Go.Proofs.YtaphphelimpgmaaDoor.Dig
open Go.RowKit

theorem ret_bool {a b : Bool} (h : a = b) : Ending.returned (.bool a) = .returned (.bool b) := by rw [h]

/-- one decimal digit -/
def digB (c : UInt8) : Bool := decide (48 ≤ (c.toNat : Int) ∧ (c.toNat : Int) ≤ 57)
/-- all bytes are digits, and there is one -/
def digits (l : List UInt8) : Bool := l.all digB && !l.isEmpty

theorem size_len (s : ByteArray) : s.size = s.data.toList.length := (Array.length_toList).symm

theorem take_snoc (s : ByteArray) (k : Nat) (h : k < s.size) : s.data.toList.take (k + 1) = s.data.toList.take k ++ [s[k]] := by
  rw [List.take_succ_eq_append_getElem (by simpa using h)]; rfl

theorem take_all (s : ByteArray) (k : Nat) (h : ¬ k < s.size) : s.data.toList.take k = s.data.toList :=
  List.take_of_length_le (by have := size_len s
                             omega)

theorem mem_at (s : ByteArray) (k : Nat) (h : k < s.size) : s[k] ∈ s.data.toList := by
  have : s[k] = s.data[k]'h := rfl
  rw [this]; simp

theorem digits_no (s : ByteArray) (k : Nat) (h : k < s.size) (hd : digB s[k] = false) : digits s.data.toList = false := by
  unfold digits
  rw [Bool.and_eq_false_iff]
  left
  rw [List.all_eq_false]
  exact ⟨s[k], mem_at s k h, by simp [hd]⟩

theorem digits_yes (s : ByteArray) (k : Nat) (h : ¬ k < s.size) (hd : (s.data.toList.take k).all digB = true) : decide (0 < s.size) = digits s.data.toList := by
  rw [take_all s k h] at hd
  unfold digits
  rw [hd, Bool.true_and]
  rw [size_len s]
  cases s.data.toList <;> simp

theorem all_next (s : ByteArray) (k : Nat) (h : k < s.size) (ha : (s.data.toList.take k).all digB = true) (hd : digB s[k] = true) : (s.data.toList.take (k + 1)).all digB = true := by
  rw [take_snoc s k h, List.all_append, ha]
  simp [hd]

set_option maxHeartbeats 400000 in
theorem spec_any (s : ByteArray) (w : World) (hs : s.size ≤ maxLen) :
    Calls Tryd.prog 26 #[.string s] w fun e w' => e = .returned (.bool (digits s.data.toList)) ∧ w = w' := by
  unfold maxLen at hs
  go_enter Tryd.func26, Tryd.ntmps26
  go_wp2
  go_loop [3] (fun i => ∃ k : Nat, k ≤ s.size ∧ i = .int .i64 k ∧ Hid ((s.data.toList.take k).all digB = true)) (fun i => s.size - (intOf i).toNat)
  case atStart => exact ⟨0, Nat.zero_le _, rfl, by simp [Hid]⟩
  case round =>
    obtain ⟨k, hk, rfl, hall⟩ := hrel
    by_cases hlt : k < s.size
    · by_cases hd : digB s[k] = true
      · have hn := all_next s k hlt hall.out hd
        have Hn := Lib.hid hn
        have hb : 48 ≤ (s[k].toNat : Int) ∧ (s[k].toNat : Int) ≤ 57 := of_decide_eq_true hd
        obtain ⟨hb1, hb2⟩ := hb
        clear hn hd
        go_wp2
        go_round
        case rel => exact ⟨k + 1, by omega, by go_num, Hn⟩
        case measure => simp [intOf]; omega
      · have hno := digits_no s k hlt (Bool.eq_false_iff.2 hd)
        have Hno := Lib.hid hno
        have hb : ¬ (48 ≤ (s[k].toNat : Int) ∧ (s[k].toNat : Int) ≤ 57) := of_decide_eq_false (Bool.eq_false_iff.2 hd)
        clear hno hd
        by_cases hb1 : (s[k].toNat : Int) < 48
        · go_wp2
          go_ret
          exact ⟨ret_bool Hno.out.symm, rfl⟩
        · have hb2 : 57 < (s[k].toNat : Int) := by omega
          clear hb
          go_wp2
          go_ret
          exact ⟨ret_bool Hno.out.symm, rfl⟩
    · have hy := digits_yes s k hlt hall.out
      have Hy := Lib.hid hy
      clear hy
      go_wp2
      go_ret
      exact ⟨ret_bool Hy.out, rfl⟩

end Go.Proofs.YtaphphelimpgmaaDoor.Dig
