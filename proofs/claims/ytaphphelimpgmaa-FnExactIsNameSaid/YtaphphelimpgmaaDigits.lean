/- The contracts of the two functions IsDigits and of isDigit: what they return for every string of at most 2^63 - 1 bytes. -/
import Derived.Test.YtaphphelimpgmaaRows
import Derived.WalkKit
import Derived.WalkSpells
import Derived.WalkLawsBesides
import Derived.BigQuiet
import Derived.Deep.QuietTactic
import Derived.Lib.Hide
import Derived.Lib.OthersKept
set_option linter.unusedVariables false
namespace Go.Proofs.Ytaphphelimpgmaa.Dig
open Go.RowKit

theorem ret_bool {a b : Bool} (h : a = b) : Ending.returned (.bool a) = .returned (.bool b) := by rw [h]

/-- one decimal digit -/
def digB (c : UInt8) : Bool := decide (48 ≤ (c.toNat : Int) ∧ (c.toNat : Int) ≤ 57)
/-- all bytes are digits, and there is one -/
def digits (l : List UInt8) : Bool := l.all digB && !l.isEmpty

theorem size_len (s : ByteArray) : s.size = s.data.toList.length := (Array.length_toList).symm

theorem take_snoc (s : ByteArray) (k : Nat) (h : k < s.size) : s.data.toList.take (k + 1) = s.data.toList.take k ++ [s[k]] := by
  rw [List.take_succ_eq_append_getElem (by simpa using h)]; rfl

theorem take_all (s : ByteArray) (k : Nat) (h : ¬ k < s.size) : s.data.toList.take k = s.data.toList :=
  List.take_of_length_le (by have := size_len s
                             omega)

theorem mem_at (s : ByteArray) (k : Nat) (h : k < s.size) : s[k] ∈ s.data.toList := by
  have : s[k] = s.data[k]'h := rfl
  rw [this]; simp

theorem digits_no (s : ByteArray) (k : Nat) (h : k < s.size) (hd : digB s[k] = false) : digits s.data.toList = false := by
  unfold digits
  rw [Bool.and_eq_false_iff]
  left
  rw [List.all_eq_false]
  exact ⟨s[k], mem_at s k h, by simp [hd]⟩

theorem digits_yes (s : ByteArray) (k : Nat) (h : ¬ k < s.size) (hd : (s.data.toList.take k).all digB = true) : decide (0 < s.size) = digits s.data.toList := by
  rw [take_all s k h] at hd
  unfold digits
  rw [hd, Bool.true_and]
  rw [size_len s]
  cases s.data.toList <;> simp

theorem all_next (s : ByteArray) (k : Nat) (h : k < s.size) (ha : (s.data.toList.take k).all digB = true) (hd : digB s[k] = true) : (s.data.toList.take (k + 1)).all digB = true := by
  rw [take_snoc s k h, List.all_append, ha]
  simp [hd]

set_option maxHeartbeats 400000 in
theorem spec_any (s : ByteArray) (w : World) (hs : s.size ≤ maxLen) :
    Calls Try.prog 9 #[.string s] w fun e w' => e = .returned (.bool (digits s.data.toList)) ∧ w = w' := by
  unfold maxLen at hs
  go_enter Try.func9, Try.ntmps9
  go_wp2
  go_loop [3] (fun i => ∃ k : Nat, k ≤ s.size ∧ i = .int .i64 k ∧ Hid ((s.data.toList.take k).all digB = true)) (fun i => s.size - (intOf i).toNat)
  case atStart => exact ⟨0, Nat.zero_le _, rfl, by simp [Hid]⟩
  case round =>
    obtain ⟨k, hk, rfl, hall⟩ := hrel
    by_cases hlt : k < s.size
    · by_cases hd : digB s[k] = true
      · have hn := all_next s k hlt hall.out hd
        have Hn := Lib.hid hn
        have hb : 48 ≤ (s[k].toNat : Int) ∧ (s[k].toNat : Int) ≤ 57 := of_decide_eq_true hd
        obtain ⟨hb1, hb2⟩ := hb
        clear hn hd
        go_wp2
        go_round
        case rel => exact ⟨k + 1, by omega, by go_num, Hn⟩
        case measure => simp [intOf]; omega
      · have hno := digits_no s k hlt (Bool.eq_false_iff.2 hd)
        have Hno := Lib.hid hno
        have hb : ¬ (48 ≤ (s[k].toNat : Int) ∧ (s[k].toNat : Int) ≤ 57) := of_decide_eq_false (Bool.eq_false_iff.2 hd)
        clear hno hd
        by_cases hb1 : (s[k].toNat : Int) < 48
        · go_wp2
          go_ret
          exact ⟨ret_bool Hno.out.symm, rfl⟩
        · have hb2 : 57 < (s[k].toNat : Int) := by omega
          clear hb
          go_wp2
          go_ret
          exact ⟨ret_bool Hno.out.symm, rfl⟩
    · have hy := digits_yes s k hlt hall.out
      have Hy := Lib.hid hy
      clear hy
      go_wp2
      go_ret
      exact ⟨ret_bool Hy.out, rfl⟩

/-- what a rune at a place is: a digit's byte is the rune, and no other rune is a digit -/
theorem rune_dig (s : ByteArray) (p : Nat) (h : p < s.size) (hd : digB s[p] = true) : Utf8.decode s p = (s[p].toNat, 1) := by
  have hb : 48 ≤ (s[p].toNat : Int) ∧ (s[p].toNat : Int) ≤ 57 := of_decide_eq_true hd
  exact decode_ascii s p h (by omega)

theorem rune_not (s : ByteArray) (p : Nat) (h : p < s.size) (hd : digB s[p] = false) : ¬ (48 ≤ ((Utf8.decode s p).1 : Int) ∧ ((Utf8.decode s p).1 : Int) ≤ 57) := by
  have hb : ¬ (48 ≤ (s[p].toNat : Int) ∧ (s[p].toNat : Int) ≤ 57) := of_decide_eq_false hd
  by_cases ha : s[p].toNat < 128
  · rw [decode_ascii s p h ha]; exact hb
  · have := (decode_high s p h (by omega)).1
    omega

theorem isDigit_yes (r : Int) (w : World) (h1 : 48 ≤ r) (h2 : r ≤ 57) :
    Calls Try.prog 26 #[.int .i32 r] w fun e w' => e = .returned (.bool true) ∧ w = w' := by
  go_enter Try.func26, Try.ntmps26
  go_wp2
  go_ret
  exact ⟨rfl, rfl⟩

theorem isDigit_no (r : Int) (w : World) (h : ¬ (48 ≤ r ∧ r ≤ 57)) :
    Calls Try.prog 26 #[.int .i32 r] w fun e w' => e = .returned (.bool false) ∧ w = w' := by
  by_cases h1 : 48 ≤ r
  · have h2 : 57 < r := by omega
    have h3 : decide (r ≤ 57) = false := by simp; omega
    clear h
    go_enter Try.func26, Try.ntmps26
    go_wp2
    go_ret
    exact ⟨rfl, rfl⟩
  · clear h
    go_enter Try.func26, Try.ntmps26
    go_wp2
    go_ret
    exact ⟨rfl, rfl⟩

theorem iter_below (w : World) (s : ByteArray) (p : Nat) : Below w.heap.size w (w.iter s p) := (Below.refl _ w).alloc (Nat.le_refl _) _

set_option maxHeartbeats 400000 in
theorem impl_any (s : ByteArray) (w : World) (hs : s.size ≤ maxLen) :
    Calls Try.prog 10 #[.string s] w fun e w' => e = .returned (.bool (digits s.data.toList)) ∧ Below w.heap.size w w' := by
  unfold maxLen at hs
  go_enter Try.func10, Try.ntmps10
  go_wp2
  go_loopw [] (fun wr => ∃ k : Nat, k ≤ s.size ∧ wr = w.iter s k ∧ Hid ((s.data.toList.take k).all digB = true)) (fun wr => s.size - wr.iterPos w.heap.size)
  case atStart => exact ⟨0, Nat.zero_le _, rfl, by simp [Hid]⟩
  case round =>
    obtain ⟨k, hk, rfl, hall⟩ := hrel
    by_cases hlt : k < s.size
    · by_cases hd : digB s[k] = true
      · have hn := all_next s k hlt hall.out hd
        have Hn := Lib.hid hn
        have hb : 48 ≤ (s[k].toNat : Int) ∧ (s[k].toNat : Int) ≤ 57 := of_decide_eq_true hd
        obtain ⟨hb1, hb2⟩ := hb
        have hnx : ∀ ty, (Instr.next (.pointer (some ⟨w.heap.size, 0, none⟩)) true ty).run Try.prog (w.iter s k) = _ := fun ty => run_next_ascii w s k ty hlt (by omega)
        clear hn hd
        go_wp2_with (go_at_call 26; refine (isDigit_yes _ _ hb1 hb2).mono ?_; rintro e w' ⟨rfl, rfl⟩)
        go_roundw
        case rel => exact ⟨k + 1, by omega, rfl, Hn⟩
        case measure => simp; omega
      · have hno := digits_no s k hlt (Bool.eq_false_iff.2 hd)
        have Hno := Lib.hid hno
        have hr := rune_not s k hlt (Bool.eq_false_iff.2 hd)
        have hnx : ∀ ty, (Instr.next (.pointer (some ⟨w.heap.size, 0, none⟩)) true ty).run Try.prog (w.iter s k) = _ := fun ty => run_next_any w s k ty hlt
        clear hno hd
        go_wp2_with (go_at_call 26; refine (isDigit_no _ _ hr).mono ?_; rintro e w' ⟨rfl, rfl⟩)
        go_ret
        exact ⟨ret_bool Hno.out.symm, iter_below w s _⟩
    · have hy := digits_yes s k hlt hall.out
      have Hy := Lib.hid hy
      clear hy
      have hnx : ∀ ty, (Instr.next (.pointer (some ⟨w.heap.size, 0, none⟩)) true ty).run Try.prog (w.iter s k) = _ := fun ty => run_next_end w s k ty hlt
      go_wp2
      go_ret
      exact ⟨ret_bool (by rw [← Hy.out, ByteArray.toList_eq, size_len s]; cases s.data.toList <;> simp), iter_below w s _⟩

end Go.Proofs.Ytaphphelimpgmaa.Dig
