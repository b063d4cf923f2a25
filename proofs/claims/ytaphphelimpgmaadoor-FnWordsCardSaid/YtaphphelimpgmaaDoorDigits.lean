/- The contracts of the program's IsDigits and of isDigit: what they return for every string of at most 2^63 - 1 bytes. -/
import Derived.Test.YtaphphelimpgmaaDoorDigS
set_option linter.unusedVariables false
namespace Go.Proofs.YtaphphelimpgmaaDoor.Dig
open Go.RowKit

/-- what a rune at a place is: a digit's byte is the rune, and no other rune is a digit -/
theorem rune_dig (s : ByteArray) (p : Nat) (h : p < s.size) (hd : digB s[p] = true) : Utf8.decode s p = (s[p].toNat, 1) := by
  have hb : 48 ≤ (s[p].toNat : Int) ∧ (s[p].toNat : Int) ≤ 57 := of_decide_eq_true hd
  exact decode_ascii s p h (by omega)

theorem rune_not (s : ByteArray) (p : Nat) (h : p < s.size) (hd : digB s[p] = false) : ¬ (48 ≤ ((Utf8.decode s p).1 : Int) ∧ ((Utf8.decode s p).1 : Int) ≤ 57) := by
  have hb : ¬ (48 ≤ (s[p].toNat : Int) ∧ (s[p].toNat : Int) ≤ 57) := of_decide_eq_false hd
  by_cases ha : s[p].toNat < 128
  · rw [decode_ascii s p h ha]; exact hb
  · have := (decode_high s p h (by omega)).1
    omega

theorem isDigit_yes (r : Int) (w : World) (h1 : 48 ≤ r) (h2 : r ≤ 57) :
    Calls Tryd.prog 25 #[.int .i32 r] w fun e w' => e = .returned (.bool true) ∧ w = w' := by
  go_enter Tryd.func25, Tryd.ntmps25
  go_wp2
  go_ret
  exact ⟨rfl, rfl⟩

theorem isDigit_no (r : Int) (w : World) (h : ¬ (48 ≤ r ∧ r ≤ 57)) :
    Calls Tryd.prog 25 #[.int .i32 r] w fun e w' => e = .returned (.bool false) ∧ w = w' := by
  by_cases h1 : 48 ≤ r
  · have h2 : 57 < r := by omega
    have h3 : decide (r ≤ 57) = false := by simp; omega
    clear h
    go_enter Tryd.func25, Tryd.ntmps25
    go_wp2
    go_ret
    exact ⟨rfl, rfl⟩
  · clear h
    go_enter Tryd.func25, Tryd.ntmps25
    go_wp2
    go_ret
    exact ⟨rfl, rfl⟩

theorem iter_below (w : World) (s : ByteArray) (p : Nat) : Below w.heap.size w (w.iter s p) := (Below.refl _ w).alloc (Nat.le_refl _) _


end Go.Proofs.YtaphphelimpgmaaDoor.Dig
