/- What an element of a packet stands for: the functions CardOf, IsUp and TurnCard of the program and of the model, and l01In, for every integer. -/
import Derived.Test.YtioofakdklghpaaOwn
set_option linter.unusedVariables false
set_option maxRecDepth 20000
namespace Go.Proofs.Ytioofakdklghpaa.Pk
open Go.RowKit Fr Own

/-- the card that an element stands for, or -1 -/
def cardF (x : Int) : Int := if 0 ≤ x ∧ x ≤ 11 then x else if -12 ≤ x ∧ x ≤ -1 then -1 - x else -1
def upB (x : Int) : Bool := decide (-12 ≤ x ∧ x ≤ -1)
def turnF (x : Int) : Int := if -12 ≤ x ∧ x ≤ 11 then -1 - x else x
theorem cardF_down {x : Int} (h1 : 0 ≤ x) (h2 : x ≤ 11) : cardF x = x := by unfold cardF; rw [if_pos (by omega)]
theorem cardF_up {x : Int} (h1 : -12 ≤ x) (h2 : x < 0) : cardF x = -1 - x := by unfold cardF; rw [if_neg (by omega), if_pos (by omega)]
theorem cardF_none {x : Int} (h : ¬ (-12 ≤ x ∧ x ≤ 11)) : cardF x = -1 := by unfold cardF; rw [if_neg (by omega), if_neg (by omega)]
theorem cardF_bd (x : Int) : -1 ≤ cardF x ∧ cardF x ≤ 11 := by unfold cardF; split <;> (try split) <;> omega
theorem cardF_pos {x : Int} (h : 0 ≤ cardF x) : -12 ≤ x ∧ x ≤ 11 := by
  by_cases h1 : -12 ≤ x ∧ x ≤ 11
  · exact h1
  · rw [cardF_none h1] at h; omega

theorem ret_i {a b : Int} (h : a = b) : Ending.returned (.int .i64 a) = .returned (.int .i64 b) := by rw [h]
theorem ret_b {a b : Bool} (h : a = b) : Ending.returned (.bool a) = .returned (.bool b) := by rw [h]

theorem in_yes (n lo hi : Int) (w : World) (h1 : lo ≤ n) (h2 : n ≤ hi) :
    Calls Try.prog 29 #[.int .i64 n, .int .i64 lo, .int .i64 hi] w fun e w' => e = .returned (.bool true) ∧ w = w' := by
  go_enter Try.func29, Try.ntmps29
  go_wp2
  go_ret
  exact ⟨rfl, rfl⟩
theorem in_no (n lo hi : Int) (w : World) (h : ¬ (lo ≤ n ∧ n ≤ hi)) :
    Calls Try.prog 29 #[.int .i64 n, .int .i64 lo, .int .i64 hi] w fun e w' => e = .returned (.bool false) ∧ w = w' := by
  by_cases h1 : lo ≤ n
  · have h3 : decide (n ≤ hi) = false := decide_eq_false (by omega)
    clear h
    go_enter Try.func29, Try.ntmps29
    go_wp2
    go_ret
    exact ⟨rfl, rfl⟩
  · have h3 : decide (lo ≤ n) = false := decide_eq_false (by omega)
    clear h
    go_enter Try.func29, Try.ntmps29
    go_wp2
    go_ret
    exact ⟨rfl, rfl⟩
/-- l01In at any arguments -/
theorem in_any (n lo hi : Int) (w : World) :
    Calls Try.prog 29 #[.int .i64 n, .int .i64 lo, .int .i64 hi] w fun e w' => e = .returned (.bool (decide (lo ≤ n ∧ n ≤ hi))) ∧ w = w' := by
  by_cases h : lo ≤ n ∧ n ≤ hi
  · rw [decide_eq_true h]; exact in_yes n lo hi w h.1 h.2
  · rw [decide_eq_false h]; exact in_no n lo hi w h

theorem impl_card (x : Int) (w : World) (h1 : -9223372036854775808 ≤ x) (h2 : x ≤ 9223372036854775807) :
    Calls Try.prog 49 #[.int .i64 x] w fun e w' => e = .returned (.int .i64 (cardF x)) ∧ w = w' := by
  by_cases h : x < 0
  · by_cases h3 : -12 ≤ x
    · have E := Lib.hid (cardF_up h3 h)
      go_enter Try.func49, Try.ntmps49
      go_wp2
      go_ret
      exact ⟨ret_i E.out.symm, rfl⟩
    · have E := Lib.hid (cardF_none (x := x) (by omega))
      go_enter Try.func49, Try.ntmps49
      go_wp2
      go_ret
      exact ⟨ret_i E.out.symm, rfl⟩
  · by_cases h3 : x ≤ 11
    · have E := Lib.hid (cardF_down (by omega) h3)
      go_enter Try.func49, Try.ntmps49
      go_wp2
      go_ret
      exact ⟨ret_i E.out.symm, rfl⟩
    · have E := Lib.hid (cardF_none (x := x) (by omega))
      go_enter Try.func49, Try.ntmps49
      go_wp2
      go_ret
      exact ⟨ret_i E.out.symm, rfl⟩
theorem impl_turn (x : Int) (w : World) (h1 : -9223372036854775808 ≤ x) (h2 : x ≤ 9223372036854775807) :
    Calls Try.prog 103 #[.int .i64 x] w fun e w' => e = .returned (.int .i64 (turnF x)) ∧ w = w' := by
  by_cases h : -12 ≤ x ∧ x ≤ 11
  · have E := Lib.hid (show turnF x = -1 - x from by unfold turnF; rw [if_pos h])
    have hc : 0 ≤ cardF x := by unfold cardF; split <;> (try split) <;> omega
    obtain ⟨ha, hb⟩ := h
    go_enter Try.func103, Try.ntmps103
    go_wp2_with (go_at_call 49; refine (impl_card _ _ h1 h2).mono ?_; rintro e w' ⟨rfl, rfl⟩)
    go_ret
    exact ⟨ret_i E.out.symm, rfl⟩
  · have E := Lib.hid (show turnF x = x from by unfold turnF; rw [if_neg h])
    have hc : cardF x < 0 := by rw [cardF_none h]; omega
    clear h
    go_enter Try.func103, Try.ntmps103
    go_wp2_with (go_at_call 49; refine (impl_card _ _ h1 h2).mono ?_; rintro e w' ⟨rfl, rfl⟩)
    go_ret
    exact ⟨ret_i E.out.symm, rfl⟩

end Go.Proofs.Ytioofakdklghpaa.Pk
