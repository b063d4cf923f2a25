/- LargestDeck and HallViolation of the model. -/
import Derived.Test.YtingbpkbdafgeaaHno
set_option linter.unusedVariables false
set_option maxRecDepth 20000
namespace Go.Proofs.Ytingbpkbdafgeaa.Hnl
open Go.RowKit Fr _root_.Go.Proofs.Ytingbpkbdafgeaa.Own Pk Ins Rws Hnd Hno

def facF : Nat → Nat
  | 0 => 1
  | k + 1 => (k + 1) * facF k
/-- LargestDeck, plainly -/
def largestI (k : Int) : Int := if 1 ≤ k ∧ k ≤ 4 then (facF k.toNat : Int) + k - 1 else -1
theorem fac_small : ∀ j, j ≤ 5 → facF j ≤ 120 := by decide
set_option maxHeartbeats 1000000 in
theorem spec_largest (k : Int) (w : World) : Calls Try.prog 27 #[.int .i64 k] w fun e w' => e = .returned (.int .i64 (largestI k)) ∧ w = w' := by
  by_cases hk : 1 ≤ k ∧ k ≤ 4
  · have HK := Lib.hid (decide_eq_true hk)
    obtain ⟨m, rfl⟩ : ∃ m : Nat, k = (m : Int) := ⟨k.toNat, by omega⟩
    have hm : 1 ≤ m ∧ m ≤ 4 := by omega
    have HE := Lib.hid (show largestI (m : Int) = (facF m : Int) + m - 1 by unfold largestI; rw [if_pos hk]; rfl)
    have hF : (facF m : Int) ≤ 120 := by have := fac_small m (by omega); omega
    clear hk
    go_enter Try.func27, Try.ntmps27
    go_wp2_with fail
    refine (in_any _ 1 4 _).mono ?_
    rintro e w1 ⟨rfl, rfl⟩
    rw [HK.out]
    go_wp2
    go_loop [3, 4] (fun f i => ∃ j : Nat, 1 ≤ j ∧ j ≤ m ∧ i = .int .i64 ((j : Int) + 1) ∧ f = .int .i64 (facF j : Int)) (fun _ i => m + 1 - (intOf i).toNat)
    case atStart => exact ⟨1, Nat.le_refl _, hm.1, rfl, rfl⟩
    case round =>
      obtain ⟨j, h1, h2, rfl, rfl⟩ := hrel
      have hj : (facF j : Int) ≤ 120 := by have := fac_small j (by omega); omega
      have hj0 : (0 : Int) ≤ (facF j : Int) := by omega
      by_cases hlt : j + 1 ≤ m
      · have hf := fac_small (j + 1) (by omega)
        have HFN := Lib.hid (show (facF j : Int) * ((j : Int) + 1) = (facF (j + 1) : Int) by rw [facF, Int.natCast_mul, Int.mul_comm]; rfl)
        have hb : (facF j : Int) * ((j : Int) + 1) ≤ 120 := by rw [HFN.out]; omega
        have hb0 : (0 : Int) ≤ (facF j : Int) * ((j : Int) + 1) := by rw [HFN.out]; omega
        go_wp2
        rw [HFN.out]
        exact ⟨⟨j + 1, by omega, hlt, by go_num, rfl⟩, by simp [intOf]; omega⟩
      · obtain rfl : j = m := by omega
        go_wp2
        go_ret
        exact ⟨by rw [HE.out]; rfl, rfl⟩
  · have HK := Lib.hid (decide_eq_false hk)
    have HE := Lib.hid (show largestI k = -1 by unfold largestI; rw [if_neg hk])
    clear hk
    go_enter Try.func27, Try.ntmps27
    go_wp2_with fail
    refine (in_any _ 1 4 _).mono ?_
    rintro e w1 ⟨rfl, rfl⟩
    rw [HK.out]
    go_wp2
    go_ret
    exact ⟨by rw [HE.out]; rfl, rfl⟩
/-- HallViolation, plainly -/
def hallI (n k : Int) : Bool := decide (1 ≤ k ∧ k ≤ 4) && decide ((messagesI n (k - 1)).length < (handsI n k).length)
set_option maxHeartbeats 1000000 in
theorem spec_hall (n k : Int) (w : World) (h1 : -9223372036854775808 ≤ n) (h2 : n ≤ 9223372036854775807) (h3 : -9223372036854775808 ≤ k) (h4 : k ≤ 9223372036854775807) :
    Calls Try.prog 41 #[.int .i64 n, .int .i64 k] w fun e w' => e = .returned (.bool (hallI n k)) ∧ Below w.heap.size w w' := by
  by_cases hk : 1 ≤ k ∧ k ≤ 4
  · have HK := Lib.hid (decide_eq_true hk)
    have HE := Lib.hid (show hallI n k = decide ((messagesI n (k - 1)).length < (handsI n k).length) by unfold hallI; rw [decide_eq_true hk]; rfl)
    have HH := Lib.hid (spec_handsof n k w h1 h2 h3 h4)
    have HM := fun w => Lib.hid (spec_messages n (k - 1) w h1 h2 (by omega) (by omega))
    have HI := hk
    clear hk
    go_enter Try.func41, Try.ntmps41
    go_wp2_with fail
    refine (in_any _ 1 4 _).mono ?_
    rintro e w1 ⟨rfl, rfl⟩
    rw [HK.out]
    go_wp2_with fail
    refine HH.out.mono ?_
    rintro e w1 ⟨A1, c1, rs1, rfl, _, _, hb1⟩
    have HB1 := Lib.hid hb1
    clear hb1
    go_wp2_with fail
    refine (HM w1).out.mono ?_
    rintro e w2 ⟨A2, c2, rs2, rfl, _, _, hb2⟩
    have HB2 := Lib.hid (HB1.out.trans (hb2.mono HB1.out.size))
    clear hb2
    go_wp2
    go_ret
    exact ⟨by rw [HE.out]; rfl, HB2.out⟩
  · have HK := Lib.hid (decide_eq_false hk)
    have HE := Lib.hid (show hallI n k = false by unfold hallI; rw [decide_eq_false hk]; rfl)
    clear hk
    go_enter Try.func41, Try.ntmps41
    go_wp2_with fail
    refine (in_any _ 1 4 _).mono ?_
    rintro e w1 ⟨rfl, rfl⟩
    rw [HK.out]
    go_wp2
    go_ret
    exact ⟨by rw [HE.out]; rfl, Below.refl _ _⟩
end Go.Proofs.Ytingbpkbdafgeaa.Hnl
