/- Numbers of cards that a perfect shuffle takes: isFaroSize of the program, l08Ok of the model. -/
import Derived.Test.YtpbpgpccjabghaaPkt
set_option linter.unusedVariables false
set_option maxRecDepth 20000
namespace Go.Proofs.Ytpbpgpccjabghaa.Fsz
open Go.RowKit Fr Pk

/-- is it an even number from 2 to 12? -/
def szB (n : Int) : Bool := decide (2 ≤ n ∧ n ≤ 12 ∧ n % 2 = 0)
theorem sz_parts {n : Int} (h : szB n = true) : 2 ≤ n ∧ n ≤ 12 ∧ n % 2 = 0 := of_decide_eq_true h
theorem sz_low {n : Int} (h : ¬ 2 ≤ n) : szB n = false := decide_eq_false fun h2 => h h2.1
theorem sz_high {n : Int} (h : ¬ n ≤ 12) : szB n = false := decide_eq_false fun h2 => h h2.2.1
theorem beq_two (n : Int) : (n % 2 == 0) = decide (n % 2 = 0) := by
  by_cases h : n % 2 = 0 <;> simp [h]
theorem sz_mid {n : Int} (h1 : 2 ≤ n) (h2 : n ≤ 12) : szB n = decide (n % 2 = 0) := by
  unfold szB
  rw [Bool.eq_iff_iff]; simp [h1, h2]
theorem impl_sz (n : Int) (w : World) (h1 : -9223372036854775808 ≤ n) (h2 : n ≤ 9223372036854775807) :
    Calls Try.prog 41 #[.int .i64 n] w fun e w' => e = .returned (.bool (szB n)) ∧ w = w' := by
  by_cases ha : 2 ≤ n
  · by_cases hb : n ≤ 12
    · have HS := Lib.hid ((sz_mid ha hb).symm)
      go_enter Try.func41, Try.ntmps41
      go_wp2
      go_ret
      exact ⟨ret_b ((beq_two n).trans HS.out), rfl⟩
    · have HS := Lib.hid (sz_high hb)
      have hb' : decide (n ≤ 12) = false := decide_eq_false hb
      go_enter Try.func41, Try.ntmps41
      go_wp2
      go_ret
      exact ⟨ret_b HS.out.symm, rfl⟩
  · have HS := Lib.hid (sz_low ha)
    have ha' : decide (2 ≤ n) = false := decide_eq_false ha
    go_enter Try.func41, Try.ntmps41
    go_wp2
    go_ret
    exact ⟨ret_b HS.out.symm, rfl⟩
theorem spec_sz (n : Int) (w : World) (h1 : -9223372036854775808 ≤ n) (h2 : n ≤ 9223372036854775807) :
    Calls Try.prog 63 #[.int .i64 n] w fun e w' => e = .returned (.bool (szB n)) ∧ w = w' := by
  by_cases hb : 2 ≤ n ∧ n ≤ 12
  · have HS := Lib.hid ((sz_mid hb.1 hb.2).symm)
    have HI := Lib.hid hb
    have hlo : 2 ≤ n := hb.1
    clear hb
    go_enter Try.func63, Try.ntmps63
    go_wp2_with fail
    refine (in_yes n 2 12 _ HI.out.1 HI.out.2).mono ?_
    rintro e w' ⟨rfl, rfl⟩
    go_wp2
    go_ret
    exact ⟨ret_b HS.out, rfl⟩
  · have HS := Lib.hid (show szB n = false from decide_eq_false fun h => hb ⟨h.1, h.2.1⟩)
    have HI := Lib.hid hb
    clear hb
    go_enter Try.func63, Try.ntmps63
    go_wp2_with fail
    refine (in_no n 2 12 _ HI.out).mono ?_
    rintro e w' ⟨rfl, rfl⟩
    go_wp2
    go_ret
    exact ⟨ret_b HS.out.symm, rfl⟩
end Go.Proofs.Ytpbpgpccjabghaa.Fsz
