/- slices.Compare of two lists of ints. -/
import Derived.Test.YtioofakdklghpaaSrt
import Derived.Test.YtioofakdklghpaaSame
import Derived.Test.YtioofakdklghpaaShelf2
set_option linter.unusedVariables false
set_option maxRecDepth 20000
namespace Go.Proofs.Ytioofakdklghpaa.Cmp
open Go.RowKit Fr Own Ins Sam Srt

/-- before, equal or behind -/
def cmpF : List Int → List Int → Int
  | [], [] => 0
  | [], _ :: _ => -1
  | _ :: _, [] => 1
  | x :: a, y :: b => if x = y then cmpF a b else if x < y then -1 else 1
theorem cmp_less : ∀ a b, (cmpF a b < 0) ↔ lessL a b = true
  | [], [] => by simp [cmpF, lessL]
  | [], _ :: _ => by simp [cmpF, lessL]
  | _ :: _, [] => by simp [cmpF, lessL]
  | x :: a, y :: b => by
    rw [cmpF, lessL]
    by_cases h : x = y
    · rw [if_pos h, if_pos h]; exact cmp_less a b
    · rw [if_neg h, if_neg h]
      by_cases h2 : x < y
      · rw [if_pos h2]; simp [h2]
      · rw [if_neg h2]; simp [h2]
theorem cmp_zero : ∀ a b, (cmpF a b = 0) ↔ a = b
  | [], [] => by simp [cmpF]
  | [], _ :: _ => by simp [cmpF]
  | _ :: _, [] => by simp [cmpF]
  | x :: a, y :: b => by
    rw [cmpF]
    by_cases h : x = y
    · rw [if_pos h, cmp_zero a b, h]; simp
    · rw [if_neg h]
      by_cases h2 : x < y
      · rw [if_pos h2]; simp [h]
      · rw [if_neg h2]; simp [h]
theorem cmp_step {us vs : List Int} {k : Nat} (h1 : k < us.length) (h2 : k < vs.length) :
    cmpF (us.drop k) (vs.drop k) = if us.getD k 0 = vs.getD k 0 then cmpF (us.drop (k + 1)) (vs.drop (k + 1)) else if us.getD k 0 < vs.getD k 0 then -1 else 1 := by
  rw [List.drop_eq_getElem_cons h1, List.drop_eq_getElem_cons h2, cmpF]
  simp only [List.getD_eq_getElem?_getD, List.getElem?_eq_getElem h1, List.getElem?_eq_getElem h2, Option.getD_some]
theorem cmp_out {us vs : List Int} {k : Nat} (h1 : k < us.length) (h2 : vs.length ≤ k) : cmpF (us.drop k) (vs.drop k) = 1 := by
  rw [List.drop_eq_getElem_cons h1, List.drop_eq_nil_of_le h2, cmpF]
theorem cmp_end {us vs : List Int} : cmpF (us.drop us.length) (vs.drop us.length) = if us.length < vs.length then -1 else 0 := by
  rw [List.drop_eq_nil_of_le (Nat.le_refl _)]
  by_cases h : us.length < vs.length
  · rw [List.drop_eq_getElem_cons h, cmpF, if_pos h]
  · rw [List.drop_eq_nil_of_le (by omega), cmpF, if_neg h]
theorem ret_i {a b : Int} (h : a = b) : Ending.returned (.int .i64 a) = .returned (.int .i64 b) := by rw [h]
set_option maxHeartbeats 1000000 in
theorem compare_any (A1 A2 : Option Addr) (n m c1 c2 B1 B2 : Nat) (us vs : List Int) (w : World) (hn : us.length = n) (hm : vs.length = m) (hn2 : n ≤ 9223372036854775807) (hm2 : m ≤ 9223372036854775807) (h1 : IntsAt w B1 .i64 A1 us) (h2 : IntsAt w B2 .i64 A2 vs) :
    Calls Try.prog 28 #[.slice A1 n c1, .slice A2 m c2] w fun e w' => e = .returned (.int .i64 (cmpF us vs)) ∧ w = w' := by
  have HN := Lib.hid hn
  have HM := Lib.hid hm
  obtain ⟨R, hR⟩ : ∃ R, R = cmpF us vs := ⟨_, rfl⟩
  rw [← hR]
  have HR0 := Lib.hid (show cmpF (us.drop 0) (vs.drop 0) = R by rw [List.drop_zero, List.drop_zero, hR])
  clear hn hm hR
  go_enter Try.func28, Try.ntmps28
  go_wp2
  go_loop [5, 6, 7, 8, 11] (fun _ _ _ _ ix => ∃ k : Nat, k ≤ n ∧ k ≤ m ∧ ix = .int .i64 (k : Int) ∧ Hid (cmpF (us.drop k) (vs.drop k) = R)) (fun _ _ _ _ ix => n - (intOf ix).toNat)
  case atStart => exact ⟨0, Nat.zero_le _, Nat.zero_le _, rfl, HR0⟩
  case round =>
    obtain ⟨k, hk, hkm, rfl, HRK⟩ := hrel
    clear HR0
    by_cases hlt : k < n
    · obtain ⟨b1, o1, rfl, hbb1, hc1⟩ := h1 k (by rw [HN.out]; exact hlt)
      by_cases hlm : k < m
      · obtain ⟨b2, o2, rfl, hbb2, hc2⟩ := h2 k (by rw [HM.out]; exact hlm)
        have HST := Lib.hid ((cmp_step (us := us) (vs := vs) (k := k) (by rw [HN.out]; exact hlt) (by rw [HM.out]; exact hlm)).symm.trans HRK.out)
        generalize us.getD k 0 = x at *
        generalize vs.getD k 0 = y at *
        clear h1 h2 HRK
        by_cases hxy : x = y
        · subst hxy
          have HS2 := Lib.hid (show cmpF (us.drop (k + 1)) (vs.drop (k + 1)) = R by have h := HST.out; rw [if_pos rfl] at h; exact h)
          clear HST
          go_wp2_with fail
          refine (Try.cmp_Compare_int x x _).mono ?_
          rintro e w' ⟨rfl, rfl⟩
          have hz : Lib.compareInt x x = 0 := by simp [Lib.compareInt]
          rw [hz]
          clear hz
          go_wp2
          go_round
          case rel => exact ⟨k + 1, by omega, by omega, by go_num, HS2⟩
          case measure => simp [intOf]; omega
        · have HS2 := Lib.hid (show Lib.compareInt x y = R by
            have h := HST.out
            rw [if_neg hxy] at h
            rw [← h]
            by_cases h2 : x < y
            · simp [Lib.compareInt, h2]
            · simp [Lib.compareInt, h2, show x > y by omega])
          have hne : ((Lib.compareInt x y) == 0) = false := by
            by_cases h2 : x < y
            · simp [Lib.compareInt, h2]
            · simp [Lib.compareInt, h2, show x > y by omega]
          clear HST
          go_wp2_with fail
          refine (Try.cmp_Compare_int x y _).mono ?_
          rintro e w' ⟨rfl, rfl⟩
          generalize Lib.compareInt x y = z at *
          go_wp2
          go_ret
          exact ⟨ret_i HS2.out, rfl⟩
      · have HS2 := Lib.hid (show 1 = R by rw [← HRK.out, cmp_out (by rw [HN.out]; exact hlt) (by rw [HM.out]; omega)])
        have hge : (m : Int) ≤ (k : Int) := by omega
        clear HRK h1 h2
        go_wp2
        go_ret
        exact ⟨ret_i HS2.out, rfl⟩
    · have hkn : k = n := by omega
      have HS2 := Lib.hid (show (if n < m then -1 else 0) = R by rw [← HRK.out, hkn, ← HN.out, cmp_end, HM.out])
      clear HRK h1 h2 hlt
      by_cases hlm : n < m
      · have HS3 := Lib.hid (show -1 = R by rw [← HS2.out, if_pos hlm])
        have hd : (n : Int) < (m : Int) := by omega
        clear HS2
        go_wp2
        go_ret
        exact ⟨ret_i HS3.out, rfl⟩
      · have HS3 := Lib.hid (show 0 = R by rw [← HS2.out, if_neg hlm])
        have hd : (m : Int) ≤ (n : Int) := by omega
        clear HS2
        go_wp2
        go_ret
        exact ⟨ret_i HS3.out, rfl⟩
end Go.Proofs.Ytioofakdklghpaa.Cmp
