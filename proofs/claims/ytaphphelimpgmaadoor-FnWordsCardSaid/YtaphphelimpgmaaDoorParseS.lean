/- The contract of the model's ParseInt. -/
import Derived.Test.YtaphphelimpgmaaDoorParse
set_option linter.unusedVariables false
namespace Go.Proofs.YtaphphelimpgmaaDoor.ParS
open Go.RowKit Num Go.Lib Par

def dval (c : UInt8) : Nat := c.toNat - 48
theorem dig_val (c : UInt8) (h : 48 ≤ (c.toNat : Int) ∧ (c.toNat : Int) ≤ 57) : digitVal c = some (dval c) := by
  unfold digitVal dval
  rw [if_pos (by omega)]
theorem dig_all (s : ByteArray) (k : Nat) (h : k < s.size) (hd : Dig.digits s.data.toList = true) : 48 ≤ (s[k].toNat : Int) ∧ (s[k].toNat : Int) ≤ 57 := by
  unfold Dig.digits at hd
  rw [Bool.and_eq_true] at hd
  exact of_decide_eq_true (List.all_eq_true.1 hd.1 _ (Dig.mem_at s k h))

theorem quo_min (d : Int) (h0 : 0 ≤ d) (h1 : d ≤ 9) : (-9223372036854775808 + d).tdiv 10 = -((9223372036854775808 - d) / 10) := by
  have e : -9223372036854775808 + d = -(9223372036854775808 - d) := by omega
  rw [e, Int.neg_tdiv, Int.tdiv_eq_ediv_of_nonneg (by omega)]

theorem digits_of (l : List UInt8) (h : ∀ b ∈ l, 48 ≤ b.toNat ∧ b.toNat ≤ 57) (hn : l ≠ []) : Dig.digits l = true := by
  unfold Dig.digits
  rw [Bool.and_eq_true]
  refine ⟨List.all_eq_true.2 fun b hb => ?_, by cases l <;> simp_all⟩
  have := h b hb
  exact decide_eq_true (by omega)

theorem no_digs (l : List UInt8) (h : Dig.digits (magL l) = false) : ∀ m, inRange m → itoa m ≠ l := by
  intro m hm e
  have h1 := mag_dig m hm
  rw [e] at h1
  rw [digits_of _ h1.1 h1.2.1] at h
  cases h
theorem no_long (l : List UInt8) (h : 19 < (magL l).length) : ∀ m, inRange m → itoa m ≠ l := by
  intro m hm e
  have h1 := mag_dig m hm
  rw [e] at h1
  omega
theorem no_over (l : List UInt8) (k q : Nat) (hq : decFrom 0 ((magL l).take k) = some q) (h : 9223372036854775808 < q) : ∀ m, inRange m → itoa m ≠ l := by
  intro m hm e
  have h1 := mag_spells m hm
  rw [e] at h1
  have := take_le _ _ _ _ hq h1
  obtain ⟨m1, m2⟩ := hm
  omega
theorem fit_val (l : List UInt8) (p : Nat) (hp : decFrom 0 (magL l) = some p) (m : Int) (hm : inRange m) (e : itoa m = l) : m = if negB l then -(p : Int) else p := by
  have h1 := mag_spells m hm
  have h2 := (itoa_sign m hm).1
  rw [e] at h1 h2
  rw [hp] at h1
  have h3 : p = m.natAbs := Option.some.inj h1
  rw [h2]
  split
  · rename_i hn; have := of_decide_eq_true hn; omega
  · rename_i hn
    have : ¬ m < 0 := fun h => hn (decide_eq_true h)
    omega

theorem step_dec (t : ByteArray) (k p : Nat) (h : k < t.size) (hp : decFrom 0 (t.data.toList.take k) = some p) (hd : 48 ≤ (t[k].toNat : Int) ∧ (t[k].toNat : Int) ≤ 57) : decFrom 0 (t.data.toList.take (k + 1)) = some (p * 10 + (t[k].toNat - 48)) := by
  refine decFrom_take _ _ _ _ t[k] _ hp ?_ (dig_val _ hd)
  have : t.data.toList[k]? = some (t.data[k]'h) := by simp [h]
  exact this

set_option maxHeartbeats 4000000 in
theorem plus_any (s : ByteArray) (w : World) (hs : s.size ≤ 1048576) (hneg : negB s.data.toList = false) (hp : 0 < s.size) (h45 : ((s[0].toNat : Int) == 45) = false) :
    Calls Tryd.prog 15 #[.string s] w (Parsed s w) := by
  have hm : s.size ≤ maxLen := by unfold maxLen; omega
  · have HNEG := Lib.hid hneg
    have HM := Lib.hid (show magL s.data.toList = s.data.toList by rw [magL, hneg, if_neg (by decide)])
    clear hneg
    have hp' : (0 : Int) < (s.size : Int) := by omega
    go_enter Tryd.func15, Tryd.ntmps15
    go_wp2_with fail
    refine (Dig.spec_any s _ hm).mono ?_
    rintro e w' ⟨rfl, rfl⟩
    by_cases hd : Dig.digits s.data.toList = true
    · rw [hd]
      have HD := Lib.hid hd
      clear hd
      by_cases hl : s.size ≤ 19
      · have hl' : decide ((19 : Int) < (s.size : Int)) = false := decide_eq_false (by omega)
        go_wp2
        go_loop [6, 7, 8] (fun n i _ => ∃ k p : Nat, k ≤ s.size ∧ i = .int .i64 (k : Int) ∧ n = .int .i64 (-(p : Int)) ∧ p ≤ 9223372036854775808 ∧ Hid (decFrom 0 (s.data.toList.take k) = some p)) (fun _ i _ => s.size - (RowKit.intOf i).toNat)
        case atStart => exact ⟨0, 0, Nat.zero_le _, rfl, rfl, by omega, rfl⟩
        case round =>
          obtain ⟨k, p, hk, rfl, rfl, hpb, HP⟩ := hrel
          by_cases hlt : k < s.size
          · have hdg := dig_all s k hlt HD.out
            have hstep := step_dec s k p hlt HP.out hdg
            obtain ⟨hd1, hd2⟩ := hdg
            have hquo := quo_min ((s[k].toNat : Int) - 48) (by omega) (by omega)
            have HQ := Lib.hid hquo
            by_cases hov : p * 10 + (s[k].toNat - 48) ≤ 9223372036854775808
            · have hge : (-9223372036854775808 + ((s[k].toNat : Int) - 48)).tdiv 10 ≤ -(p : Int) := by rw [hquo]; omega
              have HS := Lib.hid hstep
              clear hstep hquo
              go_wp2
              go_round
              case rel => exact ⟨k + 1, p * 10 + (s[k].toNat - 48), by omega, by go_num, by go_num, hov, HS.out⟩
              case measure => simp [RowKit.intOf]; omega
            · have hlt2 : -(p : Int) < (-9223372036854775808 + ((s[k].toNat : Int) - 48)).tdiv 10 := by rw [hquo]; omega
              have HR : Reads s.data.toList 0 false := Or.inr ⟨rfl, rfl, no_over _ (k + 1) _ (by rw [HM.out]; exact hstep) (by omega)⟩
              clear hstep hquo
              go_wp2
              go_ret2
              exact ⟨0, false, rfl, HR, Below.refl _ _⟩
          · have hval : decFrom 0 (magL s.data.toList) = some p := by
              rw [HM.out, ← Dig.take_all s k hlt]; exact HP.out
            have hfit := fit_val _ p hval
            rw [HNEG.out] at hfit
            simp only [if_false, Bool.false_eq_true] at hfit
            by_cases hmin : p = 9223372036854775808
            · have hm1 : (-(p : Int) == -9223372036854775808) = true := by rw [beq_iff_eq]; omega
              have HR : Reads s.data.toList 0 false := Or.inr ⟨rfl, rfl, fun m hm e => by
                have h1 := hfit m hm e
                obtain ⟨a, b⟩ := hm
                omega⟩
              clear hfit hval hmin
              go_wp2
              go_ret2
              exact ⟨0, false, rfl, HR, Below.refl _ _⟩
            · have hm1 : (-(p : Int) == -9223372036854775808) = false := by rw [beq_eq_false_iff_ne]; omega
              have hp2 : p ≤ 9223372036854775807 := by omega
              clear hmin hval
              by_cases he : itoa (p : Int) = s.data.toList
              · have HR : Reads s.data.toList (p : Int) true := Or.inl ⟨rfl, ⟨by omega, by omega⟩, he⟩
                have hcmp : (itoa (p : Int) == s.toList) = true := by rw [he, ByteArray.toList_eq]; simp
                clear he hfit
                go_wp2_with fail
                refine (Fmt.spec_any (p : Int) _ (by omega) (by omega)).mono ?_
                rintro e w1 ⟨rfl, hb1⟩
                go_wp2
                go_ret2
                exact ⟨_, true, rfl, HR, hb1⟩
              · have HR : Reads s.data.toList 0 false := Or.inr ⟨rfl, rfl, fun m hm e => he (by rw [← hfit m hm e]; exact e)⟩
                have hcmp : (itoa (p : Int) == s.toList) = false := by rw [ByteArray.toList_eq]; simpa using he
                clear he hfit
                go_wp2_with fail
                refine (Fmt.spec_any (p : Int) _ (by omega) (by omega)).mono ?_
                rintro e w1 ⟨rfl, hb1⟩
                go_wp2
                go_ret2
                exact ⟨0, false, rfl, HR, hb1⟩
      · have HR : Reads s.data.toList 0 false := Or.inr ⟨rfl, rfl, no_long _ (by rw [HM.out, ← Dig.size_len]; omega)⟩
        have hl' : (19 : Int) < (s.size : Int) := by omega
        go_wp2
        go_ret2
        exact ⟨0, false, rfl, HR, Below.refl _ _⟩
    · have hd' : Dig.digits s.data.toList = false := Bool.eq_false_iff.2 hd
      rw [hd']
      have HR : Reads s.data.toList 0 false := Or.inr ⟨rfl, rfl, no_digs _ (by rw [HM.out]; exact hd')⟩
      clear hd hd'
      go_wp2
      go_ret2
      exact ⟨0, false, rfl, HR, Below.refl _ _⟩

set_option maxHeartbeats 4000000 in
theorem minus_any (s : ByteArray) (w : World) (hs : s.size ≤ 1048576) (hneg : negB s.data.toList = true) (hp : 0 < s.size) (h45 : ((s[0].toNat : Int) == 45) = true) :
    Calls Tryd.prog 15 #[.string s] w (Parsed s w) := by
  have hm : s.size ≤ maxLen := by unfold maxLen; omega
  · have hm1 : (s.extract 1 s.size).size ≤ maxLen := by rw [ByteArray.size_extract]; omega
    have HNEG := Lib.hid hneg
    have HM0 := Lib.hid (show magL s.data.toList = (s.extract 1 s.size).data.toList by
      rw [magL, hneg, if_pos rfl, Lib.extract_data]
      rw [List.take_of_length_le (by rw [List.length_drop, ← Dig.size_len]; omega)]
      simp)
    clear hneg
    have hp' : (0 : Int) < (s.size : Int) := by omega
    go_enter Tryd.func15, Tryd.ntmps15
    go_wp2_with fail
    generalize s.extract 1 s.size = t at *
    have HM := HM0
    refine (Dig.spec_any t _ hm1).mono ?_
    rintro e w' ⟨rfl, rfl⟩
    by_cases hd : Dig.digits t.data.toList = true
    · rw [hd]
      have HD := Lib.hid hd
      clear hd
      by_cases hl : t.size ≤ 19
      · have hl' : decide ((19 : Int) < (t.size : Int)) = false := decide_eq_false (by omega)
        go_wp2
        go_loop [6, 7, 8] (fun n i _ => ∃ k p : Nat, k ≤ t.size ∧ i = .int .i64 (k : Int) ∧ n = .int .i64 (-(p : Int)) ∧ p ≤ 9223372036854775808 ∧ Hid (decFrom 0 (t.data.toList.take k) = some p)) (fun _ i _ => t.size - (RowKit.intOf i).toNat)
        case atStart => exact ⟨0, 0, Nat.zero_le _, rfl, rfl, by omega, rfl⟩
        case round =>
          obtain ⟨k, p, hk, rfl, rfl, hpb, HP⟩ := hrel
          by_cases hlt : k < t.size
          · have hdg := dig_all t k hlt HD.out
            have hstep := step_dec t k p hlt HP.out hdg
            obtain ⟨hd1, hd2⟩ := hdg
            have hquo := quo_min ((t[k].toNat : Int) - 48) (by omega) (by omega)
            have HQ := Lib.hid hquo
            by_cases hov : p * 10 + (t[k].toNat - 48) ≤ 9223372036854775808
            · have hge : (-9223372036854775808 + ((t[k].toNat : Int) - 48)).tdiv 10 ≤ -(p : Int) := by rw [hquo]; omega
              have HS := Lib.hid hstep
              clear hstep hquo
              go_wp2
              go_round
              case rel => exact ⟨k + 1, p * 10 + (t[k].toNat - 48), by omega, by go_num, by go_num, hov, HS.out⟩
              case measure => simp [RowKit.intOf]; omega
            · have hlt2 : -(p : Int) < (-9223372036854775808 + ((t[k].toNat : Int) - 48)).tdiv 10 := by rw [hquo]; omega
              have HR : Reads s.data.toList 0 false := Or.inr ⟨rfl, rfl, no_over _ (k + 1) _ (by rw [HM.out]; exact hstep) (by omega)⟩
              clear hstep hquo
              go_wp2
              go_ret2
              exact ⟨0, false, rfl, HR, Below.refl _ _⟩
          · have hval : decFrom 0 (magL s.data.toList) = some p := by
              rw [HM.out, ← Dig.take_all t k hlt]; exact HP.out
            have hfit := fit_val _ p hval
            rw [HNEG.out] at hfit
            simp only [if_true] at hfit
            by_cases he : itoa (-(p : Int)) = s.data.toList
            · have HR : Reads s.data.toList (-(p : Int)) true := Or.inl ⟨rfl, ⟨by omega, by omega⟩, he⟩
              have hcmp : (itoa (-(p : Int)) == s.toList) = true := by rw [he, ByteArray.toList_eq]; simp
              clear he hfit hval
              go_wp2_with fail
              refine (Fmt.spec_any (-(p : Int)) _ (by omega) (by omega)).mono ?_
              rintro e w1 ⟨rfl, hb1⟩
              go_wp2
              go_ret2
              exact ⟨_, true, rfl, HR, hb1⟩
            · have HR : Reads s.data.toList 0 false := Or.inr ⟨rfl, rfl, fun m hm e => he (by rw [← hfit m hm e]; exact e)⟩
              have hcmp : (itoa (-(p : Int)) == s.toList) = false := by rw [ByteArray.toList_eq]; simpa using he
              clear he hfit hval
              go_wp2_with fail
              refine (Fmt.spec_any (-(p : Int)) _ (by omega) (by omega)).mono ?_
              rintro e w1 ⟨rfl, hb1⟩
              go_wp2
              go_ret2
              exact ⟨0, false, rfl, HR, hb1⟩
      · have HR : Reads s.data.toList 0 false := Or.inr ⟨rfl, rfl, no_long _ (by rw [HM.out, ← Dig.size_len]; omega)⟩
        have hl' : (19 : Int) < (t.size : Int) := by omega
        go_wp2
        go_ret2
        exact ⟨0, false, rfl, HR, Below.refl _ _⟩
    · have hd' : Dig.digits t.data.toList = false := Bool.eq_false_iff.2 hd
      rw [hd']
      have HR : Reads s.data.toList 0 false := Or.inr ⟨rfl, rfl, no_digs _ (by rw [HM.out]; exact hd')⟩
      clear hd hd'
      go_wp2
      go_ret2
      exact ⟨0, false, rfl, HR, Below.refl _ _⟩


theorem empty_any (s : ByteArray) (w : World) (h0 : s.size = 0) :
    Calls Tryd.prog 15 #[.string s] w (Parsed s w) := by
  have hl : s.data.toList = [] := List.length_eq_zero_iff.1 (by rw [← Dig.size_len]; exact h0)
  have hd : Dig.digits s.data.toList = false := by rw [hl]; rfl
  have HR : Reads s.data.toList 0 false := Or.inr ⟨rfl, rfl, no_digs _ (by rw [hl]; rfl)⟩
  have hm : s.size ≤ maxLen := by omega
  have h0' : decide ((0 : Int) < (s.size : Int)) = false := decide_eq_false (by omega)
  have h0'' : decide (0 < s.size) = false := decide_eq_false (by omega)
  have HD := Lib.hid hd
  clear hl hd h0
  go_enter Tryd.func15, Tryd.ntmps15
  go_wp2_with fail
  refine (Dig.spec_any s _ hm).mono ?_
  rintro e w' ⟨rfl, rfl⟩
  rw [HD.out]
  go_wp2
  go_ret2
  exact ⟨0, false, rfl, HR, Below.refl _ _⟩

theorem spec_any (s : ByteArray) (w : World) (hs : s.size ≤ 1048576) :
    Calls Tryd.prog 15 #[.string s] w (Parsed s w) := by
  by_cases h0 : s.size = 0
  · exact empty_any s w h0
  · have hp : 0 < s.size := by omega
    have hh : s.data.toList.head? = some s[0] := by
      have : s.data.toList[0]? = some (s.data[0]'hp) := by simp [hp]
      rw [List.head?_eq_getElem?]; exact this
    by_cases h : s[0] = 45
    · refine minus_any s w hs (by rw [negB, hh, h]; rfl) hp ?_
      rw [h]; rfl
    · refine plus_any s w hs (by rw [negB, hh]; simpa using h) hp ?_
      rw [beq_eq_false_iff_ne]
      intro e
      exact h (UInt8.toNat_inj.1 (by have : (45 : UInt8).toNat = 45 := rfl
                                     omega))

end Go.Proofs.YtaphphelimpgmaaDoor.ParS
