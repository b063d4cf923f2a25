/- The balance of turned pairs: BalanceOf, KeepsBalance and UpCountAfter of the program and of the model. -/
import Derived.Test.YtfbgpofpbdbkiaaPok
set_option linter.unusedVariables false
set_option maxRecDepth 20000
namespace Go.Proofs.Ytfbgpofpbdbkiaa.Bal
open Go.RowKit Fr _root_.Go.Proofs.Ytfbgpofpbdbkiaa.Own Pk Pok Ins Pl

/-- is the sign at place k 1? -/
def sgB (zs : List Int) (k : Nat) : Bool := upB (zs.getD k 0) == (k % 2 == 0)
/-- how many of the first k signs are 1 -/
def balN (zs : List Int) : Nat → Nat
  | 0 => 0
  | k + 1 => balN zs k + (if sgB zs k then 1 else 0)
theorem balN_le (zs : List Int) (k : Nat) : balN zs k ≤ k := by
  induction k with
  | zero => exact Nat.le_refl _
  | succ k ih => simp only [balN]; split <;> omega
theorem balN_yes (zs : List Int) (k : Nat) (h : sgB zs k = true) : balN zs (k + 1) = balN zs k + 1 := by simp only [balN, h, if_true]
theorem balN_no (zs : List Int) (k : Nat) (h : sgB zs k = false) : balN zs (k + 1) = balN zs k := by simp only [balN, h]; simp
def balB (zs : List Int) : Bool := okB zs && (zs.length % 2 == 0)
def balI (zs : List Int) : Int := if balB zs then (balN zs zs.length : Nat) else 0
theorem balI_yes {zs : List Int} (h : balB zs = true) : balI zs = (balN zs zs.length : Nat) := by unfold balI; rw [if_pos h]
theorem balI_no {zs : List Int} (h : balB zs = false) : balI zs = 0 := by unfold balI; rw [h]; rfl
theorem bal_parts {zs : List Int} (h : balB zs = true) : okB zs = true ∧ zs.length % 2 = 0 ∧ zs.length ≤ 12 := by
  unfold balB at h
  rw [Bool.and_eq_true, beq_iff_eq] at h
  exact ⟨h.1, h.2, (okB_yes h.1).1⟩
theorem bal_bad {zs : List Int} (h : okB zs = false) : balB zs = false := by unfold balB; rw [h]; rfl
theorem bal_odd {zs : List Int} (h : zs.length % 2 = 1) : balB zs = false := by unfold balB; rw [h, Bool.and_comm]; rfl
theorem bal_of {zs : List Int} (h : okB zs = true) (h2 : zs.length % 2 = 0) : balB zs = true := by unfold balB; rw [h, h2]; rfl
theorem tm (n : Nat) : ((n : Nat) : Int).tmod 2 = ((n % 2 : Nat) : Int) := by rw [Int.tmod_eq_emod_of_nonneg (by omega)]; omega

/-- a call answers with an int and a bool, and writes nothing old -/
def IsIB (B : Nat) (v : Int) (b : Bool) (w : World) (e : Ending) (w' : World) : Prop := e = .returned (.tuple #[.int .i64 v, .bool b]) ∧ Below B w w'

set_option maxHeartbeats 1000000 in
theorem spec_bn (A : Option Addr) (n c : Nat) (zs : List Int) (w : World) (hn : zs.length = n) (hn2 : n ≤ 9223372036854775807) (hz : Fits zs) (hss : IntsAt w w.heap.size .i64 A zs) :
    Calls Try.prog 49 #[.slice A n c] w fun e w' => e = .returned (.int .i64 (balN zs n : Nat)) ∧ w = w' := by
  have HN := Lib.hid hn
  clear hn
  go_enter Try.func49, Try.ntmps49
  go_wp2
  go_loop [3, 4, 5, 8] (fun q a x i => ∃ j : Nat, j ≤ n ∧ i = .int .i64 j ∧ ∃ m : Nat, Hid (m = balN zs j) ∧ m ≤ j ∧ q = .int .i64 m) (fun _ _ _ i => n - (intOf i).toNat)
  case atStart => exact ⟨0, Nat.zero_le _, rfl, 0, rfl, Nat.le_refl _, rfl⟩
  case round =>
    obtain ⟨j, hj, rfl, m, HM, hm, rfl⟩ := hrel
    by_cases hlt : j < n
    · obtain ⟨b, o, rfl, hbb, hc⟩ := hss j (by rw [HN.out]; exact hlt)
      obtain ⟨hx1, hx2⟩ := hz j (by rw [HN.out]; exact hlt)
      have hy := balN_yes zs j
      have ho := balN_no zs j
      unfold sgB at hy ho
      generalize zs.getD j 0 = x at hc hx1 hx2 hy ho
      have htm := tm j
      rcases Nat.mod_two_eq_zero_or_one j with h0 | h0
      · rw [h0] at hy ho htm
        cases hu : upB x with
        | false =>
          rw [hu] at hy ho
          have HY := Lib.hid (ho rfl)
          have htm2 : ((j : Int) % 2 == 0) = true := by rw [beq_iff_eq]; omega
          have HU := Lib.hid hu
          clear hy ho htm h0 hu
          go_wp2_with fail
          refine (spec_up x _).mono ?_
          rintro e w' ⟨rfl, rfl⟩
          rw [HU.out]
          go_wp2
          go_round
          case rel => exact ⟨j + 1, by omega, by go_num, m, by show m = _; rw [HY.out, HM.out], by omega, rfl⟩
          case measure => simp [intOf]; omega
        | true =>
          rw [hu] at hy ho
          have HY := Lib.hid (hy rfl)
          have htm2 : ((j : Int) % 2 == 0) = true := by rw [beq_iff_eq]; omega
          have HU := Lib.hid hu
          clear hy ho htm h0 hu
          go_wp2_with fail
          refine (spec_up x _).mono ?_
          rintro e w' ⟨rfl, rfl⟩
          rw [HU.out]
          go_wp2
          go_round
          case rel => exact ⟨j + 1, by omega, by go_num, m + 1, by show m + 1 = _; rw [HY.out, HM.out], by omega, by go_num⟩
          case measure => simp [intOf]; omega
      · rw [h0] at hy ho htm
        cases hu : upB x with
        | false =>
          rw [hu] at hy ho
          have HY := Lib.hid (hy rfl)
          have htm2 : ((j : Int) % 2 == 0) = false := by rw [beq_eq_false_iff_ne]; omega
          have HU := Lib.hid hu
          clear hy ho htm h0 hu
          go_wp2_with fail
          refine (spec_up x _).mono ?_
          rintro e w' ⟨rfl, rfl⟩
          rw [HU.out]
          go_wp2
          go_round
          case rel => exact ⟨j + 1, by omega, by go_num, m + 1, by show m + 1 = _; rw [HY.out, HM.out], by omega, by go_num⟩
          case measure => simp [intOf]; omega
        | true =>
          rw [hu] at hy ho
          have HY := Lib.hid (ho rfl)
          have htm2 : ((j : Int) % 2 == 0) = false := by rw [beq_eq_false_iff_ne]; omega
          have HU := Lib.hid hu
          clear hy ho htm h0 hu
          go_wp2_with fail
          refine (spec_up x _).mono ?_
          rintro e w' ⟨rfl, rfl⟩
          rw [HU.out]
          go_wp2
          go_round
          case rel => exact ⟨j + 1, by omega, by go_num, m, by show m = _; rw [HY.out, HM.out], by omega, rfl⟩
          case measure => simp [intOf]; omega
    · have hjn : j = n := by omega
      rw [hjn] at HM
      clear hjn
      go_wp2
      go_ret
      exact ⟨congrArg (fun z : Nat => Ending.returned (.int .i64 (z : Int))) HM.out, rfl⟩

set_option maxHeartbeats 1000000 in
theorem impl_bal (A : Option Addr) (n c : Nat) (zs : List Int) (w : World) (hn : zs.length = n) (hn2 : n ≤ 9223372036854775807) (hz : Fits zs) (hss : IntsAt w w.heap.size .i64 A zs) :
    Calls Try.prog 18 #[.slice A n c] w fun e w' => e = .returned (.tuple #[.int .i64 (balI zs), .bool (balB zs)]) ∧ Below w.heap.size w w' := by
  have HN := Lib.hid hn
  cases hok : okB zs with
  | false =>
    have hb := bal_bad hok
    rw [hb, balI_no hb]
    have HK := Lib.hid hok
    clear hb hok hn
    go_enter Try.func18, Try.ntmps18
    go_wp2_with fail
    refine (impl_ok A n c zs _ HN.out hn2 hz hss).mono ?_
    rintro e w1 ⟨rfl, hb1⟩
    rw [HK.out]
    have HB1 := Lib.hid hb1
    clear hb1
    go_wp2
    go_ret2
    exact ⟨rfl, HB1.out⟩
  | true =>
    have HK := Lib.hid hok
    have h12 : n ≤ 12 := by have := (okB_yes hok).1; omega
    by_cases ho : n % 2 = 1
    · have hb := bal_odd (zs := zs) (by omega)
      rw [hb, balI_no hb]
      have hm : ((n : Int) % 2 == 1) = true := by rw [beq_iff_eq]; omega
      clear hb hok hn ho
      go_enter Try.func18, Try.ntmps18
      go_wp2_with fail
      refine (impl_ok A n c zs _ HN.out hn2 hz hss).mono ?_
      rintro e w1 ⟨rfl, hb1⟩
      rw [HK.out]
      have HB1 := Lib.hid hb1
      clear hb1
      go_wp2
      go_ret2
      exact ⟨rfl, HB1.out⟩
    · have hb := bal_of hok (by omega : zs.length % 2 = 0)
      have hm : ((n : Int) % 2 == 1) = false := by rw [beq_eq_false_iff_ne]; omega
      rw [hb, balI_yes hb, hn]
      clear hb hok hn ho
      go_enter Try.func18, Try.ntmps18
      go_wp2_with fail
      refine (impl_ok A n c zs _ HN.out hn2 hz hss).mono ?_
      rintro e w1 ⟨rfl, hb1⟩
      rw [HK.out]
      have hss1 := (hss.below hb1).more hb1.size
      have HB1 := Lib.hid hb1
      clear hb1
      go_wp2
      go_loop [4, 5, 6, 18] (fun q a x i => ∃ j : Nat, j ≤ n ∧ i = .int .i64 j ∧ ∃ m : Nat, Hid (m = balN zs j) ∧ m ≤ j ∧ q = .int .i64 m) (fun _ _ _ i => n - (intOf i).toNat)
      case atStart => exact ⟨0, Nat.zero_le _, rfl, 0, rfl, Nat.le_refl _, rfl⟩
      case round =>
        obtain ⟨j, hj, rfl, m, HM, hm, rfl⟩ := hrel
        by_cases hlt : j < n
        · obtain ⟨b, o, rfl, hbb, hc⟩ := hss1 j (by rw [HN.out]; exact hlt)
          obtain ⟨hx1, hx2⟩ := hz j (by rw [HN.out]; exact hlt)
          have hy := balN_yes zs j
          have ho := balN_no zs j
          unfold sgB at hy ho
          generalize zs.getD j 0 = x at hc hx1 hx2 hy ho
          have htm := tm j
          rcases Nat.mod_two_eq_zero_or_one j with h0 | h0
          · rw [h0] at hy ho htm
            cases hu : upB x with
            | false =>
              rw [hu] at hy ho
              have HY := Lib.hid (ho rfl)
              have htm2 : ((j : Int) % 2 == 0) = true := by rw [beq_iff_eq]; omega
              have HU := Lib.hid hu
              clear hy ho htm h0 hu
              go_wp2_with fail
              refine (impl_up x _ hx1 hx2).mono ?_
              rintro e w' ⟨rfl, rfl⟩
              rw [HU.out]
              go_wp2
              go_round
              case rel => exact ⟨j + 1, by omega, by go_num, m, by show m = _; rw [HY.out, HM.out], by omega, rfl⟩
              case measure => simp [intOf]; omega
            | true =>
              rw [hu] at hy ho
              have HY := Lib.hid (hy rfl)
              have htm2 : ((j : Int) % 2 == 0) = true := by rw [beq_iff_eq]; omega
              have HU := Lib.hid hu
              clear hy ho htm h0 hu
              go_wp2_with fail
              refine (impl_up x _ hx1 hx2).mono ?_
              rintro e w' ⟨rfl, rfl⟩
              rw [HU.out]
              go_wp2
              go_round
              case rel => exact ⟨j + 1, by omega, by go_num, m + 1, by show m + 1 = _; rw [HY.out, HM.out], by omega, by go_num⟩
              case measure => simp [intOf]; omega
          · rw [h0] at hy ho htm
            cases hu : upB x with
            | false =>
              rw [hu] at hy ho
              have HY := Lib.hid (hy rfl)
              have htm2 : ((j : Int) % 2 == 0) = false := by rw [beq_eq_false_iff_ne]; omega
              have HU := Lib.hid hu
              clear hy ho htm h0 hu
              go_wp2_with fail
              refine (impl_up x _ hx1 hx2).mono ?_
              rintro e w' ⟨rfl, rfl⟩
              rw [HU.out]
              go_wp2
              go_round
              case rel => exact ⟨j + 1, by omega, by go_num, m + 1, by show m + 1 = _; rw [HY.out, HM.out], by omega, by go_num⟩
              case measure => simp [intOf]; omega
            | true =>
              rw [hu] at hy ho
              have HY := Lib.hid (ho rfl)
              have htm2 : ((j : Int) % 2 == 0) = false := by rw [beq_eq_false_iff_ne]; omega
              have HU := Lib.hid hu
              clear hy ho htm h0 hu
              go_wp2_with fail
              refine (impl_up x _ hx1 hx2).mono ?_
              rintro e w' ⟨rfl, rfl⟩
              rw [HU.out]
              go_wp2
              go_round
              case rel => exact ⟨j + 1, by omega, by go_num, m, by show m = _; rw [HY.out, HM.out], by omega, rfl⟩
              case measure => simp [intOf]; omega
        · have hjn : j = n := by omega
          rw [hjn] at HM
          clear hjn
          go_wp2
          go_ret2
          exact ⟨congrArg (fun z : Nat => Ending.returned (.tuple #[.int .i64 (z : Int), .bool true])) HM.out, HB1.out⟩

set_option maxHeartbeats 1000000 in
theorem spec_bal (A : Option Addr) (n c : Nat) (zs : List Int) (w : World) (hn : zs.length = n) (hn2 : n ≤ 9223372036854775807) (hz : Fits zs) (hss : IntsAt w w.heap.size .i64 A zs) :
    Calls Try.prog 24 #[.slice A n c] w fun e w' => e = .returned (.tuple #[.int .i64 (balI zs), .bool (balB zs)]) ∧ Below w.heap.size w w' := by
  have HN := Lib.hid hn
  cases hok : okB zs with
  | false =>
    have hb := bal_bad hok
    rw [hb, balI_no hb]
    have HK := Lib.hid hok
    clear hb hok hn
    go_enter Try.func24, Try.ntmps24
    go_wp2_with fail
    refine (spec_ok A n c zs _ HN.out hn2 hz hss).mono ?_
    rintro e w1 ⟨rfl, hb1⟩
    rw [HK.out]
    have HB1 := Lib.hid hb1
    clear hb1
    go_wp2
    go_ret2
    exact ⟨rfl, HB1.out⟩
  | true =>
    have HK := Lib.hid hok
    have h12 : n ≤ 12 := by have := (okB_yes hok).1; omega
    by_cases ho : n % 2 = 1
    · have hb := bal_odd (zs := zs) (by omega)
      rw [hb, balI_no hb]
      have hm : ((n : Int) % 2 != 0) = true := by rw [bne_iff_ne]; omega
      clear hb hok hn ho
      go_enter Try.func24, Try.ntmps24
      go_wp2_with fail
      refine (spec_ok A n c zs _ HN.out hn2 hz hss).mono ?_
      rintro e w1 ⟨rfl, hb1⟩
      rw [HK.out]
      have HB1 := Lib.hid hb1
      clear hb1
      go_wp2
      go_ret2
      exact ⟨rfl, HB1.out⟩
    · have hb := bal_of hok (by omega : zs.length % 2 = 0)
      have hm : ((n : Int) % 2 != 0) = false := by rw [bne_eq_false_iff_eq]; omega
      rw [hb, balI_yes hb, hn]
      clear hb hok hn ho
      go_enter Try.func24, Try.ntmps24
      go_wp2_with fail
      refine (spec_ok A n c zs _ HN.out hn2 hz hss).mono ?_
      rintro e w1 ⟨rfl, hb1⟩
      rw [HK.out]
      have hss1 := (hss.below hb1).more hb1.size
      have HB1 := Lib.hid hb1
      clear hb1
      go_wp2_with fail
      refine (spec_bn A n c zs _ HN.out (by omega) hz hss1).mono ?_
      rintro e w2 ⟨rfl, rfl⟩
      go_wp2
      go_ret2
      exact ⟨rfl, HB1.out⟩
end Go.Proofs.Ytfbgpofpbdbkiaa.Bal
