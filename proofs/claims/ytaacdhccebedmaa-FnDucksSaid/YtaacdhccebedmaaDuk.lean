/- Ducking deals: the plain facts; isDuck, l09Ok, RoundsOf, LastByPower of the program and of the model. -/
import Derived.Test.YtaacdhccebedmaaPa
import Derived.Test.YtaacdhccebedmaaShelf
set_option linter.unusedVariables false
set_option maxRecDepth 20000
namespace Go.Proofs.Ytaacdhccebedmaa.Duk
open Go.RowKit Fr Own Pk Pok Arr Ins Nwp Prm Pfn Rws Lb Cat Mvp Mok2 Pf Pa

/-- is it a number of cards and a K of a ducking deal? -/
def dkB (n k : Int) : Bool := decide (1 ≤ n ∧ n ≤ 12 ∧ 0 ≤ k ∧ k ≤ 1)
theorem dk_parts {n k : Int} (h : dkB n k = true) : ∃ m j : Nat, n = m ∧ k = j ∧ 1 ≤ m ∧ m ≤ 12 ∧ j ≤ 1 := by
  have h := of_decide_eq_true h
  exact ⟨n.toNat, k.toNat, by omega, by omega, by omega, by omega, by omega⟩
theorem mv_dk (n k : Int) : mvB n 7 k = dkB n k := by
  unfold dkB
  by_cases h : 1 ≤ n ∧ n ≤ 12
  · rw [mvB_in (m := 1) h.1 h.2 (by omega) (by simp), Bool.eq_iff_iff]
    simp only [decide_eq_true_eq]
    omega
  · rw [mvB_out (by omega), decide_eq_false (by omega)]
/-- the numbers of the cards behind a ducking deal, from the top -/
def dkL (n k : Nat) : List Int := srcI 7 k n
theorem ok7 {n k : Nat} (hk : k ≤ 1) : kOk 7 k n = true := by
  unfold kOk
  simp [hk]
theorem dkL_len {n k : Nat} (hn : 1 ≤ n) (h12 : n ≤ 12) (hk : k ≤ 1) : (dkL n k).length = n := srcI_len (ok7 hk) hn h12
theorem duck_chk : ((List.range 13).all fun n => (List.range 2).all fun k => duckL (2 * n + 2) (imarks 0 n) [] k == dkL n k) = true := by kernel_rfl
theorem duck_list {n k : Nat} (h12 : n ≤ 12) (hk : k ≤ 1) : duckL (2 * n + 2) (imarks 0 n) [] k = dkL n k :=
  eq_of_beq (List.all_eq_true.1 (List.all_eq_true.1 duck_chk n (List.mem_range.2 (by omega))) k (List.mem_range.2 (by omega)))
/-- how many rounds: the number of binary digits but one -/
def rl (n : Nat) : Nat := if n < 2 then 0 else if n < 4 then 1 else if n < 8 then 2 else 3
def pw (n : Nat) : Nat := if n < 2 then 1 else if n < 4 then 2 else if n < 8 then 4 else 8
def rndF (n : Int) : Int := if 1 ≤ n ∧ n ≤ 12 then (rl n.toNat : Nat) else -1
theorem rnd_yes {m : Nat} (h1 : 1 ≤ m) (h2 : m ≤ 12) : rndF (m : Int) = (rl m : Nat) := by
  unfold rndF
  rw [if_pos (by omega)]
  rfl
theorem rnd_no {n : Int} (h : ¬ (1 ≤ n ∧ n ≤ 12)) : rndF n = -1 := if_neg h
theorem rl_le (n : Nat) : rl n ≤ 3 := by unfold rl; repeat (split <;> try omega)
theorem rl_half {m : Nat} (h : 1 < m) (h2 : m ≤ 12) : rl m = rl (m / 2) + 1 := by
  unfold rl
  repeat (split <;> try omega)
theorem rl_one {m : Nat} (h : m ≤ 1) : rl m = 0 := by unfold rl; rw [if_pos (by omega)]
theorem pw_rl (n : Nat) : pw n = 2 ^ rl n := by
  unfold pw rl
  repeat (split <;> try rfl)
theorem pw_le {n : Nat} (h : 1 ≤ n) : pw n ≤ n := by unfold pw; repeat (split <;> try omega)
theorem pw_up {n : Nat} (h : n ≤ 12) : n < 2 * pw n := by unfold pw; repeat (split <;> try omega)
theorem len_chk : ((List.range 13).all fun a => a == 0 || Lib.bitLen a == rl a + 1) = true := by kernel_rfl
theorem len_eq {a : Nat} (h1 : 1 ≤ a) (h : a ≤ 12) : Lib.bitLen a = rl a + 1 := by
  have h := List.all_eq_true.1 len_chk a (List.mem_range.2 (by omega))
  simp only [Bool.or_eq_true, beq_iff_eq] at h
  omega
/-- the index of the card that is dealt last -/
def lastN (n k : Nat) : Int := (dkL n k).getD 0 0
def lastF (n k : Int) : Int := if dkB n k then lastN n.toNat k.toNat else -1
theorem last_yes {m j : Nat} (h : dkB (m : Int) (j : Int) = true) : lastF (m : Int) (j : Int) = lastN m j := by
  unfold lastF
  rw [h]
  rfl
theorem last_no {n k : Int} (h : dkB n k = false) : lastF n k = -1 := by
  unfold lastF
  rw [h]
  rfl
theorem last_chk : ((List.range 13).all fun n => n == 0 || (lastN n 0 == (2 * (n - pw n) : Nat) && lastN n 1 == if n = pw n then (n : Int) - 1 else (2 * (n - pw n) : Nat) - 1)) = true := by kernel_rfl
theorem last_at {n : Nat} (h1 : 1 ≤ n) (h12 : n ≤ 12) : lastN n 0 = (2 * (n - pw n) : Nat) ∧ lastN n 1 = if n = pw n then (n : Int) - 1 else (2 * (n - pw n) : Nat) - 1 := by
  have h := List.all_eq_true.1 last_chk n (List.mem_range.2 (by omega))
  simp only [Bool.or_eq_true, beq_iff_eq, Bool.and_eq_true] at h
  rcases h with h | h
  · omega
  · exact h
/-- the numbers in the order in which they are dealt -/
def ordF (n k : Int) : List Int := if dkB n k then (dkL n.toNat k.toNat).reverse else []
theorem ord_yes {m j : Nat} (h : dkB (m : Int) (j : Int) = true) : ordF (m : Int) (j : Int) = (dkL m j).reverse := by
  unfold ordF
  rw [h]
  rfl
theorem ord_no {n k : Int} (h : dkB n k = false) : ordF n k = [] := by
  unfold ordF
  rw [h]
  rfl
theorem ord_len (n k : Int) : (ordF n k).length ≤ 1048576 := by
  cases h : dkB n k with
  | true =>
    obtain ⟨m, j, rfl, rfl, h1, h2, h3⟩ := dk_parts h
    rw [ord_yes h, List.length_reverse, dkL_len h1 h2 h3]
    omega
  | false => rw [ord_no h]; exact Nat.zero_le _
theorem dk_of {m j : Nat} (h1 : 1 ≤ m) (h2 : m ≤ 12) (h3 : j ≤ 1) : dkB (m : Int) (j : Int) = true := decide_eq_true (by omega)
theorem in_dk (n k : Int) : (decide (1 ≤ n ∧ n ≤ 12) && decide (0 ≤ k ∧ k ≤ 1)) = dkB n k := by
  unfold dkB
  rw [Bool.eq_iff_iff]
  simp only [Bool.and_eq_true, decide_eq_true_eq]
  omega

theorem impl_isduck (n k : Int) (w : World) : Calls Try.prog 33 #[.int .i64 n, .int .i64 k] w fun e w' => e = .returned (.bool (dkB n k)) ∧ Below w.heap.size w w' := by
  have HC := Lib.hid (fun W => impl_moveok n 7 k W)
  have HM := Lib.hid (mv_dk n k)
  go_enter Try.func33, Try.ntmps33
  go_wp2_with fail
  refine (HC.out _).mono ?_
  rintro e w1 ⟨rfl, hb⟩
  rw [HM.out]
  go_wp2
  go_ret
  exact ⟨rfl, hb⟩
theorem spec_l09 (n k : Int) (w : World) : Calls Try.prog 39 #[.int .i64 n, .int .i64 k] w fun e w' => e = .returned (.bool (dkB n k)) ∧ w = w' := by
  have HM := Lib.hid (in_dk n k)
  cases h1 : decide (1 ≤ n ∧ n ≤ 12) with
  | false =>
    have H1 := Lib.hid h1
    clear h1
    go_enter Try.func39, Try.ntmps39
    go_wp2_with fail
    refine (in_any n 1 12 _).mono ?_
    rintro e w1 ⟨rfl, rfl⟩
    rw [H1.out]
    go_wp2
    go_ret
    refine ⟨?_, rfl⟩
    rw [← HM.out, H1.out]
    rfl
  | true =>
    have H1 := Lib.hid h1
    clear h1
    go_enter Try.func39, Try.ntmps39
    go_wp2_with fail
    refine (in_any n 1 12 _).mono ?_
    rintro e w1 ⟨rfl, rfl⟩
    rw [H1.out]
    go_wp2_with fail
    refine (in_any k 0 1 _).mono ?_
    rintro e w1 ⟨rfl, rfl⟩
    generalize hb : decide (0 ≤ k ∧ k ≤ 1) = b
    have HB := Lib.hid hb
    clear hb
    go_wp2
    go_ret
    refine ⟨?_, rfl⟩
    rw [← HM.out, H1.out, HB.out]
    rfl
theorem impl_rounds (n : Int) (w : World) (h1 : -9223372036854775808 ≤ n) (h2 : n ≤ 9223372036854775807) :
    Calls Try.prog 17 #[.int .i64 n] w fun e w' => e = .returned (.int .i64 (rndF n)) ∧ w = w' := by
  by_cases ha : 1 ≤ n
  · by_cases hb : n ≤ 12
    · obtain ⟨m, rfl⟩ : ∃ m : Nat, n = m := ⟨n.toNat, by omega⟩
      have p1 : 1 ≤ m := by omega
      have p2 : m ≤ 12 := by omega
      rw [rnd_yes p1 p2]
      have HL := Lib.hid (len_eq p1 p2)
      have ha' : decide ((m : Int) < 1) = false := decide_eq_false (by omega)
      have hb' : decide ((12 : Int) < (m : Int)) = false := decide_eq_false (by omega)
      have ha2 : decide (m < 1) = false := decide_eq_false (by omega)
      have hb2 : decide (12 < m) = false := decide_eq_false (by omega)
      have hrl := rl_le m
      have hw1 : IntKind.i64.wrap (((rl m : Nat) : Int) + 1 - 1) = (rl m : Nat) := by rw [Int.add_sub_cancel]; exact IntWalk.i64_in _ (by omega)
      go_enter Try.func17, Try.ntmps17
      go_wp2_with fail
      refine (Try.bits_Len (m : Int) _ (by omega) (by omega)).mono ?_
      rintro e w' ⟨rfl, h⟩
      replace h := h.symm
      subst h
      rw [show (m : Int).toNat = m from rfl, HL.out]
      go_wp2
      go_ret
      exact ⟨by go_num, rfl⟩
    · have HS := Lib.hid (rnd_no (n := n) (by omega))
      have ha' : decide (n < 1) = false := decide_eq_false (by omega)
      have hb' : decide (12 < n) = true := decide_eq_true (by omega)
      go_enter Try.func17, Try.ntmps17
      go_wp2
      go_ret
      exact ⟨by rw [HS.out]; rfl, rfl⟩
  · have HS := Lib.hid (rnd_no (n := n) (by omega))
    have ha' : decide (n < 1) = true := decide_eq_true (by omega)
    go_enter Try.func17, Try.ntmps17
    go_wp2
    go_ret
    exact ⟨by rw [HS.out]; rfl, rfl⟩
theorem spec_rounds (n : Int) (w : World) (h1 : -9223372036854775808 ≤ n) (h2 : n ≤ 9223372036854775807) :
    Calls Try.prog 26 #[.int .i64 n] w fun e w' => e = .returned (.int .i64 (rndF n)) ∧ w = w' := by
  by_cases h : 1 ≤ n ∧ n ≤ 12
  · obtain ⟨m, rfl⟩ : ∃ m : Nat, n = m := ⟨n.toNat, by omega⟩
    have p1 : 1 ≤ m := by omega
    have p2 : m ≤ 12 := by omega
    have HI := Lib.hid h
    rw [rnd_yes p1 p2]
    have hrl := rl_le m
    obtain ⟨R, hR⟩ : ∃ R, R = rl m := ⟨_, rfl⟩
    rw [← hR]
    rw [← hR] at hrl
    have HR := Lib.hid hR
    clear h hR
    go_enter Try.func26, Try.ntmps26
    go_wp2_with fail
    refine (in_yes _ 1 12 _ HI.out.1 HI.out.2).mono ?_
    rintro e w' ⟨rfl, rfl⟩
    go_wp2
    go_loop [0, 3] (fun s0 s3 => ∃ q t : Nat, s0 = .int .i64 (q : Int) ∧ s3 = .int .i64 (t : Int) ∧ 1 ≤ q ∧ q ≤ 12 ∧ t + rl q = R) (fun s0 _ => (intOf s0).toNat)
    case atStart => exact ⟨m, 0, rfl, rfl, p1, p2, by rw [HR.out, Nat.zero_add]⟩
    case round =>
      obtain ⟨q, t, rfl, rfl, q1, q2, hq⟩ := hrel
      by_cases hlt : 1 < q
      · have hh := rl_half hlt q2
        have HH := Lib.hid hh
        have ht : t ≤ 3 := by omega
        have HQ := Lib.hid hq
        have hd : ((q : Int)).tdiv 2 = ((q / 2 : Nat) : Int) := by rw [Int.tdiv_eq_ediv_of_nonneg (by omega)]; rfl
        clear hh hq
        go_wp2
        go_round
        case rel => exact ⟨q / 2, t + 1, by go_num, by go_num, by omega, by omega, by have := HH.out; have := HQ.out; omega⟩
        case measure => simp [intOf]; omega
      · have hq1 : q = 1 := by omega
        subst hq1
        rw [rl_one (Nat.le_refl _), Nat.add_zero] at hq
        subst hq
        go_wp2
        go_ret
        exact ⟨rfl, rfl⟩
  · have HI := Lib.hid h
    rw [rnd_no h]
    clear h
    go_enter Try.func26, Try.ntmps26
    go_wp2_with fail
    refine (in_no _ 1 12 _ HI.out).mono ?_
    rintro e w' ⟨rfl, rfl⟩
    go_wp2
    go_ret
    exact ⟨rfl, rfl⟩
end Go.Proofs.Ytaacdhccebedmaa.Duk
