/- Piles, plainly; PilesOk and isIndex. -/
import Derived.Test.YtpfbjbakcfmngaaPkt
import Derived.Test.YtpfbjbakcfmngaaPok
import Derived.BigQuiet
set_option linter.unusedVariables false
set_option maxRecDepth 20000
namespace Go.Proofs.Ytpfbjbakcfmngaa.Plk
open Go.RowKit Fr Pk

/-- may n cards be dealt into m piles? -/
def okB (n m : Int) : Bool := decide ((2 ≤ m ∧ m ≤ 4) ∧ (m ≤ n ∧ n ≤ 12) ∧ n % m = 0)
theorem ok_parts {n m : Int} (h : okB n m = true) : ∃ N M : Nat, n = N ∧ m = M ∧ (M = 2 ∨ M = 3 ∨ M = 4) ∧ M ≤ N ∧ N ≤ 12 ∧ N % M = 0 := by
  have h := of_decide_eq_true h
  obtain ⟨⟨h1, h2⟩, ⟨h3, h4⟩, h5⟩ := h
  obtain ⟨N, rfl⟩ := Int.eq_ofNat_of_zero_le (show 0 ≤ n by omega)
  obtain ⟨M, rfl⟩ := Int.eq_ofNat_of_zero_le (show 0 ≤ m by omega)
  exact ⟨N, M, rfl, rfl, by omega, by omega, by omega, by omega⟩
theorem ok_yes {N M : Nat} (h : M = 2 ∨ M = 3 ∨ M = 4) (h1 : M ≤ N) (h2 : N ≤ 12) (h3 : N % M = 0) : okB N M = true := decide_eq_true ⟨⟨by omega, by omega⟩, ⟨by omega, by omega⟩, by omega⟩
/-- is i the index of one of n things? -/
def inB (i n : Int) : Bool := decide (0 ≤ i ∧ i < n)
theorem beq_zero (a : Int) : (a == 0) = decide (a = 0) := by by_cases h : a = 0 <;> simp [h]
theorem tmod_emod {n m : Int} (h : 0 ≤ n) : n.tmod m = n % m := Int.tmod_eq_emod_of_nonneg h
theorem impl_in (i n : Int) (w : World) : Calls Try.prog 52 #[.int .i64 i, .int .i64 n] w fun e w' => e = .returned (.bool (inB i n)) ∧ w = w' := by
  by_cases h : 0 ≤ i
  · have HS := Lib.hid (show decide (i < n) = inB i n by unfold inB; simp [h])
    go_enter Try.func52, Try.ntmps52
    go_wp2
    go_ret
    exact ⟨ret_b HS.out, rfl⟩
  · have HS := Lib.hid (show false = inB i n by unfold inB; simp; omega)
    have h' : decide (0 ≤ i) = false := decide_eq_false h
    go_enter Try.func52, Try.ntmps52
    go_wp2
    go_ret
    exact ⟨ret_b HS.out, rfl⟩
set_option maxHeartbeats 1000000 in
theorem impl_ok (n m : Int) (w : World) (h1 : -9223372036854775808 ≤ n) (h2 : n ≤ 9223372036854775807) (h3 : -9223372036854775808 ≤ m) (h4 : m ≤ 9223372036854775807) :
    Calls Try.prog 22 #[.int .i64 n, .int .i64 m] w fun e w' => e = .returned (.bool (okB n m)) ∧ w = w' := by
  by_cases ha : 2 ≤ m
  · by_cases hb : m ≤ 4
    · by_cases hc : m ≤ n
      · by_cases hd : n ≤ 12
        · have HS := Lib.hid (show (n % m == 0) = okB n m by rw [beq_zero]; unfold okB; simp [ha, hb, hc, hd])
          have hm0 : ¬ (m = 0) := by omega
          go_enter Try.func22, Try.ntmps22
          go_wp2
          go_ret
          exact ⟨ret_b HS.out, rfl⟩
        · have HS := Lib.hid (show false = okB n m by unfold okB; simp; omega)
          have hd' : decide (n ≤ 12) = false := decide_eq_false hd
          go_enter Try.func22, Try.ntmps22
          go_wp2
          go_ret
          exact ⟨ret_b HS.out, rfl⟩
      · have HS := Lib.hid (show false = okB n m by unfold okB; simp; omega)
        have hd' : decide (m ≤ n) = false := decide_eq_false hc
        go_enter Try.func22, Try.ntmps22
        go_wp2
        go_ret
        exact ⟨ret_b HS.out, rfl⟩
    · have HS := Lib.hid (show false = okB n m by unfold okB; simp; omega)
      have hd' : decide (m ≤ 4) = false := decide_eq_false hb
      go_enter Try.func22, Try.ntmps22
      go_wp2
      go_ret
      exact ⟨ret_b HS.out, rfl⟩
  · have HS := Lib.hid (show false = okB n m by unfold okB; simp; omega)
    have hd' : decide (2 ≤ m) = false := decide_eq_false ha
    go_enter Try.func22, Try.ntmps22
    go_wp2
    go_ret
    exact ⟨ret_b HS.out, rfl⟩
set_option maxHeartbeats 1000000 in
theorem spec_ok (n m : Int) (w : World) (h1 : -9223372036854775808 ≤ n) (h2 : n ≤ 9223372036854775807) (h3 : -9223372036854775808 ≤ m) (h4 : m ≤ 9223372036854775807) :
    Calls Try.prog 26 #[.int .i64 n, .int .i64 m] w fun e w' => e = .returned (.bool (okB n m)) ∧ w = w' := by
  by_cases ha : 2 ≤ m ∧ m ≤ 4
  · by_cases hb : m ≤ n ∧ n ≤ 12
    · have HS := Lib.hid (show (n.tmod m == 0) = okB n m by rw [tmod_emod (by omega), beq_zero]; unfold okB; simp [ha, hb])
      have hm0 : ¬ (m = 0) := by omega
      have HA := Lib.hid ha
      have HB := Lib.hid hb
      clear ha hb
      go_enter Try.func26, Try.ntmps26
      go_wp2_with fail
      refine (in_yes m 2 4 _ HA.out.1 HA.out.2).mono ?_
      rintro e w' ⟨rfl, rfl⟩
      go_wp2_with fail
      refine (in_yes n m 12 _ HB.out.1 HB.out.2).mono ?_
      rintro e w' ⟨rfl, rfl⟩
      go_wp2
      go_ret
      exact ⟨ret_b HS.out, rfl⟩
    · have HS := Lib.hid (show false = okB n m by unfold okB; simp; omega)
      have HA := Lib.hid ha
      have HB := Lib.hid hb
      clear ha hb
      go_enter Try.func26, Try.ntmps26
      go_wp2_with fail
      refine (in_yes m 2 4 _ HA.out.1 HA.out.2).mono ?_
      rintro e w' ⟨rfl, rfl⟩
      go_wp2_with fail
      refine (in_no n m 12 _ HB.out).mono ?_
      rintro e w' ⟨rfl, rfl⟩
      go_wp2
      go_ret
      exact ⟨ret_b HS.out, rfl⟩
  · have HS := Lib.hid (show false = okB n m by unfold okB; simp; omega)
    have HA := Lib.hid ha
    clear ha
    go_enter Try.func26, Try.ntmps26
    go_wp2_with fail
    refine (in_no m 2 4 _ HA.out).mono ?_
    rintro e w' ⟨rfl, rfl⟩
    go_wp2
    go_ret
    exact ⟨ret_b HS.out, rfl⟩

/-- the cards of pile k of m, when t cards are dealt -/
def pileT (zs : List Int) (m k : Nat) : Nat → List Int
  | 0 => []
  | t + 1 => if t % m = k then zs.getD t 0 :: pileT zs m k t else pileT zs m k t
/-- all piles -/
def pilesF (zs : List Int) (m t : Nat) : List (List Int) := (List.range m).map fun k => pileT zs m k t
theorem piles_len (zs : List Int) (m t : Nat) : (pilesF zs m t).length = m := by simp [pilesF]
theorem piles_get (zs : List Int) (m t k : Nat) (h : k < m) : (pilesF zs m t).getD k [] = pileT zs m k t := by
  unfold pilesF
  simp [List.getD_eq_getElem?_getD, h]
theorem pile_len (zs : List Int) (m k : Nat) : ∀ t, (pileT zs m k t).length ≤ t
  | 0 => Nat.le_refl _
  | t + 1 => by
    have := pile_len zs m k t
    rw [pileT]
    split
    · rw [List.length_cons]; omega
    · omega
theorem pile_first (zs : List Int) (m k : Nat) (hk : k < m) : ∀ t, t ≤ k → pileT zs m k t = []
  | 0, _ => rfl
  | t + 1, h => by
    rw [pileT, if_neg (by rw [Nat.mod_eq_of_lt (by omega)]; omega)]
    exact pile_first zs m k hk t (by omega)
/-- the cards between two of a pile are not in it -/
theorem pile_skip (zs : List Int) {m k i : Nat} (hm : m = 2 ∨ m = 3 ∨ m = 4) (hi : i % m = k) : ∀ d, d < m → pileT zs m k (i + 1 + d) = zs.getD i 0 :: pileT zs m k i
  | 0, _ => by rw [Nat.add_zero, pileT, if_pos hi]
  | d + 1, h => by
    rw [← Nat.add_assoc, pileT, if_neg (by rcases hm with rfl | rfl | rfl <;> omega)]
    exact pile_skip zs hm hi d (by omega)
theorem pile_next (zs : List Int) {m k i : Nat} (hm : m = 2 ∨ m = 3 ∨ m = 4) (hi : i % m = k) : pileT zs m k (i + m) = zs.getD i 0 :: pileT zs m k i := by
  have h := pile_skip zs hm hi (m - 1) (by omega)
  rwa [show i + 1 + (m - 1) = i + m by omega] at h
theorem pile_end (zs : List Int) {m k i n : Nat} (hm : m = 2 ∨ m = 3 ∨ m = 4) (hi : i % m = k) (h1 : n ≤ i) (h2 : i < n + m) (h3 : m ≤ i) : pileT zs m k i = pileT zs m k n := by
  have hj : (i - m) % m = k := by rcases hm with rfl | rfl | rfl <;> omega
  have a := pile_skip zs hm hj (m - 1) (by omega)
  have b := pile_skip zs hm hj (n - (i - m + 1)) (by omega)
  rw [show i - m + 1 + (m - 1) = i by omega] at a
  rw [show i - m + 1 + (n - (i - m + 1)) = n by omega] at b
  rw [a, b]
/-- one card more: only its pile changes -/
theorem piles_next (zs : List Int) {m t : Nat} (hm : 0 < m) : pilesF zs m (t + 1) = (pilesF zs m t).set (t % m) (zs.getD t 0 :: pileT zs m (t % m) t) := by
  refine List.ext_getElem? fun j => ?_
  unfold pilesF
  by_cases hj : j < m
  · by_cases e : t % m = j
    · subst e
      simp [hj, pileT]
    · rw [List.getElem?_set_ne e]
      simp [hj, pileT, e]
  · rw [List.getElem?_eq_none (by simp; omega), List.getElem?_eq_none (by simp; omega)]
theorem piles_zero (zs : List Int) (m : Nat) : pilesF zs m 0 = List.replicate m [] := by
  refine List.ext_getElem? fun j => ?_
  by_cases hj : j < m
  · simp [pilesF, hj, pileT]
  · rw [List.getElem?_eq_none (by simp [pilesF]; omega), List.getElem?_eq_none (by simp; omega)]
/-- the piles that are dealt, none if it cannot be done -/
def pilesI (zs : List Int) (m : Int) : List (List Int) := if Pok.okB zs && okB zs.length m then pilesF zs m.toNat zs.length else []
end Go.Proofs.Ytpfbjbakcfmngaa.Plk
