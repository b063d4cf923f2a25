/- Plain facts on decimal numerals: what a numeral's digits spell, and that reading a written number gives it back. -/
import Derived.Lib.ItoaNum
import Derived.Lib.ItoaLen
import Derived.Lib.Atoi
import Derived.Lib.AtoiAll
namespace Go.Proofs.YtaphphelimpgmaaDoor.Num
open Go.Lib

theorem ofNat_toNat (d : Nat) (h : d < 10) : (UInt8.ofNat (48 + d)).toNat = 48 + d := by
  simp [UInt8.toNat_ofNat']; omega
theorem digitVal_of (d : Nat) (h : d < 10) : digitVal (UInt8.ofNat (48 + d)) = some d := by
  unfold digitVal
  rw [ofNat_toNat d h, if_pos (by omega)]
  congr 1; omega

theorem decFrom_snoc (l : List UInt8) (b : UInt8) (d : Nat) (hb : digitVal b = some d) : ∀ (acc n : Nat), decFrom acc l = some n → decFrom acc (l ++ [b]) = some (n * 10 + d) := by
  induction l with
  | nil =>
    intro acc n h
    simp only [decFrom, Option.some.injEq] at h
    subst h
    simp [decFrom, hb]
  | cons a t ih =>
    intro acc n h
    simp only [List.cons_append, decFrom] at h ⊢
    cases ha : digitVal a with
    | none => rw [ha] at h; cases h
    | some e =>
      rw [ha] at h
      exact ih _ _ h

theorem dec_digits (u : Nat) : decFrom 0 (decDigits u) = some u := by
  induction u using Nat.strongRecOn with
  | _ u ih =>
    rw [decDigits]
    split
    · rename_i h
      simp only [decFrom, digitVal_of u h]
      congr 1; omega
    · rename_i h
      rw [decFrom_snoc _ _ (u % 10) (digitVal_of _ (Nat.mod_lt _ (by omega))) 0 (u / 10) (ih (u / 10) (by omega))]
      congr 1; omega

theorem decFrom_ge (l : List UInt8) : ∀ (acc u : Nat), decFrom acc l = some u → acc ≤ u := by
  induction l with
  | nil => intro acc u h; simp only [decFrom, Option.some.injEq] at h; omega
  | cons a t ih =>
    intro acc u h
    simp only [decFrom] at h
    cases ha : digitVal a with
    | none => rw [ha] at h; cases h
    | some e =>
      rw [ha] at h
      have := ih _ _ h
      omega

theorem parse_ok (l : List UInt8) : ∀ (acc u : Nat), decFrom acc l = some u → u < 18446744073709551616 → parseUint10 acc l = .ok u := by
  induction l with
  | nil => intro acc u h _; simp only [decFrom, Option.some.injEq] at h; subst h; rfl
  | cons a t ih =>
    intro acc u h hu
    simp only [decFrom] at h
    cases ha : digitVal a with
    | none => rw [ha] at h; cases h
    | some e =>
      rw [ha] at h
      obtain ⟨h1, h2, h3⟩ := digitVal_eq ha
      have hge := decFrom_ge _ _ _ h
      simp only [parseUint10]
      rw [if_pos ⟨h1, h2⟩, if_neg (by omega), if_neg (by omega), ← h3]
      exact ih _ _ h hu

theorem decDigits_ne (u : Nat) : decDigits u ≠ [] := by
  intro h
  have := congrArg List.length h
  rw [decDigits_length] at this
  have := nDigits_pos u
  simp at *; omega

theorem decDigits_dig (u : Nat) : ∀ b ∈ decDigits u, 48 ≤ b.toNat ∧ b.toNat ≤ 57 := by
  induction u using Nat.strongRecOn with
  | _ u ih =>
    intro b hb
    rw [decDigits] at hb
    split at hb
    · rename_i h
      simp only [List.mem_singleton] at hb
      subst hb
      rw [ofNat_toNat u h]; omega
    · rename_i h
      rcases List.mem_append.1 hb with hb | hb
      · exact ih _ (by omega) b hb
      · simp only [List.mem_singleton] at hb
        subst hb
        rw [ofNat_toNat _ (Nat.mod_lt _ (by omega))]
        have := Nat.mod_lt u (show 0 < 10 by omega)
        omega

theorem nd_le : ∀ (k u : Nat), u < 10 ^ (k + 1) → nDigits u ≤ k + 1
  | 0, u, h => by rw [nDigits_small (by simpa using h)]; omega
  | k + 1, u, h => by
    by_cases hs : u < 10
    · rw [nDigits_small hs]; omega
    · rw [nDigits_big hs]
      have := nd_le k (u / 10) (by rw [Nat.pow_succ] at h; omega)
      omega

theorem parseMag_digits (u : Nat) (h : u < 18446744073709551616) : parseMag (decDigits u) = .ok u := by
  unfold parseMag
  rw [if_neg (decDigits_ne u)]
  exact parse_ok _ _ _ (dec_digits u) h

theorem atoiAll_itoa (n : Int) (h0 : -9223372036854775808 ≤ n) (h1 : n ≤ 9223372036854775807) : atoiAll (itoa n) = .ok n := by
  unfold itoa
  split
  · rename_i hn
    have e : (45 : UInt8).toNat = 45 := rfl
    simp only [atoiAll, e]
    rw [if_pos (Or.inr trivial), parseMag_digits _ (by omega)]
    simp only [not_true_eq_false, false_and, if_false, true_and, if_true]
    rw [if_neg (by omega)]
    congr 1; omega
  · rename_i hn
    have hm := parseMag_digits n.toNat (by omega)
    cases hl : decDigits n.toNat with
    | nil => exact absurd hl (decDigits_ne _)
    | cons c r =>
      have hc := decDigits_dig n.toNat c (by rw [hl]; exact List.mem_cons_self)
      rw [hl] at hm
      have e1 : ¬ (c.toNat = 43 ∨ c.toNat = 45) := by omega
      have e2 : ¬ c.toNat = 45 := by omega
      simp only [atoiAll]
      rw [if_neg e1, hm]
      simp only [e2, not_false_eq_true, true_and, false_and, if_false]
      rw [if_neg (by omega)]
      congr 1; omega

end Go.Proofs.YtaphphelimpgmaaDoor.Num
