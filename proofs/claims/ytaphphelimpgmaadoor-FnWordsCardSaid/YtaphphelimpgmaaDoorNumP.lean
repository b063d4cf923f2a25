/- Plain facts on what a text spells: the sign, the digits behind it, and that no other int is written so. -/
import Derived.Test.YtaphphelimpgmaaDoorNum
namespace Go.Proofs.YtaphphelimpgmaaDoor.Num
open Go.Lib

def negB (l : List UInt8) : Bool := l.head? == some 45
def magL (l : List UInt8) : List UInt8 := if negB l then l.tail else l
def inRange (n : Int) : Prop := -9223372036854775808 ≤ n ∧ n ≤ 9223372036854775807

theorem itoa_sign (n : Int) (h : inRange n) : negB (itoa n) = decide (n < 0) ∧ magL (itoa n) = decDigits n.natAbs := by
  obtain ⟨h0, h1⟩ := h
  by_cases hn : n < 0
  · have e : itoa n = 45 :: decDigits n.natAbs := by rw [itoa, if_pos hn]
    have e2 : negB (itoa n) = true := by rw [e]; rfl
    refine ⟨by rw [e2]; simp [hn], ?_⟩
    rw [magL, e2, if_pos rfl, e]; rfl
  · have e : itoa n = decDigits n.toNat := by rw [itoa, if_neg hn]
    have e1 : n.toNat = n.natAbs := by omega
    have e2 : negB (itoa n) = false := by
      rw [e]
      cases hl : decDigits n.toNat with
      | nil => rfl
      | cons c r =>
        have hc := decDigits_dig n.toNat c (by rw [hl]; exact List.mem_cons_self)
        show (some c == some 45) = false
        rw [beq_eq_false_iff_ne]
        intro h
        have := Option.some.inj h
        subst this
        have : (45 : UInt8).toNat = 45 := rfl
        omega
    refine ⟨by rw [e2]; simp [hn], ?_⟩
    rw [magL, e2, if_neg (by decide), e, e1]

theorem mag_spells (n : Int) (h : inRange n) : decFrom 0 (magL (itoa n)) = some n.natAbs := by
  rw [(itoa_sign n h).2]; exact dec_digits _

theorem mag_dig (n : Int) (h : inRange n) : (∀ b ∈ magL (itoa n), 48 ≤ b.toNat ∧ b.toNat ≤ 57) ∧ magL (itoa n) ≠ [] ∧ (magL (itoa n)).length ≤ 19 := by
  rw [(itoa_sign n h).2]
  refine ⟨decDigits_dig _, decDigits_ne _, ?_⟩
  rw [decDigits_length]
  exact nd_le 18 _ (by obtain ⟨h0, h1⟩ := h; omega)

/-- how a text is read: the int that is written so, or none -/
def Reads (l : List UInt8) (n : Int) (ok : Bool) : Prop := (ok = true ∧ inRange n ∧ itoa n = l) ∨ (ok = false ∧ n = 0 ∧ ∀ m, inRange m → itoa m ≠ l)

theorem itoa_inj (n m : Int) (hn : inRange n) (hm : inRange m) (h : itoa n = itoa m) : n = m := by
  have h1 := atoiAll_itoa n hn.1 hn.2
  rw [h, atoiAll_itoa m hm.1 hm.2] at h1
  injection h1 with h1
  exact h1.symm

theorem Reads.same {l : List UInt8} {n m : Int} {a b : Bool} (h : Reads l n a) (k : Reads l m b) : n = m ∧ a = b := by
  rcases h with ⟨rfl, hr, e⟩ | ⟨rfl, rfl, no⟩ <;> rcases k with ⟨rfl, kr, ke⟩ | ⟨rfl, rfl, kno⟩
  · exact ⟨itoa_inj n m hr kr (by rw [e, ke]), rfl⟩
  · exact absurd e (kno n hr)
  · exact absurd ke (no m kr)
  · exact ⟨rfl, rfl⟩

/-- the digits' value grows from place to place -/
theorem take_le (l : List UInt8) (k p u : Nat) (hp : decFrom 0 (l.take k) = some p) (hu : decFrom 0 l = some u) : p ≤ u := by
  have : ∀ (a : List UInt8) (acc : Nat) (b : List UInt8) (p u : Nat), decFrom acc a = some p → decFrom acc (a ++ b) = some u → p ≤ u := by
    intro a
    induction a with
    | nil =>
      intro acc b p u h1 h2
      simp only [decFrom, Option.some.injEq] at h1
      subst h1
      exact decFrom_ge _ _ _ h2
    | cons c r ih =>
      intro acc b p u h1 h2
      simp only [List.cons_append, decFrom] at h1 h2
      cases hc : digitVal c with
      | none => rw [hc] at h1; cases h1
      | some d =>
        rw [hc] at h1 h2
        exact ih _ b p u h1 h2
  exact this (l.take k) 0 (l.drop k) p u hp (by rw [List.take_append_drop]; exact hu)

end Go.Proofs.YtaphphelimpgmaaDoor.Num
