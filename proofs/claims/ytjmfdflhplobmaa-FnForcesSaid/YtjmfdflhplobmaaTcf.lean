/- slices.ContainsFunc over pointers: whether one of them is not nil. -/
import Derived.Test.YtjmfdflhplobmaaNod
set_option linter.unusedVariables false
set_option maxRecDepth 20000
namespace Go.Proofs.Ytjmfdflhplobmaa.Tcf
open Go.RowKit Fr _root_.Go.Proofs.Ytjmfdflhplobmaa.Own Pk Ins Rws Fpl Nod

theorem not_nil (p : Option Addr) (w : World) : Calls Try.prog 71 #[.pointer p] w fun e w' => e = .returned (.bool p.isSome) ∧ w = w' := by
  cases p with
  | none =>
    go_enter Try.func71, Try.ntmps71
    go_wp2
    go_ret
    exact ⟨rfl, rfl⟩
  | some a =>
    go_enter Try.func71, Try.ntmps71
    go_wp2
    go_ret
    exact ⟨rfl, rfl⟩
/-- where the first of m pointers from k on lies that is not nil -/
def firstP (P : Nat → Option Addr) (m : Nat) : Int := match (List.range m).find? fun j => (P j).isSome with | some j => (j : Int) | none => -1
def anyP (P : Nat → Option Addr) (m : Nat) : Bool := (List.range m).any fun j => (P j).isSome
theorem find_range {p : Nat → Bool} {m : Nat} : ∀ k, k < m → p k = true → (∀ j, j < k → p j = false) → (List.range m).find? p = some k := by
  intro k hk h1 h2
  rw [List.find?_eq_some_iff_append]
  refine ⟨h1, List.range k, (List.range (m - k - 1)).map fun i => k + 1 + i, ?_, fun a ha => by simp [h2 a (List.mem_range.1 ha)]⟩
  obtain ⟨d, rfl⟩ : ∃ d, m = k + 1 + d := ⟨m - k - 1, by omega⟩
  rw [show k + 1 + d - k - 1 = d by omega, List.range_add, List.range_succ, List.append_assoc]
  rfl
theorem first_at {P : Nat → Option Addr} {m k : Nat} (hk : k < m) (h1 : (P k).isSome = true) (h2 : ∀ j, j < k → (P j).isSome = false) : firstP P m = k := by
  unfold firstP; rw [find_range k hk h1 h2]
theorem first_no {P : Nat → Option Addr} {m : Nat} (h2 : ∀ j, j < m → (P j).isSome = false) : firstP P m = -1 := by
  unfold firstP
  have : ((List.range m).find? fun j => (P j).isSome) = none := by
    rw [List.find?_eq_none]
    intro j hj
    rw [h2 j (List.mem_range.1 hj)]
    simp
  rw [this]
theorem any_first (P : Nat → Option Addr) (m : Nat) : decide (0 ≤ firstP P m) = anyP P m := by
  unfold firstP anyP
  cases h : (List.range m).find? fun j => (P j).isSome with
  | none =>
    have := List.find?_eq_none.1 h
    rw [decide_eq_false (by simp)]
    symm
    rw [List.any_eq_false]
    intro j hj
    exact this j hj
  | some j =>
    rw [decide_eq_true (by simp)]
    symm
    rw [List.any_eq_true]
    exact ⟨j, List.mem_of_find?_eq_some h, by simpa using List.find?_some h⟩
set_option maxHeartbeats 1000000 in
theorem index_any (b o m c : Nat) (P : Nat → Option Addr) (w : World) (hm : m ≤ 1048576) (hc : ∀ j, j < m → w.cell? ⟨b, o + j, none⟩ = some (.pointer (P j))) :
    Calls Try.prog 78 #[.slice (some ⟨b, o, none⟩) m c, .func (.func 71) #[] #[]] w fun e w' => e = .returned (.int .i64 (firstP P m)) ∧ w = w' := by
  obtain ⟨R, hR⟩ : ∃ R, R = firstP P m := ⟨_, rfl⟩
  rw [← hR]
  have HR := Lib.hid hR
  have HC := Lib.hid hc
  clear hR hc
  go_enter Try.func78, Try.ntmps78
  go_wp2
  go_loop [8] (fun i => ∃ k : Nat, k ≤ m ∧ i = .int .i64 k ∧ Hid (∀ j, j < k → (P j).isSome = false)) (fun i => m - (intOf i).toNat)
  case atStart => exact ⟨0, Nat.zero_le _, rfl, Lib.hid (fun j hj => absurd hj (Nat.not_lt_zero _))⟩
  case round =>
    obtain ⟨k, hk, rfl, HK⟩ := hrel
    by_cases hlt : k < m
    · have hck := HC.out k hlt
      have HN := Lib.hid (not_nil (P k) w)
      cases hp : (P k).isSome with
      | true =>
        have HE := Lib.hid (show R = (k : Int) by rw [HR.out]; exact first_at hlt hp HK.out)
        rw [hp] at HN
        generalize P k = p at *
        clear hp
        go_wp2_with fail
        refine HN.out.mono ?_
        rintro e w' ⟨rfl, rfl⟩
        go_wp2
        go_ret
        exact ⟨by rw [HE.out]; rfl, rfl⟩
      | false =>
        have HE := Lib.hid (show ∀ j, j < k + 1 → (P j).isSome = false from fun j hj => by
          by_cases e : j = k
          · rw [e]; exact hp
          · exact HK.out j (by omega))
        rw [hp] at HN
        generalize P k = p at hck HN
        clear hp
        go_wp2_with fail
        refine HN.out.mono ?_
        rintro e w' ⟨rfl, rfl⟩
        go_wp2
        go_round
        case rel => exact ⟨k + 1, by omega, by go_num, HE⟩
        case measure => simp [intOf]; omega
    · have HE := Lib.hid (show R = -1 by rw [HR.out]; exact first_no fun j hj => HK.out j (by omega))
      go_wp2
      go_ret
      exact ⟨by rw [HE.out]; rfl, rfl⟩
theorem contains_any (b o m c : Nat) (P : Nat → Option Addr) (w : World) (hm : m ≤ 1048576) (hc : ∀ j, j < m → w.cell? ⟨b, o + j, none⟩ = some (.pointer (P j))) :
    Calls Try.prog 70 #[.slice (some ⟨b, o, none⟩) m c, .func (.func 71) #[] #[]] w fun e w' => e = .returned (.bool (anyP P m)) ∧ w = w' := by
  have HI := Lib.hid (index_any b o m c P w hm hc)
  have HA := Lib.hid (any_first P m)
  clear hc
  generalize firstP P m = x at *
  go_enter Try.func70, Try.ntmps70
  go_wp2_with fail
  refine HI.out.mono ?_
  rintro e w' ⟨rfl, rfl⟩
  go_wp2
  go_ret
  exact ⟨by rw [← HA.out]; rfl, rfl⟩
end Go.Proofs.Ytjmfdflhplobmaa.Tcf
