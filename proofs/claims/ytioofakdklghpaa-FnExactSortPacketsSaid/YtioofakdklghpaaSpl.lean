/- How the model compares two lists (l05Less), and what the model's merging needs of memory. -/
import Derived.Test.YtioofakdklghpaaSrt
import Derived.Test.YtioofakdklghpaaSst
import Derived.Test.YtioofakdklghpaaSame
import Derived.Test.YtioofakdklghpaaCat
import Derived.BigQuiet
import Derived.Deep.QuietTactic
set_option linter.unusedVariables false
set_option maxRecDepth 20000
namespace Go.Proofs.Ytioofakdklghpaa.Spl
open Go.RowKit Fr Own Ins Rws Sam Srt Sst Cat

theorem less_step {us vs : List Int} {k : Nat} (h1 : k < us.length) (h2 : k < vs.length) :
    lessL (us.drop k) (vs.drop k) = if us.getD k 0 = vs.getD k 0 then lessL (us.drop (k + 1)) (vs.drop (k + 1)) else decide (us.getD k 0 < vs.getD k 0) := by
  rw [List.drop_eq_getElem_cons h1, List.drop_eq_getElem_cons h2, lessL]
  simp only [List.getD_eq_getElem?_getD, List.getElem?_eq_getElem h1, List.getElem?_eq_getElem h2, Option.getD_some]
theorem less_out {us vs : List Int} {k : Nat} (h1 : k < us.length) (h2 : vs.length ≤ k) : lessL (us.drop k) (vs.drop k) = false := by
  rw [List.drop_eq_getElem_cons h1, List.drop_eq_nil_of_le h2, lessL]
theorem less_end {us vs : List Int} : lessL (us.drop us.length) (vs.drop us.length) = decide (us.length < vs.length) := by
  rw [List.drop_eq_nil_of_le (Nat.le_refl _)]
  by_cases h : us.length < vs.length
  · rw [List.drop_eq_getElem_cons h, lessL, decide_eq_true h]
  · rw [List.drop_eq_nil_of_le (by omega), lessL, decide_eq_false h]
set_option maxHeartbeats 1000000 in
theorem less_any (A1 A2 : Option Addr) (n m c1 c2 : Nat) (us vs : List Int) (w : World) (hn : us.length = n) (hm : vs.length = m) (hn2 : n ≤ 9223372036854775807) (hm2 : m ≤ 9223372036854775807) (h1 : IntsAt w w.heap.size .i64 A1 us) (h2 : IntsAt w w.heap.size .i64 A2 vs) :
    Calls Try.prog 51 #[.slice A1 n c1, .slice A2 m c2] w fun e w' => e = .returned (.bool (lessL us vs)) ∧ w = w' := by
  have HN := Lib.hid hn
  have HM := Lib.hid hm
  obtain ⟨R, hR⟩ : ∃ R, R = lessL us vs := ⟨_, rfl⟩
  rw [← hR]
  have HR0 := Lib.hid (show lessL (us.drop 0) (vs.drop 0) = R by rw [List.drop_zero, List.drop_zero, hR])
  clear hn hm hR
  go_enter Try.func51, Try.ntmps51
  go_wp2
  go_loop [5, 6, 9] (fun _ _ ix => ∃ k : Nat, k ≤ n ∧ k ≤ m ∧ ix = .int .i64 (k : Int) ∧ Hid (lessL (us.drop k) (vs.drop k) = R)) (fun _ _ ix => n - (intOf ix).toNat)
  case atStart => exact ⟨0, Nat.zero_le _, Nat.zero_le _, rfl, HR0⟩
  case round =>
    obtain ⟨k, hk, hkm, rfl, HRK⟩ := hrel
    clear HR0
    by_cases hlt : k < n
    · obtain ⟨b1, o1, rfl, hbb1, hc1⟩ := h1 k (by rw [HN.out]; exact hlt)
      by_cases hlm : k < m
      · obtain ⟨b2, o2, rfl, hbb2, hc2⟩ := h2 k (by rw [HM.out]; exact hlm)
        have HST := Lib.hid ((less_step (us := us) (vs := vs) (k := k) (by rw [HN.out]; exact hlt) (by rw [HM.out]; exact hlm)).symm.trans HRK.out)
        generalize us.getD k 0 = x at *
        generalize vs.getD k 0 = y at *
        clear h1 h2 HRK
        by_cases hxy : x = y
        · subst hxy
          have HS2 := Lib.hid (show lessL (us.drop (k + 1)) (vs.drop (k + 1)) = R by have h := HST.out; rw [if_pos rfl] at h; exact h)
          clear HST
          go_wp2
          go_round
          case rel => exact ⟨k + 1, by omega, by omega, by go_num, HS2⟩
          case measure => simp [intOf]; omega
        · have HS2 := Lib.hid (show decide (x < y) = R by have h := HST.out; rw [if_neg hxy] at h; exact h)
          have hne : (x == y) = false := by simpa using hxy
          clear HST
          go_wp2
          go_ret
          exact ⟨congrArg (fun b => Ending.returned (.bool b)) HS2.out, rfl⟩
      · have HS2 := Lib.hid (show false = R by rw [← HRK.out, less_out (by rw [HN.out]; exact hlt) (by rw [HM.out]; omega)])
        have hge : (m : Int) ≤ (k : Int) := by omega
        clear HRK h1 h2
        go_wp2
        go_ret
        exact ⟨congrArg (fun b => Ending.returned (.bool b)) HS2.out, rfl⟩
    · have hkn : k = n := by omega
      have HS2 := Lib.hid (show decide (n < m) = R by rw [← HRK.out, hkn, ← HN.out, less_end, HM.out])
      clear HRK h1 h2 hlt
      go_wp2
      go_ret
      exact ⟨congrArg (fun b => Ending.returned (.bool b)) HS2.out, rfl⟩
theorem less_q (A1 A2 : Option Addr) (n m c1 c2 : Nat) (us vs : List Int) (w : World) (hn : us.length = n) (hm : vs.length = m) (hn2 : n ≤ 9223372036854775807) (hm2 : m ≤ 9223372036854775807) (h1 : IntsAt w w.heap.size .i64 A1 us) (h2 : IntsAt w w.heap.size .i64 A2 vs) :
    Calls Try.prog 51 #[.slice A1 n c1, .slice A2 m c2] w fun e w' => e = .returned (.bool (lessL us vs)) ∧ ∃ d, w' = w.drewN d :=
  (less_any A1 A2 n m c1 c2 us vs w hn hm hn2 hm2 h1 h2).mono fun e w' h => ⟨h.1, 0, h.2.symm⟩
/-- every row is not too long, and is no part of a cell -/
def RowsOk (rs : List RD) : Prop := ∀ i, i < rs.length → (rs.getD i rd0).zs.length ≤ 1048576 ∧ ((rs.getD i rd0).A = none → (rs.getD i rd0).c = 0) ∧ (∀ a, (rs.getD i rd0).A = some a → a.spot = none)
theorem RowsOk.tail {r : RD} {rs : List RD} (h : RowsOk (r :: rs)) : RowsOk rs := fun i hi => by
  have := h (i + 1) (by simp; omega)
  simpa using this
theorem RowsOk.nil : RowsOk [] := fun i hi => absurd hi (Nat.not_lt_zero _)
theorem SSAt.tail {w : World} {B b o : Nat} {r : RD} {rs : List RD} (h : SSAt w B (some ⟨b, o, none⟩) (r :: rs)) : SSAt w B (some ⟨b, o + 1, none⟩) rs := by
  intro j hj
  obtain ⟨b', o', hA, hlt, hc, hi⟩ := h (j + 1) (by simp; omega)
  simp only [Option.some.injEq, Addr.mk.injEq, and_true] at hA
  obtain ⟨rfl, rfl⟩ := hA
  refine ⟨b, o + 1, rfl, hlt, ?_, ?_⟩
  · rw [show o + 1 + j = o + (j + 1) by omega]
    simpa using hc
  · simpa using hi
theorem SSAt.drop {w : World} {B b o : Nat} {rs : List RD} (k : Nat) (h : SSAt w B (some ⟨b, o, none⟩) rs) : SSAt w B (some ⟨b, o + k, none⟩) (rs.drop k) := by
  intro j hj
  rw [List.length_drop] at hj
  obtain ⟨b', o', hA, hlt, hc, hi⟩ := h (k + j) (by omega)
  simp only [Option.some.injEq, Addr.mk.injEq, and_true] at hA
  obtain ⟨rfl, rfl⟩ := hA
  have e : (rs.drop k).getD j rd0 = rs.getD (k + j) rd0 := by simp [List.getD_eq_getElem?_getD]
  rw [e]
  exact ⟨b, o + k, rfl, hlt, by rw [Nat.add_assoc]; exact hc, hi⟩
theorem SSAt.take {w : World} {B : Nat} {A : Option Addr} {rs : List RD} (k : Nat) (h : SSAt w B A rs) : SSAt w B A (rs.take k) := by
  intro j hj
  rw [List.length_take] at hj
  have e : (rs.take k).getD j rd0 = rs.getD j rd0 := by simp [List.getD_eq_getElem?_getD, show j < k by omega]
  rw [e]
  exact h j (by omega)
theorem RowsOk.drop {rs : List RD} (k : Nat) (h : RowsOk rs) : RowsOk (rs.drop k) := by
  intro i hi
  rw [List.length_drop] at hi
  have e : (rs.drop k).getD i rd0 = rs.getD (k + i) rd0 := by simp [List.getD_eq_getElem?_getD]
  rw [e]
  exact h _ (by omega)
theorem RowsOk.take {rs : List RD} (k : Nat) (h : RowsOk rs) : RowsOk (rs.take k) := by
  intro i hi
  rw [List.length_take] at hi
  have e : (rs.take k).getD i rd0 = rs.getD i rd0 := by simp [List.getD_eq_getElem?_getD, show i < k by omega]
  rw [e]
  exact h _ (by omega)
def lenV : Value → Nat
  | .slice _ n _ => n
  | _ => 0
end Go.Proofs.Ytioofakdklghpaa.Spl
