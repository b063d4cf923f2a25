/- Whether two lists of ints are equal: slices.Equal, and SamePacket of the program and of the model; and NewPacket of both. -/
import Derived.Test.YtibephoepkofnaaPkt
set_option linter.unusedVariables false
set_option maxRecDepth 20000
namespace Go.Proofs.Ytibephoepkofnaa.Sam
open Go.RowKit Fr Own Pk Ins

theorem same_all (us vs : List Int) (hl : us.length = vs.length) (h : ∀ i, i < us.length → us.getD i 0 = vs.getD i 0) : us = vs := by
  refine List.ext_getElem hl fun i h1 h2 => ?_
  have := h i h1
  simpa [List.getD_eq_getElem?_getD, List.getElem?_eq_getElem h1, List.getElem?_eq_getElem h2] using this
theorem same_not (us vs : List Int) (i : Nat) (h : us.getD i 0 ≠ vs.getD i 0) : us ≠ vs := fun e => h (by rw [e])
/-- are the two lists one? -/
def sameB (us vs : List Int) : Bool := decide (us = vs)

set_option maxHeartbeats 1000000 in
theorem equal_any (A1 A2 : Option Addr) (n m c1 c2 : Nat) (us vs : List Int) (w : World) (hn : us.length = n) (hm : vs.length = m) (hn2 : n ≤ 9223372036854775807) (hm2 : m ≤ 9223372036854775807) (h1 : IntsAt w w.heap.size .i64 A1 us) (h2 : IntsAt w w.heap.size .i64 A2 vs) :
    Calls Try.prog 66 #[.slice A1 n c1, .slice A2 m c2] w fun e w' => e = .returned (.bool (sameB us vs)) ∧ Below w.heap.size w w' := by
  by_cases hnm : n = m
  · subst hnm
    have HN := Lib.hid hn
    have HM := Lib.hid hm
    clear hn hm
    go_enter Try.func66, Try.ntmps66
    go_wp2
    go_loopw [5, 13] (fun _ i wr => ∃ k : Nat, k ≤ n ∧ i = .int .i64 k ∧ Hid (∀ i, i < k → us.getD i 0 = vs.getD i 0) ∧ ∃ d, wr = w.drewN d) (fun _ i _ => n - (intOf i).toNat)
    case atStart => exact ⟨0, Nat.zero_le _, rfl, (fun i hi => absurd hi (Nat.not_lt_zero _)), 0, rfl⟩
    case round =>
      obtain ⟨k, hk, rfl, HE, d, rfl⟩ := hrel
      by_cases hlt : k < n
      · obtain ⟨b1, o1, rfl, hbb1, hc1⟩ := h1 k (by rw [HN.out]; exact hlt)
        obtain ⟨b2, o2, rfl, hbb2, hc2⟩ := h2 k (by rw [HM.out]; exact hlt)
        have hno := same_not us vs k
        have hst : us.getD k 0 = vs.getD k 0 → ∀ i, i < k + 1 → us.getD i 0 = vs.getD i 0 := by
          intro e i hi
          by_cases hik : i = k
          · rw [hik]; exact e
          · exact HE.out i (by omega)
        generalize us.getD k 0 = x at hc1 hno hst
        generalize vs.getD k 0 = y at hc2 hno hst
        by_cases hxy : x = y
        · have HS := Lib.hid (hst hxy)
          have hb : (x == y) = true := by simpa using hxy
          clear hst hno HE hxy
          go_wp2
          go_quiet (fail)
          go_wp2
          go_roundw
          case rel => exact ⟨k + 1, by omega, by go_num, HS.out, _, rfl⟩
          case measure => simp [intOf]; omega
        · have HS := Lib.hid (show sameB us vs = false from decide_eq_false (hno hxy))
          have hb : (x == y) = false := by simpa using hxy
          clear hst hno HE hxy
          go_wp2
          go_quiet (fail)
          go_wp2
          go_ret
          exact ⟨ret_b HS.out.symm, below_drewN (below_drewN (Below.refl _ w) _) _⟩
      · have hkn : k = n := by omega
        have hall := HE.out
        rw [hkn] at hall
        have HS := Lib.hid (show sameB us vs = true from decide_eq_true (same_all us vs (by rw [HN.out, HM.out]) (by rw [HN.out]; exact hall)))
        clear hall HE hkn
        go_wp2
        go_ret
        exact ⟨ret_b HS.out.symm, below_drewN (Below.refl _ w) _⟩
  · have HS := Lib.hid (show sameB us vs = false from decide_eq_false (fun e => hnm (by rw [← hn, ← hm, e])))
    have hb : ((n : Int) == (m : Int)) = false := by simpa using (fun e => hnm (by omega))
    clear hn hm hnm
    go_enter Try.func66, Try.ntmps66
    go_wp2
    go_ret
    exact ⟨ret_b HS.out.symm, Below.refl _ w⟩
theorem impl_same (A1 A2 : Option Addr) (n m c1 c2 : Nat) (us vs : List Int) (w : World) (hn : us.length = n) (hm : vs.length = m) (hn2 : n ≤ 9223372036854775807) (hm2 : m ≤ 9223372036854775807) (h1 : IntsAt w w.heap.size .i64 A1 us) (h2 : IntsAt w w.heap.size .i64 A2 vs) :
    Calls Try.prog 52 #[.slice A1 n c1, .slice A2 m c2] w fun e w' => e = .returned (.bool (sameB us vs)) ∧ Below w.heap.size w w' := by
  have HN := Lib.hid hn
  have HM := Lib.hid hm
  clear hn hm
  go_enter Try.func52, Try.ntmps52
  go_wp2_with fail
  refine (equal_any A1 A2 n m c1 c2 us vs _ HN.out HM.out hn2 hm2 h1 h2).mono ?_
  rintro e w1 ⟨rfl, hb⟩
  go_wp2
  go_ret
  exact ⟨rfl, hb⟩
set_option maxHeartbeats 1000000 in
theorem spec_same (A1 A2 : Option Addr) (n m c1 c2 : Nat) (us vs : List Int) (w : World) (hn : us.length = n) (hm : vs.length = m) (hn2 : n ≤ 9223372036854775807) (hm2 : m ≤ 9223372036854775807) (h1 : IntsAt w w.heap.size .i64 A1 us) (h2 : IntsAt w w.heap.size .i64 A2 vs) :
    Calls Try.prog 64 #[.slice A1 n c1, .slice A2 m c2] w fun e w' => e = .returned (.bool (sameB us vs)) ∧ w = w' := by
  by_cases hnm : n = m
  · subst hnm
    have HN := Lib.hid hn
    have HM := Lib.hid hm
    clear hn hm
    go_enter Try.func64, Try.ntmps64
    go_wp2
    go_loop [5, 6, 14] (fun _ _ i => ∃ k : Nat, k ≤ n ∧ i = .int .i64 k ∧ Hid (∀ i, i < k → us.getD i 0 = vs.getD i 0)) (fun _ _ i => n - (intOf i).toNat)
    case atStart => exact ⟨0, Nat.zero_le _, rfl, (fun i hi => absurd hi (Nat.not_lt_zero _))⟩
    case round =>
      obtain ⟨k, hk, rfl, HE⟩ := hrel
      by_cases hlt : k < n
      · obtain ⟨b1, o1, rfl, hbb1, hc1⟩ := h1 k (by rw [HN.out]; exact hlt)
        obtain ⟨b2, o2, rfl, hbb2, hc2⟩ := h2 k (by rw [HM.out]; exact hlt)
        have hno := same_not us vs k
        have hst : us.getD k 0 = vs.getD k 0 → ∀ i, i < k + 1 → us.getD i 0 = vs.getD i 0 := by
          intro e i hi
          by_cases hik : i = k
          · rw [hik]; exact e
          · exact HE.out i (by omega)
        generalize us.getD k 0 = x at hc1 hno hst
        generalize vs.getD k 0 = y at hc2 hno hst
        by_cases hxy : x = y
        · have HS := Lib.hid (hst hxy)
          have hb : (x == y) = true := by simpa using hxy
          clear hst hno HE hxy
          go_wp2
          go_round
          case rel => exact ⟨k + 1, by omega, by go_num, HS.out⟩
          case measure => simp [intOf]; omega
        · have HS := Lib.hid (show sameB us vs = false from decide_eq_false (hno hxy))
          have hb : (x == y) = false := by simpa using hxy
          clear hst hno HE hxy
          go_wp2
          go_ret
          exact ⟨ret_b HS.out.symm, rfl⟩
      · have hkn : k = n := by omega
        have hall := HE.out
        rw [hkn] at hall
        have HS := Lib.hid (show sameB us vs = true from decide_eq_true (same_all us vs (by rw [HN.out, HM.out]) (by rw [HN.out]; exact hall)))
        clear hall HE hkn
        go_wp2
        go_ret
        exact ⟨ret_b HS.out.symm, rfl⟩
  · have HS := Lib.hid (show sameB us vs = false from decide_eq_false (fun e => hnm (by rw [← hn, ← hm, e])))
    have hb : ((n : Int) == (m : Int)) = false := by simpa using (fun e => hnm (by omega))
    clear hn hm hnm
    go_enter Try.func64, Try.ntmps64
    go_wp2
    go_ret
    exact ⟨ret_b HS.out.symm, rfl⟩

end Go.Proofs.Ytibephoepkofnaa.Sam
