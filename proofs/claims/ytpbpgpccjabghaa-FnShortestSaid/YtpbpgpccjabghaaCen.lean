/- IsCentral of the program and of the model. -/
import Derived.Test.YtpbpgpccjabghaaPerm
set_option linter.unusedVariables false
set_option maxRecDepth 20000
namespace Go.Proofs.Ytpbpgpccjabghaa.Cen
open Go.RowKit Fr Own Pk Ins Pok Prm

def cenAt (zs : List Int) (i : Nat) : Bool := decide (zs.getD i 0 + zs.getD (zs.length - 1 - i) 0 = (zs.length : Int) - 1)
/-- is the list a permutation in which opposite places add up to its length less one? -/
def cenB (zs : List Int) : Bool := permB zs && (List.range zs.length).all (cenAt zs)
theorem cen_no {zs : List Int} (h : permB zs = false) : cenB zs = false := by unfold cenB; rw [h]; rfl
theorem cen_bad {zs : List Int} (k : Nat) (hk : k < zs.length) (h : cenAt zs k = false) : cenB zs = false := by
  unfold cenB
  rw [Bool.and_eq_false_iff]
  refine Or.inr (Bool.eq_false_iff.2 fun hall => ?_)
  have := List.all_eq_true.1 hall k (List.mem_range.2 hk)
  rw [h] at this
  cases this
theorem cen_all {zs : List Int} (hp : permB zs = true) (h2 : ∀ k, k < zs.length → cenAt zs k = true) : cenB zs = true := by
  unfold cenB
  rw [hp, Bool.true_and]
  exact List.all_eq_true.2 fun k hk => h2 k (List.mem_range.1 hk)
theorem perm_in {zs : List Int} (hp : permB zs = true) : zs.length ≤ 12 ∧ ∀ i, i < zs.length → 0 ≤ zs.getD i 0 ∧ zs.getD i 0 < 12 := by
  obtain ⟨h1, h2⟩ := permB_yes hp
  exact ⟨h1, fun i hi => ⟨((h2 i hi).1).1, by have := ((h2 i hi).1).2; omega⟩⟩
set_option maxHeartbeats 1000000 in
theorem impl_cen (A : Option Addr) (n c : Nat) (zs : List Int) (w : World) (hn : zs.length = n) (hn2 : n ≤ 9223372036854775807) (hz : Fits zs) (hss : IntsAt w w.heap.size .i64 A zs) :
    Calls Try.prog 19 #[.slice A n c] w fun e w' => e = .returned (.bool (cenB zs)) ∧ Below w.heap.size w w' := by
  have HN := Lib.hid hn
  have HP := Lib.hid (Prm.impl_perm A n c zs w hn hn2 hz hss)
  clear hn
  cases hp : permB zs with
  | false =>
    have HS := Lib.hid (cen_no hp)
    go_enter Try.func19, Try.ntmps19
    go_wp2_with fail
    refine HP.out.mono ?_
    rintro e w1 ⟨rfl, HB1⟩
    rw [hp]
    have HBB := Lib.hid HB1
    clear hp HB1
    go_wp2
    go_ret
    exact ⟨ret_b HS.out.symm, HBB.out⟩
  | true =>
    have HPI := Lib.hid (perm_in hp)
    have HPP := Lib.hid hp
    clear hp
    have h12 : n ≤ 12 := by rw [← HN.out]; exact HPI.out.1
    have hw1 : IntKind.i64.wrap ((n : Int) - 1) = (n : Int) - 1 := IntWalk.i64_in _ (by omega)
    go_enter Try.func19, Try.ntmps19
    go_wp2_with fail
    refine HP.out.mono ?_
    rintro e w1 ⟨rfl, HB1⟩
    rw [HPP.out]
    have HBB := Lib.hid HB1
    have hss' := Ins.at_below hss HB1 (Nat.le_refl _)
    have hsz := HB1.size
    clear HB1
    go_wp2
    go_loop [4, 5, 14] (fun _ _ i => ∃ k : Nat, k ≤ n ∧ i = .int .i64 k ∧ Hid (∀ i, i < k → cenAt zs i = true)) (fun _ _ i => n - (intOf i).toNat)
    case atStart => exact ⟨0, Nat.zero_le _, rfl, (fun i hi => absurd hi (Nat.not_lt_zero _))⟩
    case round =>
      obtain ⟨k, hk, rfl, HG⟩ := hrel
      by_cases hlt : k < n
      · have hm1 : n - 1 - k < n := by omega
        have em1 : ((n - 1 - k : Nat) : Int) = (n : Int) - 1 - k := by omega
        have hw2 : IntKind.i64.wrap ((n : Int) - 1 - k) = (n : Int) - 1 - k := IntWalk.i64_in _ (by omega)
        obtain ⟨b, o, rfl, hbb, hc⟩ := hss' k (by rw [HN.out]; exact hlt)
        obtain ⟨b2, o2, hA2, hbb2, hc2⟩ := hss' (n - 1 - k) (by rw [HN.out]; exact hm1)
        injection hA2 with hA2
        injection hA2 with hA2b hA2o
        subst hA2b hA2o
        obtain ⟨hx1, hx2⟩ := HPI.out.2 k (by rw [HN.out]; exact hlt)
        obtain ⟨hy1, hy2⟩ := HPI.out.2 (n - 1 - k) (by rw [HN.out]; exact hm1)
        have hlt' : k < zs.length := by rw [HN.out]; exact hlt
        have hbad : cenAt zs k = false → cenB zs = false := cen_bad k hlt'
        have hAt : cenAt zs k = decide (zs.getD k 0 + zs.getD (n - 1 - k) 0 = (n : Int) - 1) := by unfold cenAt; rw [HN.out]
        generalize zs.getD k 0 = x at *
        generalize zs.getD (n - 1 - k) 0 = y at *
        obtain ⟨j, hj⟩ : ∃ j, j = n - 1 - k := ⟨_, rfl⟩
        rw [← hj] at hc2 em1 hm1
        have hw3 : IntKind.i64.wrap (x + y) = x + y := IntWalk.i64_in _ (by omega)
        have hj2 : (n : Int) - 1 - k = (j : Int) := em1.symm
        rw [hj2] at hw2
        clear em1 hj
        by_cases he : x + y = (n : Int) - 1
        · have HS := Lib.hid (hAt.trans (decide_eq_true he))
          have he' : (x + y != (n : Int) - 1) = false := by simp [he]
          have HG2 := Lib.hid (fun i (hi : i < k + 1) => (by by_cases e : i = k; (· rw [e]; exact HS.out); (· exact HG.out i (by omega)) : cenAt zs i = true))
          clear he hbad hAt HG HS hlt'
          go_wp2
          go_round
          case rel => exact ⟨k + 1, by omega, by go_num, HG2.out⟩
          case measure => simp [intOf]; omega
        · have HS := Lib.hid (hbad (hAt.trans (decide_eq_false he)))
          have he' : (x + y != (n : Int) - 1) = true := by simpa using he
          clear he hbad hAt HG hlt'
          go_wp2
          go_ret
          exact ⟨ret_b HS.out.symm, HBB.out⟩
      · have hkn : k = n := by omega
        have HS := Lib.hid (cen_all HPP.out (fun i hi => HG.out i (by rw [hkn, ← HN.out]; exact hi)))
        clear HG hkn
        go_wp2
        go_ret
        exact ⟨ret_b HS.out.symm, HBB.out⟩
set_option maxHeartbeats 1000000 in
theorem spec_cen (A : Option Addr) (n c : Nat) (zs : List Int) (w : World) (hn : zs.length = n) (hnc : n ≤ c) (hn2 : n ≤ 9223372036854775807) (hz : Fits zs) (hss : IntsAt w w.heap.size .i64 A zs) :
    Calls Try.prog 37 #[.slice A n c] w fun e w' => e = .returned (.bool (cenB zs)) ∧ w = w' := by
  have HN := Lib.hid hn
  have HP := Lib.hid (Prm.spec_perm A n c zs w hn hnc hn2 hz hss)
  clear hn
  cases hp : permB zs with
  | false =>
    have HS := Lib.hid (cen_no hp)
    go_enter Try.func37, Try.ntmps37
    go_wp2_with fail
    refine HP.out.mono ?_
    rintro e w1 ⟨rfl, rfl⟩
    rw [hp]
    clear hp
    go_wp2
    go_ret
    exact ⟨ret_b HS.out.symm, rfl⟩
  | true =>
    have HPI := Lib.hid (perm_in hp)
    have HPP := Lib.hid hp
    clear hp
    have h12 : n ≤ 12 := by rw [← HN.out]; exact HPI.out.1
    have hw1 : IntKind.i64.wrap ((n : Int) - 1) = (n : Int) - 1 := IntWalk.i64_in _ (by omega)
    go_enter Try.func37, Try.ntmps37
    go_wp2_with fail
    refine HP.out.mono ?_
    rintro e w1 ⟨rfl, rfl⟩
    rw [HPP.out]
    have hss' := hss
    go_wp2
    go_loop [3, 4, 10] (fun _ _ i => ∃ k : Nat, k ≤ n ∧ i = .int .i64 k ∧ Hid (∀ i, i < k → cenAt zs i = true)) (fun _ _ i => n - (intOf i).toNat)
    case atStart => exact ⟨0, Nat.zero_le _, rfl, (fun i hi => absurd hi (Nat.not_lt_zero _))⟩
    case round =>
      obtain ⟨k, hk, rfl, HG⟩ := hrel
      by_cases hlt : k < n
      · have hm1 : n - 1 - k < n := by omega
        have em1 : ((n - 1 - k : Nat) : Int) = (n : Int) - 1 - k := by omega
        have hw2 : IntKind.i64.wrap ((n : Int) - 1 - k) = (n : Int) - 1 - k := IntWalk.i64_in _ (by omega)
        obtain ⟨b, o, rfl, hbb, hc⟩ := hss' k (by rw [HN.out]; exact hlt)
        obtain ⟨b2, o2, hA2, hbb2, hc2⟩ := hss' (n - 1 - k) (by rw [HN.out]; exact hm1)
        injection hA2 with hA2
        injection hA2 with hA2b hA2o
        subst hA2b hA2o
        obtain ⟨hx1, hx2⟩ := HPI.out.2 k (by rw [HN.out]; exact hlt)
        obtain ⟨hy1, hy2⟩ := HPI.out.2 (n - 1 - k) (by rw [HN.out]; exact hm1)
        have hlt' : k < zs.length := by rw [HN.out]; exact hlt
        have hbad : cenAt zs k = false → cenB zs = false := cen_bad k hlt'
        have hAt : cenAt zs k = decide (zs.getD k 0 + zs.getD (n - 1 - k) 0 = (n : Int) - 1) := by unfold cenAt; rw [HN.out]
        generalize zs.getD k 0 = x at *
        generalize zs.getD (n - 1 - k) 0 = y at *
        obtain ⟨j, hj⟩ : ∃ j, j = n - 1 - k := ⟨_, rfl⟩
        rw [← hj] at hc2 em1 hm1
        have hw3 : IntKind.i64.wrap (x + y) = x + y := IntWalk.i64_in _ (by omega)
        have hj2 : (n : Int) - 1 - k = (j : Int) := em1.symm
        rw [hj2] at hw2
        clear em1 hj
        by_cases he : x + y = (n : Int) - 1
        · have HS := Lib.hid (hAt.trans (decide_eq_true he))
          have he' : (x + y != (n : Int) - 1) = false := by simp [he]
          have HG2 := Lib.hid (fun i (hi : i < k + 1) => (by by_cases e : i = k; (· rw [e]; exact HS.out); (· exact HG.out i (by omega)) : cenAt zs i = true))
          clear he hbad hAt HG HS hlt'
          go_wp2
          go_round
          case rel => exact ⟨k + 1, by omega, by go_num, HG2.out⟩
          case measure => simp [intOf]; omega
        · have HS := Lib.hid (hbad (hAt.trans (decide_eq_false he)))
          have he' : (x + y != (n : Int) - 1) = true := by simpa using he
          clear he hbad hAt HG hlt'
          go_wp2
          go_ret
          exact ⟨ret_b HS.out.symm, rfl⟩
      · have hkn : k = n := by omega
        have HS := Lib.hid (cen_all HPP.out (fun i hi => HG.out i (by rw [hkn, ← HN.out]; exact hi)))
        clear HG hkn
        go_wp2
        go_ret
        exact ⟨ret_b HS.out.symm, rfl⟩
end Go.Proofs.Ytpbpgpccjabghaa.Cen
