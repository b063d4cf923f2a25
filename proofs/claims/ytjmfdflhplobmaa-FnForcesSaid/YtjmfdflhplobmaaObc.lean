/- Different objects, one of them wanted: isChoiceOf of the program, l13Objects of the model. -/
import Derived.Test.YtjmfdflhplobmaaPok
import Derived.Test.YtjmfdflhplobmaaShelf
import Derived.Test.YtjmfdflhplobmaaNod
set_option linter.unusedVariables false
set_option maxRecDepth 20000
namespace Go.Proofs.Ytjmfdflhplobmaa.Obc
open Go.RowKit Fr _root_.Go.Proofs.Ytjmfdflhplobmaa.Own Pk Ins Rws Nod Pok

def okAt (zs : List Int) (i : Nat) : Bool := decide (0 ≤ zs.getD i 0 ∧ zs.getD i 0 ≤ 99) && !decide (zs.getD i 0 ∈ zs.take i)
def okTo (zs : List Int) (k : Nat) : Bool := (List.range k).all fun i => okAt zs i
/-- n different objects, x among them -/
def chB (zs : List Int) (n : Nat) (x : Int) : Bool := decide (zs.length = n) && decide (x ∈ zs) && okTo zs zs.length
theorem okTo_next (zs : List Int) (k : Nat) : okTo zs (k + 1) = (okTo zs k && okAt zs k) := by unfold okTo; rw [List.range_succ]; simp
theorem okTo_less {zs : List Int} {k n : Nat} (h : okTo zs n = true) (hk : k ≤ n) : okTo zs k = true := by
  unfold okTo at *
  rw [List.all_eq_true] at *
  intro i hi
  exact h i (List.mem_range.2 (by have := List.mem_range.1 hi; omega))
theorem ch_bad {zs : List Int} {n : Nat} {x : Int} {k : Nat} (hk : k < zs.length) (h : okAt zs k = false) : chB zs n x = false := by
  unfold chB
  have : okTo zs zs.length = false := by
    rw [Bool.eq_false_iff]
    intro h2
    have h3 := okTo_less h2 (show k + 1 ≤ zs.length by omega)
    rw [okTo_next, h, Bool.and_false] at h3
    cases h3
  rw [this, Bool.and_false]
theorem ch_in {zs : List Int} {n : Nat} {x : Int} (h : chB zs n x = true) : zs.length = n ∧ 0 ≤ x ∧ x ≤ 99 := by
  unfold chB at h
  simp only [Bool.and_eq_true, decide_eq_true_eq] at h
  refine ⟨h.1.1, ?_⟩
  obtain ⟨i, hi, rfl⟩ := List.getElem_of_mem h.1.2
  have := okTo_less h.2 (show i + 1 ≤ zs.length by omega)
  rw [okTo_next] at this
  unfold okAt at this
  simp only [Bool.and_eq_true, decide_eq_true_eq, List.getD_eq_getElem?_getD, List.getElem?_eq_getElem hi, Option.getD_some] at this
  exact this.2.1
theorem at_take {w : World} {B b o : Nat} {zs : List Int} (h : IntsAt w B .i64 (some ⟨b, o, none⟩) zs) (i : Nat) : IntsAt w B .i64 (some ⟨b, o, none⟩) (zs.take i) := by
  intro j hj
  rw [List.length_take] at hj
  obtain ⟨b2, o2, e, hlt, hc⟩ := h j (by omega)
  refine ⟨b2, o2, e, hlt, ?_⟩
  rw [hc, List.getD_eq_getElem?_getD, List.getD_eq_getElem?_getD, List.getElem?_take_of_lt (by omega)]
theorem has2 (A : Option Addr) (n c : Nat) (zs : List Int) (x : Int) (w : World) (hn : zs.length = n) (hn2 : n ≤ 9223372036854775807) (hss : IntsAt w w.heap.size .i64 A zs) :
    Calls Try.prog 75 #[.slice A n c, .int .i64 x] w fun e w' => e = .returned (.bool (decide (x ∈ zs))) ∧ w = w' := by
  rw [show decide (x ∈ zs) = zs.contains x by simp]
  by_cases h0 : n = 0
  · subst h0
    obtain rfl : zs = [] := List.length_eq_zero_iff.1 hn
    exact (Try.slices_Contains_int_empty A c x w).mono fun e w' h => ⟨h.1, h.2.symm⟩
  · obtain ⟨b, o, rfl, hbb, hc0⟩ := hss 0 (by omega)
    refine (Try.slices_Contains_int b o n c zs x w (by omega) hn2 (fun j hj => ?_)).mono ?_
    · obtain ⟨b1, o1, e, _, hc⟩ := hss j hj
      simp only [Option.some.injEq, Addr.mk.injEq, and_true] at e
      obtain ⟨rfl, rfl⟩ := e
      exact hc
    · rintro e w' ⟨rfl, rfl⟩
      rw [List.take_of_length_le (by omega)]
      exact ⟨rfl, rfl⟩
set_option maxHeartbeats 1000000 in
theorem impl_ch (A : Option Addr) (n c m : Nat) (zs : List Int) (x : Int) (w : World) (hn : zs.length = n) (hnc : n ≤ c) (hn2 : n ≤ 1048576) (hm : m ≤ 99) (hz : Fits zs) (hss : IntsAt w w.heap.size .i64 A zs) :
    Calls Try.prog 53 #[.int .i64 (m : Int), .slice A n c, .int .i64 x] w fun e w' => e = .returned (.bool (chB zs m x)) ∧ w = w' := by
  have HN := Lib.hid hn
  have HZ := Lib.hid hz
  have HSS := Lib.hid hss
  obtain ⟨R, hR⟩ : ∃ R, R = chB zs m x := ⟨_, rfl⟩
  rw [← hR]
  have HR := Lib.hid hR
  clear hn hz hss hR
  by_cases h : n = m
  · have h1 : ((n : Int) != (m : Int)) = false := by rw [h]; simp
    have HM := Lib.hid h
    have HX := Lib.hid (has2 A n c zs x w HN.out (by omega) HSS.out)
    clear h
    go_enter Try.func53, Try.ntmps53
    go_wp2
    go_loop [7, 8, 15] (fun _ _ i => ∃ k : Nat, k ≤ n ∧ i = .int .i64 k ∧ Hid (okTo zs k = true)) (fun _ _ i => n - (intOf i).toNat)
    case atStart => exact ⟨0, Nat.zero_le _, rfl, (show okTo zs 0 = true from rfl)⟩
    case round =>
      obtain ⟨k, hk, rfl, HK⟩ := hrel
      by_cases hlt : k < n
      · obtain ⟨b, o, rfl, hbb, hc⟩ := HSS.out k (by rw [HN.out]; exact hlt)
        obtain ⟨hx1, hx2⟩ := HZ.out k (by rw [HN.out]; exact hlt)
        have HBAD := Lib.hid (fun h => (show R = false by rw [HR.out]; exact ch_bad (zs := zs) (n := m) (x := x) (k := k) (by rw [HN.out]; exact hlt) h))
        have HNX := Lib.hid (okTo_next zs k)
        have HT := Lib.hid (at_take HSS.out k)
        have HTL := Lib.hid (show (zs.take k).length = k by rw [List.length_take, HN.out]; omega)
        have HOA := Lib.hid (show okAt zs k = (decide (0 ≤ zs.getD k 0 ∧ zs.getD k 0 ≤ 99) && !decide (zs.getD k 0 ∈ zs.take k)) from rfl)
        generalize zs.getD k 0 = y at *
        have hkc : (k : Int) ≤ (c : Int) := by omega
        have hkc2 : k ≤ c := by omega
        by_cases hy0 : y < 0
        · have HF := Lib.hid (HBAD.out (by rw [HOA.out, decide_eq_false (by omega)]; rfl))
          go_wp2
          go_ret
          exact ⟨by rw [HF.out]; rfl, rfl⟩
        · have hy0' : decide (y < 0) = false := decide_eq_false hy0
          by_cases hy9 : 99 < y
          · have HF := Lib.hid (HBAD.out (by rw [HOA.out, decide_eq_false (by omega)]; rfl))
            go_wp2
            go_ret
            exact ⟨by rw [HF.out]; rfl, rfl⟩
          · have hy9' : decide (99 < y) = false := decide_eq_false hy9
            cases hm : decide (y ∈ zs.take k) with
            | true =>
              have HF := Lib.hid (HBAD.out (by rw [HOA.out, hm]; simp))
              have C := Lib.hid (has2 (some ⟨b, o, none⟩) k c (zs.take k) y w HTL.out (by omega) HT.out)
              rw [hm] at C
              clear hm
              go_wp2_with fail
              refine C.out.mono ?_
              rintro e w' ⟨rfl, rfl⟩
              go_wp2
              go_ret
              exact ⟨by rw [HF.out]; rfl, rfl⟩
            | false =>
              have HF := Lib.hid (show okTo zs (k + 1) = true by rw [HNX.out, HK.out, HOA.out, hm, decide_eq_true (by omega)]; rfl)
              have C := Lib.hid (has2 (some ⟨b, o, none⟩) k c (zs.take k) y w HTL.out (by omega) HT.out)
              rw [hm] at C
              clear hm
              go_wp2_with fail
              refine C.out.mono ?_
              rintro e w' ⟨rfl, rfl⟩
              go_wp2
              go_round
              case rel => exact ⟨k + 1, by omega, by go_num, HF⟩
              case measure => simp [intOf]; omega
      · have hkn : k = n := by omega
        have HE := Lib.hid (show R = decide (x ∈ zs) by
          rw [HR.out]
          unfold chB
          rw [HN.out, ← hkn, HK.out, hkn, decide_eq_true HM.out]
          simp)
        clear hkn
        go_wp2_with fail
        refine HX.out.mono ?_
        rintro e w' ⟨rfl, rfl⟩
        go_wp2
        go_ret
        exact ⟨by rw [HE.out]; rfl, rfl⟩
  · have h1 : ((n : Int) != (m : Int)) = true := by
      simp only [bne_iff_ne, ne_eq]
      omega
    have HF := Lib.hid (show R = false by rw [HR.out]; unfold chB; rw [HN.out, decide_eq_false h]; rfl)
    clear h
    go_enter Try.func53, Try.ntmps53
    go_wp2
    go_ret
    exact ⟨by rw [HF.out]; rfl, rfl⟩
set_option maxHeartbeats 1000000 in
theorem spec_ch (A : Option Addr) (n c m : Nat) (zs : List Int) (x : Int) (w : World) (hn : zs.length = n) (hnc : n ≤ c) (hn2 : n ≤ 1048576) (hm : m ≤ 99) (hz : Fits zs) (hss : IntsAt w w.heap.size .i64 A zs) :
    Calls Try.prog 64 #[.slice A n c, .int .i64 (m : Int), .int .i64 x] w fun e w' => e = .returned (.bool (chB zs m x)) ∧ w = w' := by
  have HN := Lib.hid hn
  have HZ := Lib.hid hz
  have HSS := Lib.hid hss
  obtain ⟨R, hR⟩ : ∃ R, R = chB zs m x := ⟨_, rfl⟩
  rw [← hR]
  have HR := Lib.hid hR
  clear hn hz hss hR
  by_cases h : n = m
  · have h1 : ((n : Int) != (m : Int)) = false := by rw [h]; simp
    have HM := Lib.hid h
    have HX := Lib.hid (has_any A n c zs x w HN.out (by omega) HSS.out)
    clear h
    unfold hasB at HX
    cases hin : decide (x ∈ zs) with
    | false =>
      have HF := Lib.hid (show R = false by rw [HR.out]; unfold chB; rw [hin]; simp)
      rw [hin] at HX
      clear hin
      go_enter Try.func64, Try.ntmps64
      go_wp2_with fail
      refine HX.out.mono ?_
      rintro e w' ⟨rfl, rfl⟩
      go_wp2
      go_ret
      exact ⟨by rw [HF.out]; rfl, rfl⟩
    | true =>
      rw [hin] at HX
      have HIN := Lib.hid hin
      clear hin
      go_enter Try.func64, Try.ntmps64
      go_wp2_with fail
      refine HX.out.mono ?_
      rintro e w' ⟨rfl, rfl⟩
      go_wp2
      go_loop [7, 8, 21] (fun _ _ i => ∃ k : Nat, k ≤ n ∧ i = .int .i64 k ∧ Hid (okTo zs k = true)) (fun _ _ i => n - (intOf i).toNat)
      case atStart => exact ⟨0, Nat.zero_le _, rfl, (show okTo zs 0 = true from rfl)⟩
      case round =>
        obtain ⟨k, hk, rfl, HK⟩ := hrel
        by_cases hlt : k < n
        · obtain ⟨b, o, rfl, hbb, hc⟩ := HSS.out k (by rw [HN.out]; exact hlt)
          have HBAD := Lib.hid (fun h => (show R = false by rw [HR.out]; exact ch_bad (zs := zs) (n := m) (x := x) (k := k) (by rw [HN.out]; exact hlt) h))
          have HNX := Lib.hid (okTo_next zs k)
          have HT := Lib.hid (at_take HSS.out k)
          have HTL := Lib.hid (show (zs.take k).length = k by rw [List.length_take, HN.out]; omega)
          have HOA := Lib.hid (show okAt zs k = (decide (0 ≤ zs.getD k 0 ∧ zs.getD k 0 ≤ 99) && !decide (zs.getD k 0 ∈ zs.take k)) from rfl)
          generalize zs.getD k 0 = y at *
          have hkc : (k : Int) ≤ (c : Int) := by omega
          have hkc2 : k ≤ c := by omega
          have HI := Lib.hid (in_any y 0 99 w)
          cases hy : decide (0 ≤ y ∧ y ≤ 99) with
          | false =>
            have HF := Lib.hid (HBAD.out (by rw [HOA.out, hy]; rfl))
            rw [hy] at HI
            clear hy
            go_wp2_with fail
            refine HI.out.mono ?_
            rintro e w' ⟨rfl, rfl⟩
            go_wp2
            go_ret
            exact ⟨by rw [HF.out]; rfl, rfl⟩
          | true =>
            rw [hy] at HI
            have HY := Lib.hid hy
            clear hy
            cases hm : decide (y ∈ zs.take k) with
            | true =>
              have HF := Lib.hid (HBAD.out (by rw [HOA.out, hm]; simp))
              have C := Lib.hid (has_any (some ⟨b, o, none⟩) k c (zs.take k) y w HTL.out (by omega) HT.out)
              unfold hasB at C
              rw [hm] at C
              clear hm
              go_wp2_with fail
              refine HI.out.mono ?_
              rintro e w' ⟨rfl, rfl⟩
              go_wp2_with fail
              refine C.out.mono ?_
              rintro e w' ⟨rfl, rfl⟩
              go_wp2
              go_ret
              exact ⟨by rw [HF.out]; rfl, rfl⟩
            | false =>
              have HF := Lib.hid (show okTo zs (k + 1) = true by rw [HNX.out, HK.out, HOA.out, hm, HY.out]; rfl)
              have C := Lib.hid (has_any (some ⟨b, o, none⟩) k c (zs.take k) y w HTL.out (by omega) HT.out)
              unfold hasB at C
              rw [hm] at C
              clear hm
              go_wp2_with fail
              refine HI.out.mono ?_
              rintro e w' ⟨rfl, rfl⟩
              go_wp2_with fail
              refine C.out.mono ?_
              rintro e w' ⟨rfl, rfl⟩
              go_wp2
              go_round
              case rel => exact ⟨k + 1, by omega, by go_num, HF⟩
              case measure => simp [intOf]; omega
        · have hkn : k = n := by omega
          have HE := Lib.hid (show R = true by
            rw [HR.out]
            unfold chB
            rw [HN.out, ← hkn, HK.out, hkn, decide_eq_true HM.out, HIN.out]
            simp)
          clear hkn
          go_wp2
          go_ret
          exact ⟨by rw [HE.out]; rfl, rfl⟩
  · have h1 : ((n : Int) != (m : Int)) = true := by
      simp only [bne_iff_ne, ne_eq]
      omega
    have HF := Lib.hid (show R = false by rw [HR.out]; unfold chB; rw [HN.out, decide_eq_false h]; rfl)
    clear h
    go_enter Try.func64, Try.ntmps64
    go_wp2
    go_ret
    exact ⟨by rw [HF.out]; rfl, rfl⟩
end Go.Proofs.Ytjmfdflhplobmaa.Obc
