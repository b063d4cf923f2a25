/- The program's StackOk, WindowAt, FindWindow, CutStack. -/
import Derived.Test.YtkonakfbidnfhaaSki
import Derived.Deep.RegionHeld3
set_option linter.unusedVariables false
set_option maxRecDepth 20000
namespace Go.Proofs.Ytkonakfbidnfhaa.Skj
open Go.RowKit Go.Maps Fr _root_.Go.Proofs.Ytkonakfbidnfhaa.Own Pk Ins Pfn Rws Lb Map Cat Cut Stk Skp Sks Skw Skv Ski

theorem box1 (w : World) (x y : Value) : ∃ W, W = w.alloc (.cells #[x, y] 25) ∧ W.cell? ⟨w.heap.size, 0, none⟩ = some x ∧ W.cell? ⟨w.heap.size, 1, none⟩ = some y ∧ Below w.heap.size w W ∧ w.heap.size < W.heap.size := by
  obtain ⟨ba, bb⟩ := cell2 (heap_alloc_new w (.cells #[x, y] 25))
  exact ⟨_, rfl, ba, bb, box_below w _, by simp⟩
set_option maxHeartbeats 1000000 in
theorem impl_ok (A : Option Addr) (n c : Nat) (zs : List Int) (m : Int) (w : World) (hn : zs.length = n) (hnc : n ≤ c) (hn2 : n ≤ 1048576) (hz : Fits zs) (hss : IntsAt w w.heap.size .i64 A zs) :
    Calls Try.prog 16 #[stV A n c m] w fun e w' => e = .returned (.bool (stkB zs m)) ∧ Below w.heap.size w w' := by
  obtain ⟨W, hW, ba, bb, hb0, hS⟩ := box1 w (.slice A n c) (.int .i64 m)
  have HC := Lib.hid (impl_wins A n c zs m W hn hnc hn2 hz ((hss.below hb0).more hb0.size))
  have HB0 := Lib.hid hb0
  have HL := Lib.hid (winsB_len (zs := zs) (m := m))
  have HP := Lib.hid (show stkB zs m = true → 0 < n from fun h => by obtain ⟨p1, p2, p3, _⟩ := stk_parts h; omega)
  rw [hn] at HL
  clear hss hb0 hn hz
  go_enter Try.func16, Try.ntmps16
  go_wp2_with fail
  rw [← hW]
  clear hW
  refine HC.out.mono ?_
  rintro e w2 ⟨rfl, hm, hb⟩
  have hlen := hm.size Try.underlying58
  rw [kvW_len, HL.out] at hlen
  have HB2 := Lib.hid (HB0.out.trans (hb.mono HB0.out.size))
  clear hb hm HC HL
  cases hk : stkB zs m with
  | true =>
    rw [hk, if_pos rfl] at hlen
    have h0 := HP.out hk
    have hd : decide ((0 : Int) < (n : Int)) = true := decide_eq_true (by omega)
    have HK := Lib.hid hk
    clear hk
    go_wp2
    go_ret
    exact ⟨congrArg (fun z => Ending.returned (.bool z)) HK.out.symm, HB2.out⟩
  | false =>
    rw [hk, if_neg (by simp)] at hlen
    have HK := Lib.hid hk
    clear hk
    go_wp2
    go_ret
    exact ⟨congrArg (fun z => Ending.returned (.bool z)) HK.out.symm, HB2.out⟩
set_option maxHeartbeats 2000000 in
theorem impl_win (A : Option Addr) (n c : Nat) (zs : List Int) (m a : Int) (w : World) (hn : zs.length = n) (hnc : n ≤ c) (hn2 : n ≤ 1048576) (hz : Fits zs) (hss : IntsAt w w.heap.size .i64 A zs) (h1 : -9223372036854775808 ≤ a) (h2 : a ≤ 9223372036854775807) :
    Calls Try.prog 14 #[stV A n c m, .int .i64 a] w (IsLB w.heap.size (winA zs m a) (winB zs m a) w) := by
  obtain ⟨W, hW, ba, bb, hb0, hS⟩ := box1 w (.slice A n c) (.int .i64 m)
  have HOK := Lib.hid (impl_ok A n c zs m W hn hnc hn2 hz ((hss.below hb0).more hb0.size))
  have HB0 := Lib.hid hb0
  have hs0 := hS
  have HS := Lib.hid hss
  have HN := Lib.hid hn
  clear hss hb0
  cases hk : stkB zs m with
  | false =>
    have hw := win_no1 (a := a) hk
    rw [winA_no hw, hw]
    rw [hk] at HOK
    clear hk hw hn hz
    go_enter Try.func14, Try.ntmps14
    go_wp2_with fail
    rw [← hW]
    clear hW
    refine HOK.out.mono ?_
    rintro e w2 ⟨rfl, hb⟩
    have HB2 := Lib.hid (HB0.out.trans (hb.mono HB0.out.size))
    clear hb ba bb
    go_wp2
    go_ret2
    exact ⟨none, 0, rfl, World.ownsRow_nil _ _ _ _, HB2.out⟩
  | true =>
    obtain ⟨p1, p2, p3, p4, _, _⟩ := stk_parts hk
    rw [hn] at p3 p4
    rw [hk] at HOK
    by_cases ha0 : 0 ≤ a
    · have hd1 : decide (a < 0) = false := decide_eq_false (by omega)
      by_cases ha1 : a < (n : Int)
      · have hd2 : decide ((n : Int) ≤ a) = false := decide_eq_false (by omega)
        have hw := win_yes hk (show 0 ≤ a ∧ a ≤ (zs.length : Int) - 1 by rw [hn]; omega)
        rw [winA_yes hw, hw]
        obtain ⟨aa, rfl⟩ : ∃ aa : Nat, a = (aa : Int) := ⟨a.toNat, by omega⟩
        obtain ⟨mm, rfl⟩ : ∃ mm : Nat, m = (mm : Int) := ⟨m.toNat, by omega⟩
        have hd3 : decide (n ≤ aa) = false := decide_eq_false (by omega)
        have hq : mm ≤ 6 ∧ 1 ≤ mm ∧ mm ≤ n ∧ aa < n ∧ n ≤ 64 := by omega
        clear hk hw hn hz p1 p2 p3 p4 ha0 ha1
        go_enter Try.func14, Try.ntmps14
        go_wp2_with fail
        rw [← hW]
        clear hW
        refine HOK.out.mono ?_
        rintro e w2 ⟨rfl, hb⟩
        have HB2 := Lib.hid (HB0.out.trans (hb.mono HB0.out.size))
        have ba2 := (hb.cell (p := ⟨w.heap.size, 0, none⟩) hs0).trans ba
        have bb2 := (hb.cell (p := ⟨w.heap.size, 1, none⟩) hs0).trans bb
        clear hb ba bb
        go_wp2_with fail
        refine (impl_from A n c mm aa zs _ HN.out (by omega) (by omega) hnc (by omega) (by omega) ((HS.out.below HB2.out).more HB2.out.size)).mono ?_
        rintro e w3 ⟨A3, c3, rfl, ho, hb⟩
        have HO := Lib.hid (own_mono ho HB2.out.size)
        have HB3 := Lib.hid (HB2.out.trans (hb.mono HB2.out.size))
        clear ho hb ba2 bb2
        go_wp2
        go_ret2
        exact ⟨A3, c3, rfl, HO.out, HB3.out⟩
      · have hd2 : (n : Int) ≤ a := by omega
        have hw := win_no2 (m := m) (a := a) (show ¬ (0 ≤ a ∧ a ≤ (zs.length : Int) - 1) by rw [hn]; omega)
        rw [winA_no hw, hw]
        clear hk hw hn hz p1 p2 p3 p4 ha1
        go_enter Try.func14, Try.ntmps14
        go_wp2_with fail
        rw [← hW]
        clear hW
        refine HOK.out.mono ?_
        rintro e w2 ⟨rfl, hb⟩
        have HB2 := Lib.hid (HB0.out.trans (hb.mono HB0.out.size))
        have ba2 := (hb.cell (p := ⟨w.heap.size, 0, none⟩) hs0).trans ba
        have bb2 := (hb.cell (p := ⟨w.heap.size, 1, none⟩) hs0).trans bb
        clear hb ba bb
        go_wp2
        go_ret2
        exact ⟨none, 0, rfl, World.ownsRow_nil _ _ _ _, HB2.out⟩
    · have hd1 : a < 0 := by omega
      have hw := win_no2 (m := m) (a := a) (show ¬ (0 ≤ a ∧ a ≤ (zs.length : Int) - 1) by omega)
      rw [winA_no hw, hw]
      clear hk hw hn hz p1 p2 p3 p4 ha0
      go_enter Try.func14, Try.ntmps14
      go_wp2_with fail
      rw [← hW]
      clear hW
      refine HOK.out.mono ?_
      rintro e w2 ⟨rfl, hb⟩
      have HB2 := Lib.hid (HB0.out.trans (hb.mono HB0.out.size))
      have ba2 := (hb.cell (p := ⟨w.heap.size, 0, none⟩) hs0).trans ba
      have bb2 := (hb.cell (p := ⟨w.heap.size, 1, none⟩) hs0).trans bb
      clear hb ba bb
      go_wp2
      go_ret2
      exact ⟨none, 0, rfl, World.ownsRow_nil _ _ _ _, HB2.out⟩
theorem find_wins {zs q : List Int} {m : Nat} : ∀ (f i : Nat), fndF q i ((List.range f).map fun j => winF zs m (i + j)) = findFrom zs m q f i
  | 0, i => rfl
  | f + 1, i => by
    rw [List.range_succ_eq_map, List.map_cons, List.map_map]
    simp only [fndF, findFrom, Nat.add_zero]
    have e : ((fun j => winF zs m (i + j)) ∘ Nat.succ) = fun j => winF zs m (i + 1 + j) := by
      funext j
      show winF zs m (i + (j + 1)) = _
      rw [show i + (j + 1) = i + 1 + j by omega]
    rw [e, find_wins f (i + 1)]
theorem find_is {zs q : List Int} {m : Int} : findI zs m q = fndF q 0 (winsB zs m) := by
  unfold findI winsB
  cases stkB zs m
  · rfl
  · rw [if_pos rfl, if_pos rfl, ← find_wins]
    unfold wins
    simp only [Nat.zero_add]
theorem find_short {zs q : List Int} {m : Int} (h : (q.length : Int) ≠ m) : findI zs m q = -1 := by
  rw [find_is]
  refine fnd_out fun hin => ?_
  unfold winsB at hin
  cases hk : stkB zs m with
  | false => rw [hk] at hin; cases hin
  | true =>
    rw [hk, if_pos rfl] at hin
    obtain ⟨i, _, e⟩ := List.mem_map.1 hin
    have h2 := winF_len zs m.toNat i
    rw [e] at h2
    obtain ⟨p1, _⟩ := stk_parts hk
    omega
theorem wins_okB (zs : List Int) (m : Int) : WinsOk (if stkB zs m then m.toNat else 0) (winsB zs m) := by
  unfold winsB
  cases hk : stkB zs m with
  | false =>
    rw [if_neg (by simp), if_neg (by simp)]
    exact ⟨by decide, (fun v hv => by cases hv), List.nodup_nil, by decide⟩
  | true =>
    obtain ⟨p1, p2, p3, p4, _, p6⟩ := stk_parts hk
    rw [if_pos rfl, if_pos rfl]
    exact wins_ok (by omega) (by omega) p6
set_option maxHeartbeats 2000000 in
theorem impl_find (A : Option Addr) (n c : Nat) (zs : List Int) (m : Int) (B : Option Addr) (nq cq : Nat) (q : List Int) (w : World) (hn : zs.length = n) (hnc : n ≤ c) (hn2 : n ≤ 1048576) (hz : Fits zs) (hss : IntsAt w w.heap.size .i64 A zs)
    (hq : q.length = nq) (hq2 : nq ≤ 1048576) (hqz : Fits q) (hqs : IntsAt w w.heap.size .i64 B q) :
    Calls Try.prog 17 #[stV A n c m, .slice B nq cq] w fun e w' => e = .returned (.int .i64 (findI zs m q)) ∧ Below w.heap.size w w' := by
  obtain ⟨W, hW, ba, bb, hb0, hS⟩ := box1 w (.slice A n c) (.int .i64 m)
  have HB0 := Lib.hid hb0
  by_cases hl : (nq : Int) = m
  · have HC := Lib.hid (impl_wins A n c zs m W hn hnc hn2 hz ((hss.below hb0).more hb0.size))
    have HQ := Lib.hid hqs
    have HQL := Lib.hid hq
    have HOK := Lib.hid (wins_okB zs m)
    have HE := Lib.hid (find_is (zs := zs) (q := q) (m := m))
    have HLN := Lib.hid (show q.length = (if stkB zs m then m.toNat else 0) ∨ winsB zs m = [] by
      cases hk : stkB zs m with
      | true => left; rw [if_pos rfl]; omega
      | false => right; exact winsB_no hk)
    have hbq : ((nq : Int) != m) = false := by simp [hl]
    generalize (if stkB zs m then m.toNat else 0) = M at *
    generalize winsB zs m = V at *
    generalize findI zs m q = R at *
    clear hss hqs hb0 hn hz hq hl
    go_enter Try.func17, Try.ntmps17
    go_wp2_with fail
    rw [← hW]
    clear hW
    refine HC.out.mono ?_
    rintro e w2 ⟨rfl, hm, hb⟩
    have HB2 := Lib.hid (HB0.out.trans (hb.mono HB0.out.size))
    have HM := Lib.hid hm
    clear hm hb HC ba bb
    go_wp2_with fail
    refine (Skw.impl_find _ M V B nq cq q w2 HOK.out HM.out HLN.out HQL.out (by omega) hqz ((HQ.out.below HB2.out).more HB2.out.size)).mono ?_
    rintro e w3 ⟨rfl, hb⟩
    have HB3 := Lib.hid (HB2.out.trans (hb.mono HB2.out.size))
    clear hb
    go_wp2
    go_ret
    exact ⟨congrArg (fun z => Ending.returned (.int .i64 z)) HE.out.symm, HB3.out⟩
  · rw [find_short (by rw [hq]; exact hl)]
    have hbq : ((nq : Int) != m) = true := by rw [bne_iff_ne]; exact hl
    clear hss hqs hb0 hn hz hq hl
    go_enter Try.func17, Try.ntmps17
    go_wp2
    rw [← hW]
    go_ret
    exact ⟨rfl, HB0.out⟩
end Go.Proofs.Ytkonakfbidnfhaa.Skj
