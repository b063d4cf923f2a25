/- The program's DeBruijn, and the function that tells its next color. -/
import Derived.Test.YtkonakfbidnfhaaSkq
import Derived.Test.YtkonakfbidnfhaaSkk
import Derived.Laws.OwnMore
set_option linter.unusedVariables false
set_option maxRecDepth 20000
namespace Go.Proofs.Ytkonakfbidnfhaa.Skm
open Go.RowKit Go.Maps Fr _root_.Go.Proofs.Ytkonakfbidnfhaa.Own Pk Ins Pfn Rws Lb Map Cat Cut Stk Skp Sks Skw Skv Ski Skj Skk Stp Skg Skq

theorem fnd_neg {q : List Int} {V : List (List Int)} (h : q ∉ V) : decide (fndF q 0 V < 0) = true := by rw [fnd_out h]; rfl
theorem fnd_pos {q : List Int} {V : List (List Int)} (h : q ∈ V) : decide (fndF q 0 V < 0) = false := by
  have := (fnd_in (i := 0) h).2.1
  exact decide_eq_false (by omega)
theorem fits_snoc {l : List Int} (h : Fits l) : Fits (l ++ [1]) := by
  intro i hi
  by_cases h2 : i < l.length
  · rw [List.getD_eq_getElem?_getD, List.getElem?_append_left h2, ← List.getD_eq_getElem?_getD]
    exact h i h2
  · rw [List.length_append, List.length_singleton] at hi
    obtain rfl : i = l.length := by omega
    rw [List.getD_eq_getElem?_getD, List.getElem?_append_right (Nat.le_refl _), Nat.sub_self]
    exact ⟨by decide, by decide⟩
theorem fits_part {C : List Int} (h : Fits C) (a b : Nat) : Fits ((C.take a).drop b) := by
  intro i hi
  rw [List.length_drop, List.length_take] at hi
  rw [List.getD_eq_getElem?_getD, List.getElem?_drop, List.getElem?_take, if_pos (by omega), ← List.getD_eq_getElem?_getD]
  exact h _ (by omega)
set_option maxHeartbeats 4000000 in
theorem db_tells (m p : Nat) (w : World) (h1 : 1 ≤ m) (h6 : m ≤ 6) (hp : w.cell? ⟨p, 0, none⟩ = some (.int .i64 (m : Int))) : Tells w 46 ⟨p, 0, none⟩ (cbL m) m (2 ^ m) := by
  intro W t g c b ht hb hc hat hm
  obtain ⟨hG, hN, _, _⟩ := cb_all h1 h6
  have hx := hN t ht
  obtain ⟨i0, hi, hz0, hz1, hz2⟩ := info_parts infoInt
  obtain ⟨C, hC⟩ : ∃ C, C = cbL m := ⟨_, rfl⟩
  rw [← hC] at hat hm hG hx ⊢
  have hlen := hG.len
  have hfew := hG.few
  have hpw := World.block_lt_of_cell? w ⟨p, 0, none⟩ hp
  have hpW : W.cell? ⟨p, 0, none⟩ = some (.int .i64 (m : Int)) := (hb.cell (p := ⟨p, 0, none⟩) hpw).trans hp
  obtain ⟨L, hL⟩ : ∃ L, L = (C.take (m + t)).drop (t + 1) := ⟨_, rfl⟩
  have hLl : L.length = m - 1 := by rw [hL, List.length_drop, List.length_take]; omega
  have HLL := Lib.hid hLl
  have HQL := Lib.hid (show (L ++ [1]).length = m by rw [List.length_append, hLl]; show m - 1 + 1 = m; omega)
  have HFZ := Lib.hid (fits_snoc (show Fits L by rw [hL]; exact fits_part hG.fits _ _))
  have HOK := Lib.hid (hG.ok (k := t + 1) (by omega))
  have HM := Lib.hid hm
  have HX := Lib.hid (show C.getD (m + t) 0 = if decide (L ++ [1] ∈ wsL C m (t + 1)) then 0 else 1 by rw [hx, hL]; rfl)
  have hpb := World.block_lt_of_cell? W ⟨p, 0, none⟩ hpW
  generalize C.getD (m + t) 0 = x at *
  have HV := Lib.hid (fun (W2 : World) (A2 : Option Addr) (c2 : Nat) (hM2 : MapW W2 b (wsL C m (t + 1))) (hat2 : IntsAt W2 W2.heap.size .i64 A2 (L ++ [1])) => Skw.impl_find b m (wsL C m (t + 1)) A2 m c2 (L ++ [1]) W2 HOK.out hM2 (Or.inl HQL.out) HQL.out (by omega) HFZ.out hat2)
  generalize wsL C m (t + 1) = V at *
  by_cases hct : c = t + 1
  · have HAT := Lib.hid (show IntsAt W W.heap.size .i64 (some ⟨g, 0, none⟩) L from ints_none _ _ _ (by omega))
    subst hct
    have e1 : m + t - (t + 1) = m - 1 := by omega
    clear hat hm hG hN hx hL hlen hC hLl
    go_enter Try.func46, Try.ntmps46
    go_wp2_with fail
    refine (clone_any (some ⟨g, 0, none⟩) (m - 1) _ L _ HLL.out (by omega) HAT.out).mono ?_
    rintro e w2 ⟨A2, c2, rfl, ho, hb2⟩
    rw [HLL.out] at ho
    rw [HLL.out]
    have HM2 := Lib.hid (HM.out.below hb2 HM.out.lt)
    have HB2 := Lib.hid hb2
    have hsz2 := hb2.size
    have hm1 : m - 1 + 1 = m := by omega
    clear hb2 HAT
    go_wp2_with (at_builtin; refine app_more rfl (.tmp 16) (.tmp 17) 23 rfl W.heap.size 3 i0 (.int .i64 0) 8 Try.underlying23 hi hz0 hz1 hz2 (by decide) rfl _ _ _ _ rfl ho (.int .i64 1) rfl _ rfl rfl (by omega) hsz2 ?_; intro g6 c6 w6 hown6 hgr6)
    have HO6 := Lib.hid (ints_of (zs := L ++ [1]) (by rw [List.map_append]; exact hown6))
    have HM6 := Lib.hid (HM2.out.grown hgr6 (fun e => by have h1 := (own_lo ho _ e).1; have h2 := HM.out.lt; omega))
    have HB6 := Lib.hid (HB2.out.grown hgr6 hsz2 (fun k hk => (own_lo ho k hk).1))
    clear hown6 hgr6 ho
    refine (HV.out w6 (some ⟨g6, 0, none⟩) c6 HM6.out HO6.out).mono ?_
    rintro e w7 ⟨rfl, hb7⟩
    have HB7 := Lib.hid (HB6.out.trans (hb7.mono HB6.out.size))
    clear hb7
    by_cases hin : L ++ [1] ∈ V
    · have hd := fnd_pos hin
      have HXX := Lib.hid (show x = 0 by rw [HX.out, decide_eq_true hin]; rfl)
      clear hin
      go_wp2
      go_ret
      exact ⟨congrArg (fun z => Ending.returned (.int .i64 z)) HXX.out.symm, HB7.out⟩
    · have hd := fnd_neg hin
      have HXX := Lib.hid (show x = 1 by rw [HX.out, decide_eq_false hin]; rfl)
      clear hin
      go_wp2
      go_ret
      exact ⟨congrArg (fun z => Ending.returned (.int .i64 z)) HXX.out.symm, HB7.out⟩
  · have HAT := Lib.hid (show IntsAt W W.heap.size .i64 (some ⟨g, t + 1, none⟩) L by
      have h := ints_drop (k := t + 1) hat
      rw [Nat.zero_add, ← hL] at h
      exact h)
    have e1 : m + t - (t + 1) = m - 1 := by omega
    clear hat hm hG hN hx hL hlen hC hLl
    go_enter Try.func46, Try.ntmps46
    go_wp2_with fail
    refine (clone_any (some ⟨g, t + 1, none⟩) (m - 1) _ L _ HLL.out (by omega) HAT.out).mono ?_
    rintro e w2 ⟨A2, c2, rfl, ho, hb2⟩
    rw [HLL.out] at ho
    rw [HLL.out]
    have HM2 := Lib.hid (HM.out.below hb2 HM.out.lt)
    have HB2 := Lib.hid hb2
    have hsz2 := hb2.size
    have hm1 : m - 1 + 1 = m := by omega
    clear hb2 HAT
    go_wp2_with (at_builtin; refine app_more rfl (.tmp 16) (.tmp 17) 23 rfl W.heap.size 3 i0 (.int .i64 0) 8 Try.underlying23 hi hz0 hz1 hz2 (by decide) rfl _ _ _ _ rfl ho (.int .i64 1) rfl _ rfl rfl (by omega) hsz2 ?_; intro g6 c6 w6 hown6 hgr6)
    have HO6 := Lib.hid (ints_of (zs := L ++ [1]) (by rw [List.map_append]; exact hown6))
    have HM6 := Lib.hid (HM2.out.grown hgr6 (fun e => by have h1 := (own_lo ho _ e).1; have h2 := HM.out.lt; omega))
    have HB6 := Lib.hid (HB2.out.grown hgr6 hsz2 (fun k hk => (own_lo ho k hk).1))
    clear hown6 hgr6 ho
    refine (HV.out w6 (some ⟨g6, 0, none⟩) c6 HM6.out HO6.out).mono ?_
    rintro e w7 ⟨rfl, hb7⟩
    have HB7 := Lib.hid (HB6.out.trans (hb7.mono HB6.out.size))
    clear hb7
    by_cases hin : L ++ [1] ∈ V
    · have hd := fnd_pos hin
      have HXX := Lib.hid (show x = 0 by rw [HX.out, decide_eq_true hin]; rfl)
      clear hin
      go_wp2
      go_ret
      exact ⟨congrArg (fun z => Ending.returned (.int .i64 z)) HXX.out.symm, HB7.out⟩
    · have hd := fnd_neg hin
      have HXX := Lib.hid (show x = 1 by rw [HX.out, decide_eq_false hin]; rfl)
      clear hin
      go_wp2
      go_ret
      exact ⟨congrArg (fun z => Ending.returned (.int .i64 z)) HXX.out.symm, HB7.out⟩
/-- an int in a box, and an empty stack in another -/
theorem box_is (w : World) (x : Value) : ∃ W, W = (w.alloc (.cells #[x] 3)).alloc (.cells #[.slice none 0 0, .int .i64 0] 25) ∧ W.cell? ⟨w.heap.size, 0, none⟩ = some x ∧ W.heap[w.heap.size + 1]? = some (.cells #[.slice none 0 0, .int .i64 0] 25 (0, 0)) ∧ Below w.heap.size w W ∧ w.heap.size + 1 < W.heap.size := by
  have hs : (w.alloc (.cells #[x] 3)).heap.size = w.heap.size + 1 := by simp
  have a0 := heap_alloc_new w (.cells #[x] 3)
  have a1 := heap_alloc_new (w.alloc (.cells #[x] 3)) (.cells #[.slice none 0 0, .int .i64 0] 25)
  have b1 := box_below (w.alloc (.cells #[x] 3)) (.cells #[.slice none 0 0, .int .i64 0] 25)
  rw [hs] at a1 b1
  have c0 := (b1.block w.heap.size (by omega)).trans a0
  exact ⟨_, rfl, by rw [cell_of_row _ _ _ _ _ _ c0]; rfl, a1, (box_below w _).trans (b1.mono (by omega)), by simp⟩
theorem db_no {m : Int} (h : dbB m = false) : dbS m = [] ∧ dbM m = 0 := by unfold dbS dbM; rw [h]; exact ⟨rfl, rfl⟩
theorem db_yes {m : Int} (h : dbB m = true) : dbS m = (cbL m.toNat).take (2 ^ m.toNat) ∧ dbM m = m := by unfold dbS dbM; rw [h]; exact ⟨rfl, rfl⟩
/-- a row of zeros -/
theorem make_zeros (m : Nat) (hm : m ≤ 6) : ∃ Z : Array Value, (∀ w', (Instr.makeSlice 23 (.int .i64 (m : Int)) (.int .i64 (m : Int))).run Try.prog w' = .ok (.slice (some ⟨w'.heap.size, 0, none⟩) m m) (w'.alloc (.cells Z 3))) ∧
    ∀ (W : World), IntsAt (W.alloc (.cells Z 3)) (W.alloc (.cells Z 3)).heap.size .i64 (some ⟨W.heap.size, 0, none⟩) (List.replicate m 0) := by
  obtain ⟨i0, hi, hz0, hz1, hz2⟩ := info_parts infoInt
  refine ⟨madeCells #[.int .i64 0] m, fun w' => ?_, fun W j hj => ?_⟩
  · have h := run_makeSlice (P := Try.prog) w' 23 3 i0 (.int .i64 0) Try.underlying23 hi hz0 .i64 .i64 (m : Int) (m : Int) (by omega) (Int.le_refl _) (by rw [hz1]; omega) (by rw [hz2]; omega) (by omega)
    rw [hz1] at h
    simp only [Int.toNat_natCast, Nat.mul_one] at h
    exact h
  · rw [List.length_replicate] at hj
    refine ⟨W.heap.size, 0, rfl, by simp, ?_⟩
    rw [cell_of_row _ _ _ _ _ _ (heap_alloc_new W _), ← Array.getElem?_toList, toList_madeCells_one]
    simp [List.getD_eq_getElem?_getD, hj]
theorem is_win_yes (m : Int) (h : 1 ≤ m ∧ m ≤ 6) (w : World) : Calls Try.prog 45 #[.int .i64 m] w fun e w' => e = .returned (.bool true) ∧ w = w' := by
  have := is_win m w
  rw [decide_eq_true h] at this
  exact this
set_option maxHeartbeats 4000000 in
theorem impl_db (m : Int) (w : World) (h1 : -9223372036854775808 ≤ m) (h2 : m ≤ 9223372036854775807) :
    Calls Try.prog 18 #[.int .i64 m] w (IsSB w.heap.size (dbS m) (dbM m) (dbB m) w) := by
  obtain ⟨W, hW, ba, c1, hb0, hs1⟩ := box_is w (.int .i64 m)
  have HB0 := Lib.hid hb0
  have HC1 := Lib.hid c1
  by_cases hm : 1 ≤ m ∧ m ≤ 6
  · have HMM := Lib.hid (decide_eq_true hm)
    have hd : dbB m = true := decide_eq_true hm
    obtain ⟨mm, rfl⟩ : ∃ mm : Nat, m = (mm : Int) := ⟨m.toNat, by omega⟩
    have hq : 1 ≤ mm ∧ mm ≤ 6 := by omega
    rw [(db_yes hd).1, (db_yes hd).2, hd]
    obtain ⟨hG, _, hz, _⟩ := cb_all hq.1 hq.2
    have HZ := Lib.hid hz
    have HL := Lib.hid (show ((cbL mm).take (2 ^ mm)).length = 2 ^ mm by rw [List.length_take, hG.len]; omega)
    have HGR := Lib.hid hG
    obtain ⟨R, hR⟩ : ∃ R, R = (cbL mm).take (2 ^ mm) := ⟨_, rfl⟩
    have HR := Lib.hid hR
    have e0 : ((mm : Int)).toNat = mm := rfl
    rw [e0, ← hR]
    rw [← hR] at HL
    have HCALL := Lib.hid (show ∀ (V : World) (g c : Nat), Below W.heap.size W V → IntsAt V V.heap.size .i64 (some ⟨g, 0, none⟩) (List.replicate mm 0) → Calls Try.prog 48 #[.slice (some ⟨g, 0, none⟩) mm c, .func (.func 46) #[] #[.pointer (some ⟨w.heap.size, 0, none⟩)]] V (IsIL V.heap.size R V) from fun V g c hb hat => by
      rw [hR]
      exact grown_any _ _ (cbL mm) mm (2 ^ mm) c _ V HGR.out (by rw [HZ.out]; exact hat) (enters_of Try.func46 (by kernel_rfl) rfl) (db_tells mm w.heap.size V hq.1 hq.2 ((hb.cell (p := ⟨w.heap.size, 0, none⟩) (by show w.heap.size < _; omega)).trans ba)))
    clear hd hm hG hz hR e0 hb0 c1
    obtain ⟨Z, hms, hzs⟩ := make_zeros mm hq.2
    have HZS := Lib.hid hzs
    clear hzs
    go_enter Try.func18, Try.ntmps18
    go_wp2_with fail
    rw [← hW]
    clear hW
    refine (is_win _ _).mono ?_
    rintro e w1 ⟨rfl, rfl⟩
    rw [HMM.out]
    go_wp2
    have HBV := Lib.hid (below_new W (.cells Z 3))
    have hl0 : w.heap.size < W.heap.size := by omega
    have hbx : W.drew.cell? ⟨w.heap.size, 0, none⟩ = some (.int .i64 (mm : Int)) := ba
    clear ba
    go_region_held3 (fun w' => w'.cell? ⟨w.heap.size, 0, none⟩ = some (.int .i64 (mm : Int))) ((first | exact hbx | exact keepA hbx | exact hb3 | exact HP3.out.cell hb3 (fun e => by simp at e))) ((first | (go_at_call 48; refine (HCALL.out _ _ _ HBV.out (HZS.out W)).mono ?_; rintro e w3 ⟨A3, c3, rfl, ho, hb⟩; rw [HL.out] at ho; rw [HL.out]; have hb3 := (hb.cell (p := ⟨w.heap.size, 0, none⟩) (Nat.lt_of_lt_of_le hl0 HBV.out.size)).trans (keepA hbx); have hBX := HBV.out.trans (hb.mono HBV.out.size); have HB3 := Lib.hid (HB0.out.trans (hBX.mono HB0.out.size)); have HX3 := Lib.hid ((hBX.block (w.heap.size + 1) hs1).trans HC1.out); obtain ⟨k4, k5⟩ := cell2 HX3.out; have f4 := frz HX3.out 0; have f5 := frz HX3.out 1; obtain ⟨HP1, HP2, HP3⟩ := put_box (x := .slice A3 (2 ^ mm) c3) (y := .int .i64 (mm : Int)) HX3.out HB3.out (by omega); have HP1 := Lib.hid HP1; have HP2 := Lib.hid HP2; have HP3 := Lib.hid HP3; have hWs : W.heap.size ≤ (W.alloc (.cells Z 3)).drew.heap.size := HBV.out.size; have HO := Lib.hid (own_mono (own_gr ho HP3.out (fun j hj e => by have h1 := (own_lo ho j hj).1; injection e with e; omega)) (Nat.le_trans HB0.out.size HBV.out.size)); clear ho hb)))
    all_goals
      go_wp2
      (try simp only [Exit.inBlock, Exit.then])
      refine bodyPost_ret (results_cs rfl _ rfl rfl HP1.out) rfl ?_
      exact ⟨A3, c3, by rw [HL.out]; rfl, by rw [HL.out]; exact HO.out, HP2.out⟩
  · have HMM := Lib.hid (decide_eq_false hm)
    have hd : dbB m = false := decide_eq_false hm
    rw [(db_no hd).1, (db_no hd).2, hd]
    clear hd hm hb0 c1
    go_enter Try.func18, Try.ntmps18
    go_wp2_with fail
    rw [← hW]
    clear hW
    refine (is_win _ _).mono ?_
    rintro e w1 ⟨rfl, rfl⟩
    rw [HMM.out]
    obtain ⟨k4, k5⟩ := cell2 HC1.out
    have f4 := frz HC1.out 0
    have f5 := frz HC1.out 1
    obtain ⟨HP1, HP2, _⟩ := put_box (x := .slice none 0 0) (y := .int .i64 0) HC1.out HB0.out (by omega)
    have HP1 := Lib.hid HP1
    have HP2 := Lib.hid HP2
    go_wp2
    (try simp only [Exit.inBlock, Exit.then])
    refine bodyPost_ret (results_cs rfl _ rfl rfl HP1.out) rfl ?_
    exact ⟨none, 0, rfl, World.ownsRow_nil _ _ _ _, HP2.out⟩
end Go.Proofs.Ytkonakfbidnfhaa.Skm
