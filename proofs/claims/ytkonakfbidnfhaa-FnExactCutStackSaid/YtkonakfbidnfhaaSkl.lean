/- The model's CutStack. -/
import Derived.Test.YtkonakfbidnfhaaSkk
import Derived.Test.YtkonakfbidnfhaaStp
set_option linter.unusedVariables false
set_option maxRecDepth 20000
namespace Go.Proofs.Ytkonakfbidnfhaa.Skl
open Go.RowKit Go.Maps Fr _root_.Go.Proofs.Ytkonakfbidnfhaa.Own Pk Ins Pfn Rws Lb Map Cat Cut Stk Skp Sks Skw Skv Ski Skj Skk Stp

set_option maxHeartbeats 4000000 in
theorem spec_cut (A : Option Addr) (n c : Nat) (zs : List Int) (m k : Int) (w : World) (hn : zs.length = n) (hnc : n ≤ c) (hn2 : n ≤ 1048576) (hz : Fits zs) (hss : IntsAt w w.heap.size .i64 A zs) (h1 : -9223372036854775808 ≤ k) (h2 : k ≤ 9223372036854775807) :
    Calls Try.prog 36 #[stV A n c m, .int .i64 k] w (IsSB w.heap.size (cutS zs m k) (cutM zs m k) (cutB zs m k) w) := by
  obtain ⟨W, hW, c0, c1, hb0, hs1⟩ := box2 w (.slice A n c) (.int .i64 m)
  obtain ⟨ba, bb⟩ := cell2 c0
  have HOK := Lib.hid (Sks.spec_ok A n c zs m W hn hnc hn2 hz ((hss.below hb0).more hb0.size))
  have HB0 := Lib.hid hb0
  have HC0 := Lib.hid c0
  have HC1 := Lib.hid c1
  have HS := Lib.hid hss
  have HN := Lib.hid hn
  have hs0 : w.heap.size < W.heap.size := by omega
  clear hss hb0 c0 c1
  cases hk : stkB zs m with
  | false =>
    have hw : cutB zs m k = false := win_no1 (a := k) hk
    rw [(cut_no hw).1, (cut_no hw).2, hw]
    rw [hk] at HOK
    clear hk hw hn hz
    go_enter Try.func36, Try.ntmps36
    go_wp2_with fail
    rw [← hW]
    clear hW
    refine HOK.out.mono ?_
    rintro e w2 ⟨rfl, hb⟩
    have HB2 := Lib.hid (HB0.out.trans (hb.mono HB0.out.size))
    have HX := Lib.hid ((hb.block (w.heap.size + 1) hs1).trans HC1.out)
    obtain ⟨k4, k5⟩ := cell2 HX.out
    have f4 := frz HX.out 0
    have f5 := frz HX.out 1
    obtain ⟨HP1, HP2, _⟩ := put_box (x := .slice none 0 0) (y := .int .i64 0) HX.out HB2.out (by omega)
    have HP1 := Lib.hid HP1
    have HP2 := Lib.hid HP2
    clear hb ba bb
    go_wp2
    (try simp only [Exit.inBlock, Exit.then])
    refine bodyPost_ret (results_cs rfl _ rfl rfl HP1.out) rfl ?_
    exact ⟨none, 0, rfl, World.ownsRow_nil _ _ _ _, HP2.out⟩
  | true =>
    obtain ⟨p1, p2, p3, p4, _, _⟩ := stk_parts hk
    rw [hn] at p3 p4
    rw [hk] at HOK
    by_cases hin : 0 ≤ k ∧ k ≤ (n : Int) - 1
    · have HIN := Lib.hid (decide_eq_true hin)
      have hw : cutB zs m k = true := win_yes hk (show 0 ≤ k ∧ k ≤ (zs.length : Int) - 1 by rw [hn]; omega)
      rw [(cut_yes hw).1, (cut_yes hw).2, hw]
      obtain ⟨kk, rfl⟩ : ∃ kk : Nat, k = (kk : Int) := ⟨k.toNat, by omega⟩
      have hq : kk < n ∧ n ≤ 64 ∧ 1 ≤ n := by omega
      have hkc : kk ≤ c := by omega
      obtain ⟨R, hR⟩ : ∃ R, R = cutF zs kk := ⟨_, rfl⟩
      have HRE := Lib.hid (show cutF zs ((kk : Int)).toNat = R by rw [hR]; rfl)
      have HRR := Lib.hid (show R = zs.drop kk ++ zs.take kk by rw [hR]; rfl)
      have L1 := Lib.hid (show (zs.drop kk).length = n - kk by rw [List.length_drop, hn])
      have L2 := Lib.hid (show (zs.take kk).length = kk by rw [List.length_take, hn]; omega)
      have HRL := Lib.hid (show R.length = n by rw [hR]; unfold cutF; rw [List.length_append, List.length_drop, List.length_take]; omega)
      rw [HRE.out]
      obtain ⟨b, o, rfl⟩ := ints_addr HS.out (by omega)
      obtain ⟨i0, hi, hz0, hz1', hz2⟩ := info_parts infoInt
      clear hk hw hn hz p1 p2 p3 p4 hin hR HRE
      go_enter Try.func36, Try.ntmps36
      go_wp2_with fail
      rw [← hW]
      clear hW
      refine HOK.out.mono ?_
      rintro e w2 ⟨rfl, hb⟩
      have HB2 := Lib.hid (HB0.out.trans (hb.mono HB0.out.size))
      have HX := Lib.hid ((hb.block (w.heap.size + 1) hs1).trans HC1.out)
      have ba2 := (hb.cell (p := ⟨w.heap.size, 0, none⟩) hs0).trans ba
      have bb2 := (hb.cell (p := ⟨w.heap.size, 1, none⟩) hs0).trans bb
      have hl1 : w.heap.size + 1 < w2.heap.size := Nat.lt_of_lt_of_le hs1 hb.size
      have hl0 : w.heap.size < w2.heap.size := by omega
      clear hb ba bb
      go_wp2_with fail
      refine (in_any _ 0 _ _).mono ?_
      rintro e w3 ⟨rfl, rfl⟩
      rw [HIN.out]
      go_wp2
      have HSV := Lib.hid ((HS.out.below HB2.out).more HB2.out.size)
      have HS' := fun o => Lib.hid (ints_on HSV.out (below_new w2 o))
      have HL0 := Lib.hid (lit0 w2)
      have hl0s := lit0_size w2 (.cells #[] 3)
      have hz0s : 0 ≤ 1048576 := by decide
      have hr1s : n - kk ≤ 1048576 := by omega
      have hks : kk ≤ 1048576 := by omega
      have hz1 : 0 + (n - kk) = n - kk := Nat.zero_add _
      have hr2 : n - kk + kk = n := by omega
      have hbad := w2.drew
      have ba3 : w2.drew.cell? ⟨w.heap.size, 0, none⟩ = some (.slice (some ⟨b, o, none⟩) n c) := ba2
      have bb3 : w2.drew.cell? ⟨w.heap.size, 1, none⟩ = some (.int .i64 m) := bb2
      clear ba2 bb2
      go_region_held_law (fun w' => w'.cell? ⟨w.heap.size, 0, none⟩ = some (.slice (some ⟨b, o, none⟩) n c) ∧ w'.cell? ⟨w.heap.size, 1, none⟩ = some (.int .i64 m)) ((first | exact ⟨ba3, bb3⟩ | exact ⟨keepA ba3, keepA bb3⟩ | exact ⟨ba5, bb5⟩ | exact ⟨ba6, bb6⟩ | exact ⟨HP3.out.cell ba6 (fun e => by simp at e), HP3.out.cell bb6 (fun e => by simp at e)⟩)) ((first
        | (refine step_app_r rfl (.tmp 19) (.tmp 23) 23 rfl w2.heap.size 3 i0 Try.underlying23 hi hz0 hz1' hz2 (some ⟨w2.heap.size, 0, none⟩) 0 0 [] rfl HL0.out _ (n - kk) _ (zs.drop kk) rfl L1.out (fun h => by cases h) (ints_drop (HS' _).out) hz0s hr1s hl0s spot_some (n - kk) hz1 ?_; intro A5 c5 w5 hown5 hgr5; have ba5 := hgr5.cell (keepA ba3) (fun e => by simp at e; omega); have bb5 := hgr5.cell (keepA bb3) (fun e => by simp at e; omega); have hb5 := Lib.hid ((below_new w2 (.cells #[] 3)).grown hgr5 (below_new w2 (.cells #[] 3)).size (fun b h => (own_lo HL0.out b h).1)))
        | (refine step_app_r rfl (.tmp 24) (.tmp 28) 23 rfl w2.heap.size 3 i0 Try.underlying23 hi hz0 hz1' hz2 A5 c5 (n - kk) ([] ++ zs.drop kk) rfl hown5 _ kk _ (zs.take kk) rfl L2.out (fun h => by cases h) (ints_take2 kk (ints_on HSV.out hb5.out)) hr1s hks hb5.out.size spot_some n hr2 ?_; intro A6 c6 w6 hown6 hgr6; have ba6 := hgr6.cell ba5 (fun e => by have h1 := (own_lo hown5 _ e.symm).1; simp only at h1; omega); have bb6 := hgr6.cell bb5 (fun e => by have h1 := (own_lo hown5 _ e.symm).1; simp only at h1; omega); have hb6 := Lib.hid (hb5.out.grown hgr6 hb5.out.size (fun b h => (own_lo hown5 b h).1)); have HB6 := Lib.hid (HB2.out.trans (hb6.out.mono HB2.out.size)); have HX6 := Lib.hid ((hb6.out.block (w.heap.size + 1) hl1).trans HX.out); obtain ⟨k4, k5⟩ := cell2 HX6.out; have f4 := frz HX6.out 0; have f5 := frz HX6.out 1; obtain ⟨HP1, HP2, HP3⟩ := put_box (x := .slice A6 n c6) (y := .int .i64 m) HX6.out HB6.out (by omega); have HP1 := Lib.hid HP1; have HP2 := Lib.hid HP2; have HP3 := Lib.hid HP3; have HO := Lib.hid (own_mono (own_gr hown6 HP3.out (fun j hj e => by have h1 := (own_lo hown6 j hj).1; injection e with e; have h2 : w2.heap.size ≤ j := h1; omega)) HB2.out.size))))
      all_goals
        go_wp2
        (try simp only [Exit.inBlock, Exit.then])
        refine bodyPost_ret (results_cs rfl _ rfl rfl HP1.out) rfl ?_
        exact ⟨A6, c6, by rw [HRL.out]; rfl, by rw [HRL.out, HRR.out]; exact HO.out, HP2.out⟩
    · have HIN := Lib.hid (decide_eq_false hin)
      have hw : cutB zs m k = false := win_no2 (m := m) (a := k) (show ¬ (0 ≤ k ∧ k ≤ (zs.length : Int) - 1) by rw [hn]; omega)
      rw [(cut_no hw).1, (cut_no hw).2, hw]
      clear hk hw hn hz p1 p2 p3 p4 hin
      go_enter Try.func36, Try.ntmps36
      go_wp2_with fail
      rw [← hW]
      clear hW
      refine HOK.out.mono ?_
      rintro e w2 ⟨rfl, hb⟩
      have HB2 := Lib.hid (HB0.out.trans (hb.mono HB0.out.size))
      have HX := Lib.hid ((hb.block (w.heap.size + 1) hs1).trans HC1.out)
      have ba2 := (hb.cell (p := ⟨w.heap.size, 0, none⟩) hs0).trans ba
      have bb2 := (hb.cell (p := ⟨w.heap.size, 1, none⟩) hs0).trans bb
      obtain ⟨k4, k5⟩ := cell2 HX.out
      have f4 := frz HX.out 0
      have f5 := frz HX.out 1
      obtain ⟨HP1, HP2, _⟩ := put_box (x := .slice none 0 0) (y := .int .i64 0) HX.out HB2.out (by omega)
      have HP1 := Lib.hid HP1
      have HP2 := Lib.hid HP2
      clear hb ba bb
      go_wp2_with fail
      refine (in_any _ 0 _ _).mono ?_
      rintro e w3 ⟨rfl, rfl⟩
      rw [HIN.out]
      go_wp2
      (try simp only [Exit.inBlock, Exit.then])
      refine bodyPost_ret (results_cs rfl _ rfl rfl HP1.out) rfl ?_
      exact ⟨none, 0, rfl, World.ownsRow_nil _ _ _ _, HP2.out⟩
end Go.Proofs.Ytkonakfbidnfhaa.Skl
