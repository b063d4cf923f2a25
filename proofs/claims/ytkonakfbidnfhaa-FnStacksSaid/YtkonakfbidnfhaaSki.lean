/- Stacks in the program: windowsOf, StackOk, WindowAt, FindWindow. -/
import Derived.Test.YtkonakfbidnfhaaSkv
set_option linter.unusedVariables false
set_option maxRecDepth 20000
namespace Go.Proofs.Ytkonakfbidnfhaa.Ski
open Go.RowKit Go.Maps Fr _root_.Go.Proofs.Ytkonakfbidnfhaa.Own Pk Ins Pfn Rws Lb Map Cat Cut Stk Skp Sks Skw Skv

def wins (zs : List Int) (m k : Nat) : List (List Int) := (List.range k).map (winF zs m)
theorem wins_len (zs : List Int) (m k : Nat) : (wins zs m k).length = k := by simp [wins]
theorem wins_succ (zs : List Int) (m k : Nat) : wins zs m (k + 1) = wins zs m k ++ [winF zs m k] := by unfold wins; rw [List.range_succ, List.map_append]; rfl
theorem dist_nodup {zs : List Int} {m : Nat} : ∀ {k : Nat}, distB zs m k = true → (wins zs m k).Nodup
  | 0, _ => List.nodup_nil
  | k + 1, h => by
    simp only [distB, Bool.and_eq_true, decide_eq_true_eq] at h
    rw [wins_succ]
    exact List.nodup_append.2 ⟨dist_nodup h.1, by simp, fun a ha b hb e => by
      rw [List.mem_singleton.1 hb] at e
      subst e
      exact h.2 ha⟩
theorem wins_ok {zs : List Int} {m k : Nat} (hm : m ≤ 6) (hk : k ≤ 65) (h : distB zs m k = true) : WinsOk m (wins zs m k) :=
  ⟨hm, fun v hv => by obtain ⟨i, _, rfl⟩ := List.mem_map.1 hv; exact winF_len _ _ _, dist_nodup h, by rw [wins_len]; exact hk⟩
/-- what windowsOf holds -/
def winsB (zs : List Int) (m : Int) : List (List Int) := if stkB zs m then wins zs m.toNat zs.length else []
theorem fits_win {zs : List Int} (hz : Fits zs) (m a : Nat) : Fits (winF zs m a) := by
  intro i hi
  rw [winF_len] at hi
  have e : (winF zs m a).getD i 0 = zs.getD ((a + i) % zs.length) 0 := by
    rw [List.getD_eq_getElem?_getD, List.getElem?_eq_getElem (by rw [winF_len]; exact hi)]
    simp [winF]
  rw [e]
  by_cases h : (a + i) % zs.length < zs.length
  · exact hz _ h
  · rw [List.getD_eq_getElem?_getD, List.getElem?_eq_none (by omega)]
    exact ⟨by decide, by decide⟩
open Go.ChangeMaps in
/-- clear empties the map -/
theorem MapE.clr {P : Program} {kt e t : TypeId} {W : World} {b : Nat} {kv : List (Value × Value)} (h : MapE P kt W b kv) (ht : P.underlying t = some (.map kt e)) (ty : TypeId) :
    ∃ v w', (Builtin.clear_ #[t] ty #[.map (some b)]).run P W = .ok v w' ∧ MapE P kt w' b [] ∧ W.grownBy w' (some b) := by
  obtain ⟨es, clock, hb, rfl, hk⟩ := h
  refine ⟨.tuple #[], setBlock W b (.map #[] clock), by simp [Builtin.clear_, run_underlying ht, MapKept.run_getObj_map hb, MapKept.run_setObj_map _ hb, Result.andThen, setBlock], ⟨#[], clock, heap_setBlock_same hb _, rfl, fun x hx => by simp at hx⟩, ⟨rfl, rfl, rfl, by simp [setBlock], fun i hi hne => heap_setBlock_other hb _ (fun e => hne (by rw [e]))⟩⟩
theorem stk_no5 {zs : List Int} {m : Int} (h : zs.all isCol = false) : stkB zs m = false := by unfold stkB; rw [col_stk, h]; simp
theorem stk_yes5 {zs : List Int} {m : Int} (h1 : 1 ≤ m ∧ m ≤ 6) (h2 : m ≤ (zs.length : Int) ∧ (zs.length : Int) ≤ 64) (h3 : zs.all isCol = true) (h4 : distB zs m.toNat zs.length = true) : stkB zs m = true := by
  unfold stkB
  rw [col_stk, h3, h4, decide_eq_true (show 1 ≤ m ∧ m ≤ 6 ∧ m ≤ (zs.length : Int) ∧ zs.length ≤ 64 by omega)]
  rfl
theorem winsB_no {zs : List Int} {m : Int} (h : stkB zs m = false) : winsB zs m = [] := by unfold winsB; rw [h]; rfl
theorem winsB_yes {zs : List Int} {m : Int} (h : stkB zs m = true) : winsB zs m = wins zs m.toNat zs.length := by unfold winsB; rw [if_pos h]
theorem winsB_len {zs : List Int} {m : Int} : (winsB zs m).length = if stkB zs m then zs.length else 0 := by
  unfold winsB
  cases stkB zs m
  · rfl
  · exact wins_len _ _ _
/-- a new box and a new map -/
theorem box_map (w : World) (x y : Value) : ∃ W, W = (w.alloc (.cells #[x, y] 25)).alloc (.map #[] 0) ∧ W.cell? ⟨w.heap.size, 0, none⟩ = some x ∧ W.cell? ⟨w.heap.size, 1, none⟩ = some y ∧ MapW W (w.heap.size + 1) [] ∧ Below w.heap.size w W ∧ W.heap.size = w.heap.size + 2 := by
  have hs : (w.alloc (.cells #[x, y] 25)).heap.size = w.heap.size + 1 := by simp
  have hb := box_below (w.alloc (.cells #[x, y] 25)) (.map #[] 0)
  rw [hs] at hb
  obtain ⟨ba, bb⟩ := cell2 (heap_alloc_new w (.cells #[x, y] 25))
  have hm := MapE.new Try.prog 75 (w.alloc (.cells #[x, y] 25))
  rw [hs] at hm
  exact ⟨_, rfl, (hb.cell (p := ⟨w.heap.size, 0, none⟩) (by show w.heap.size < _; omega)).trans ba, (hb.cell (p := ⟨w.heap.size, 1, none⟩) (by show w.heap.size < _; omega)).trans bb, hm, (box_below w _).trans (hb.mono (by omega)), by simp⟩
set_option maxHeartbeats 4000000 in
theorem impl_wins (A : Option Addr) (n c : Nat) (zs : List Int) (m : Int) (w : World) (hn : zs.length = n) (hnc : n ≤ c) (hn2 : n ≤ 1048576) (hz : Fits zs) (hss : IntsAt w w.heap.size .i64 A zs) :
    Calls Try.prog 43 #[stV A n c m] w fun e w' => e = .returned (.map (some (w.heap.size + 1))) ∧ MapW w' (w.heap.size + 1) (winsB zs m) ∧ Below w.heap.size w w' := by
  have HN := Lib.hid hn
  have hmm := @run_makeMap Try.prog
  obtain ⟨W, hW, ba, bb, hM, hB, hS⟩ := box_map w (.slice A n c) (.int .i64 m)
  have HM := Lib.hid hM
  have HB := Lib.hid hB
  have HI := Lib.hid ((hss.below hB).more hB.size)
  have HSS := Lib.hid hss
  have hs0 : w.heap.size < W.heap.size := by omega
  clear hM hB hss
  by_cases h1 : 1 ≤ m ∧ m ≤ 6
  · have H1 := Lib.hid (decide_eq_true h1)
    obtain ⟨mm, rfl⟩ : ∃ mm : Nat, m = (mm : Int) := ⟨m.toNat, by omega⟩
    by_cases h2 : mm ≤ n
    · have hk1 : decide ((n : Int) < (mm : Int)) = false := decide_eq_false (by omega)
      have hk1' : decide (n < mm) = false := decide_eq_false (by omega)
      by_cases h3 : n ≤ 64
      · have hk2 : decide ((64 : Int) < (n : Int)) = false := decide_eq_false (by omega)
        cases hcol : zs.all isCol with
        | false =>
          rw [winsB_no (stk_no5 hcol)]
          have HC := Lib.hid hcol
          clear hcol hn h1
          go_enter Try.func43, Try.ntmps43
          go_wp2_with fail
          refine (is_win _ _).mono ?_
          rintro e w1 ⟨rfl, rfl⟩
          rw [H1.out]
          rw [← hW]
          clear hW
          go_wp2_with fail
          refine (impl_colors A n c zs W HN.out hn2 hz HI.out).mono ?_
          rintro e w1 ⟨rfl, rfl⟩
          rw [HC.out]
          go_wp2
          go_ret
          exact ⟨rfl, HM.out, HB.out⟩
        | true =>
          obtain ⟨R, hR⟩ : ∃ R, R = winsB zs (mm : Int) := ⟨_, rfl⟩
          rw [← hR]
          have HY := Lib.hid (fun h4 => hR.trans (winsB_yes (stk_yes5 (zs := zs) h1 ⟨by omega, by omega⟩ hcol h4)))
          have HNO := Lib.hid (fun h4 => hR.trans (winsB_no (stk_no4 (zs := zs) (m := (mm : Int)) h4)))
          have HC := Lib.hid hcol
          have hq : 1 ≤ mm ∧ mm ≤ 6 := by omega
          clear hcol hn h1 hR
          go_enter Try.func43, Try.ntmps43
          go_wp2_with fail
          refine (is_win _ _).mono ?_
          rintro e w1 ⟨rfl, rfl⟩
          rw [H1.out]
          rw [← hW]
          clear hW
          go_wp2_with fail
          refine (impl_colors A n c zs W HN.out hn2 hz HI.out).mono ?_
          rintro e w1 ⟨rfl, rfl⟩
          rw [HC.out]
          go_wp2
          go_loopw [4, 34] (fun _ i wr => ∃ t : Nat, t ≤ n ∧ i = .int .i64 (t : Int) ∧ Hid (MapW wr (w.heap.size + 1) (wins zs mm t)) ∧ Hid (distB zs mm t = true) ∧ Hid (W.grownBy wr (some (w.heap.size + 1)))) (fun _ i _ => n - (intOf i).toNat)
          case atStart => exact ⟨0, Nat.zero_le _, rfl, HM, Lib.hid rfl, Lib.hid (World.grownBy.refl _ _)⟩
          case round =>
            obtain ⟨t, ht, rfl, HMT, HD, HG⟩ := hrel
            have ba' := (HG.out.cell ba (fun e => by simp at e))
            have bb' := (HG.out.cell bb (fun e => by simp at e))
            have HBT := Lib.hid (HB.out.grown HG.out (by omega) (fun k hk => by injection hk with hk; omega))
            have hszt := HG.out.size
            by_cases hlt : t < n
            · go_wp2_with fail
              refine (impl_from A n c mm t zs wr HN.out (by omega) (by omega) hnc h2 hlt ((HSS.out.below HBT.out).more HBT.out.size)).mono ?_
              rintro e w3 ⟨A3, c3, rfl, ho, hb⟩
              rw [winF_len] at ho
              rw [winF_len]
              have HO := Lib.hid (ints_of ho)
              have HM3 := Lib.hid (HMT.out.below hb HMT.out.lt)
              have HG3 := Lib.hid (show W.grownBy w3 (some (w.heap.size + 1)) from HG.out.trans ⟨hb.os, hb.tape, hb.output, hb.size, fun k hk _ => hb.block k hk⟩)
              have HOK := Lib.hid (wins_ok (zs := zs) hq.2 (by omega) HD.out)
              have HS := Lib.hid (wins_succ zs mm t)
              have HDN := Lib.hid (fun hf => dist_next (zs := zs) (m := mm) (k := t) HD.out hf)
              have HBD := Lib.hid (fun hf => HNO.out (by rw [HN.out]; exact dist_bad (zs := zs) (m := mm) (k := t) hf n hlt))
              have HFZ := Lib.hid (fits_win hz mm t)
              have HWL := Lib.hid (winF_len zs mm t)
              clear ho hb ba' bb' hszt
              go_wp2_with fail
              refine (impl_add (w.heap.size + 1) mm (wins zs mm t) A3 mm c3 (winF zs mm t) w3 HOK.out HM3.out HWL.out HWL.out (by omega) HFZ.out HO.out).mono ?_
              rintro e w4 ⟨rfl, hm4, hg4⟩
              have HG4 := Lib.hid (HG3.out.trans hg4)
              clear hg4
              by_cases hf : winF zs mm t ∈ wins zs mm t
              · rw [if_pos hf] at hm4
                rw [decide_eq_false (fun h => h hf)]
                obtain ⟨v5, w5, hrun, hm5, hg5⟩ := MapE.clr hm4 Try.underlying58 0
                have HM5 := Lib.hid hm5
                have HB5 := Lib.hid (HB.out.grown (HG4.out.trans hg5) (by omega) (fun k hk => by injection hk with hk; omega))
                have HRE := Lib.hid (HBD.out hf)
                have HRUN := Lib.hid hrun
                clear hm4 hm5 hg5 hf hrun
                go_wp2
                rw [HRUN.out]
                go_wp2
                go_ret
                exact ⟨rfl, by rw [HRE.out]; exact HM5.out, HB5.out⟩
              · rw [if_neg hf, ← HS.out] at hm4
                rw [decide_eq_true hf]
                have HM4 := Lib.hid hm4
                have HD4 := Lib.hid (HDN.out hf)
                clear hm4 hf
                go_wp2
                go_roundw
                case rel => exact ⟨t + 1, by omega, by go_num, HM4, HD4, HG4⟩
                case measure => simp [intOf]; omega
            · have htn : t = n := by omega
              subst htn
              have HRE := Lib.hid (show R = wins zs mm t by rw [HY.out (by rw [HN.out]; exact HD.out), HN.out]; rfl)
              go_wp2
              go_ret
              exact ⟨rfl, by rw [HRE.out]; exact HMT.out, HBT.out⟩
      · have hk2 : (64 : Int) < (n : Int) := by omega
        rw [winsB_no (stk_no2 (by rw [hn]; omega))]
        clear hn h1
        go_enter Try.func43, Try.ntmps43
        go_wp2_with fail
        refine (is_win _ _).mono ?_
        rintro e w1 ⟨rfl, rfl⟩
        rw [H1.out]
        rw [← hW]
        clear hW
        go_wp2
        go_ret
        exact ⟨rfl, HM.out, HB.out⟩
    · have hk1 : (n : Int) < (mm : Int) := by omega
      rw [winsB_no (stk_no2 (by rw [hn]; omega))]
      clear hn h1
      go_enter Try.func43, Try.ntmps43
      go_wp2_with fail
      refine (is_win _ _).mono ?_
      rintro e w1 ⟨rfl, rfl⟩
      rw [H1.out]
      rw [← hW]
      clear hW
      go_wp2
      go_ret
      exact ⟨rfl, HM.out, HB.out⟩
  · have H1 := Lib.hid (decide_eq_false h1)
    rw [winsB_no (stk_no1 h1)]
    clear h1 hn
    go_enter Try.func43, Try.ntmps43
    go_wp2_with fail
    refine (is_win _ _).mono ?_
    rintro e w1 ⟨rfl, rfl⟩
    rw [H1.out]
    rw [← hW]
    clear hW
    go_wp2
    go_ret
    exact ⟨rfl, HM.out, HB.out⟩
end Go.Proofs.Ytkonakfbidnfhaa.Ski
