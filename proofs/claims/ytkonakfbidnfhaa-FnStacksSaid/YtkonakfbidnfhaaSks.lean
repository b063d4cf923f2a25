/- Stacks in the model: l11Window, l05Find, StackOk, WindowAt, FindWindow, CutStack. -/
import Derived.Test.YtkonakfbidnfhaaSkp
import Derived.Test.YtkonakfbidnfhaaFnd
set_option linter.unusedVariables false
set_option maxRecDepth 20000
namespace Go.Proofs.Ytkonakfbidnfhaa.Sks
open Go.RowKit Fr _root_.Go.Proofs.Ytkonakfbidnfhaa.Own Pk Ins Rws Stk Skp Sam Fnd

theorem winF_succ (zs : List Int) (t a : Nat) : winF zs (t + 1) a = winF zs t a ++ [zs.getD ((a + t) % zs.length) 0] := by
  unfold winF
  rw [List.range_succ, List.map_append]
  rfl
set_option maxHeartbeats 1000000 in
theorem spec_w (A : Option Addr) (n c m a : Nat) (zs : List Int) (w : World) (hn : zs.length = n) (h0 : 0 < n) (hn2 : n ≤ 1048576) (hm : m ≤ 1048576) (ha : a ≤ 1048576) (hss : IntsAt w w.heap.size .i64 A zs) :
    Calls Try.prog 55 #[.slice A n c, .int .i64 (m : Int), .int .i64 (a : Int)] w (IsIL w.heap.size (winF zs m a) w) := by
  have HN := Lib.hid hn
  have HSS := Lib.hid hss
  obtain ⟨i0, hi, hz0, hz1, hz2⟩ := info_parts infoInt
  have HL := Lib.hid (World.ownsRow_lit (base := w.heap.size) (e := 3) (size := 1) w #[] 0 (Nat.le_refl _) (Nat.zero_le _) rfl)
  have HB0 := Lib.hid (box_below w (.cells #[] 3))
  clear hn hss
  go_enter Try.func55, Try.ntmps55
  go_wp2
  go_loopw [7, 8] (fun v i wr => ∃ t : Nat, t ≤ m ∧ i = .int .i64 (t : Int) ∧ (∃ A2 c2, v = .slice A2 t c2 ∧ Hid (wr.ownsRow w.heap.size 3 1 (.slice A2 t c2) t ((winF zs t a).map (Value.int .i64)))) ∧ Hid (Below w.heap.size w wr)) (fun _ i _ => m - (intOf i).toNat)
  case atStart => exact ⟨0, Nat.zero_le _, rfl, ⟨_, _, rfl, HL⟩, HB0⟩
  case round =>
    obtain ⟨t, ht, rfl, ⟨A2, c2, rfl, HO⟩, HB⟩ := hrel
    clear HL HB0
    have hsz := HB.out.size
    by_cases hlt : t < m
    · obtain ⟨x, hx⟩ : ∃ x, x = (a + t) % n := ⟨_, rfl⟩
      have hxn : x < n := by rw [hx]; exact Nat.mod_lt _ h0
      have hmod : ((a : Int) + (t : Int)) % (n : Int) = (x : Int) := by rw [hx]; first | norm_cast | simp
      obtain ⟨b, o, hA, hbb, hc⟩ := ((HSS.out.below HB.out).more hsz) x (by rw [HN.out]; exact hxn)
      have HW := Lib.hid (show winF zs (t + 1) a = winF zs t a ++ [zs.getD x 0] by rw [winF_succ, HN.out, ← hx])
      generalize zs.getD x 0 = y at hc HW
      subst hA
      clear hx
      go_wp2_with (at_builtin; refine app_more rfl (.tmp 15) (.tmp 25) 23 rfl w.heap.size 3 i0 (.int .i64 0) 8 Try.underlying23 hi hz0 hz1 hz2 (by decide) rfl _ _ _ _ rfl HO.out (.int .i64 y) rfl _ rfl rfl (by omega) hsz ?_; intro g c6 w5 hown5 hgr5)
      have HB5 := Lib.hid (HB.out.grown hgr5 hsz (fun k hk => (own_lo HO.out k hk).1))
      have HO5 := Lib.hid (show w5.ownsRow w.heap.size 3 1 (.slice (some ⟨g, 0, none⟩) (t + 1) c6) (t + 1) ((winF zs (t + 1) a).map (Value.int .i64)) by rw [HW.out, List.map_append]; exact hown5)
      clear hown5 hgr5
      go_roundw
      case rel => exact ⟨t + 1, by omega, by go_num, ⟨_, _, rfl, HO5⟩, HB5⟩
      case measure => simp [intOf]; omega
    · have htm : t = m := by omega
      subst htm
      go_wp2
      go_ret
      exact ⟨A2, c2, by rw [winF_len]; rfl, by rw [winF_len]; exact HO.out, HB.out⟩

theorem dist_next {zs : List Int} {m k : Nat} (h : distB zs m k = true) (hf : winF zs m k ∉ (List.range k).map (winF zs m)) : distB zs m (k + 1) = true := by
  simp only [distB]; rw [h, decide_eq_true hf]; rfl
theorem dist_bad {zs : List Int} {m k : Nat} (hf : winF zs m k ∈ (List.range k).map (winF zs m)) : ∀ j, k < j → distB zs m j = false
  | 0, h => by omega
  | j + 1, h => by
    simp only [distB]
    by_cases e : k = j
    · subst e
      rw [decide_eq_false (fun h => h hf), Bool.and_false]
    · rw [dist_bad hf j (by omega), Bool.false_and]
theorem stk_no1 {zs : List Int} {m : Int} (h : ¬ (1 ≤ m ∧ m ≤ 6)) : stkB zs m = false := by
  unfold stkB; rw [decide_eq_false (fun e => h ⟨e.1, e.2.1⟩)]; simp
theorem stk_no2 {zs : List Int} {m : Int} (h : ¬ (m ≤ (zs.length : Int) ∧ (zs.length : Int) ≤ 64)) : stkB zs m = false := by
  unfold stkB; rw [decide_eq_false (fun e => h ⟨e.2.2.1, by omega⟩)]; simp
theorem stk_no3 {zs : List Int} {m : Int} {j : Nat} (hj : j < zs.length) (h : ¬ (zs.getD j 0 = 0 ∨ zs.getD j 0 = 1)) : stkB zs m = false := by
  have hm : zs.getD j 0 ∈ zs := by
    rw [List.getD_eq_getElem?_getD, List.getElem?_eq_getElem hj]
    exact List.getElem_mem _
  have ha : zs.all (fun x => decide (x = 0 ∨ x = 1)) = false := by
    rw [Bool.eq_false_iff]
    intro e
    exact h (of_decide_eq_true (List.all_eq_true.1 e _ hm))
  unfold stkB; rw [ha]; simp
theorem stk_no4 {zs : List Int} {m : Int} (h : distB zs m.toNat zs.length = false) : stkB zs m = false := by
  unfold stkB; rw [h]; simp
theorem stk_yes {zs : List Int} {m : Int} (h1 : 1 ≤ m ∧ m ≤ 6) (h2 : m ≤ (zs.length : Int) ∧ (zs.length : Int) ≤ 64) (h3 : ∀ i, i < zs.length → zs.getD i 0 = 0 ∨ zs.getD i 0 = 1) (h4 : distB zs m.toNat zs.length = true) : stkB zs m = true := by
  have ha : zs.all (fun x => decide (x = 0 ∨ x = 1)) = true := by
    rw [List.all_eq_true]
    intro x hx
    obtain ⟨i, hi, rfl⟩ := List.getElem_of_mem hx
    have := h3 i hi
    rw [List.getD_eq_getElem?_getD, List.getElem?_eq_getElem hi] at this
    exact decide_eq_true this
  unfold stkB
  rw [ha, h4, decide_eq_true (show 1 ≤ m ∧ m ≤ 6 ∧ m ≤ (zs.length : Int) ∧ zs.length ≤ 64 by omega)]
  rfl
set_option maxHeartbeats 4000000 in
theorem spec_ok (A : Option Addr) (n c : Nat) (zs : List Int) (m : Int) (w : World) (hn : zs.length = n) (hnc : n ≤ c) (hn2 : n ≤ 1048576) (hz : Fits zs) (hss : IntsAt w w.heap.size .i64 A zs) :
    Calls Try.prog 22 #[stV A n c m] w fun e w' => e = .returned (.bool (stkB zs m)) ∧ Below w.heap.size w w' := by
  have HN := Lib.hid hn
  obtain ⟨i1, hj1, hy0, hy1, hy2⟩ := infos_parts
  have hb0 := box_below w (.cells #[.slice A n c, .int .i64 m] 25)
  obtain ⟨ba, bb⟩ := cell2 (heap_alloc_new w (.cells #[.slice A n c, .int .i64 m] 25))
  have hs0 : w.heap.size < (w.alloc (.cells #[.slice A n c, .int .i64 m] 25)).heap.size := by simp
  have HI := Lib.hid ((hss.below hb0).more hb0.size)
  have HB0 := Lib.hid hb0
  have HIN := Lib.hid hb0
  clear hss hb0
  by_cases h1 : 1 ≤ m ∧ m ≤ 6
  · have H1 := Lib.hid (decide_eq_true h1)
    obtain ⟨mm, rfl⟩ : ∃ mm : Nat, m = (mm : Int) := ⟨m.toNat, by omega⟩
    by_cases h2 : (mm : Int) ≤ (n : Int) ∧ (n : Int) ≤ 64
    · have H2 := Lib.hid (decide_eq_true h2)
      have hmn : 1 ≤ mm ∧ mm ≤ 6 ∧ mm ≤ n ∧ n ≤ 64 := by omega
      obtain ⟨R, hR⟩ : ∃ R, R = stkB zs (mm : Int) := ⟨_, rfl⟩
      rw [← hR]
      have HR := Lib.hid hR
      have HY := Lib.hid (fun h3 h4 => stk_yes (zs := zs) h1 (by rw [hn]; exact h2) h3 h4)
      clear hR h1 h2 hn
      go_enter Try.func22, Try.ntmps22
      go_wp2_with fail
      refine (in_any _ 1 6 _).mono ?_
      rintro e w1 ⟨rfl, rfl⟩
      rw [H1.out]
      go_wp2_with fail
      refine (in_any _ _ 64 _).mono ?_
      rintro e w1 ⟨rfl, rfl⟩
      rw [H2.out]
      obtain ⟨W, hW⟩ : ∃ W, W = w.alloc (.cells #[.slice A n c, .int .i64 (mm : Int)] 25) := ⟨_, rfl⟩
      rw [← hW] at ba bb hs0 HI HB0
      rw [← hW]
      clear hW HIN
      have h0n : 0 < n := by omega
      go_wp2
      go_loop [4, 24] (fun _ i => ∃ j : Nat, j ≤ n ∧ i = .int .i64 (j : Int) ∧ Hid (∀ k, k < j → zs.getD k 0 = 0 ∨ zs.getD k 0 = 1)) (fun _ i => n - (intOf i).toNat)
      case atStart => exact ⟨0, Nat.zero_le _, rfl, Lib.hid (fun k hk => absurd hk (Nat.not_lt_zero _))⟩
      case round =>
        obtain ⟨j, hj, rfl, HJ⟩ := hrel
        by_cases hlt : j < n
        · obtain ⟨b, o, hA, hbb, hc⟩ := HI.out j (by rw [HN.out]; exact hlt)
          have HBAD := Lib.hid (stk_no3 (zs := zs) (m := (mm : Int)) (j := j) (by rw [HN.out]; exact hlt))
          have HNX := Lib.hid (fun (h : zs.getD j 0 = 0 ∨ zs.getD j 0 = 1) (k : Nat) (hk : k < j + 1) => (show zs.getD k 0 = 0 ∨ zs.getD k 0 = 1 from by
            by_cases e : k = j
            · subst e; exact h
            · exact HJ.out k (by omega)))
          generalize zs.getD j 0 = x at hc HBAD HNX
          subst hA
          by_cases e0 : x = 0
          · subst e0
            have HNX2 := Lib.hid (HNX.out (Or.inl rfl))
            clear HNX HBAD
            go_wp2
            go_round
            case rel => exact ⟨j + 1, by omega, by go_num, HNX2⟩
            case measure => simp [intOf]; omega
          · have e0' : (x != 0) = true := by rw [bne_iff_ne]; exact e0
            by_cases e1 : x = 1
            · subst e1
              have HNX2 := Lib.hid (HNX.out (Or.inr rfl))
              clear HNX HBAD e0 e0'
              go_wp2
              go_round
              case rel => exact ⟨j + 1, by omega, by go_num, HNX2⟩
              case measure => simp [intOf]; omega
            · have e1' : (x != 1) = true := by rw [bne_iff_ne]; exact e1
              have HF := Lib.hid (HR.out.trans (HBAD.out (by omega)))
              clear HNX HBAD e0 e1
              go_wp2
              go_ret
              exact ⟨congrArg (fun z => Ending.returned (.bool z)) HF.out.symm, HB0.out⟩
        · have hjn : j = n := by omega
          subst hjn
          have HALL := Lib.hid (fun i (hi : i < zs.length) => HJ.out i (by rw [← HN.out]; exact hi))
          have HS0 := Lib.hid (show SplG W ((List.range 0).map (winF zs mm)) (.slice (some ⟨W.heap.size, 0, none⟩) 0 0) (W.alloc (.cells #[] 23)) from
            ⟨_, 0, [], rfl, World.ownsRow_lit (base := W.heap.size) (e := 23) (size := 1) W #[] 0 (Nat.le_refl _) (Nat.zero_le _) rfl, rfl, (fun r hr => by cases hr), (Below.refl _ W).alloc (Nat.le_refl _) _⟩)
          have pa := (((Below.refl W.heap.size W).alloc (Nat.le_refl _) (.cells #[] 23)).cell (p := ⟨w.heap.size, 0, none⟩) hs0).trans ba
          clear HJ hlt hj
          go_wp2
          clear pa
          go_loopw [5, 6, 7, 39] (fun v _ _ i wr => ∃ t : Nat, t ≤ j ∧ i = .int .i64 (t : Int) ∧ Hid (SplG W ((List.range t).map (winF zs mm)) v wr) ∧ Hid (distB zs mm t = true)) (fun _ _ _ i _ => j - (intOf i).toNat)
          case atStart => exact ⟨0, Nat.zero_le _, rfl, HS0, Lib.hid rfl⟩
          case round =>
            obtain ⟨t, ht, rfl, HS, HD⟩ := hrel
            clear HS0
            obtain ⟨A3, c3, RS, rfl, h3, hrz, hrR, hbw⟩ := HS.out
            have hVl : ((List.range t).map (winF zs mm)).length = t := by simp
            rw [hVl] at h3
            rw [hVl]
            have HBW := Lib.hid hbw
            have H3 := Lib.hid h3
            have HRZ := Lib.hid hrz
            have HRR := Lib.hid hrR
            have ba' := (hbw.cell (p := ⟨w.heap.size, 0, none⟩) hs0).trans ba
            have bb' := (hbw.cell (p := ⟨w.heap.size, 1, none⟩) hs0).trans bb
            clear h3 hrz hrR HS hVl
            by_cases hlt : t < j
            · clear hbw
              go_wp2_with fail
              refine (spec_w A j c mm t zs _ HN.out h0n (by omega) (by omega) (by omega) ((HI.out.below HBW.out).more HBW.out.size)).mono ?_
              rintro e w5 ⟨A5, c5, rfl, ho5, hb5⟩
              obtain ⟨q, hq⟩ : ∃ q, q = winF zs mm t := ⟨_, rfl⟩
              have hql : q.length = mm := by rw [hq, winF_len]
              rw [← hq, hql] at ho5
              rw [← hq, hql]
              have HQ := Lib.hid hq
              have HQL := Lib.hid hql
              have HO5 := Lib.hid (own_mono ho5 HBW.out.size)
              have H35 := Lib.hid (own_below H3.out hb5)
              have HR5 := Lib.hid (fun r hr => own_below (HRR.out r hr) hb5)
              have HB5 := Lib.hid (HBW.out.trans (hb5.mono HBW.out.size))
              have HLR := Lib.hid (show RS.length = t by have := congrArg List.length HRZ.out; simpa using this)
              have HLZ := Lib.hid (show ∀ i, i < t → (RS.getD i rd0).zs.length ≤ 1048576 from fun i hi => by
                have hm : (RS.getD i rd0).zs ∈ RS.map RD.zs := by
                  refine List.mem_map.2 ⟨_, ?_, rfl⟩
                  rw [List.getD_eq_getElem?_getD, List.getElem?_eq_getElem (by rw [HLR.out]; exact hi)]
                  exact List.getElem_mem _
                rw [HRZ.out] at hm
                obtain ⟨k, _, e⟩ := List.mem_map.1 hm
                rw [← e, winF_len]; omega)
              clear hb5 ho5 hq hql ba' bb'
              go_wp2_with fail
              refine (spec_fnd A3 A5 t c3 mm c5 RS q _ HLR.out (own_rows H35.out HLR.out HR5.out) HLZ.out (by omega) HQL.out (by omega) (ints_of HO5.out)).mono ?_
              rintro e w6 ⟨rfl, rfl⟩
              rw [HRZ.out]
              by_cases hf : q ∈ (List.range t).map (winF zs mm)
              · have HF := Lib.hid (HR.out.trans (stk_no4 (zs := zs) (m := (mm : Int)) (by rw [HN.out]; exact dist_bad (by show winF zs mm t ∈ List.map (winF zs mm) (List.range t); rw [← HQ.out]; exact hf) j hlt)))
                have HFD := Lib.hid (decide_eq_true hf)
                rw [HFD.out]
                clear hf
                go_wp2
                go_ret
                exact ⟨congrArg (fun z => Ending.returned (.bool z)) HF.out.symm, HB0.out.trans (HB5.out.mono HB0.out.size)⟩
              · have HDN := Lib.hid (dist_next HD.out (by rw [← HQ.out]; exact hf))
                have HFD := Lib.hid (decide_eq_false hf)
                have hsz5 := HB5.out.size
                rw [HFD.out]
                clear hf
                go_wp2_with (at_builtin; refine app_more rfl (.tmp 51) (.tmp 53) 65 rfl W.heap.size 23 i1 (.slice none 0 0) 24 Try.underlying65 hj1 hy0 hy1 hy2 (by decide) rfl _ _ _ _ rfl H35.out (.slice A5 mm c5) rfl _ rfl rfl (by omega) hsz5 ?_; intro g c6 w7 hown7 hgr7)
                have HV : (List.range (t + 1)).map (winF zs mm) = (List.range t).map (winF zs mm) ++ [q] := by rw [List.range_succ, List.map_append, HQ.out]; rfl
                have HS7 := Lib.hid (show SplG W ((List.range (t + 1)).map (winF zs mm)) (.slice (some ⟨g, 0, none⟩) (t + 1) c6) w7 from by
                  rw [HV]
                  have hvl : ((List.range t).map (winF zs mm)).length = t := by simp
                  have hrv : (RD.mk A5 c5 q).v = .slice A5 mm c5 := by unfold RD.v; rw [HQL.out]
                  have h := spg_put (w := W) (w1 := w5) (w5 := w7) (V := (List.range t).map (winF zs mm)) (RS := RS) (A3 := A3) (c3 := c3) (g3 := g) (c3' := c6) (r := ⟨A5, c5, q⟩) HRZ.out HB5.out
                    (by rw [hvl]; exact H35.out) HR5.out (by rw [hrv]; show World.ownsRow _ _ _ _ _ q.length _; rw [HQL.out]; exact HO5.out)
                    (by rw [hvl, hrv]; exact hown7) hgr7
                  rw [hvl] at h
                  exact h)
                clear hown7 hgr7 HV
                go_roundw
                case rel => exact ⟨t + 1, by omega, by go_num, HS7, HDN⟩
                case measure => simp [intOf]; omega
            · have htj : j = t := by omega
              subst htj
              have HT := Lib.hid (HR.out.trans (HY.out HALL.out (by rw [HN.out]; exact HD.out)))
              clear hbw ba' bb'
              go_wp2
              go_ret
              exact ⟨congrArg (fun z => Ending.returned (.bool z)) HT.out.symm, HB0.out.trans (HBW.out.mono HB0.out.size)⟩
    · have H2 := Lib.hid (decide_eq_false h2)
      have hno := stk_no2 (zs := zs) (m := (mm : Int)) (by rw [hn]; exact h2)
      rw [hno]
      clear hno h2 hn
      go_enter Try.func22, Try.ntmps22
      go_wp2_with fail
      refine (in_any _ 1 6 _).mono ?_
      rintro e w1 ⟨rfl, rfl⟩
      rw [H1.out]
      go_wp2_with fail
      refine (in_any _ _ 64 _).mono ?_
      rintro e w1 ⟨rfl, rfl⟩
      rw [H2.out]
      go_wp2
      go_ret
      exact ⟨rfl, HB0.out⟩
  · have H1 := Lib.hid (decide_eq_false h1)
    rw [stk_no1 h1]
    clear h1 hn
    go_enter Try.func22, Try.ntmps22
    go_wp2_with fail
    refine (in_any _ 1 6 _).mono ?_
    rintro e w1 ⟨rfl, rfl⟩
    rw [H1.out]
    go_wp2
    go_ret
    exact ⟨rfl, HB0.out⟩
/-! ### WindowAt -/
theorem win_no1 {zs : List Int} {m a : Int} (h : stkB zs m = false) : winB zs m a = false := by unfold winB; rw [h]; rfl
theorem win_no2 {zs : List Int} {m a : Int} (h : ¬ (0 ≤ a ∧ a ≤ (zs.length : Int) - 1)) : winB zs m a = false := by unfold winB; rw [decide_eq_false (by omega), Bool.and_false]
theorem win_yes {zs : List Int} {m a : Int} (h : stkB zs m = true) (h2 : 0 ≤ a ∧ a ≤ (zs.length : Int) - 1) : winB zs m a = true := by unfold winB; rw [h, decide_eq_true (by omega)]; rfl
theorem winA_no {zs : List Int} {m a : Int} (h : winB zs m a = false) : winA zs m a = [] := by unfold winA; rw [h]; rfl
theorem winA_yes {zs : List Int} {m a : Int} (h : winB zs m a = true) : winA zs m a = winF zs m.toNat a.toNat := by unfold winA; rw [if_pos h]
/-- a call hands back a list of ints in memory of its own and a bool -/
def IsLB (B : Nat) (zs : List Int) (b : Bool) (w : World) (e : Ending) (w' : World) : Prop :=
  ∃ A c, e = .returned (.tuple #[.slice A zs.length c, .bool b]) ∧ w'.ownsRow B 3 1 (.slice A zs.length c) zs.length (zs.map (Value.int .i64)) ∧ Below B w w'
set_option maxHeartbeats 1000000 in
theorem spec_win (A : Option Addr) (n c : Nat) (zs : List Int) (m a : Int) (w : World) (hn : zs.length = n) (hnc : n ≤ c) (hn2 : n ≤ 1048576) (hz : Fits zs) (hss : IntsAt w w.heap.size .i64 A zs) (h1 : -9223372036854775808 ≤ a) (h2 : a ≤ 9223372036854775807) :
    Calls Try.prog 25 #[stV A n c m, .int .i64 a] w (IsLB w.heap.size (winA zs m a) (winB zs m a) w) := by
  have HN := Lib.hid hn
  have hb0 := box_below w (.cells #[.slice A n c, .int .i64 m] 25)
  obtain ⟨ba, bb⟩ := cell2 (heap_alloc_new w (.cells #[.slice A n c, .int .i64 m] 25))
  have hs0 : w.heap.size < (w.alloc (.cells #[.slice A n c, .int .i64 m] 25)).heap.size := by simp
  have HI := Lib.hid ((hss.below hb0).more hb0.size)
  have HB0 := Lib.hid hb0
  clear hss hb0
  cases hk : stkB zs m with
  | false =>
    have hw := win_no1 (a := a) hk
    rw [winA_no hw, hw]
    have HK := Lib.hid hk
    clear hk hw hn
    go_enter Try.func25, Try.ntmps25
    go_wp2_with fail
    refine (spec_ok A n c zs m _ HN.out hnc hn2 hz HI.out).mono ?_
    rintro e w1 ⟨rfl, hb1⟩
    rw [HK.out]
    have ba1 := (hb1.cell (p := ⟨w.heap.size, 0, none⟩) hs0).trans ba
    have bb1 := (hb1.cell (p := ⟨w.heap.size, 1, none⟩) hs0).trans bb
    have HB1 := Lib.hid (HB0.out.trans (hb1.mono HB0.out.size))
    have HI1 := Lib.hid ((HI.out.below hb1).more hb1.size)
    have hs1 := Nat.lt_of_lt_of_le hs0 hb1.size
    clear hb1 ba bb HI
    go_wp2
    go_ret2
    exact ⟨none, 0, rfl, World.ownsRow_nil _ _ _ _, HB1.out⟩
  | true =>
    have HK := Lib.hid hk
    obtain ⟨p1, p2, p3, p4, _, _⟩ := stk_parts hk
    rw [hn] at p3 p4
    by_cases hin : 0 ≤ a ∧ a ≤ (n : Int) - 1
    · have hw := win_yes hk (by rw [hn]; exact hin)
      rw [winA_yes hw, hw]
      have HD := Lib.hid (decide_eq_true hin)
      obtain ⟨aa, rfl⟩ : ∃ aa : Nat, a = (aa : Int) := ⟨a.toNat, by omega⟩
      obtain ⟨mm, rfl⟩ : ∃ mm : Nat, m = (mm : Int) := ⟨m.toNat, by omega⟩
      have hq : mm ≤ 6 ∧ 1 ≤ mm ∧ aa < n ∧ n ≤ 64 := by omega
      clear hk hw hn hin
      go_enter Try.func25, Try.ntmps25
      go_wp2_with fail
      refine (spec_ok A n c zs (mm : Int) _ HN.out hnc hn2 hz HI.out).mono ?_
      rintro e w1 ⟨rfl, hb1⟩
      rw [HK.out]
      have ba1 := (hb1.cell (p := ⟨w.heap.size, 0, none⟩) hs0).trans ba
      have bb1 := (hb1.cell (p := ⟨w.heap.size, 1, none⟩) hs0).trans bb
      have HB1 := Lib.hid (HB0.out.trans (hb1.mono HB0.out.size))
      have HI1 := Lib.hid ((HI.out.below hb1).more hb1.size)
      have hs1 := Nat.lt_of_lt_of_le hs0 hb1.size
      clear hb1 ba bb HI
      go_wp2_with fail
      refine (in_any _ 0 _ _).mono ?_
      rintro e w2 ⟨rfl, rfl⟩
      rw [HD.out]
      go_wp2_with fail
      refine (spec_w A n c mm aa zs _ HN.out (by omega) (by omega) (by omega) (by omega) HI1.out).mono ?_
      rintro e w3 ⟨A3, c3, rfl, ho, hb⟩
      have HO := Lib.hid (own_mono ho HB1.out.size)
      have HB3 := Lib.hid (HB1.out.trans (hb.mono HB1.out.size))
      clear ho hb ba1 bb1
      go_wp2
      go_ret2
      exact ⟨A3, c3, rfl, HO.out, HB3.out⟩
    · have hw := win_no2 (m := m) (a := a) (by rw [hn]; exact hin)
      rw [winA_no hw, hw]
      have HD := Lib.hid (decide_eq_false hin)
      clear hk hw hn hin
      go_enter Try.func25, Try.ntmps25
      go_wp2_with fail
      refine (spec_ok A n c zs m _ HN.out hnc hn2 hz HI.out).mono ?_
      rintro e w1 ⟨rfl, hb1⟩
      rw [HK.out]
      have ba1 := (hb1.cell (p := ⟨w.heap.size, 0, none⟩) hs0).trans ba
      have bb1 := (hb1.cell (p := ⟨w.heap.size, 1, none⟩) hs0).trans bb
      have HB1 := Lib.hid (HB0.out.trans (hb1.mono HB0.out.size))
      have HI1 := Lib.hid ((HI.out.below hb1).more hb1.size)
      have hs1 := Nat.lt_of_lt_of_le hs0 hb1.size
      clear hb1 ba bb HI
      go_wp2_with fail
      refine (in_any _ 0 _ _).mono ?_
      rintro e w2 ⟨rfl, rfl⟩
      rw [HD.out]
      go_wp2
      go_ret2
      exact ⟨none, 0, rfl, World.ownsRow_nil _ _ _ _, HB1.out⟩

theorem find_no {zs q : List Int} {m : Int} (h : stkB zs m = false) : findI zs m q = -1 := by unfold findI; rw [h]; rfl
theorem find_yes {zs q : List Int} {m : Int} (h : stkB zs m = true) : findI zs m q = findFrom zs m.toNat q zs.length 0 := by unfold findI; rw [if_pos h]
theorem find_hit {zs q : List Int} {m f i : Nat} (h : winF zs m i = q) : findFrom zs m q (f + 1) i = (i : Int) := by simp only [findFrom]; rw [if_pos h]
theorem find_miss {zs q : List Int} {m f i : Nat} (h : winF zs m i ≠ q) : findFrom zs m q (f + 1) i = findFrom zs m q f (i + 1) := by simp only [findFrom]; rw [if_neg h]
set_option maxHeartbeats 1000000 in
theorem spec_find (A : Option Addr) (n c : Nat) (zs : List Int) (m : Int) (B : Option Addr) (nq cq : Nat) (q : List Int) (w : World) (hn : zs.length = n) (hnc : n ≤ c) (hn2 : n ≤ 1048576) (hz : Fits zs) (hss : IntsAt w w.heap.size .i64 A zs)
    (hq : q.length = nq) (hq2 : nq ≤ 1048576) (hqz : Fits q) (hqs : IntsAt w w.heap.size .i64 B q) :
    Calls Try.prog 30 #[stV A n c m, .slice B nq cq] w fun e w' => e = .returned (.int .i64 (findI zs m q)) ∧ Below w.heap.size w w' := by
  have HQL := Lib.hid hq
  have HQS := Lib.hid hqs
  have HN := Lib.hid hn
  have hb0 := box_below w (.cells #[.slice A n c, .int .i64 m] 25)
  obtain ⟨ba, bb⟩ := cell2 (heap_alloc_new w (.cells #[.slice A n c, .int .i64 m] 25))
  have hs0 : w.heap.size < (w.alloc (.cells #[.slice A n c, .int .i64 m] 25)).heap.size := by simp
  have HI := Lib.hid ((hss.below hb0).more hb0.size)
  have HB0 := Lib.hid hb0
  clear hss hb0 hq hqs
  cases hk : stkB zs m with
  | false =>
    rw [find_no hk]
    have HK := Lib.hid hk
    clear hk hn
    go_enter Try.func30, Try.ntmps30
    go_wp2_with fail
    refine (spec_ok A n c zs m _ HN.out hnc hn2 hz HI.out).mono ?_
    rintro e w1 ⟨rfl, hb1⟩
    rw [HK.out]
    have ba1 := (hb1.cell (p := ⟨w.heap.size, 0, none⟩) hs0).trans ba
    have bb1 := (hb1.cell (p := ⟨w.heap.size, 1, none⟩) hs0).trans bb
    have HB1 := Lib.hid (HB0.out.trans (hb1.mono HB0.out.size))
    have HI1 := Lib.hid ((HI.out.below hb1).more hb1.size)
    have hs1 := Nat.lt_of_lt_of_le hs0 hb1.size
    clear hb1 ba bb HI
    go_wp2
    go_ret
    exact ⟨rfl, HB1.out⟩
  | true =>
    have HK := Lib.hid hk
    obtain ⟨p1, p2, p3, p4, _, _⟩ := stk_parts hk
    rw [hn] at p3 p4
    obtain ⟨mm, rfl⟩ : ∃ mm : Nat, m = (mm : Int) := ⟨m.toNat, by omega⟩
    have hqm : mm ≤ 6 ∧ 1 ≤ mm ∧ mm ≤ n ∧ n ≤ 64 := by omega
    obtain ⟨R, hR⟩ : ∃ R, R = findI zs (mm : Int) q := ⟨_, rfl⟩
    rw [← hR]
    have HR := Lib.hid (show R = findFrom zs mm q n 0 by rw [hR, find_yes hk, hn]; rfl)
    clear hk hn hR p1 p2 p3 p4
    go_enter Try.func30, Try.ntmps30
    go_wp2_with fail
    refine (spec_ok A n c zs (mm : Int) _ HN.out hnc hn2 hz HI.out).mono ?_
    rintro e w1 ⟨rfl, hb1⟩
    rw [HK.out]
    have ba1 := (hb1.cell (p := ⟨w.heap.size, 0, none⟩) hs0).trans ba
    have bb1 := (hb1.cell (p := ⟨w.heap.size, 1, none⟩) hs0).trans bb
    have HB1 := Lib.hid (HB0.out.trans (hb1.mono HB0.out.size))
    have HI1 := Lib.hid ((HI.out.below hb1).more hb1.size)
    have hs1 := Nat.lt_of_lt_of_le hs0 hb1.size
    clear hb1 ba bb HI
    go_wp2
    go_loopw [5, 12] (fun _ i wr => ∃ t : Nat, t ≤ n ∧ i = .int .i64 (t : Int) ∧ Hid (R = findFrom zs mm q (n - t) t) ∧ Hid (Below w1.heap.size w1 wr)) (fun _ i _ => n - (intOf i).toNat)
    case atStart => exact ⟨0, Nat.zero_le _, rfl, HR, Lib.hid (Below.refl _ _)⟩
    case round =>
      obtain ⟨t, ht, rfl, HT, HBW⟩ := hrel
      have ba' := (HBW.out.cell (p := ⟨w.heap.size, 0, none⟩) hs1).trans ba1
      have bb' := (HBW.out.cell (p := ⟨w.heap.size, 1, none⟩) hs1).trans bb1
      have HBT := Lib.hid (HB1.out.trans (HBW.out.mono HB1.out.size))
      by_cases hlt : t < n
      · obtain ⟨f, hf⟩ : ∃ f, n - t = f + 1 := ⟨n - t - 1, by omega⟩
        have HT2 := Lib.hid (show R = findFrom zs mm q (f + 1) t by rw [← hf]; exact HT.out)
        have HF1 := Lib.hid (show f = n - (t + 1) by omega)
        clear hf HT
        go_wp2_with fail
        refine (spec_w A n c mm t zs _ HN.out (by omega) (by omega) (by omega) (by omega) ((HI1.out.below HBW.out).more HBW.out.size)).mono ?_
        rintro e w3 ⟨A3, c3, rfl, ho, hb⟩
        have hwl : (winF zs mm t).length = mm := winF_len _ _ _
        rw [hwl] at ho
        rw [hwl]
        have HWL := Lib.hid hwl
        have HO := Lib.hid ho
        have HBW3 := Lib.hid (HBW.out.trans (hb.mono HBW.out.size))
        have HQ3 := Lib.hid (((HQS.out.below (HBT.out.trans (hb.mono HBT.out.size)))).more (HBT.out.trans (hb.mono HBT.out.size)).size)
        clear ho hb hwl ba' bb'
        go_wp2_with fail
        refine (spec_same A3 B mm nq c3 cq (winF zs mm t) q _ HWL.out HQL.out (by omega) (by omega) (ints_of HO.out) HQ3.out).mono ?_
        rintro e w4 ⟨rfl, rfl⟩
        by_cases he : winF zs mm t = q
        · have HSB := Lib.hid (show sameB (winF zs mm t) q = true from decide_eq_true he)
          have HE := Lib.hid (HT2.out.trans (find_hit he))
          rw [HSB.out]
          clear he
          go_wp2
          go_ret
          exact ⟨congrArg (fun z => Ending.returned (.int .i64 z)) HE.out.symm, HB1.out.trans (HBW3.out.mono HB1.out.size)⟩
        · have HSB := Lib.hid (show sameB (winF zs mm t) q = false from decide_eq_false he)
          have HE := Lib.hid (show R = findFrom zs mm q (n - (t + 1)) (t + 1) by rw [← HF1.out]; exact HT2.out.trans (find_miss he))
          rw [HSB.out]
          clear he
          go_wp2
          go_roundw
          case rel => exact ⟨t + 1, by omega, by go_num, HE, HBW3⟩
          case measure => simp [intOf]; omega
      · have HE := Lib.hid (show R = -1 by
          have h := HT.out
          rw [show n - t = 0 by omega] at h
          exact h)
        clear HT
        go_wp2
        go_ret
        exact ⟨congrArg (fun z => Ending.returned (.int .i64 z)) HE.out.symm, HBT.out⟩
end Go.Proofs.Ytkonakfbidnfhaa.Sks
