/- The law of moves holds: a move rearranges the cards by its permutation, and only turns over the ones it states. No condition. -/
import Derived.Test.YtdelaoegfooaoaaMvz
import Derived.Test.YtdelaoegfooaoaaMkm
import Derived.Test.YtdelaoegfooaoaaMkq
import Derived.Test.YtdelaoegfooaoaaFrame
set_option linter.unusedVariables false
namespace Go.Proofs.Ytdelaoegfooaoaa.LawMoves
open Go.ChangeShapes Go.WideShapes Go.ChangeAt Go.RowKit Fr Own Ins Pk Pl Pok Arr Pfn Sam Rws Mvp Mok2 Pf Pa Pal Mvz

set_option maxHeartbeats 4000000 in
set_option maxRecDepth 20000 in
theorem walk (A : Option Addr) (n c : Nat) (zs : List Int) (w : World) (hn : zs.length = n) (hm : n ≤ maxLen) (hs : ∀ z ∈ zs, (Lit.int .u8 z).wf = true) (ha : Fr.IntsAt w w.heap.size .u8 A zs) :
    Calls Try.prog 3 #[.slice A n c] w fun e w' => e = .returned (.bool true) ∧ Below w.heap.size w w' := by
  have hm0 : n ≤ 9223372036854775807 := by unfold maxLen at hm; omega
  have hby := Cur.bytes_of hn hs ha
  clear hn hs ha zs hm
  by_cases h1 : n ≤ 1048576
  · have h1' : decide ((1048576 : Int) < (n : Int)) = false := decide_eq_false (by omega)
    have T : Below w.heap.size w w := Below.refl _ w
    go_enter Try.func3, Try.ntmps3
    go_wp2_with fail
    refine (Mkq.make_packet A n c 0 9 9 _ rfl h1 (by omega) (by omega) (by omega) hby).mono ?_
    rintro e w1 ⟨A_p, m, c_p, p, rfl, hl, hm1, hm9, hok, hown, hb⟩
    have s1 : w.heap.size ≤ w1.heap.size := hb.size
    replace T := T.trans (hb.mono (by omega))
    replace hby := (hby).below (hb.mono (by omega))
    clear hb
    have r_p := Ins.Row.mk hown
    clear hown
    have HL := Lib.hid hl
    have HK := Lib.hid hok
    have HF := Lib.hid (ok_fits hok)
    clear hl hok
    go_wp2_with fail
    refine (Mkm.make_move A n c 30 m _ hm1 hm9 h1 (by omega) (Mkm.more_bytes hby (by omega))).mono ?_
    rintro e w2 ⟨kd, k, rfl, hkk, hb⟩
    have s2 : w1.heap.size ≤ w2.heap.size := hb.size
    replace T := T.trans (hb.mono (by omega))
    replace hby := (hby).below (hb.mono (by omega))
    replace r_p := r_p.below hb
    clear hb
    have HKK := Lib.hid hkk
    obtain ⟨V1, V2, V3, V4, V5, V6, V7, V8, V9⟩ := mv_all HL.out hkk hm1 HK.out
    have HEND := Lib.hid hkk
    have hkd9 := kOk_le hkk hm1
    obtain ⟨kd1, kd2, kd3⟩ := hkd9
    clear hkk
    have HQF := Lib.hid (ok_fits V4)
    have H1 := Lib.hid V1
    have H2 := Lib.hid V2
    have H3 := Lib.hid V3
    have H4 := Lib.hid V4
    have H5 := Lib.hid V5
    have H6 := Lib.hid V6
    have H7 := Lib.hid V7
    have H8 := Lib.hid V8
    have H9 := Lib.hid V9
    have HSS := Lib.hid (show sameB (srcI kd k m) (srcI kd k m) = true from decide_eq_true rfl)
    have HST := Lib.hid (fun i hi => turn_step (i := i) HL.out HKK.out hm1 HK.out hi)
    clear V1 V2 V3 V4 V5 V6 V7 V8 V9
    obtain ⟨q, hq⟩ : ∃ q, q = moveF kd k p := ⟨_, rfl⟩
    rw [← hq] at H2 H3 H8 H9 HQF HST
    obtain ⟨sl, hsl⟩ : ∃ q, q = srcI kd k m := ⟨_, rfl⟩
    rw [← hsl] at H6 H7 H9 HSS
    clear hq hsl H4
    obtain ⟨K, hK⟩ : ∃ K : Int, (kd : Int) = K := ⟨_, rfl⟩
    rw [hK] at H1 H2 H5 H6
    rw [hK]
    have hm0 : (w2.alloc (.cells #[.int .i64 K, .int .i64 (k : Int)] 26)).cell? ⟨w2.heap.size, 0, none⟩ = some (.int .i64 K) := (box_kept (Below.refl _ _)).1
    have hm2 : (w2.alloc (.cells #[.int .i64 K, .int .i64 (k : Int)] 26)).cell? ⟨w2.heap.size, 1, none⟩ = some (.int .i64 (k : Int)) := (box_kept (Below.refl _ _)).2
    have hb := (Below.refl w2.heap.size w2).alloc (Nat.le_refl _) (.cells #[.int .i64 K, .int .i64 (k : Int)] 26)
    have sb : w2.heap.size + 1 ≤ (w2.alloc (.cells #[.int .i64 K, .int .i64 (k : Int)] 26)).heap.size := by simp
    obtain ⟨wb, hwb⟩ : ∃ W, W = w2.alloc (.cells #[.int .i64 K, .int .i64 (k : Int)] 26) := ⟨_, rfl⟩
    rw [← hwb] at hm0 hm2 hb sb
    have HWB := Lib.hid hwb
    clear hwb
    have s3 : w2.heap.size ≤ wb.heap.size := hb.size
    replace T := T.trans (hb.mono (by omega))
    replace hby := (hby).below (hb.mono (by omega))
    replace r_p := r_p.below hb
    clear hb
    go_wp2_with fail
    rw [← HWB.out]
    clear HWB
    refine (Pf.impl_perform A_p m c_p K (k : Int) p _ HL.out (Pa.row_cap r_p.own) (by omega) HF.out r_p.at_).mono ?_
    rintro e w4 ⟨A_q, c_q, rfl, hown, hb⟩
    rw [H2.out, H3.out] at hown
    rw [H2.out, H1.out, H3.out]
    replace hm0 := (hb.cell (p := ⟨w2.heap.size, 0, none⟩) (by show w2.heap.size < _; omega)).trans hm0
    replace hm2 := (hb.cell (p := ⟨w2.heap.size, 1, none⟩) (by show w2.heap.size < _; omega)).trans hm2
    have s4 : wb.heap.size ≤ w4.heap.size := hb.size
    replace T := T.trans (hb.mono (by omega))
    replace hby := (hby).below (hb.mono (by omega))
    replace r_p := r_p.below hb
    clear hb
    have r_q := Ins.Row.mk hown
    clear hown
    go_wp2_with fail
    refine (Pa.impl_pom (m : Int) K (k : Int) _ (by omega) (by omega)).mono ?_
    rintro e w5 ⟨A_a, c_a, rfl, hown, hb⟩
    rw [H6.out, H7.out] at hown
    rw [H6.out, H5.out, H7.out]
    replace hm0 := (hb.cell (p := ⟨w2.heap.size, 0, none⟩) (by show w2.heap.size < _; omega)).trans hm0
    replace hm2 := (hb.cell (p := ⟨w2.heap.size, 1, none⟩) (by show w2.heap.size < _; omega)).trans hm2
    have s5 : w4.heap.size ≤ w5.heap.size := hb.size
    replace T := T.trans (hb.mono (by omega))
    replace hby := (hby).below (hb.mono (by omega))
    replace r_p := r_p.below hb
    replace r_q := r_q.below hb
    clear hb
    have r_a := Ins.Row.mk hown
    clear hown
    go_wp2_with fail
    refine (Pfn.impl_bet A_p m c_p p A_q m c_q q _ HL.out (by omega) HF.out r_p.at_ H3.out (by omega) HQF.out r_q.at_).mono ?_
    rintro e w6 ⟨A_b, c_b, rfl, hown, hb⟩
    rw [H9.out, H7.out] at hown
    rw [H9.out, H8.out, H7.out]
    replace hm0 := (hb.cell (p := ⟨w2.heap.size, 0, none⟩) (by show w2.heap.size < _; omega)).trans hm0
    replace hm2 := (hb.cell (p := ⟨w2.heap.size, 1, none⟩) (by show w2.heap.size < _; omega)).trans hm2
    have s6 : w5.heap.size ≤ w6.heap.size := hb.size
    replace T := T.trans (hb.mono (by omega))
    replace hby := (hby).below (hb.mono (by omega))
    replace r_p := r_p.below hb
    replace r_q := r_q.below hb
    replace r_a := r_a.below hb
    clear hb
    have r_b := Ins.Row.mk hown
    clear hown
    go_wp2_with fail
    refine (Arr.impl_arr A_p m c_p p A_q m c_q q _ HL.out (by omega) HF.out r_p.at_ H3.out (by omega) HQF.out r_q.at_).mono ?_
    rintro e w7 ⟨rfl, hb⟩
    rw [H8.out]
    replace hm0 := (hb.cell (p := ⟨w2.heap.size, 0, none⟩) (by show w2.heap.size < _; omega)).trans hm0
    replace hm2 := (hb.cell (p := ⟨w2.heap.size, 1, none⟩) (by show w2.heap.size < _; omega)).trans hm2
    have s7 : w6.heap.size ≤ w7.heap.size := hb.size
    replace T := T.trans (hb.mono (by omega))
    replace hby := (hby).below (hb.mono (by omega))
    replace r_p := r_p.below hb
    replace r_q := r_q.below hb
    replace r_a := r_a.below hb
    replace r_b := r_b.below hb
    clear hb
    go_wp2_with fail
    refine (Mkp.same_any A_a A_b m m c_a c_b sl sl _ H7.out H7.out (by omega) (by omega) r_a.at_ r_b.at_).mono ?_
    rintro e w' ⟨rfl, rfl⟩
    rw [HSS.out]
    clear H1 H2 H5 H6 H7 H8 H9 HSS r_a r_b
    go_wp2
    go_loopw [11, 12, 13, 14, 74] (fun t _ _ _ ix wr => ∃ i : Nat, i ≤ m ∧ ix = .int .i64 (i : Int) ∧ t = .int .i64 ((cnt kd k i : Nat) : Int) ∧ wr = w7) (fun _ _ _ _ ix _ => m - (intOf ix).toNat)
    case atStart => exact ⟨0, Nat.zero_le _, rfl, by rw [cnt_zero]; rfl, rfl⟩
    case round =>
      obtain ⟨i, hi, rfl, rfl, rfl⟩ := hrel
      by_cases hlt : i < m
      · clear HEND
        obtain ⟨b, o, rfl, hbb, hc⟩ := r_p.at_ i (by rw [HL.out]; exact hlt)
        obtain ⟨j, hj, hpos, hcase⟩ := HST.out i hlt
        obtain ⟨b2, o2, rfl, hbb2, hc2⟩ := r_q.at_ j (by rw [H3.out]; exact hj)
        have hx := HF.out i (by rw [HL.out]; exact hlt)
        have hy := HQF.out j (by rw [H3.out]; exact hj)
        have hcnt := cnt_le kd k i
        obtain ⟨ct, hct⟩ : ∃ ct, ct = cnt kd k i := ⟨_, rfl⟩
        obtain ⟨cu, hcu⟩ : ∃ ct, ct = cnt kd k (i + 1) := ⟨_, rfl⟩
        rw [← hct, ← hcu] at hcase
        rw [← hct] at hcnt
        rw [← hct]
        have HCU := Lib.hid hcu
        have HFQ := Lib.hid HQF.out
        have HAT := Lib.hid r_q.at_
        clear hct hcu HST r_p r_q HL HK HF HKK HQF
        generalize p.getD i 0 = x at *
        generalize q.getD j 0 = y at *
        have HPOS := Lib.hid hpos
        clear hpos
        rcases hcase with ⟨hcy, hce⟩ | ⟨hkk, hcy, hce⟩
        · have hkk : True := trivial
          cases hux : upB x with
          | false =>
            have HUX := Lib.hid hux
            have HUY := Lib.hid (show upB y = false by rw [hcy, hux]; try rfl)
            clear hux hcy
            go_wp2_with fail
            refine (Pk.impl_card x _ hx.1 hx.2).mono ?_
            rintro e w' ⟨rfl, rfl⟩
            go_wp2_with fail
            refine (Pl.impl_pos _ m c_q q (cardF x) _ H3.out (by omega) HFQ.out HAT.out).mono ?_
            rintro e w' ⟨rfl, rfl⟩
            rw [HPOS.out]
            go_wp2_with fail
            refine (Pk.impl_up y _ hy.1 hy.2).mono ?_
            rintro e w' ⟨rfl, rfl⟩
            rw [HUY.out]
            go_wp2_with fail
            refine (Pk.impl_up x _ hx.1 hx.2).mono ?_
            rintro e w' ⟨rfl, rfl⟩
            rw [HUX.out]
            go_wp2
            go_roundw
            case rel => exact ⟨i + 1, by omega, by go_num, by rw [← HCU.out, hce]; try go_num, by trivial⟩
            case measure => simp [intOf]; omega
          | true =>
            have HUX := Lib.hid hux
            have HUY := Lib.hid (show upB y = true by rw [hcy, hux]; try rfl)
            clear hux hcy
            go_wp2_with fail
            refine (Pk.impl_card x _ hx.1 hx.2).mono ?_
            rintro e w' ⟨rfl, rfl⟩
            go_wp2_with fail
            refine (Pl.impl_pos _ m c_q q (cardF x) _ H3.out (by omega) HFQ.out HAT.out).mono ?_
            rintro e w' ⟨rfl, rfl⟩
            rw [HPOS.out]
            go_wp2_with fail
            refine (Pk.impl_up y _ hy.1 hy.2).mono ?_
            rintro e w' ⟨rfl, rfl⟩
            rw [HUY.out]
            go_wp2_with fail
            refine (Pk.impl_up x _ hx.1 hx.2).mono ?_
            rintro e w' ⟨rfl, rfl⟩
            rw [HUX.out]
            go_wp2
            go_roundw
            case rel => exact ⟨i + 1, by omega, by go_num, by rw [← HCU.out, hce]; try go_num, by trivial⟩
            case measure => simp [intOf]; omega
        · rcases hkk with ⟨rfl, hik⟩ | ⟨rfl, rfl⟩
          · have e3 : K = 3 := hK.symm
            subst e3
            cases hux : upB x with
            | false =>
              have HUX := Lib.hid hux
              have HUY := Lib.hid (show upB y = true by rw [hcy, hux]; try rfl)
              clear hux hcy
              go_wp2_with fail
              refine (Pk.impl_card x _ hx.1 hx.2).mono ?_
              rintro e w' ⟨rfl, rfl⟩
              go_wp2_with fail
              refine (Pl.impl_pos _ m c_q q (cardF x) _ H3.out (by omega) HFQ.out HAT.out).mono ?_
              rintro e w' ⟨rfl, rfl⟩
              rw [HPOS.out]
              go_wp2_with fail
              refine (Pk.impl_up y _ hy.1 hy.2).mono ?_
              rintro e w' ⟨rfl, rfl⟩
              rw [HUY.out]
              go_wp2_with fail
              refine (Pk.impl_up x _ hx.1 hx.2).mono ?_
              rintro e w' ⟨rfl, rfl⟩
              rw [HUX.out]
              go_wp2
              go_roundw
              case rel => exact ⟨i + 1, by omega, by go_num, by rw [← HCU.out, hce]; try go_num, by trivial⟩
              case measure => simp [intOf]; omega
            | true =>
              have HUX := Lib.hid hux
              have HUY := Lib.hid (show upB y = false by rw [hcy, hux]; try rfl)
              clear hux hcy
              go_wp2_with fail
              refine (Pk.impl_card x _ hx.1 hx.2).mono ?_
              rintro e w' ⟨rfl, rfl⟩
              go_wp2_with fail
              refine (Pl.impl_pos _ m c_q q (cardF x) _ H3.out (by omega) HFQ.out HAT.out).mono ?_
              rintro e w' ⟨rfl, rfl⟩
              rw [HPOS.out]
              go_wp2_with fail
              refine (Pk.impl_up y _ hy.1 hy.2).mono ?_
              rintro e w' ⟨rfl, rfl⟩
              rw [HUY.out]
              go_wp2_with fail
              refine (Pk.impl_up x _ hx.1 hx.2).mono ?_
              rintro e w' ⟨rfl, rfl⟩
              rw [HUX.out]
              go_wp2
              go_roundw
              case rel => exact ⟨i + 1, by omega, by go_num, by rw [← HCU.out, hce]; try go_num, by trivial⟩
              case measure => simp [intOf]; omega
          · have e3 : K = 8 := hK.symm
            subst e3
            cases hux : upB x with
            | false =>
              have HUX := Lib.hid hux
              have HUY := Lib.hid (show upB y = true by rw [hcy, hux]; try rfl)
              clear hux hcy
              go_wp2_with fail
              refine (Pk.impl_card x _ hx.1 hx.2).mono ?_
              rintro e w' ⟨rfl, rfl⟩
              go_wp2_with fail
              refine (Pl.impl_pos _ m c_q q (cardF x) _ H3.out (by omega) HFQ.out HAT.out).mono ?_
              rintro e w' ⟨rfl, rfl⟩
              rw [HPOS.out]
              go_wp2_with fail
              refine (Pk.impl_up y _ hy.1 hy.2).mono ?_
              rintro e w' ⟨rfl, rfl⟩
              rw [HUY.out]
              go_wp2_with fail
              refine (Pk.impl_up x _ hx.1 hx.2).mono ?_
              rintro e w' ⟨rfl, rfl⟩
              rw [HUX.out]
              go_wp2
              go_roundw
              case rel => exact ⟨i + 1, by omega, by go_num, by rw [← HCU.out, hce]; try go_num, by trivial⟩
              case measure => simp [intOf]; omega
            | true =>
              have HUX := Lib.hid hux
              have HUY := Lib.hid (show upB y = false by rw [hcy, hux]; try rfl)
              clear hux hcy
              go_wp2_with fail
              refine (Pk.impl_card x _ hx.1 hx.2).mono ?_
              rintro e w' ⟨rfl, rfl⟩
              go_wp2_with fail
              refine (Pl.impl_pos _ m c_q q (cardF x) _ H3.out (by omega) HFQ.out HAT.out).mono ?_
              rintro e w' ⟨rfl, rfl⟩
              rw [HPOS.out]
              go_wp2_with fail
              refine (Pk.impl_up y _ hy.1 hy.2).mono ?_
              rintro e w' ⟨rfl, rfl⟩
              rw [HUY.out]
              go_wp2_with fail
              refine (Pk.impl_up x _ hx.1 hx.2).mono ?_
              rintro e w' ⟨rfl, rfl⟩
              rw [HUX.out]
              go_wp2
              go_roundw
              case rel => exact ⟨i + 1, by omega, by go_num, by rw [← HCU.out, hce]; try go_num, by trivial⟩
              case measure => simp [intOf]; omega
      · have him : i = m := by omega
        subst him
        clear HST
        by_cases h3 : kd = 3
        · subst h3
          have e3 : K = 3 := hK.symm
          subst e3
          have hce := cnt_flip HEND.out
          rw [hce]
          go_wp2
          go_ret
          exact ⟨rfl, T⟩
        · by_cases h8 : kd = 8
          · subst h8
            have e3 : K = 8 := hK.symm
            subst e3
            have hce := cnt_turn HEND.out
            rw [hce]
            go_wp2
            go_ret
            exact ⟨rfl, T⟩
          · have hce := cnt_else (k := k) (m := i) h3 h8
            have n3 : K ≠ 3 := by omega
            have n8 : K ≠ 8 := by omega
            rw [hce]
            have hbb : (K != 3 && K != 8) = true := by simp [n3, n8]
            have HBB := Lib.hid hbb
            clear hbb
            go_wp2
            go_ret
            exact ⟨congrArg (fun b => Ending.returned (.bool b)) HBB.out, T⟩
  · have h1' : (1048576 : Int) < (n : Int) := by omega
    go_enter Try.func3, Try.ntmps3
    go_wp2
    go_ret
    exact ⟨rfl, Below.refl _ w⟩

set_option maxRecDepth 100000 in
theorem lifted (os : Os) (started : os.Started) (H : Type) (enc : TypeId × Value → H) :
    ReturnsInHanded {} Try.checked os 3 .any (Rows.fnMovesSpec.pre6 enc Try.prog Try.f3 Rows.fnMovesRow.domain false) (Rows.fnMovesSpec.post enc Try.prog Try.f3 false true false false) := by
  refine returnsInHanded_of_change (C := Try.checked) Fr.own started (by kernel_rfl) Try.func3
    (ChangeSpec.witness6 (enc := enc) (C := Try.checked) false ⟨#[], #[.slice none 0 0], []⟩ 8 (by kernel_rfl) (by kernel_rfl) (by kernel_rfl) (by kernel_rfl)) ?_
  intro W base args ds gs before hval0 hW hcnd _
  have hval : ∀ (j : Nat) t v, Try.f3.params[j]? = some t → args[j]? = some v → Value.okWide Try.prog W .any base t v := hval0
  have hW' := hW
  obtain ⟨p, q, hA0, hV, rfl, hfz, hnd⟩ := hW
  have hA : DataW.TrodAll enc Try.prog W 0 (fun _ => true) true Try.f3.params.toList args.toList ds p := hA0
  have hAk := hA
  rw [Try.params3] at hA hval
  obtain ⟨v0, d0, rfl, rfl, h0⟩ := trodAll_one hA
  obtain ⟨rfl, rfl⟩ := trodVars_none hV
  have hlt : ∀ x ∈ p, x.block < W.heap.size := fun x hx => by simpa using hW'.lt x (List.mem_append_left _ hx)
  obtain ⟨A0, n0, c0, l0, rfl, hn0, hm0, hs0, ha0⟩ := Fr.view_nums Try.underlying22 Try.underlying5 (by kernel_rfl) (hval 0 22 v0 rfl rfl) h0 hlt
  clear hA0 hval0
  refine (walk A0 n0 c0 l0 W hn0 hm0 hs0 ha0).mono fun e W' ⟨he, hb⟩ => ?_
  subst he
  exact ⟨_, rfl, _, _, _, [], p, [], hW', trodAll_mk1 (shut_bool Try.underlying4 _), Fr.below_all Fr.laidOut hb _ _ _ _ (Fr.readB_all (by kernel_rfl)) hAk hlt, rfl, hb.frame _, fun h => by cases h⟩

theorem proved : Rows.FnMovesSaid :=
  OpenClaim.holds_of_wide 3 Try.f3 rfl rfl rfl rfl rfl rfl rfl ⟨rfl, rfl, rfl, rfl, rfl⟩ rfl rfl rfl rfl rfl (by kernel_rfl) Try.func3 (by kernel_rfl)
    (of_decide_eq_true (by kernel_rfl)) (by unfold Func.isWrapper; first | (rw [if_pos (by decide +kernel)]; kernel_rfl) | (rw [if_neg (by decide +kernel)]; exact ⟨rfl, rfl⟩))
    (fun os started H enc _ => lifted os started H enc)

end Go.Proofs.Ytdelaoegfooaoaa.LawMoves
