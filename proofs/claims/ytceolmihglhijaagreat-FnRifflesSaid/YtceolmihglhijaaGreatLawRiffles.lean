/- The law of the riffles holds: exactly the permutations with at most two rising sequences result from one, and all ways together are 2 to the power of n. No condition. -/
import Derived.Deep.RegionHeld3
import Derived.Deep.RegionWith
import Derived.Deep.Cut
import Derived.BigQuiet
import Derived.Test.YtceolmihglhijaaGreatMkp
import Derived.Test.YtceolmihglhijaaGreatMrf
import Derived.Test.YtceolmihglhijaaGreatRsc
import Derived.Test.YtceolmihglhijaaGreatCur
import Derived.Test.YtceolmihglhijaaGreatFrame
set_option linter.unusedVariables false
namespace Go.Proofs.YtceolmihglhijaaGreat.LawRiffles
open Go.ChangeShapes Go.WideShapes Go.ChangeAt Go.RowKit Fr _root_.Go.Proofs.YtceolmihglhijaaGreat.Own Ins Sam Prm Rws Pfn Orb Cyc Grp Wv Srt Raf Ro Rsm Rsc Rss Rsh Rsw Rfl Mkp

theorem more_bytes {w : World} {B B' : Nat} {A : Option Addr} {n : Nat} (h : Cur.BytesAt w B A n) (hB : B ≤ B') : Cur.BytesAt w B' A n := by
  intro k hk
  obtain ⟨b, o, x, hA, hlt, r⟩ := h k hk
  exact ⟨b, o, x, hA, by omega, r⟩
theorem fits_perm {zs : List Int} (h : permB zs = true) : Fits zs := by
  intro i hi
  have h1 := (permB_yes h).1
  have h2 := (bij_of h).lt i hi
  have h3 := fOf_get h hi
  omega

set_option maxHeartbeats 4000000 in
set_option maxRecDepth 20000 in
theorem walk (A : Option Addr) (n c : Nat) (zs : List Int) (w : World) (hn : zs.length = n) (hm : n ≤ maxLen) (hs : ∀ z ∈ zs, (Lit.int .u8 z).wf = true) (ha : Fr.IntsAt w w.heap.size .u8 A zs) :
    Calls Tryz.prog 3 #[.slice A n c] w fun e w' => e = .returned (.bool true) ∧ Below w.heap.size w w' := by
  have hm0 : n ≤ 9223372036854775807 := by unfold maxLen at hm; omega
  have hby := Cur.bytes_of hn hs ha
  clear hn hs ha zs hm
  by_cases h1 : n ≤ 1048576
  · have h1' : decide ((1048576 : Int) < (n : Int)) = false := decide_eq_false (by omega)
    have T : Below w.heap.size w w := Below.refl _ w
    go_enter Tryz.func3, Tryz.ntmps3
    go_wp2_with fail
    refine (Mrf.make_riffle A n c _ h1 hby).mono ?_
    rintro e w1 ⟨A_za, m, c_za, za, rfl, hl_za, hm1, hm7, his, hown, hb⟩
    have s1 : w.heap.size ≤ w1.heap.size := hb.size
    replace T := T.trans (hb.mono (by omega))
    replace hby := (hby).below (hb.mono (by omega))
    clear hb
    have r_za := Ins.Row.mk hown
    clear hown
    go_wp2_with fail
    refine (Mkp.make_perm A n c 20 m _ h1 (by omega) hm1 (by omega) (more_bytes hby (by omega))).mono ?_
    rintro e w2 ⟨A_zb, c_zb, zb, rfl, hl_zb, hp_zb, hown, hb⟩
    have s2 : w1.heap.size ≤ w2.heap.size := hb.size
    replace T := T.trans (hb.mono (by omega))
    replace hby := (hby).below (hb.mono (by omega))
    replace r_za := r_za.below hb
    clear hb
    have r_zb := Ins.Row.mk hown
    clear hown
    have hp_za := (isr_parts his).1
    have hR2 := (isr_parts his).2
    obtain ⟨R, hR⟩ : ∃ R, R = cntS za := ⟨_, rfl⟩
    have hR1 : R = 1 ∨ R = 2 := by
      rw [← hR] at hR2
      have h0 : R ≠ 0 := fun e => by
        rcases (cnt_zero za).1 (hR ▸ e) with q | q
        · rw [hp_za] at q; cases q
        · rw [q] at hl_za; simp at hl_za; omega
      omega
    have HSPL := Lib.hid (show R = 2 → splitF za = ((((riseI za).getD 0 []).length : Nat) : Int) from fun q => by unfold splitF; rw [if_pos (by rw [← hR]; exact q)])
    obtain ⟨rz, hrz⟩ : ∃ r, r = riseI za := ⟨_, rfl⟩
    have HRL := Lib.hid (show (riseI za).length = R by rw [hR]; exact rise_len za)
    have HRX := Lib.hid hrz
    have hrl : rz.length = R := by rw [hrz]; exact HRL.out
    have hsum : lens rz R = m := by rw [← hrl, hrz, ← hl_za]; exact rise_sum hp_za
    rw [← hrz] at HSPL
    obtain ⟨N, hN⟩ : ∃ N, N = (cano (rifI (imarks 0 m))).length := ⟨_, rfl⟩
    obtain ⟨L, hL⟩ : ∃ L, L = cano (rifI (imarks 0 m)) := ⟨_, rfl⟩
    rw [← hL] at hN
    obtain ⟨P, hP⟩ : ∃ P : Nat, P = 2 ^ m := ⟨_, rfl⟩
    have hP2 : P ≤ 128 := by rw [hP]; exact Nat.pow_le_pow_right (by decide) hm7
    have hPm : m < P := by rw [hP]; exact Nat.lt_two_pow_self
    have hNP : N = P - m := by rw [hN, hL, hP]; exact (res_n hm1 hm7).2
    have HRA := Lib.hid (show raR 2 [imarks 0 m] = L by rw [hL]; exact raR_rif hm1 hm7)
    have HRB := Lib.hid (res_n hm1 hm7).1
    have hws := ways_sum hm1 hm7
    rw [← hL, ← hP] at hws
    have HWS := Lib.hid (show wsum L N = (P : Int) by rw [hN, wsum_all]; exact hws.1)
    have HWY := Lib.hid hws.2
    have HLM := Lib.hid (show ∀ x ∈ L, x.length = m ∧ permB x = true from fun x hx => by
      have hx2 := (cano_mem _ _).1 (hL ▸ hx)
      exact ⟨rif_len hx2, (isr_parts (rif_isr hm7 hx2)).1⟩)
    have HNL := Lib.hid hN
    have HCF := Lib.hid (show cntF (m : Int) = (P : Int) - (m : Int) by unfold cntF; rw [if_pos (by omega), hP]; rfl)
    have hshl : IntKind.i64.wrap ((2 : Int) ^ m) = (P : Int) := by
      have q : ((2 : Int) ^ m) = ((2 ^ m : Nat) : Int) := by simp
      rw [q, ← hP, IntKind.wrap_i64]; omega
    have HSH := Lib.hid hshl
    have hwm : IntKind.i64.wrap ((P : Int) - (m : Int)) = (P : Int) - (m : Int) := by rw [IntKind.wrap_i64]; omega
    have HWM := Lib.hid hwm
    have HISA := Lib.hid his
    obtain ⟨ib, hib⟩ : ∃ b, b = isrF zb := ⟨_, rfl⟩
    have HISB := Lib.hid hib.symm
    have HIB := Lib.hid (show isrB 2 (imarks 0 m) zb = ib by rw [hib]; exact isr_same hm1 hm7 hl_zb)
    have HNEW := Lib.hid (Nwp.newF_yes m (by omega))
    have HLI := Lib.hid (imarks_length 0 m)
    have HFI := Lib.hid (fits_perm (im_ok (n := m) (by omega)))
    have HL_za := Lib.hid hl_za
    have HL_zb := Lib.hid hl_zb
    have HF_za := Lib.hid (fits_perm hp_za)
    have HF_zb := Lib.hid (fits_perm hp_zb)
    have HRZL := Lib.hid hrl
    have HSUM := Lib.hid hsum
    clear his hp_za hp_zb hR hR2 hrz hrl hsum hN hL hws hP hshl hwm hib hl_za hl_zb
    go_wp2_with fail
    refine (Rsc.impl_rise A_za m c_za za _ HL_za.out (by omega) HF_za.out r_za.at_).mono ?_
    rintro e w3 ⟨A_r, c_r, rr, rfl, hrr, r_r, hb⟩
    rw [HRL.out] at r_r
    rw [HRL.out]
    rw [← HRX.out] at hrr
    have HRR := Lib.hid hrr
    clear hrr
    have s3 : w2.heap.size ≤ w3.heap.size := hb.size
    replace T := T.trans (hb.mono (by omega))
    replace hby := (hby).below (hb.mono (by omega))
    replace r_za := r_za.below hb
    replace r_zb := r_zb.below hb
    clear hb
    obtain ⟨g_r, hgr, hca0⟩ := r_r.cell 0 (by omega)
    subst hgr
    clear hca0
    have hgb : g_r < w3.heap.size := (own_lo r_r.1 g_r rfl).2
    have hrl := r_r.len
    go_wp2
    go_loop [7, 9, 30] (fun q _ i => ∃ k : Nat, k ≤ R ∧ i = .int .i64 (k : Int) ∧ q = .int .i64 ((lens rz k : Nat) : Int)) (fun _ _ i => R - (intOf i).toNat)
    case atStart => exact ⟨0, Nat.zero_le _, rfl, by rw [lens_zero]; rfl⟩
    case round =>
      obtain ⟨k, hk, rfl, rfl⟩ := hrel
      by_cases hlt : k < R
      · obtain ⟨g_x, hgx, hca⟩ := r_r.cell k hlt
        simp only [Option.some.injEq, Addr.mk.injEq, and_true] at hgx
        subst hgx
        have hzk : (rr.getD k rd0).zs = rz.getD k [] := by rw [← HRR.out]; exact (Raf.get_zs (by omega)).symm
        have hls := lens_succ rz (i := k) (by rw [HRZL.out]; exact hlt)
        have hmo := lens_mono rz (show k + 1 ≤ R by omega)
        rw [HSUM.out] at hmo
        simp only [RD.v] at hca
        rw [hzk] at hca
        clear hzk
        generalize (rr.getD k rd0).A = Ak at *
        generalize (rr.getD k rd0).c = ck at *
        generalize (rz.getD k []).length = d at *
        rw [hls] at hmo
        have HLS := Lib.hid hls
        clear hls
        generalize lens rz k = q at *
        have hx0 : (0 : Int) ≤ (k : Int) := by omega
        clear hrl r_r r_za r_zb hby T
        go_wp2
        go_round
        case rel => exact ⟨k + 1, by omega, by go_num, by rw [HLS.out]; go_num⟩
        case measure => simp [intOf]; omega
      · have hkR : R = k := by omega
        subst hkR
        have hsm := HSUM.out
        generalize lens rz R = q at *
        have hsm2 : m = q := hsm.symm
        subst hsm2
        have hd2 : decide ((2 : Int) < (R : Int)) = false := decide_eq_false (by omega)
        have hd2n : decide (2 < R) = false := decide_eq_false (by omega)
        clear HSUM hsm hrl
        go_upto_region 13 with fail
        go_cut [69] from 39 (fun s wx => s = .bool false ∧ Below w3.heap.size w3 wx)
        case first =>
          have hne : (ib != ib) = false := by simp
          have hshl := HSH.out
          have hwm := HWM.out
          have HB := (Below.refl w3.heap.size w3).drew
          clear r_r hby T HWS HWY HLM HRA HRB HRR HRX HSPL
          go_region_held3 (fun _ => True) ((first | exact trivial)) ((first | (go_at_call 7; have SA := HISA; clear HISA; refine (Rsw.impl_isr A_za m c_za za _ HL_za.out (by omega) HF_za.out (r_za.below HB).at_).mono ?_; rintro e wa ⟨rfl, hb⟩; rw [SA.out]; replace HB := HB.trans (hb.mono HB.size); clear hb) | (go_at_call 7; refine (Rsw.impl_isr A_zb m c_zb zb _ HL_zb.out (by omega) HF_zb.out (r_zb.below HB).at_).mono ?_; rintro e wb ⟨rfl, hb⟩; rw [HISB.out]; replace HB := HB.trans (hb.mono HB.size); (try replace r_p := r_p.below hb); clear hb) | (go_at_call 8; refine (Rsw.impl_cr (m : Int) _ (by omega) (by omega)).mono ?_; rintro e w' ⟨rfl, rfl⟩; rw [HCF.out]) | (go_at_call 10; refine (Nwp.impl_new (m : Int) _ (by omega) (by omega)).mono ?_; rintro e wp ⟨A_p, c_p, rfl, hown, hb⟩; rw [HNEW.out, HLI.out] at hown; rw [HNEW.out, HLI.out]; replace HB := HB.trans (hb.mono HB.size); have r_p := Ins.Row.mk hown; clear hown hb) | (go_at_call 9; refine (Ro.impl_isr A_p A_zb m c_p m c_zb (imarks 0 m) zb 2 _ HLI.out HFI.out (by omega) r_p.at_ HL_zb.out (by omega) (r_zb.below HB).at_).mono ?_; rintro e wi ⟨rfl, hb⟩; rw [HIB.out]; replace HB := HB.trans (hb.mono HB.size); clear hb)))
          all_goals (go_wp2_with fail; go_meet; exact ⟨rfl, HB⟩)
        case rest =>
        obtain ⟨rfl, hb⟩ := hcut
        have s4 : w3.heap.size ≤ wc.heap.size := hb.size
        replace T := T.trans (hb.mono (by omega))
        replace r_za := r_za.below hb
        replace r_r := r_r.below hb
        clear hb hby r_zb HISA HISB HIB HCF hd2 hd2n HL_zb HF_zb
        go_wp2_with fail
        refine (Nwp.impl_new (m : Int) _ (by omega) (by omega)).mono ?_
        rintro e w5 ⟨A_p, c_p, rfl, hown, hb⟩
        rw [HNEW.out, HLI.out] at hown
        rw [HNEW.out, HLI.out]
        have s5 : wc.heap.size ≤ w5.heap.size := hb.size
        replace T := T.trans (hb.mono (by omega))
        replace r_za := r_za.below hb
        replace r_r := r_r.below hb
        have r_p := Ins.Row.mk hown
        clear hown hb
        go_wp2_with fail
        refine (Ro.impl_ro A_p m c_p (imarks 0 m) 2 _ HLI.out HFI.out (by omega) r_p.at_).mono ?_
        rintro e w6 ⟨A_l, c_l, rl, rfl, hrl, r_l, hb⟩
        rw [HRA.out] at hrl r_l
        rw [HRA.out, HRB.out]
        rw [← HNL.out] at r_l
        rw [← HNL.out]
        have HRLL := Lib.hid hrl
        have s6 : w5.heap.size ≤ w6.heap.size := hb.size
        replace T := T.trans (hb.mono (by omega))
        replace r_za := r_za.below hb
        replace r_r := r_r.below hb
        clear hb r_p hrl HRA HRB HNEW HLI HFI
        have hN1 : 1 ≤ N := by omega
        obtain ⟨g_l, hgl, hc0⟩ := r_l.cell 0 (by omega)
        subst hgl
        clear hc0
        have hglb : g_l < w6.heap.size := (own_lo r_l.1 g_l rfl).2
        have hrll := r_l.len
        go_wp2
        go_loopw [12, 78] (fun s ix wr => ∃ k : Nat, k ≤ N ∧ ix = .int .i64 (k : Int) ∧ s = .int .i64 (wsum L k) ∧ Below w6.heap.size w6 wr) (fun _ ix _ => N - (intOf ix).toNat)
        case atStart => exact ⟨0, Nat.zero_le _, rfl, by rw [wsum_zero], Below.refl _ _⟩
        case round =>
          obtain ⟨k, hk, rfl, rfl, hbV⟩ := hrel
          have sV := hbV.size
          by_cases hlt : k < N
          · replace r_l := r_l.below hbV
            clear r_za r_r T
            obtain ⟨g_x, hgx, hca⟩ := r_l.cell k hlt
            simp only [Option.some.injEq, Addr.mk.injEq, and_true] at hgx
            subst hgx
            have r_q := r_l.2.1 k (by omega)
            have hzq : (rl.getD k rd0).zs = L.getD k [] := by rw [← HRLL.out]; exact (Raf.get_zs (by omega)).symm
            simp only [RD.v] at hca
            rw [hzq] at hca r_q
            have hmm : L.getD k [] ∈ L := by
              rw [List.getD_eq_getElem?_getD, List.getElem?_eq_getElem (by rw [← HNL.out]; exact hlt)]
              exact List.getElem_mem _
            obtain ⟨hql, hqp⟩ := HLM.out _ hmm
            have hv1 := HWY.out _ hmm
            have hv2 := (ways_bd (q := L.getD k []) (by omega)).2
            have hws := wsum_succ L (i := k) (by rw [← HNL.out]; exact hlt)
            have hwb := wsum_bd (L := L) (fun x hx => by have := (HLM.out x hx).1; omega) k (by rw [← HNL.out]; exact hk)
            rw [hql] at hca r_q
            obtain ⟨z, hz⟩ : ∃ z, z = L.getD k [] := ⟨_, rfl⟩
            rw [← hz] at hql hqp hv1 hv2 hws r_q
            obtain ⟨v, hv⟩ : ∃ v, v = waysF z := ⟨_, rfl⟩
            rw [← hv] at hv1 hv2 hws
            have HV := Lib.hid hv.symm
            obtain ⟨sm, hsm⟩ : ∃ v, v = wsum L k := ⟨_, rfl⟩
            rw [← hsm] at hws hwb
            rw [← hsm]
            have HWX := Lib.hid hws
            have HQL := Lib.hid hql
            have HQF := Lib.hid (fits_perm hqp)
            generalize (rl.getD k rd0).A = A_q at *
            generalize (rl.getD k rd0).c = c_q at *
            have hx0 : (0 : Int) ≤ (k : Int) := by omega
            have hv3 : decide (v < 1) = false := decide_eq_false (by omega)
            clear hql hqp hws hv hsm hz hmm hzq r_l
            go_wp2_with fail
            refine (Rsw.impl_ways A_q m c_q z _ HQL.out (by omega) HQF.out r_q.at_ (by omega)).mono ?_
            rintro e w7 ⟨rfl, hb⟩
            rw [HV.out]
            replace hbV := hbV.trans (hb.mono (by omega))
            clear hb r_q hca
            go_wp2
            go_roundw
            case rel => exact ⟨k + 1, by omega, by go_num, by rw [HWX.out], hbV⟩
            case measure => simp [intOf]; omega
          · have hkN : N = k := by omega
            subst hkN
            have hws := HWS.out
            generalize wsum L N = sm at *
            subst hws
            replace T := T.trans (hbV.mono (by omega))
            replace r_za := r_za.below hbV
            replace r_r := r_r.below hbV
            have hshl := HSH.out
            clear r_l hbV HWS HWY HLM
            rcases hR1 with hR | hR
            · subst hR
              have h12 : ((1 : Int) != 2) = true := rfl
              have h12c : (((1 : Nat) : Int) != 2) = true := rfl
              have h12d : ((1 : Int) = 2) = False := by simp
              clear r_za r_r
              go_upto_region 25 with fail
              go_quiet (fail)
              go_wp2
              go_ret
              exact ⟨rfl, ⟨T.os, T.tape, T.output, T.size, T.block⟩⟩
            · have hr2 : ((R : Int) != 2) = false := by rw [bne_eq_false_iff_eq]; omega
              obtain ⟨g_x, hgx, hca⟩ := r_r.cell 0 (by omega)
              simp only [Option.some.injEq, Addr.mk.injEq, and_true] at hgx
              subst hgx
              have hzk : (rr.getD 0 rd0).zs = rz.getD 0 [] := by rw [← HRR.out]; exact (Raf.get_zs (by have := r_r.len; omega)).symm
              simp only [RD.v] at hca
              rw [hzk] at hca
              have HSP := Lib.hid (HSPL.out hR)
              generalize (rr.getD 0 rd0).A = A0 at *
              generalize (rr.getD 0 rd0).c = c0 at *
              generalize (rz.getD 0 []).length = d at *
              have hgw : g_r < wr.heap.size := by omega
              have hR0 : (0 : Int) < (R : Int) := by omega
              have hR0n : 0 < R := by omega
              clear hzk HSPL r_r
              go_upto_region 25 with fail
              have hb := (Below.refl wr.heap.size wr).drew
              replace T := T.trans (hb.mono (by omega))
              replace r_za := r_za.below hb
              replace hca := (hb.cell (p := ⟨g_r, 0, none⟩) (by show g_r < _; omega)).trans hca
              clear hb
              go_region_held3 (fun w' => w'.cell? ⟨g_r, 0, none⟩ = some (.slice A0 d c0)) ((first | exact hca)) ((first | (go_at_call 13; refine (Rsw.impl_split A_za m c_za za _ HL_za.out (by omega) HF_za.out r_za.at_).mono ?_; rintro e w8 ⟨rfl, hb⟩; rw [HSP.out]; replace T := T.trans (hb.mono (by show w.heap.size ≤ wr.heap.size; omega)); replace hca := (hb.cell (p := ⟨g_r, 0, none⟩) (by show g_r < wr.heap.size; omega)).trans hca; clear hb r_za)))
              all_goals (go_wp2_with fail; go_ret; exact ⟨rfl, T⟩)
  · have h1' : (1048576 : Int) < (n : Int) := by omega
    go_enter Tryz.func3, Tryz.ntmps3
    go_wp2
    go_ret
    exact ⟨rfl, Below.refl _ w⟩

set_option maxRecDepth 100000 in
theorem lifted (os : Os) (started : os.Started) (H : Type) (enc : TypeId × Value → H) :
    ReturnsInHanded {} Tryz.checked os 3 .any (Rows.fnRifflesSpec.pre6 enc Tryz.prog Tryz.f3 Rows.fnRifflesRow.domain false) (Rows.fnRifflesSpec.post enc Tryz.prog Tryz.f3 false true false false) := by
  refine returnsInHanded_of_change (C := Tryz.checked) Fr.own started (by kernel_rfl) Tryz.func3
    (ChangeSpec.witness6 (enc := enc) (C := Tryz.checked) false ⟨#[], #[.slice none 0 0], []⟩ 8 (by kernel_rfl) (by kernel_rfl) (by kernel_rfl) (by kernel_rfl)) ?_
  intro W base args ds gs before hval0 hW hcnd _
  have hval : ∀ (j : Nat) t v, Tryz.f3.params[j]? = some t → args[j]? = some v → Value.okWide Tryz.prog W .any base t v := hval0
  have hW' := hW
  obtain ⟨p, q, hA0, hV, rfl, hfz, hnd⟩ := hW
  have hA : DataW.TrodAll enc Tryz.prog W 0 (fun _ => true) true Tryz.f3.params.toList args.toList ds p := hA0
  have hAk := hA
  rw [Tryz.params3] at hA hval
  obtain ⟨v0, d0, rfl, rfl, h0⟩ := trodAll_one hA
  obtain ⟨rfl, rfl⟩ := trodVars_none hV
  have hlt : ∀ x ∈ p, x.block < W.heap.size := fun x hx => by simpa using hW'.lt x (List.mem_append_left _ hx)
  obtain ⟨A0, n0, c0, l0, rfl, hn0, hm0, hs0, ha0⟩ := Fr.view_nums Tryz.underlying22 Tryz.underlying5 (by kernel_rfl) (hval 0 22 v0 rfl rfl) h0 hlt
  clear hA0 hval0
  refine (walk A0 n0 c0 l0 W hn0 hm0 hs0 ha0).mono fun e W' ⟨he, hb⟩ => ?_
  subst he
  exact ⟨_, rfl, _, _, _, [], p, [], hW', trodAll_mk1 (shut_bool Tryz.underlying4 _), Fr.below_all Fr.laidOut hb _ _ _ _ (Fr.readB_all (by kernel_rfl)) hAk hlt, rfl, hb.frame _, fun h => by cases h⟩

theorem proved : Rows.FnRifflesSaid :=
  OpenClaim.holds_of_wide 3 Tryz.f3 rfl rfl rfl rfl rfl rfl rfl ⟨rfl, rfl, rfl, rfl, rfl⟩ rfl rfl rfl rfl rfl (by kernel_rfl) Tryz.func3 (by kernel_rfl)
    (of_decide_eq_true (by kernel_rfl)) (by unfold Func.isWrapper; first | (rw [if_pos (by decide +kernel)]; kernel_rfl) | (rw [if_neg (by decide +kernel)]; exact ⟨rfl, rfl⟩))
    (fun os started H enc _ => lifted os started H enc)

end Go.Proofs.YtceolmihglhijaaGreat.LawRiffles
