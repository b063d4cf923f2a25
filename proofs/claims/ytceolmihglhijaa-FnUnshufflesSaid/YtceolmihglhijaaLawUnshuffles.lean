/- The law of the riffles back holds: every arrangement is reached by as many riffles as its rising sequences need. No condition. -/
import Derived.Deep.RegionHeld3
import Derived.Deep.RegionWith
import Derived.BigQuiet
import Derived.Test.YtceolmihglhijaaMkp
import Derived.Test.YtceolmihglhijaaRsl
import Derived.Test.YtceolmihglhijaaCur
import Derived.Test.YtceolmihglhijaaFrame
set_option linter.unusedVariables false
namespace Go.Proofs.Ytceolmihglhijaa.LawUnshuffles
open Go.ChangeShapes Go.WideShapes Go.ChangeAt Go.RowKit Fr _root_.Go.Proofs.Ytceolmihglhijaa.Own Ins Sam Prm Rws Pfn Orb Cyc Grp Rsm Rsc Rss Rsh Rsw Rsb Rsu Rsz Rsl Mkp

theorem more_bytes {w : World} {B B' : Nat} {A : Option Addr} {n : Nat} (h : Cur.BytesAt w B A n) (hB : B ≤ B') : Cur.BytesAt w B' A n := by
  intro k hk
  obtain ⟨b, o, x, hA, hlt, r⟩ := h k hk
  exact ⟨b, o, x, hA, by omega, r⟩

set_option maxHeartbeats 4000000 in
set_option maxRecDepth 20000 in
theorem walk (A : Option Addr) (n c : Nat) (zs : List Int) (w : World) (hn : zs.length = n) (hm : n ≤ maxLen) (hs : ∀ z ∈ zs, (Lit.int .u8 z).wf = true) (ha : Fr.IntsAt w w.heap.size .u8 A zs) :
    Calls Try.prog 3 #[.slice A n c] w fun e w' => e = .returned (.bool true) ∧ Below w.heap.size w w' := by
  have hm0 : n ≤ 9223372036854775807 := by unfold maxLen at hm; omega
  have hby := Cur.bytes_of hn hs ha
  clear hn hs ha zs hm
  by_cases h1 : n ≤ 1048576
  · have h1' : decide ((1048576 : Int) < (n : Int)) = false := decide_eq_false (by omega)
    have T : Below w.heap.size w w := Below.refl _ w
    go_enter Try.func3, Try.ntmps3
    go_wp2_with fail
    refine (Cur.num_any A n c 1 _ h1 (by omega) hby).mono ?_
    rintro e w1 ⟨x, rfl, hx0, hx1, hb⟩
    have s1 : w.heap.size ≤ w1.heap.size := hb.size
    replace T := T.trans (hb.mono (by omega))
    replace hby := (hby).below (hb.mono (by omega))
    clear hb
    obtain ⟨m, hm⟩ : ∃ m : Nat, 1 + x % 8 = (m : Int) := ⟨(1 + x % 8).toNat, by omega⟩
    have hm1 : 1 ≤ m := by omega
    have hm8 : m ≤ 8 := by omega
    go_wp2_with fail
    clear hm hx0 hx1
    refine (Mkp.make_perm A n c 3 m _ h1 (by omega) hm1 (by omega) (more_bytes hby (by omega))).mono ?_
    rintro e w2 ⟨A_za, c_za, za, rfl, hl_za, hp_za, hown, hb⟩
    have s2 : w1.heap.size ≤ w2.heap.size := hb.size
    replace T := T.trans (hb.mono (by omega))
    replace hby := (hby).below (hb.mono (by omega))
    clear hb
    have r_za := Ins.Row.mk hown
    clear hown
    have hne : za ≠ [] := fun q => by rw [q] at hl_za; simp at hl_za; omega
    have hlp := least_pos hp_za hne
    have hc12 := cnt_le za
    obtain ⟨K, hK⟩ : ∃ K, K = unK za := ⟨_, rfl⟩
    obtain ⟨R, hR⟩ : ∃ R, R = cntS za := ⟨_, rfl⟩
    have hK4 : K ≤ 4 := by rw [hK]; exact least_le _
    have HKR := Lib.hid (show K = leastN R by rw [hK, hR]; rfl)
    have hul := un_len hp_za hne
    rw [← hK] at hul
    have HUL := Lib.hid hul
    have HUB := Lib.hid (un_yes hp_za hne).2
    have HLP := Lib.hid (show leastF za = (K : Int) by rw [hlp.2, hK])
    have HRL := Lib.hid (show (riseI za).length = R by rw [hR]; exact rise_len za)
    have hR1 : 1 ≤ R := by rw [hR]; exact hlp.1
    have hR12 : R ≤ 12 := by rw [hR]; exact hc12
    have HUG := Lib.hid (fun i (hi : i ≤ K) => show (unF za).getD i [] = backN (K - i) za by rw [hK]; exact un_get hp_za hne (by omega))
    have HID := Lib.hid (show backN K za = imarks 0 m by rw [hK, ← hl_za]; exact first_id hp_za)
    have HBP := Lib.hid (backN_perm hp_za)
    have HBL := Lib.hid (fun k => show (backN k za).length = m by rw [backN_len]; exact hl_za)
    have hnew : Nwp.newF (m : Int) = imarks 0 m := Nwp.newF_yes m (by omega)
    have HNEW := Lib.hid hnew
    have HLI := Lib.hid (imarks_length 0 m)
    have S1 := Lib.hid (show sameB (imarks 0 m) (imarks 0 m) = true from decide_eq_true rfl)
    have S2 := Lib.hid (show sameB za za = true from decide_eq_true rfl)
    have HL_za := Lib.hid hl_za
    have HP_za := Lib.hid hp_za
    have HF_za := Lib.hid (Rsz.fits_perm hp_za)
    clear hne hlp hc12 hK hR hul hnew hl_za hp_za
    go_wp2_with fail
    refine (Rsz.impl_un A_za m c_za za _ HL_za.out (by omega) HF_za.out r_za.at_).mono ?_
    rintro e w3 ⟨A_l, c_l, rl, rfl, hrl, r_l, hb⟩
    rw [HUL.out] at r_l
    rw [HUL.out, HUB.out]
    have s3 : w2.heap.size ≤ w3.heap.size := hb.size
    replace T := T.trans (hb.mono (by omega))
    replace hby := (hby).below (hb.mono (by omega))
    replace r_za := r_za.below hb
    clear hb
    have HRZ := Lib.hid hrl
    clear hrl
    go_wp2_with fail
    refine (Rsw.impl_least A_za m c_za za _ HL_za.out (by omega) HF_za.out r_za.at_).mono ?_
    rintro e w4 ⟨rfl, hb⟩
    rw [HLP.out]
    have s4 : w3.heap.size ≤ w4.heap.size := hb.size
    replace T := T.trans (hb.mono (by omega))
    replace hby := (hby).below (hb.mono (by omega))
    replace r_za := r_za.below hb
    replace r_l := r_l.below hb
    clear hb
    go_wp2_with fail
    refine (Rsc.impl_rise A_za m c_za za _ HL_za.out (by omega) HF_za.out r_za.at_).mono ?_
    rintro e w5 ⟨A_r, c_r, rr, rfl, hrr, r_r, hb⟩
    rw [HRL.out]
    clear hrr r_r
    have s5 : w4.heap.size ≤ w5.heap.size := hb.size
    replace T := T.trans (hb.mono (by omega))
    replace hby := (hby).below (hb.mono (by omega))
    replace r_za := r_za.below hb
    replace r_l := r_l.below hb
    clear hb
    have HZG := Lib.hid (fun i (hi : i ≤ K) => show (rl.getD i rd0).zs = backN (K - i) za by rw [← get_zs', HRZ.out]; exact HUG.out i hi)
    obtain ⟨g_l, hgl, hca⟩ := r_l.cell 0 (by omega)
    subst hgl
    obtain ⟨g_x, hgx, hcb⟩ := r_l.cell K (by omega)
    simp only [Option.some.injEq, Addr.mk.injEq, and_true] at hgx
    subst hgx
    have hz0 := HZG.out 0 (Nat.zero_le _)
    have hzK := HZG.out K (Nat.le_refl _)
    rw [Nat.sub_zero, HID.out] at hz0
    rw [Nat.sub_self] at hzK
    have hzK' : (rl.getD K rd0).zs = za := hzK
    have r_i0 := (r_l.2.1 0 (by rw [r_l.len]; omega))
    have r_iK := (r_l.2.1 K (by rw [r_l.len]; omega))
    simp only [RD.v] at hca hcb
    rw [hz0] at hca r_i0
    rw [hzK'] at hcb r_iK
    rw [HLI.out] at hca r_i0
    rw [HL_za.out] at hcb r_iK
    generalize (rl.getD 0 rd0).A = A0 at hca r_i0
    generalize (rl.getD 0 rd0).c = c0 at hca r_i0
    generalize (rl.getD K rd0).A = AK at hcb r_iK
    generalize (rl.getD K rd0).c = cK at hcb r_iK
    clear hz0 hzK hzK'
    have hbl : g_l < w5.heap.size := (own_lo r_l.1 g_l rfl).2
    have hd1 : decide ((K : Int) < 0) = false := decide_eq_false (by omega)
    have hwr : IntKind.i64.wrap ((K : Int) + 1) = (K : Int) + 1 := by rw [IntKind.wrap_i64]; omega
    have hx0 : (0 : Int) ≤ (K : Int) := by omega
    have hx1 : (K : Int) < (K : Int) + 1 := by omega
    have hx2 : (K : Int) < ((K + 1 : Nat) : Int) := by omega
    have hx3 : K < K + 1 := by omega
    have hx4 : (0 : Int) < (K : Int) + 1 := by omega
    have hx5 : 0 < K + 1 := by omega
    have hne2 : ((K : Int) + 1 != (K : Int) + 1) = false := by simp
    go_wp2
    have hb := (Below.refl w5.heap.size w5).drew
    have s6 : w5.heap.size ≤ w5.drew.heap.size := hb.size
    replace T := T.trans (hb.mono (by omega))
    replace hby := hby.below (hb.mono (by omega))
    replace r_za := r_za.below hb
    replace r_i0 := r_i0.below hb
    replace r_iK := r_iK.below hb
    replace r_l := r_l.below hb
    replace hca := (hb.cell (p := ⟨g_l, 0, none⟩) (by show g_l < _; omega)).trans hca
    replace hcb := (hb.cell (p := ⟨g_l, K, none⟩) (by show g_l < _; omega)).trans hcb
    clear hb
    go_region_held3 (fun w' => w'.cell? ⟨g_l, 0, none⟩ = some (.slice A0 m c0) ∧ w'.cell? ⟨g_l, K, none⟩ = some (.slice AK m cK)) ((first | exact ⟨hca, hcb⟩)) ((first | (go_at_call 17; refine (Pfn.impl_id (m : Int) _ (by omega) (by omega)).mono ?_; rintro e w7 ⟨A_d1, c_d1, rfl, hown, hb⟩; rw [HNEW.out, HLI.out] at hown; rw [HNEW.out, HLI.out]; have s7 : w5.drew.heap.size ≤ w7.heap.size := hb.size; replace T := T.trans (hb.mono (by omega)); replace hby := hby.below (hb.mono (by omega)); replace r_za := r_za.below hb; replace r_i0 := r_i0.below hb; replace r_iK := r_iK.below hb; replace r_l := r_l.below hb; replace hca := (hb.cell (p := ⟨g_l, 0, none⟩) (by show g_l < _; omega)).trans hca; replace hcb := (hb.cell (p := ⟨g_l, K, none⟩) (by show g_l < _; omega)).trans hcb; clear hb; have r_d1 := Ins.Row.mk hown; clear hown) | (go_at_call 16; have S1' := S1; clear S1; refine (Mkp.same_any A0 A_d1 m m c0 c_d1 (imarks 0 m) (imarks 0 m) _ HLI.out HLI.out (by omega) (by omega) r_i0.at_ r_d1.at_).mono ?_; rintro e w' ⟨rfl, rfl⟩; rw [S1'.out]) | (go_at_call 16; refine (Mkp.same_any AK A_za m m cK c_za za za _ HL_za.out HL_za.out (by omega) (by omega) r_iK.at_ r_za.at_).mono ?_; rintro e w' ⟨rfl, rfl⟩; rw [S2.out])))
    clear r_i0 r_iK hca hcb r_d1 S1' HNEW HUL HUB HRZ HUG hd1 hwr hx0 hx1 hx2 hx3 hx4 hx5 hne2
    go_wp2
    go_loop [9, 10] (fun x y => ∃ k : Nat, k ≤ K ∧ x = .int .i64 (k : Int) ∧ y = .int .i64 ((2 ^ k : Nat) : Int)) (fun x _ => 5 - (intOf x).toNat)
    case atStart => exact ⟨0, Nat.zero_le _, rfl, rfl⟩
    case round =>
      obtain ⟨k, hk, rfl, rfl⟩ := hrel
      have hkc : k = 0 ∨ k = 1 ∨ k = 2 ∨ k = 3 ∨ k = 4 := by omega
      have hiff := pow_iff hR12 hR1 (k := k) (by rw [← HKR.out]; exact hk)
      rw [← HKR.out] at hiff
      obtain ⟨p, hp⟩ : ∃ p : Nat, p = 2 ^ k := ⟨_, rfl⟩
      have hp2 : p ≤ 16 := by rcases hkc with rfl | rfl | rfl | rfl | rfl <;> omega
      have hps : 2 ^ (k + 1) = 2 * p := by rw [hp, Nat.pow_succ]; omega
      rw [← hp] at hiff
      rw [← hp]
      have HPS := Lib.hid hps
      clear hp hps hkc
      by_cases hlt : p < R
      · have hk2 := hiff.1 hlt
        go_wp2
        go_round
        case rel => exact ⟨k + 1, by omega, by go_num, by rw [HPS.out]; go_num⟩
        case measure => simp [intOf]; omega
      · have hk2 : K = k := by have := mt hiff.2 hlt; omega
        subst hk2
        have hdR : decide ((0 : Int) < (R : Int)) = true := decide_eq_true (by omega)
        clear hiff HPS
        go_wp2
        go_loopw [11] (fun ix wr => ∃ i : Nat, 1 ≤ i ∧ i ≤ K + 1 ∧ ix = .int .i64 (i : Int) ∧ Below w7.heap.size w7 wr) (fun ix _ => K + 1 - (intOf ix).toNat)
        case atStart => exact ⟨1, by omega, by omega, rfl, Below.refl _ _⟩
        case round =>
          obtain ⟨i, hi1, hi, rfl, hbW⟩ := hrel
          have sW := hbW.size
          by_cases hlt2 : i < K + 1
          · replace r_l := r_l.below hbW
            replace T := T.trans (hbW.mono (by omega))
            clear r_za hby
            obtain ⟨j, hj⟩ : ∃ j, i = j + 1 := ⟨i - 1, by omega⟩
            obtain ⟨q1, hq1⟩ : ∃ q, q = backN (K - i) za := ⟨_, rfl⟩
            have hq0 : backN (K - j) za = backF q1 := by rw [hq1, show K - j = (K - i) + 1 by omega]; rfl
            have hp1 : permB q1 = true := by rw [hq1]; exact HBP.out _
            have hl1 : q1.length = m := by rw [hq1]; exact HBL.out _
            have hl0 : (backF q1).length = m := by rw [back_len]; exact hl1
            obtain ⟨g_y, hgy, hca⟩ := r_l.cell j (by omega)
            simp only [Option.some.injEq, Addr.mk.injEq, and_true] at hgy
            subst hgy
            obtain ⟨g_x, hgx, hcb⟩ := r_l.cell i (by omega)
            simp only [Option.some.injEq, Addr.mk.injEq, and_true] at hgx
            subst hgx
            have r_j := (r_l.2.1 j (by rw [r_l.len]; omega))
            have r_i := (r_l.2.1 i (by rw [r_l.len]; omega))
            have hzj := HZG.out j (by omega)
            have hzi := HZG.out i (by omega)
            rw [hq0] at hzj
            rw [← hq1] at hzi
            simp only [RD.v] at hca hcb
            rw [hzj] at hca r_j
            rw [hzi] at hcb r_i
            rw [hl0] at hca r_j
            rw [hl1] at hcb r_i
            generalize (rl.getD j rd0).A = AJ at hca r_j
            generalize (rl.getD j rd0).c = cJ at hca r_j
            generalize (rl.getD i rd0).A = AI at hcb r_i
            generalize (rl.getD i rd0).c = cI at hcb r_i
            have hwbt := bet_to (back_perm hp1) hp1 (back_len q1)
            have hpt := to_nodup (back_perm hp1) hp1 (back_len q1)
            have HAR := Lib.hid hwbt.1
            have HIS := Lib.hid (to_isr hp1)
            have hlt3 : (toF (backF q1) q1).length = m := by rw [toF, List.length_map]; exact hl1
            have hbe := hwbt.2
            have HF0 := Lib.hid (Rsz.fits_perm (back_perm hp1))
            have HF1 := Lib.hid (Rsz.fits_perm hp1)
            have HFT := Lib.hid (Rsz.fits_perm hpt)
            have HL0 := Lib.hid hl0
            have HL1 := Lib.hid hl1
            clear hq1 hq0 hp1 hl1 hl0 hzj hzi hwbt hpt
            generalize backF q1 = q0 at *
            generalize toF q0 q1 = qt at *
            have HBE := Lib.hid hbe
            have HLT := Lib.hid hlt3
            clear hbe hlt3
            have hwi : IntKind.i64.wrap ((i : Int) - 1) = (j : Int) := by rw [IntKind.wrap_i64]; omega
            have hw2 : IntKind.i64.wrap ((i : Int) + 1) = (i : Int) + 1 := by rw [IntKind.wrap_i64]; omega
            have hy0 : (0 : Int) ≤ (j : Int) := by omega
            have hy1 : (j : Int) < (K : Int) + 1 := by omega
            have hy2 : (j : Int) < ((K + 1 : Nat) : Int) := by omega
            have hy3 : j < K + 1 := by omega
            have hy4 : (0 : Int) ≤ (i : Int) := by omega
            have hy5 : (i : Int) < (K : Int) + 1 := by omega
            have hy6 : (i : Int) < ((K + 1 : Nat) : Int) := by omega
            have hgl : g_l < wr.heap.size := by have := hbW.size; omega
            have HJ := Lib.hid hj
            clear hj
            go_wp2_with fail
            have hb := (Below.refl wr.heap.size wr).drew
            have s8 : wr.heap.size ≤ wr.drew.heap.size := hb.size
            replace T := T.trans (hb.mono (by omega))
            replace hbW := hbW.trans (hb.mono (by omega))
            replace r_j := r_j.below hb
            replace r_i := r_i.below hb
            replace hca := (hb.cell (p := ⟨g_l, j, none⟩) (by show g_l < _; omega)).trans hca
            replace hcb := (hb.cell (p := ⟨g_l, i, none⟩) (by show g_l < _; omega)).trans hcb
            clear hb r_l
            go_region_held3 (fun w' => w'.cell? ⟨g_l, j, none⟩ = some (.slice AJ m cJ) ∧ w'.cell? ⟨g_l, i, none⟩ = some (.slice AI m cI)) ((first | exact ⟨hca, hcb⟩)) ((first | (go_at_call 18; refine (Pfn.impl_bet AJ m cJ q0 AI m cI q1 _ HL0.out (by omega) HF0.out r_j.at_ HL1.out (by omega) HF1.out r_i.at_).mono ?_; rintro e w9 ⟨A_x, c_x, rfl, hown, hb⟩; rw [HBE.out, HLT.out] at hown; rw [HBE.out, HLT.out, HAR.out]; have s9 : wr.drew.heap.size ≤ w9.heap.size := hb.size; replace T := T.trans (hb.mono (by omega)); replace hbW := hbW.trans (hb.mono (by omega)); replace hca := (hb.cell (p := ⟨g_l, j, none⟩) (by show g_l < _; omega)).trans hca; replace hcb := (hb.cell (p := ⟨g_l, i, none⟩) (by show g_l < _; omega)).trans hcb; have r_x := Ins.Row.mk hown; clear hown hb)))
            clear hca hcb r_j r_i
            go_wp2_with fail
            refine (Rsw.impl_isr A_x m c_x qt _ HLT.out (by omega) HFT.out r_x.at_).mono ?_
            rintro e w10 ⟨rfl, hb⟩
            rw [HIS.out]
            have s10 : w9.heap.size ≤ w10.heap.size := hb.size
            replace T := T.trans (hb.mono (by omega))
            replace hbW := hbW.trans (hb.mono (by omega))
            clear hb r_x
            go_wp2
            go_roundw
            case rel => exact ⟨i + 1, by omega, by omega, by go_num, hbW⟩
            case measure => simp [intOf]; omega
          · have hiK : i = K + 1 := by omega
            subst hiK
            replace T := T.trans (hbW.mono (by omega))
            clear r_za hby r_l hbW HZG
            go_wp2
            go_ret
            exact ⟨rfl, T⟩
  · have h1' : (1048576 : Int) < (n : Int) := by omega
    go_enter Try.func3, Try.ntmps3
    go_wp2
    go_ret
    exact ⟨rfl, Below.refl _ w⟩

set_option maxRecDepth 100000 in
theorem lifted (os : Os) (started : os.Started) (H : Type) (enc : TypeId × Value → H) :
    ReturnsInHanded {} Try.checked os 3 .any (Rows.fnUnshufflesSpec.pre6 enc Try.prog Try.f3 Rows.fnUnshufflesRow.domain false) (Rows.fnUnshufflesSpec.post enc Try.prog Try.f3 false true false false) := by
  refine returnsInHanded_of_change (C := Try.checked) Fr.own started (by kernel_rfl) Try.func3
    (ChangeSpec.witness6 (enc := enc) (C := Try.checked) false ⟨#[], #[.slice none 0 0], []⟩ 8 (by kernel_rfl) (by kernel_rfl) (by kernel_rfl) (by kernel_rfl)) ?_
  intro W base args ds gs before hval0 hW hcnd _
  have hval : ∀ (j : Nat) t v, Try.f3.params[j]? = some t → args[j]? = some v → Value.okWide Try.prog W .any base t v := hval0
  have hW' := hW
  obtain ⟨p, q, hA0, hV, rfl, hfz, hnd⟩ := hW
  have hA : DataW.TrodAll enc Try.prog W 0 (fun _ => true) true Try.f3.params.toList args.toList ds p := hA0
  have hAk := hA
  rw [Try.params3] at hA hval
  obtain ⟨v0, d0, rfl, rfl, h0⟩ := trodAll_one hA
  obtain ⟨rfl, rfl⟩ := trodVars_none hV
  have hlt : ∀ x ∈ p, x.block < W.heap.size := fun x hx => by simpa using hW'.lt x (List.mem_append_left _ hx)
  obtain ⟨A0, n0, c0, l0, rfl, hn0, hm0, hs0, ha0⟩ := Fr.view_nums Try.underlying22 Try.underlying5 (by kernel_rfl) (hval 0 22 v0 rfl rfl) h0 hlt
  clear hA0 hval0
  refine (walk A0 n0 c0 l0 W hn0 hm0 hs0 ha0).mono fun e W' ⟨he, hb⟩ => ?_
  subst he
  exact ⟨_, rfl, _, _, _, [], p, [], hW', trodAll_mk1 (shut_bool Try.underlying4 _), Fr.below_all Fr.laidOut hb _ _ _ _ (Fr.readB_all (by kernel_rfl)) hAk hlt, rfl, hb.frame _, fun h => by cases h⟩

theorem proved : Rows.FnUnshufflesSaid :=
  OpenClaim.holds_of_wide 3 Try.f3 rfl rfl rfl rfl rfl rfl rfl ⟨rfl, rfl, rfl, rfl, rfl⟩ rfl rfl rfl rfl rfl (by kernel_rfl) Try.func3 (by kernel_rfl)
    (of_decide_eq_true (by kernel_rfl)) (by unfold Func.isWrapper; first | (rw [if_pos (by decide +kernel)]; kernel_rfl) | (rw [if_neg (by decide +kernel)]; exact ⟨rfl, rfl⟩))
    (fun os started H enc _ => lifted os started H enc)

end Go.Proofs.Ytceolmihglhijaa.LawUnshuffles
