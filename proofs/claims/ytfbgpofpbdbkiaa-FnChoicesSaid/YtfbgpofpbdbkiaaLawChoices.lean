/- The law of the choices holds: the results of a choice are different arrangements in order, as many as stated. No condition. -/
import Derived.Deep.RegionHeld3
import Derived.Deep.RegionWith
import Derived.Deep.Cut
import Derived.Deep.CutRange
import Derived.BigQuiet
import Derived.Test.YtfbgpofpbdbkiaaMkq
import Derived.Test.YtfbgpofpbdbkiaaRfc
import Derived.Test.YtfbgpofpbdbkiaaCur
import Derived.Test.YtfbgpofpbdbkiaaFrame
set_option linter.unusedVariables false
namespace Go.Proofs.Ytfbgpofpbdbkiaa.LawChoices
open Go.ChangeShapes Go.WideShapes Go.ChangeAt Go.RowKit Fr _root_.Go.Proofs.Ytfbgpofpbdbkiaa.Own Ins Sam Prm Rws Pfn Orb Cyc Grp Wv Srt Raf Ro Rfc Mkp Mkq


set_option maxHeartbeats 4000000 in
set_option maxRecDepth 20000 in
theorem walk (A : Option Addr) (n c : Nat) (zs : List Int) (w : World) (hn : zs.length = n) (hm : n ≤ maxLen) (hs : ∀ z ∈ zs, (Lit.int .u8 z).wf = true) (ha : Fr.IntsAt w w.heap.size .u8 A zs) :
    Calls Try.prog 3 #[.slice A n c] w fun e w' => e = .returned (.bool true) ∧ Below w.heap.size w w' := by
  have hm0 : n ≤ 9223372036854775807 := by unfold maxLen at hm; omega
  have hby := Cur.bytes_of hn hs ha
  clear hn hs ha zs hm
  by_cases h1 : n ≤ 1048576
  · have h1' : decide ((1048576 : Int) < (n : Int)) = false := decide_eq_false (by omega)
    have T : Below w.heap.size w w := Below.refl _ w
    go_enter Try.func3, Try.ntmps3
    go_wp2_with fail
    refine (Mkq.make_packet A n c 0 6 6 _ rfl h1 (by omega) (by omega) (by omega) hby).mono ?_
    rintro e w1 ⟨A_p, m, c_p, p, rfl, hl, hm1, hm6, hok, hown, hb⟩
    have s1 : w.heap.size ≤ w1.heap.size := hb.size
    replace T := T.trans (hb.mono (by omega))
    replace hby := (hby).below (hb.mono (by omega))
    clear hb
    have r_p := Ins.Row.mk hown
    clear hown
    have HL := Lib.hid hl
    have HK := Lib.hid hok
    have HF := Lib.hid (Mvp.ok_fits hok)
    clear hl hok hby
    go_wp2
    go_loopw [5] (fun kd wr => ∃ k : Nat, k ≤ 5 ∧ kd = .int .i64 (k : Int) ∧ Below w1.heap.size w1 wr) (fun kd _ => 5 - (intOf kd).toNat)
    case atStart => exact ⟨0, Nat.zero_le _, rfl, Below.refl _ _⟩
    case round =>
      obtain ⟨k, hk5, rfl, hbW⟩ := hrel
      have sW := hbW.size
      by_cases hlt : k ≤ 4
      · replace r_p := r_p.below hbW
        replace T := T.trans (hbW.mono (by omega))
        by_cases h3 : k = 3 ∧ m < 2
        · have HNO := Lib.hid (show raB (k : Int) [p] = false by rw [h3.1]; exact res_no (by rw [HL.out]; exact h3.2))
          have hd1 : decide ((m : Int) < 2) = true := decide_eq_true (by omega)
          have hd2 : ((k : Int) == 3) = true := by rw [beq_iff_eq]; omega
          clear h3
          go_wp2_with fail
          refine (Ro.impl_ro A_p m c_p p (k : Int) _ HL.out HF.out (by omega) r_p.at_).mono ?_
          rintro e w5 ⟨A_l, c_l, rl, rfl, hrl, r_l, hb⟩
          rw [HNO.out]
          have hbX := hbW.trans (hb.mono (by omega))
          clear hrl r_l r_p T hb HNO
          generalize (raR (k : Int) [p]).length = N at *
          go_wp2
          go_roundw
          case rel => exact ⟨k + 1, by omega, by go_num, hbX⟩
          case measure => simp [intOf]; omega
        · have h3' : k = 3 → 2 ≤ m := fun e => by omega
          obtain ⟨V1, V2, V3, V4⟩ := res_all (k := k) HK.out (by rw [HL.out]; exact hm1) (by rw [HL.out]; exact hm6) hlt (fun e => by rw [HL.out]; exact h3' e)
          rw [HL.out] at V2 V3
          obtain ⟨L, hL⟩ : ∃ L, L = raR (k : Int) [p] := ⟨_, rfl⟩
          obtain ⟨N, hN⟩ : ∃ N, N = wantF k m := ⟨_, rfl⟩
          rw [← hL] at V2 V4
          rw [← hN] at V2 V3
          have hN64 : N ≤ 64 := by rw [hN]; exact want_le hm6
          have HRL := Lib.hid hL.symm
          have HLN := Lib.hid V2
          have HRB := Lib.hid V1
          have HCI := Lib.hid V3
          have HAT := Lib.hid V4
          have HN := Lib.hid hN
          have hcn0 : (Ck.cnF (k : Int)).toList.isEmpty = false := by
            rw [Lib.toList_data]
            rcases (show k = 0 ∨ k = 1 ∨ k = 2 ∨ k = 3 ∨ k = 4 by omega) with rfl | rfl | rfl | rfl | rfl <;> rfl
          have HCN := Lib.hid hcn0
          have H3 := Lib.hid h3'
          clear V1 V2 V3 V4 hL hN hcn0 h3 h3'
          go_wp2_with fail
          refine (Ro.impl_ro A_p m c_p p (k : Int) _ HL.out HF.out (by omega) r_p.at_).mono ?_
          rintro e w5 ⟨A_l, c_l, rl, rfl, hrl, r_l, hb⟩
          rw [HRL.out] at hrl
          rw [HRL.out, HLN.out] at r_l
          rw [HRL.out, HLN.out, HRB.out]
          have HRR := Lib.hid hrl
          have s5 : wr.heap.size ≤ w5.heap.size := hb.size
          replace hbW := hbW.trans (hb.mono (by omega))
          replace r_p := r_p.below hb
          clear hb hrl T
          go_upto_region 9 with fail
          go_cut [33] from 18 to 96 (fun s wx => s = .bool false ∧ w5 = wx)
          case first =>
            clear r_p r_l hbW
            by_cases hm2 : m < 2
            · have hd1 : decide ((m : Int) < 2) = true := decide_eq_true (by omega)
              have hd2 : ((k : Int) == 3) = false := by rw [beq_eq_false_iff_ne]; intro e; have := H3.out (by omega); omega
              clear hm2
              go_wp2
              go_meet
              exact ⟨rfl, rfl⟩
            · have hd1 : decide ((m : Int) < 2) = false := decide_eq_false (by omega)
              clear hm2
              go_wp2
              go_meet
              exact ⟨rfl, rfl⟩
          case rest =>
          obtain ⟨rfl, rfl⟩ := hcut
          go_wp2_with fail
          refine (Ro.impl_cnt A_p m c_p p (k : Int) _ HL.out HF.out (by omega) r_p.at_).mono ?_
          rintro e w6 ⟨rfl, hb⟩
          rw [HCI.out]
          have s6 : w5.heap.size ≤ w6.heap.size := hb.size
          replace hbW := hbW.trans (hb.mono (by omega))
          replace r_p := r_p.below hb
          replace r_l := r_l.below hb
          clear hb
          go_wp2_with fail
          refine (Ck.impl_cname (k : Int) _).mono ?_
          rintro e w7 ⟨rfl, hb⟩
          have s7 : w6.heap.size ≤ w7.heap.size := hb.size
          replace hbW := hbW.trans (hb.mono (by omega))
          replace r_p := r_p.below hb
          replace r_l := r_l.below hb
          clear hb
          have hcn := HCN.out
          generalize Ck.cnF (k : Int) = nm at *
          clear HCN
          go_upto_region 14 with fail
          clear hcn
          go_cut [8] from 18 to 96 (fun s wx => s = .int .i64 (N : Int) ∧ Below w7.heap.size w7 wx)
          case first =>
            clear r_p r_l hbW HRL HLN HRB HCI HAT HRR HK HF HL
            obtain ⟨P, hP⟩ : ∃ P : Nat, P = 2 ^ m := ⟨_, rfl⟩
            have hP2 : P ≤ 64 := by rw [hP]; exact Nat.pow_le_pow_right (by decide) hm6
            have hPm : m < P := by rw [hP]; exact Nat.lt_two_pow_self
            have hshl : IntKind.i64.wrap ((2 : Int) ^ m) = (P : Int) := by
              have q : ((2 : Int) ^ m) = ((2 ^ m : Nat) : Int) := by simp
              rw [q, ← hP, IntKind.wrap_i64]; omega
            have hwm : IntKind.i64.wrap ((P : Int) - (m : Int)) = (P : Int) - (m : Int) := by rw [IntKind.wrap_i64]; omega
            have HW := Lib.hid (show k = 2 → (P : Int) - (m : Int) = (N : Int) from fun e => by
              have := HN.out
              subst e
              rw [show wantF 2 m = 2 ^ m - m from rfl, ← hP] at this
              omega)
            clear hP hP2 H3
            have hk := HN.out
            rcases (show k = 0 ∨ k = 1 ∨ k = 2 ∨ k = 3 ∨ k = 4 by omega) with rfl | rfl | rfl | rfl | rfl
            · have HNE := Lib.hid (show N = 1 from hk)
              clear hk HN HW
              go_wp2
              go_meet
              exact ⟨by rw [HNE.out]; rfl, by first | exact ((Below.refl _ _).alloc (Nat.le_refl _) _) | trace_state⟩
            · have HNE := Lib.hid (show N = m from hk)
              clear hk HN HW
              go_wp2
              go_meet
              exact ⟨by rw [HNE.out], ((Below.refl _ _).alloc (Nat.le_refl _) _)⟩
            · have HW2 := Lib.hid (HW.out rfl)
              clear hk HN HW
              go_wp2
              go_meet
              exact ⟨by rw [HW2.out], ((Below.refl _ _).alloc (Nat.le_refl _) _)⟩
            · have HNE := Lib.hid (show N = m from hk)
              clear hk HN HW
              go_wp2
              go_meet
              exact ⟨by rw [HNE.out], ((Below.refl _ _).alloc (Nat.le_refl _) _)⟩
            · have HNE := Lib.hid (show N = m from hk)
              clear hk HN HW
              go_wp2
              go_meet
              exact ⟨by rw [HNE.out], ((Below.refl _ _).alloc (Nat.le_refl _) _)⟩
          case rest =>
          obtain ⟨rfl, hb⟩ := hcut
          have s8 : w7.heap.size ≤ wc.heap.size := hb.size
          replace hbW := hbW.trans (hb.mono (by omega))
          replace r_p := r_p.below hb
          replace r_l := r_l.below hb
          clear hb
          obtain ⟨W2, hW2⟩ : ∃ W, W = wc := ⟨_, rfl⟩
          subst hW2
          go_wp2
          go_loopw [67] (fun ix wx => ∃ i : Nat, i ≤ N ∧ ix = .int .i64 (i : Int) ∧ Below W2.heap.size W2 wx) (fun ix _ => N - (intOf ix).toNat)
          case atStart => exact ⟨0, Nat.zero_le _, rfl, Below.refl _ _⟩
          case round =>
            obtain ⟨i, hi, rfl, hbV⟩ := hrel
            have sV := hbV.size
            by_cases hlt2 : i < N
            · replace r_p := r_p.below hbV
              replace r_l := r_l.below hbV
              have hlr := r_l.len
              obtain ⟨g_l, hgl, hca⟩ := r_l.cell i hlt2
              subst hgl
              have hgb : g_l < wr.heap.size := (own_lo r_l.1 g_l rfl).2
              obtain ⟨f1, f2, f3⟩ := HAT.out i (by rw [HLN.out]; exact hlt2)
              have r_q := r_l.2.1 i (by omega)
              have hzq : (rl.getD i rd0).zs = L.getD i [] := by rw [← HRR.out]; exact (Raf.get_zs (by omega)).symm
              simp only [RD.v] at hca
              rw [hzq] at hca r_q
              have hq := arr_parts f1
              have hql : (L.getD i []).length = m := by rw [← hq.2.2.1]; exact HL.out
              rw [hql] at hca r_q
              obtain ⟨q, hqq⟩ : ∃ q, q = L.getD i [] := ⟨_, rfl⟩
              rw [← hqq] at hql hq f1 f2 f3 r_q
              obtain ⟨A_q, hAq⟩ : ∃ x, x = (rl.getD i rd0).A := ⟨_, rfl⟩
              obtain ⟨c_q, hcq⟩ : ∃ x, x = (rl.getD i rd0).c := ⟨_, rfl⟩
              rw [← hAq, ← hcq] at hca r_q
              have HQL := Lib.hid hql
              have HQF := Lib.hid (Mvp.ok_fits hq.2.1)
              have HAR := Lib.hid f1
              have HIS := Lib.hid f2
              have HNE := Lib.hid f3
              have hx0 : (0 : Int) ≤ (i : Int) := by omega
              clear hzq hq hql f1 f2 f3 hqq hAq hcq
              go_wp2_with fail
              clear hca
              refine (Arr.impl_arr A_p m c_p p A_q m c_q q _ HL.out (by omega) HF.out r_p.at_ HQL.out (by omega) HQF.out r_q.at_).mono ?_
              rintro e w10 ⟨rfl, hb⟩
              rw [HAR.out]
              have s10 : wr.heap.size ≤ w10.heap.size := hb.size
              replace hbV := hbV.trans (hb.mono (by omega))
              replace r_p := r_p.below hb
              replace r_l := r_l.below hb
              replace r_q := r_q.below hb
              clear hb
              go_wp2_with fail
              refine (Ro.impl_isr A_p A_q m c_p m c_q p q (k : Int) _ HL.out HF.out (by omega) r_p.at_ HQL.out (by omega) r_q.at_).mono ?_
              rintro e w11 ⟨rfl, hb⟩
              rw [HIS.out]
              have s11 : w10.heap.size ≤ w11.heap.size := hb.size
              replace hbV := hbV.trans (hb.mono (by omega))
              replace r_l := r_l.below hb
              replace r_q := r_q.below hb
              clear hb r_p
              by_cases hi0 : i = 0
              · have hd0 : decide ((0 : Int) < (i : Int)) = false := decide_eq_false (by omega)
                have hd1 : decide (0 < i) = false := decide_eq_false (by omega)
                clear hi0 r_l r_q
                go_wp2
                go_roundw
                case rel => exact ⟨i + 1, by omega, by go_num, hbV⟩
                case measure => simp [intOf]; omega
              · have hd0 : decide ((0 : Int) < (i : Int)) = true := decide_eq_true (by omega)
                have hd1 : 0 < i := by omega
                obtain ⟨j, hj⟩ : ∃ j, i = j + 1 := ⟨i - 1, by omega⟩
                obtain ⟨g_y, hgy, hcb⟩ := r_l.cell j (by omega)
                simp only [Option.some.injEq, Addr.mk.injEq, and_true] at hgy
                subst hgy
                obtain ⟨f1, f2, f3⟩ := HAT.out j (by rw [HLN.out]; omega)
                have r_j := r_l.2.1 j (by omega)
                have hzj : (rl.getD j rd0).zs = L.getD j [] := by rw [← HRR.out]; exact (Raf.get_zs (by omega)).symm
                simp only [RD.v] at hcb
                rw [hzj] at hcb r_j
                have hq := arr_parts f1
                have hjl : (L.getD j []).length = m := by rw [← hq.2.2.1]; exact HL.out
                rw [hjl] at hcb r_j
                have hne := HNE.out (by omega)
                rw [show i - 1 = j by omega] at hne
                have HSM := Lib.hid (show sameB (L.getD j []) q = false from decide_eq_false hne)
                have HJL := Lib.hid hjl
                clear hq f1 f2 f3 hne hjl hzj HNE
                generalize L.getD j [] = qj at *
                generalize (rl.getD j rd0).A = A_j at *
                generalize (rl.getD j rd0).c = c_j at *
                have hwi : IntKind.i64.wrap ((i : Int) - 1) = (j : Int) := by rw [IntKind.wrap_i64]; omega
                have hy0 : (0 : Int) ≤ (j : Int) := by omega
                have hy1 : (j : Int) < (N : Int) := by omega
                have hj1 : j < N := by omega
                clear hj hi0
                go_wp2_with fail
                refine (Mkp.same_any A_j A_q m m c_j c_q qj q _ HJL.out HQL.out (by omega) (by omega) r_j.at_ r_q.at_).mono ?_
                rintro e w' ⟨rfl, rfl⟩
                rw [HSM.out]
                clear r_l r_q r_j hcb
                go_wp2
                go_roundw
                case rel => exact ⟨i + 1, by omega, by go_num, hbV⟩
                case measure => simp [intOf]; omega
            · have hiN : i = N := by omega
              subst hiN
              have hbX := hbW.trans (hbV.mono (by omega))
              clear r_p r_l hbV hbW
              go_wp2
              go_roundw
              case rel => exact ⟨k + 1, by omega, by go_num, hbX⟩
              case measure => simp [intOf]; omega
      · have hk : k = 5 := by omega
        subst hk
        replace T := T.trans (hbW.mono (by omega))
        clear r_p hbW
        go_wp2
        go_ret
        exact ⟨rfl, T⟩
  · have h1' : (1048576 : Int) < (n : Int) := by omega
    go_enter Try.func3, Try.ntmps3
    go_wp2
    go_ret
    exact ⟨rfl, Below.refl _ w⟩

set_option maxRecDepth 100000 in
theorem lifted (os : Os) (started : os.Started) (H : Type) (enc : TypeId × Value → H) :
    ReturnsInHanded {} Try.checked os 3 .any (Rows.fnChoicesSpec.pre6 enc Try.prog Try.f3 Rows.fnChoicesRow.domain false) (Rows.fnChoicesSpec.post enc Try.prog Try.f3 false true false false) := by
  refine returnsInHanded_of_change (C := Try.checked) Fr.own started (by kernel_rfl) Try.func3
    (ChangeSpec.witness6 (enc := enc) (C := Try.checked) false ⟨#[], #[.slice none 0 0], []⟩ 8 (by kernel_rfl) (by kernel_rfl) (by kernel_rfl) (by kernel_rfl)) ?_
  intro W base args ds gs before hval0 hW hcnd _
  have hval : ∀ (j : Nat) t v, Try.f3.params[j]? = some t → args[j]? = some v → Value.okWide Try.prog W .any base t v := hval0
  have hW' := hW
  obtain ⟨p, q, hA0, hV, rfl, hfz, hnd⟩ := hW
  have hA : DataW.TrodAll enc Try.prog W 0 (fun _ => true) true Try.f3.params.toList args.toList ds p := hA0
  have hAk := hA
  rw [Try.params3] at hA hval
  obtain ⟨v0, d0, rfl, rfl, h0⟩ := trodAll_one hA
  obtain ⟨rfl, rfl⟩ := trodVars_none hV
  have hlt : ∀ x ∈ p, x.block < W.heap.size := fun x hx => by simpa using hW'.lt x (List.mem_append_left _ hx)
  obtain ⟨A0, n0, c0, l0, rfl, hn0, hm0, hs0, ha0⟩ := Fr.view_nums Try.underlying22 Try.underlying5 (by kernel_rfl) (hval 0 22 v0 rfl rfl) h0 hlt
  clear hA0 hval0
  refine (walk A0 n0 c0 l0 W hn0 hm0 hs0 ha0).mono fun e W' ⟨he, hb⟩ => ?_
  subst he
  exact ⟨_, rfl, _, _, _, [], p, [], hW', trodAll_mk1 (shut_bool Try.underlying4 _), Fr.below_all Fr.laidOut hb _ _ _ _ (Fr.readB_all (by kernel_rfl)) hAk hlt, rfl, hb.frame _, fun h => by cases h⟩

theorem proved : Rows.FnChoicesSaid :=
  OpenClaim.holds_of_wide 3 Try.f3 rfl rfl rfl rfl rfl rfl rfl ⟨rfl, rfl, rfl, rfl, rfl⟩ rfl rfl rfl rfl rfl (by kernel_rfl) Try.func3 (by kernel_rfl)
    (of_decide_eq_true (by kernel_rfl)) (by unfold Func.isWrapper; first | (rw [if_pos (by decide +kernel)]; kernel_rfl) | (rw [if_neg (by decide +kernel)]; exact ⟨rfl, rfl⟩))
    (fun os started H enc _ => lifted os started H enc)

end Go.Proofs.Ytfbgpofpbdbkiaa.LawChoices
