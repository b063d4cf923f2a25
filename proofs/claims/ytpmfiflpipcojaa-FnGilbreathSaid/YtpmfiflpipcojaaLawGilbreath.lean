/- The law of the Gilbreath shuffles holds: every block of successive cards has all remainders, and every pair of an alternating packet both colors. No condition. -/
import Derived.Deep.RegionHeld3
import Derived.Deep.RegionWith
import Derived.Deep.Cut
import Derived.BigQuiet
import Derived.Test.YtpmfiflpipcojaaMgb
import Derived.Test.YtpmfiflpipcojaaGii
import Derived.Test.YtpmfiflpipcojaaCur
import Derived.Test.YtpmfiflpipcojaaFrame
set_option linter.unusedVariables false
namespace Go.Proofs.Ytpmfiflpipcojaa.LawGilbreath
open Go.ChangeShapes Go.WideShapes Go.ChangeAt Go.RowKit Fr _root_.Go.Proofs.Ytpmfiflpipcojaa.Own Ins Prm Rws Pfn Gic Gip Gir Gib Gii Mgb

theorem fits_perm {zs : List Int} (h : permB zs = true) : Fits zs := by
  intro i hi
  have h1 := (permB_yes h).1
  have h2 := ((permB_yes h).2 i hi).1
  omega
theorem alt_len (m : Nat) : (altF m).length = m := by simp [altF]
theorem alt_get {m k : Nat} (h : k < m) : (altF m).getD k 0 = ((k % 2 : Nat) : Int) := by simp [altF, List.getD_eq_getElem?_getD, h]
theorem alt_fits (m : Nat) : Fits (altF m) := by
  intro i hi
  rw [alt_len] at hi
  rw [alt_get hi]
  have := Nat.mod_lt i (show 0 < 2 by decide)
  omega
theorem col_fits {us zs : List Int} (h : ∀ x ∈ us, -5 ≤ x ∧ x ≤ 5) : Fits (colF us zs) := by
  intro i hi
  unfold colF at *
  split at hi
  · rename_i hc
    rw [if_pos hc, joinF_get _ _ _ (by rw [joinF_len] at hi; exact hi)]
    by_cases e : (zs.getD i 0).toNat < us.length
    · have := h (us.getD (zs.getD i 0).toNat 0) (by rw [List.getD_eq_getElem?_getD, List.getElem?_eq_getElem e]; exact List.getElem_mem _)
      omega
    · rw [List.getD_eq_getElem?_getD, List.getElem?_eq_none (by omega)]
      exact ⟨by decide, by decide⟩
  · exact absurd hi (Nat.not_lt_zero _)
theorem alt_small (m : Nat) : ∀ x ∈ altF m, -5 ≤ x ∧ x ≤ 5 := by
  intro x hx
  unfold altF at hx
  obtain ⟨i, _, rfl⟩ := List.mem_map.1 hx
  have := Nat.mod_lt i (show 0 < 2 by decide)
  omega

set_option maxHeartbeats 4000000 in
set_option maxRecDepth 20000 in
theorem walk (A : Option Addr) (n c : Nat) (zs : List Int) (w : World) (hn : zs.length = n) (hm : n ≤ maxLen) (hs : ∀ z ∈ zs, (Lit.int .u8 z).wf = true) (ha : Fr.IntsAt w w.heap.size .u8 A zs) :
    Calls Try.prog 3 #[.slice A n c] w fun e w' => e = .returned (.bool true) ∧ Below w.heap.size w w' := by
  have hm0 : n ≤ 9223372036854775807 := by unfold maxLen at hm; omega
  have hby := Cur.bytes_of hn hs ha
  clear hn hs ha zs hm
  by_cases h1 : n ≤ 1048576
  · have h1' : decide ((1048576 : Int) < (n : Int)) = false := decide_eq_false (by omega)
    go_enter Try.func3, Try.ntmps3
    go_wp2_with fail
    refine (Mgb.make_gil A n c _ h1 hby).mono ?_
    rintro e w1 ⟨A_za, m, c_za, za, rfl, hl_za, hm1, hm8, hme, hown, T⟩
    have r_za := Ins.Row.mk hown
    have hs1 := T.size
    obtain ⟨hg, _, hbk, hdf, hcb⟩ := gils_good hm1 hm8 hme
    have hpm := (gil_parts hg).1
    have HG := Lib.hid hg
    have HL := Lib.hid hl_za
    have HF := Lib.hid (fits_perm hpm)
    have HBK := Lib.hid hbk
    have HDF := Lib.hid hdf
    have HCB := Lib.hid hcb
    have HAL := Lib.hid (gils_alt hm1 hm8)
    obtain ⟨P, hP⟩ : ∃ P : Nat, P = 2 ^ (m - 1) := ⟨_, rfl⟩
    have HLN := Lib.hid ((gils_len hm1 hm8).trans hP.symm)
    have hP2 : P ≤ 128 := by rw [hP]; exact Nat.le_trans (Nat.pow_le_pow_right (by decide) (show m - 1 ≤ 7 by omega)) (by decide)
    obtain ⟨k0, rfl⟩ : ∃ k, m = k + 1 := ⟨m - 1, by omega⟩
    rw [Nat.add_sub_cancel] at hP
    have hshl : IntKind.i64.wrap ((2 : Int) ^ k0) = (P : Int) := by
      have q : ((2 : Int) ^ k0) = ((2 ^ k0 : Nat) : Int) := by simp
      rw [q, ← hP, IntKind.wrap_i64]; omega
    have hw1 : IntKind.i64.wrap (k0 : Int) = (k0 : Int) := by rw [IntKind.wrap_i64]; omega
    have HSH := Lib.hid hshl
    have HPP := Lib.hid hP
    clear hg hl_za hpm hbk hdf hcb hown hme hP hshl
    go_upto_region 5 with fail
    go_cut [28] from 17 (fun s wx => s = .bool false ∧ Below w1.heap.size w1 wx)
    case first =>
      have hne : ((P : Int) != (P : Int)) = false := by simp
      have hshl := HSH.out
      have HB := (Below.refl w1.heap.size w1).drew
      clear hby T HBK HDF HCB HAL hm0
      go_region_held3 (fun _ => True) ((first | exact trivial)) ((first | (go_at_call 13; refine (Gip.impl_gil A_za (k0 + 1) c_za za _ HL.out (own_cap (r_za.below HB).own) (by omega) HF.out (r_za.below HB).at_).mono ?_; rintro e wa ⟨rfl, hb⟩; rw [HG.out]; replace HB := HB.trans (hb.mono HB.size); clear hb) | (go_at_call 14; refine (Gis.impl_gils ((k0 + 1 : Nat) : Int) _ (by omega) (by omega)).mono ?_; rintro e wb ⟨A_l, c_l, rl, rfl, hz_l, h_l, hb⟩; rw [HLN.out]; replace HB := HB.trans (hb.mono HB.size); clear hb hz_l h_l)))
      all_goals (go_wp2_with fail; go_meet; exact ⟨rfl, HB⟩)
    case rest =>
    obtain ⟨rfl, hb⟩ := hcut
    have s2 : w1.heap.size ≤ wc.heap.size := hb.size
    replace T := T.trans (hb.mono (by omega))
    replace r_za := r_za.below hb
    clear hb hby HSH hw1 HPP HLN
    go_wp2
    go_loopw [5] (fun v wr => ∃ k : Nat, 1 ≤ k ∧ k ≤ k0 + 2 ∧ v = .int .i64 (k : Int) ∧ Below wc.heap.size wc wr) (fun v _ => k0 + 2 - (intOf v).toNat)
    case atStart => exact ⟨1, Nat.le_refl _, by omega, rfl, Below.refl _ _⟩
    case round =>
      obtain ⟨k, hk1, hk2, rfl, hbV⟩ := hrel
      by_cases hlt : k ≤ k0 + 1
      · have hle : (k : Int) ≤ (k0 : Int) + 1 := by omega
        have hle2 : (k : Int) ≤ ((k0 + 1 : Nat) : Int) := by omega
        have HBk := Lib.hid (HBK.out k hk1 hlt)
        have hsV := hbV.size
        go_wp2_with fail
        refine (Gii.impl_blk A_za (k0 + 1) c_za za (k : Int) _ HL.out (own_cap r_za.own) (by omega) HF.out (r_za.below hbV).at_).mono ?_
        rintro e w5 ⟨rfl, hb⟩
        rw [HBk.out]
        replace hbV := hbV.trans (hb.mono hsV)
        clear hb
        go_wp2
        go_roundw
        case rel => exact ⟨k + 1, by omega, by omega, by go_num, hbV⟩
        case measure => simp [intOf]; omega
      · have hle : decide ((k : Int) ≤ (k0 : Int) + 1) = false := decide_eq_false (by omega)
        have hle2 : decide (k ≤ k0 + 1) = false := decide_eq_false (by omega)
        obtain ⟨W2, rfl⟩ : ∃ W2, W2 = wr := ⟨wr, rfl⟩
        have hsV := hbV.size
        replace T := T.trans (hbV.mono (by omega))
        replace r_za := r_za.below hbV
        have HAT := Lib.hid (fun j (hj : j < k0 + 1) => show (altF (k0 + 1)).take (j + 1) = (altF (k0 + 1)).take j ++ [((j % 2 : Nat) : Int)] by rw [take_snoc _ j (by rw [alt_len]; exact hj), alt_get hj])
        obtain ⟨i0, hi, hz0, hz1, hz2⟩ := info_parts infoInt
        clear hbV HBK
        go_wp2
        go_loopw [6, 7] (fun v i wt => ∃ j : Nat, j ≤ k0 + 1 ∧ i = .int .i64 (j : Int) ∧ (∃ A c, v = .slice A j c ∧ wt.ownsRow W2.heap.size 3 1 (.slice A j c) j (((altF (k0 + 1)).take j).map (Value.int .i64))) ∧ Below W2.heap.size W2 wt) (fun _ i _ => k0 + 1 - (intOf i).toNat)
        case atStart => exact ⟨0, Nat.zero_le _, rfl, ⟨_, _, rfl, World.ownsRow_lit W2 #[] 0 (Nat.le_refl _) (Nat.zero_le _) rfl⟩, (Below.refl _ W2).alloc (Nat.le_refl _) _⟩
        case round =>
          obtain ⟨j, hj, rfl, ⟨A6, c6, rfl, h6⟩, hbV⟩ := hrel
          have hs6 := hbV.size
          by_cases hlt2 : j < k0 + 1
          · have hmj := nat_tmod j 2
            have H6 := Lib.hid h6
            have HA := Lib.hid (show (altF (k0 + 1)).take (j + 1) = (altF (k0 + 1)).take j ++ [(j : Int) % 2] from HAT.out j hlt2)
            have hjl : (j : Int) < (k0 : Int) + 1 := by omega
            clear h6
            go_wp2_with (at_builtin; refine app_one rfl (.tmp 44) (.tmp 47) 23 rfl W2.heap.size 3 i0 (.int .i64 0) 8 Try.underlying23 hi hz0 hz1 hz2 (by decide) rfl _ _ _ rfl H6.out (.int .i64 ((j : Int) % 2)) rfl rfl (by omega) hs6 ?_; intro g7 c7 w7 hown7 hb7)
            go_roundw
            case rel => exact ⟨j + 1, by omega, by go_num, ⟨_, _, rfl, by rw [HA.out, List.map_append]; exact hown7⟩, hbV.trans hb7⟩
            case measure => simp [intOf]; omega
          · have hjk : j = k0 + 1 := by omega
            subst hjk
            have hjl : decide (((k0 + 1 : Nat) : Int) < (k0 : Int) + 1) = false := decide_eq_false (by omega)
            rw [List.take_of_length_le (by rw [alt_len]; exact Nat.le_refl _)] at h6
            replace T := T.trans (hbV.mono (by omega))
            replace r_za := r_za.below hbV
            have r_al := Ins.Row.mk h6
            have HLX := Lib.hid (show (colF (altF (k0 + 1)) za).length = k0 + 1 by rw [colF_yes HCB.out, joinF_len]; exact HL.out)
            have HFX := Lib.hid (col_fits (zs := za) (alt_small (k0 + 1)))
            have HFA := Lib.hid (alt_fits (k0 + 1))
            have HLA := Lib.hid (alt_len (k0 + 1))
            clear h6 hbV HAT
            go_wp2_with fail
            refine (Gic.impl_col A6 (k0 + 1) c6 (altF (k0 + 1)) A_za (k0 + 1) c_za za _ HLA.out (by omega) r_al.at_ HL.out (by omega) HF.out r_za.at_).mono ?_
            rintro e w7 ⟨A_x, c_x, rfl, hown, hb⟩
            rw [HLX.out] at hown
            rw [HLX.out, HCB.out]
            have s7 := hb.size
            replace T := T.trans (hb.mono (by omega))
            replace r_al := r_al.below hb
            have r_x := Ins.Row.mk hown
            clear hown hb r_za
            go_wp2_with fail
            refine (Gic.impl_alt A6 (k0 + 1) c6 (altF (k0 + 1)) _ HLA.out (by omega) HFA.out r_al.at_).mono ?_
            rintro e w8 ⟨rfl, hb⟩
            rw [HAL.out]
            have s8 := hb.size
            replace T := T.trans (hb.mono (by omega))
            replace r_x := r_x.below hb
            clear hb r_al
            go_wp2_with fail
            refine (Gic.impl_pair A_x (k0 + 1) c_x (colF (altF (k0 + 1)) za) _ HLX.out (by omega) HFX.out r_x.at_).mono ?_
            rintro e w9 ⟨rfl, hb⟩
            rw [HDF.out]
            replace T := T.trans (hb.mono (by omega))
            clear hb r_x
            go_wp2
            go_ret
            exact ⟨rfl, T⟩
  · have h1' : (1048576 : Int) < (n : Int) := by omega
    go_enter Try.func3, Try.ntmps3
    go_wp2
    go_ret
    exact ⟨rfl, Below.refl _ w⟩

set_option maxRecDepth 100000 in
theorem lifted (os : Os) (started : os.Started) (H : Type) (enc : TypeId × Value → H) :
    ReturnsInHanded {} Try.checked os 3 .any (Rows.fnGilbreathSpec.pre6 enc Try.prog Try.f3 Rows.fnGilbreathRow.domain false) (Rows.fnGilbreathSpec.post enc Try.prog Try.f3 false true false false) := by
  refine returnsInHanded_of_change (C := Try.checked) Fr.own started (by kernel_rfl) Try.func3
    (ChangeSpec.witness6 (enc := enc) (C := Try.checked) false ⟨#[], #[.slice none 0 0], []⟩ 8 (by kernel_rfl) (by kernel_rfl) (by kernel_rfl) (by kernel_rfl)) ?_
  intro W base args ds gs before hval0 hW hcnd _
  have hval : ∀ (j : Nat) t v, Try.f3.params[j]? = some t → args[j]? = some v → Value.okWide Try.prog W .any base t v := hval0
  have hW' := hW
  obtain ⟨p, q, hA0, hV, rfl, hfz, hnd⟩ := hW
  have hA : DataW.TrodAll enc Try.prog W 0 (fun _ => true) true Try.f3.params.toList args.toList ds p := hA0
  have hAk := hA
  rw [Try.params3] at hA hval
  obtain ⟨v0, d0, rfl, rfl, h0⟩ := trodAll_one hA
  obtain ⟨rfl, rfl⟩ := trodVars_none hV
  have hlt : ∀ x ∈ p, x.block < W.heap.size := fun x hx => by simpa using hW'.lt x (List.mem_append_left _ hx)
  obtain ⟨A0, n0, c0, l0, rfl, hn0, hm0, hs0, ha0⟩ := Fr.view_nums Try.underlying22 Try.underlying5 (by kernel_rfl) (hval 0 22 v0 rfl rfl) h0 hlt
  clear hA0 hval0
  refine (walk A0 n0 c0 l0 W hn0 hm0 hs0 ha0).mono fun e W' ⟨he, hb⟩ => ?_
  subst he
  exact ⟨_, rfl, _, _, _, [], p, [], hW', trodAll_mk1 (shut_bool Try.underlying4 _), Fr.below_all Fr.laidOut hb _ _ _ _ (Fr.readB_all (by kernel_rfl)) hAk hlt, rfl, hb.frame _, fun h => by cases h⟩

theorem proved : Rows.FnGilbreathSaid :=
  OpenClaim.holds_of_wide 3 Try.f3 rfl rfl rfl rfl rfl rfl rfl ⟨rfl, rfl, rfl, rfl, rfl⟩ rfl rfl rfl rfl rfl (by kernel_rfl) Try.func3 (by kernel_rfl)
    (of_decide_eq_true (by kernel_rfl)) (by unfold Func.isWrapper; first | (rw [if_pos (by decide +kernel)]; kernel_rfl) | (rw [if_neg (by decide +kernel)]; exact ⟨rfl, rfl⟩))
    (fun os started H enc _ => lifted os started H enc)

end Go.Proofs.Ytpmfiflpipcojaa.LawGilbreath
