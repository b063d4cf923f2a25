/- The law of the permutations holds: they form a group, and the order of one is the least common multiple of its cycles. No condition. -/
import Derived.Test.YtijlfgbinpjkiaaMkp
import Derived.Test.YtijlfgbinpjkiaaGrp
import Derived.Test.YtijlfgbinpjkiaaCur
import Derived.Test.YtijlfgbinpjkiaaFrame
set_option linter.unusedVariables false
namespace Go.Proofs.Ytijlfgbinpjkiaa.LawPerms
open Go.ChangeShapes Go.WideShapes Go.ChangeAt Go.RowKit Fr Own Ins Prm Rws Orb Pfn Grp Cyc Go.Proofs.Ytijlfgbinpjkiaa.Ord Sam

theorem sum_next (ls : List Nat) (j : Nat) (h : j < ls.length) : sumL (ls.take (j + 1)) = sumL (ls.take j) + ls.getD j 0 := by
  rw [List.take_succ_eq_append_getElem h, sumL_snoc, List.getD_eq_getElem?_getD, List.getElem?_eq_getElem h]; rfl
theorem sum_le (ls : List Nat) (j : Nat) : sumL (ls.take j) ≤ sumL ls := by
  have h : sumL (ls.take j ++ ls.drop j) = sumL (ls.take j) + sumL (ls.drop j) := by
    unfold sumL
    rw [List.foldl_append, foldl_add]
  rw [List.take_append_drop] at h
  omega
theorem fits_perm {zs : List Int} (h : permB zs = true) : Ins.Fits zs := by
  intro i hi
  have h1 := ((permB_yes h).2 i hi).1
  have h2 := (permB_yes h).1
  omega
theorem more_bytes {w : World} {B B' : Nat} {A : Option Addr} {n : Nat} (h : Cur.BytesAt w B A n) (hB : B ≤ B') : Cur.BytesAt w B' A n := by
  intro k hk
  obtain ⟨b, o, x, hA, hlt, r⟩ := h k hk
  exact ⟨b, o, x, hA, by omega, r⟩

set_option maxHeartbeats 4000000 in
set_option maxRecDepth 20000 in
theorem walk (A : Option Addr) (n c : Nat) (zs : List Int) (w : World) (hn : zs.length = n) (hm : n ≤ maxLen) (hs : ∀ z ∈ zs, (Lit.int .u8 z).wf = true) (ha : Fr.IntsAt w w.heap.size .u8 A zs) :
    Calls Try.prog 3 #[.slice A n c] w fun e w' => e = .returned (.bool true) ∧ Below w.heap.size w w' := by
  have hm0 : n ≤ 9223372036854775807 := by unfold maxLen at hm; omega
  have hby := Cur.bytes_of hn hs ha
  clear hn hs ha zs hm
  by_cases h1 : n ≤ 1048576
  · have h1' : decide ((1048576 : Int) < (n : Int)) = false := decide_eq_false (by omega)
    have T : Below w.heap.size w w := Below.refl _ w
    go_enter Try.func3, Try.ntmps3
    go_wp2_with fail
    refine (Cur.num_any A n c 1 _ h1 (by omega) hby).mono ?_
    rintro e w1 ⟨x, rfl, hx0, hx1, hb⟩
    have s1 : w.heap.size ≤ w1.heap.size := hb.size
    replace T := T.trans (hb.mono (by omega))
    replace hby := (hby).below (hb.mono (by omega))
    clear hb
    obtain ⟨m, hm⟩ : ∃ m : Nat, 1 + x % 8 = (m : Int) := ⟨(1 + x % 8).toNat, by omega⟩
    have hm1 : 1 ≤ m := by omega
    have hm8 : m ≤ 8 := by omega
    go_wp2_with fail
    clear hm hx0 hx1
    refine (Mkp.make_perm A n c 3 m _ h1 (by omega) hm1 (by omega) (more_bytes hby (by omega))).mono ?_
    rintro e w2 ⟨A_za, c_za, za, rfl, hl_za, hp_za, hown, hb⟩
    have s2 : w1.heap.size ≤ w2.heap.size := hb.size
    replace T := T.trans (hb.mono (by omega))
    replace hby := (hby).below (hb.mono (by omega))
    clear hb
    have r_za := Ins.Row.mk hown
    clear hown
    go_wp2_with fail
    refine (Mkp.make_perm A n c 20 m _ h1 (by omega) hm1 (by omega) (more_bytes hby (by omega))).mono ?_
    rintro e w3 ⟨A_zb, c_zb, zb, rfl, hl_zb, hp_zb, hown, hb⟩
    have s3 : w2.heap.size ≤ w3.heap.size := hb.size
    replace T := T.trans (hb.mono (by omega))
    replace hby := (hby).below (hb.mono (by omega))
    replace r_za := r_za.below hb
    clear hb
    have r_zb := Ins.Row.mk hown
    clear hown
    have hlab : za.length = zb.length := by rw [hl_za, hl_zb]
    obtain ⟨cz, hcz⟩ : ∃ l, l = joinF za zb := ⟨_, rfl⟩
    obtain ⟨xz, hxz⟩ : ∃ l, l = invF cz := ⟨_, rfl⟩
    obtain ⟨yz, hyz⟩ : ∃ l, l = invF za := ⟨_, rfl⟩
    obtain ⟨zz, hzz⟩ : ∃ l, l = invF zb := ⟨_, rfl⟩
    obtain ⟨wz, hwz⟩ : ∃ l, l = joinF zz yz := ⟨_, rfl⟩
    obtain ⟨iz, hiz⟩ : ∃ l, l = joinF cz xz := ⟨_, rfl⟩
    obtain ⟨k, hk⟩ : ∃ k, k = ordF za := ⟨_, rfl⟩
    obtain ⟨pz, hpz⟩ : ∃ l, l = powTo za k := ⟨_, rfl⟩
    have p_cz : permB cz = true := by rw [hcz]; exact comp_perm hp_za hp_zb hlab
    have l_cz : cz.length = m := by rw [hcz, joinF_len]; exact hl_zb
    have p_xz : permB xz = true := by rw [hxz]; exact inv_perm p_cz
    have l_xz : xz.length = m := by rw [hxz, invF_len p_cz]; exact l_cz
    have p_yz : permB yz = true := by rw [hyz]; exact inv_perm hp_za
    have l_yz : yz.length = m := by rw [hyz, invF_len hp_za]; exact hl_za
    have p_zz : permB zz = true := by rw [hzz]; exact inv_perm hp_zb
    have l_zz : zz.length = m := by rw [hzz, invF_len hp_zb]; exact hl_zb
    have l_wz : wz.length = m := by rw [hwz, joinF_len]; exact l_yz
    have l_iz : iz.length = m := by rw [hiz, joinF_len]; exact l_xz
    have l_pz : pz.length = m := by rw [hpz, powTo_len]; exact hl_za
    have hk840 := ord_840 hp_za (by rw [hl_za]; exact hm8)
    rw [← hk] at hk840
    have B1 := Lib.hid (compB_yes hp_za hp_zb hlab)
    have E1 := Lib.hid ((compF_yes B1.out).trans hcz.symm)
    have E2 := Lib.hid hxz.symm
    have E3 := Lib.hid hyz.symm
    have E4 := Lib.hid hzz.symm
    have B5 := Lib.hid (compB_yes p_zz p_yz (by rw [l_zz, l_yz]))
    have E5 := Lib.hid ((compF_yes B5.out).trans hwz.symm)
    have B6 := Lib.hid (compB_yes p_cz p_xz (by rw [l_cz, l_xz]))
    have E6 := Lib.hid ((compF_yes B6.out).trans hiz.symm)
    have E7 := Lib.hid hk.symm
    have B8 := Lib.hid (show powB za (k : Int) = true by unfold powB; rw [hp_za]; exact decide_eq_true ⟨by omega, by omega⟩)
    have E8 := Lib.hid ((powF_yes B8.out).trans (show powTo za (k : Int).toNat = pz from hpz.symm))
    have hnew : Nwp.newF (m : Int) = imarks 0 m := Nwp.newF_yes m (by omega)
    have HNEW := Lib.hid hnew
    have S1 := Lib.hid (show sameB xz wz = true from decide_eq_true (by rw [hxz, hwz, hcz, hyz, hzz]; exact law_inv hp_za hp_zb hl_za hl_zb))
    have S2 := Lib.hid (show sameB iz (imarks 0 m) = true from decide_eq_true (by rw [hiz, hxz]; exact law_id p_cz l_cz))
    have S3 := Lib.hid (show sameB pz (imarks 0 m) = true from decide_eq_true (by rw [hpz, hk]; exact law_pow hp_za hl_za))
    have EV := Lib.hid (show evenF cz = (evenF za == evenF zb) by rw [hcz]; exact law_even hp_za hp_zb hl_za hl_zb)
    have OD := Lib.hid (ord_dvd hp_za)
    have SU := Lib.hid (law_sum hp_za hl_za)
    have FEW := Lib.hid (cyc_few hp_za)
    have HLI := Lib.hid (imarks_length 0 m)
    have HL_za := Lib.hid hl_za
    have HP_za := Lib.hid hp_za
    have HF_za := Lib.hid (fits_perm hp_za)
    have HL_zb := Lib.hid hl_zb
    have HP_zb := Lib.hid hp_zb
    have HF_zb := Lib.hid (fits_perm hp_zb)
    have HL_cz := Lib.hid l_cz
    have HP_cz := Lib.hid p_cz
    have HF_cz := Lib.hid (fits_perm p_cz)
    have HL_xz := Lib.hid l_xz
    have HP_xz := Lib.hid p_xz
    have HF_xz := Lib.hid (fits_perm p_xz)
    have HL_yz := Lib.hid l_yz
    have HP_yz := Lib.hid p_yz
    have HF_yz := Lib.hid (fits_perm p_yz)
    have HL_zz := Lib.hid l_zz
    have HP_zz := Lib.hid p_zz
    have HF_zz := Lib.hid (fits_perm p_zz)
    have HL_wz := Lib.hid l_wz
    have HL_iz := Lib.hid l_iz
    have HL_pz := Lib.hid l_pz
    have hkb := Lib.hid hk840.2
    have hk1 := hk840.1
    clear hlab hcz hxz hyz hzz hwz hiz hk hpz p_cz l_cz p_xz l_xz p_yz l_yz p_zz l_zz l_wz l_iz l_pz hk840 hnew hl_za hp_za hl_zb hp_zb
    go_wp2_with fail
    refine (Pfn.impl_comp A_za m c_za za A_zb m c_zb zb _ HL_za.out (by omega) HF_za.out r_za.at_ HL_zb.out (by omega) HF_zb.out r_zb.at_).mono ?_
    rintro e w4 ⟨A_cz, c_cz, rfl, hown, hb⟩
    rw [E1.out, HL_cz.out] at hown
    rw [E1.out, HL_cz.out, B1.out]
    have s4 : w3.heap.size ≤ w4.heap.size := hb.size
    replace T := T.trans (hb.mono (by omega))
    replace hby := (hby).below (hb.mono (by omega))
    replace r_za := r_za.below hb
    replace r_zb := r_zb.below hb
    clear hb
    have r_cz := Ins.Row.mk hown
    clear hown
    go_wp2_with fail
    refine (Pfn.impl_inv A_cz m c_cz cz _ HL_cz.out (by omega) HF_cz.out r_cz.at_).mono ?_
    rintro e w5 ⟨A_xz, c_xz, rfl, hown, hb⟩
    rw [E2.out, HL_xz.out] at hown
    rw [E2.out, HL_xz.out, HP_cz.out]
    have s5 : w4.heap.size ≤ w5.heap.size := hb.size
    replace T := T.trans (hb.mono (by omega))
    replace hby := (hby).below (hb.mono (by omega))
    replace r_za := r_za.below hb
    replace r_zb := r_zb.below hb
    replace r_cz := r_cz.below hb
    clear hb
    have r_xz := Ins.Row.mk hown
    clear hown
    go_wp2_with fail
    refine (Pfn.impl_inv A_za m c_za za _ HL_za.out (by omega) HF_za.out r_za.at_).mono ?_
    rintro e w6 ⟨A_yz, c_yz, rfl, hown, hb⟩
    rw [E3.out, HL_yz.out] at hown
    rw [E3.out, HL_yz.out, HP_za.out]
    have s6 : w5.heap.size ≤ w6.heap.size := hb.size
    replace T := T.trans (hb.mono (by omega))
    replace hby := (hby).below (hb.mono (by omega))
    replace r_za := r_za.below hb
    replace r_zb := r_zb.below hb
    replace r_cz := r_cz.below hb
    replace r_xz := r_xz.below hb
    clear hb
    have r_yz := Ins.Row.mk hown
    clear hown
    go_wp2_with fail
    refine (Pfn.impl_inv A_zb m c_zb zb _ HL_zb.out (by omega) HF_zb.out r_zb.at_).mono ?_
    rintro e w7 ⟨A_zz, c_zz, rfl, hown, hb⟩
    rw [E4.out, HL_zz.out] at hown
    rw [E4.out, HL_zz.out, HP_zb.out]
    have s7 : w6.heap.size ≤ w7.heap.size := hb.size
    replace T := T.trans (hb.mono (by omega))
    replace hby := (hby).below (hb.mono (by omega))
    replace r_za := r_za.below hb
    replace r_zb := r_zb.below hb
    replace r_cz := r_cz.below hb
    replace r_xz := r_xz.below hb
    replace r_yz := r_yz.below hb
    clear hb
    have r_zz := Ins.Row.mk hown
    clear hown
    go_wp2_with fail
    refine (Pfn.impl_comp A_zz m c_zz zz A_yz m c_yz yz _ HL_zz.out (by omega) HF_zz.out r_zz.at_ HL_yz.out (by omega) HF_yz.out r_yz.at_).mono ?_
    rintro e w8 ⟨A_wz, c_wz, rfl, hown, hb⟩
    rw [E5.out, HL_wz.out] at hown
    rw [E5.out, HL_wz.out, B5.out]
    have s8 : w7.heap.size ≤ w8.heap.size := hb.size
    replace T := T.trans (hb.mono (by omega))
    replace hby := (hby).below (hb.mono (by omega))
    replace r_za := r_za.below hb
    replace r_zb := r_zb.below hb
    replace r_cz := r_cz.below hb
    replace r_xz := r_xz.below hb
    replace r_yz := r_yz.below hb
    replace r_zz := r_zz.below hb
    clear hb
    have r_wz := Ins.Row.mk hown
    clear hown
    go_wp2_with fail
    refine (Pfn.impl_comp A_cz m c_cz cz A_xz m c_xz xz _ HL_cz.out (by omega) HF_cz.out r_cz.at_ HL_xz.out (by omega) HF_xz.out r_xz.at_).mono ?_
    rintro e w9 ⟨A_iz, c_iz, rfl, hown, hb⟩
    rw [E6.out, HL_iz.out] at hown
    rw [E6.out, HL_iz.out, B6.out]
    have s9 : w8.heap.size ≤ w9.heap.size := hb.size
    replace T := T.trans (hb.mono (by omega))
    replace hby := (hby).below (hb.mono (by omega))
    replace r_za := r_za.below hb
    replace r_zb := r_zb.below hb
    replace r_cz := r_cz.below hb
    replace r_xz := r_xz.below hb
    replace r_yz := r_yz.below hb
    replace r_zz := r_zz.below hb
    replace r_wz := r_wz.below hb
    clear hb
    have r_iz := Ins.Row.mk hown
    clear hown
    go_wp2_with fail
    refine (Mkp.same_any A_xz A_wz m m c_xz c_wz xz wz _ HL_xz.out HL_wz.out (by omega) (by omega) r_xz.at_ r_wz.at_).mono ?_
    rintro e w' ⟨rfl, rfl⟩
    rw [S1.out]
    go_wp2_with fail
    refine (Pfn.impl_id (m : Int) _ (by omega) (by omega)).mono ?_
    rintro e w10 ⟨A_d1, c_d1, rfl, hown, hb⟩
    rw [HNEW.out, HLI.out] at hown
    rw [HNEW.out, HLI.out]
    have s10 : w9.heap.size ≤ w10.heap.size := hb.size
    replace T := T.trans (hb.mono (by omega))
    replace hby := (hby).below (hb.mono (by omega))
    replace r_za := r_za.below hb
    replace r_zb := r_zb.below hb
    replace r_cz := r_cz.below hb
    replace r_xz := r_xz.below hb
    replace r_yz := r_yz.below hb
    replace r_zz := r_zz.below hb
    replace r_wz := r_wz.below hb
    replace r_iz := r_iz.below hb
    clear hb
    have r_d1 := Ins.Row.mk hown
    clear hown
    go_wp2_with fail
    refine (Mkp.same_any A_iz A_d1 m m c_iz c_d1 iz (imarks 0 m) _ HL_iz.out HLI.out (by omega) (by omega) r_iz.at_ r_d1.at_).mono ?_
    rintro e w' ⟨rfl, rfl⟩
    rw [S2.out]
    clear r_xz r_wz r_iz r_d1 r_yz r_zz
    go_wp2_with fail
    refine (Ord.impl_ord A_za m c_za za _ HL_za.out (by omega) HF_za.out r_za.at_).mono ?_
    rintro e w11 ⟨rfl, hb⟩
    rw [E7.out]
    have s11 : w10.heap.size ≤ w11.heap.size := hb.size
    replace T := T.trans (hb.mono (by omega))
    replace hby := (hby).below (hb.mono (by omega))
    replace r_za := r_za.below hb
    replace r_zb := r_zb.below hb
    replace r_cz := r_cz.below hb
    clear hb
    go_wp2_with fail
    refine (Pfn.impl_pow A_za m c_za za (k : Int) _ HL_za.out (by omega) HF_za.out r_za.at_).mono ?_
    rintro e w12 ⟨A_pz, c_pz, rfl, hown, hb⟩
    rw [E8.out, HL_pz.out] at hown
    rw [E8.out, HL_pz.out, B8.out]
    have s12 : w11.heap.size ≤ w12.heap.size := hb.size
    replace T := T.trans (hb.mono (by omega))
    replace hby := (hby).below (hb.mono (by omega))
    replace r_za := r_za.below hb
    replace r_zb := r_zb.below hb
    replace r_cz := r_cz.below hb
    clear hb
    have r_pz := Ins.Row.mk hown
    clear hown
    go_wp2_with fail
    refine (Cyc.impl_cyc A_za m c_za za _ HL_za.out (by omega) HF_za.out r_za.at_).mono ?_
    rintro e w13 ⟨A_y, c_y, ry, rfl, hry, hown, hb⟩
    have s13 : w12.heap.size ≤ w13.heap.size := hb.size
    replace T := T.trans (hb.mono (by omega))
    replace hby := (hby).below (hb.mono (by omega))
    replace r_za := r_za.below hb
    replace r_zb := r_zb.below hb
    replace r_cz := r_cz.below hb
    replace r_pz := r_pz.below hb
    clear hb
    have HY := Lib.hid hown
    have HYL := Lib.hid hown.len
    rw [← hry] at OD SU
    have HQ := Lib.hid (show ry.length = (cycI za).length by rw [← hry, List.length_map])
    have hfew := FEW.out
    clear hown hry FEW
    rw [List.map_map] at OD SU
    rw [E7.out] at OD
    generalize (cycI za).length = q at *
    obtain ⟨ls, hls⟩ : ∃ ls, ls = ry.map (List.length ∘ RD.zs) := ⟨_, rfl⟩
    rw [← hls] at OD SU
    have HLL := Lib.hid (show ls.length = q by rw [hls, List.length_map]; exact HQ.out)
    have HLG := Lib.hid (fun j (hj : j < q) => show (ry.getD j rd0).zs.length = ls.getD j 0 by
      rw [hls]
      simp [List.getD_eq_getElem?_getD, List.getElem?_map, List.getElem?_eq_getElem (show j < ry.length by rw [HQ.out]; exact hj)])
    have HSU := Lib.hid (show sumL (ls.take q) = m by rw [List.take_of_length_le (by rw [HLL.out]; exact Nat.le_refl _)]; exact SU.out)
    have HS0 := Lib.hid (show sumL (ls.take 0) = 0 from rfl)
    have hql : q ≤ m := by rw [HL_za.out] at hfew; exact hfew
    have hkb' := hkb.out
    clear hls HQ HYL SU hfew
    go_wp2
    go_loop [21, 116] (fun v i => ∃ j : Nat, j ≤ q ∧ i = .int .i64 j ∧ v = .int .i64 (sumL (ls.take j) : Nat)) (fun _ i => q - (intOf i).toNat)
    case atStart => exact ⟨0, Nat.zero_le _, rfl, by rw [HS0.out]; rfl⟩
    case round =>
      obtain ⟨j, hj, rfl, rfl⟩ := hrel
      by_cases hlt : j < q
      · obtain ⟨g, rfl, hc⟩ := HY.out.cell j hlt
        have hnext := sum_next ls j (by rw [HLL.out]; exact hlt)
        have hle := sum_le ls (j + 1)
        rw [show ls = ls.take q from (List.take_of_length_le (by rw [HLL.out]; exact Nat.le_refl _)).symm, HSU.out, ← show ls = ls.take q from (List.take_of_length_le (by rw [HLL.out]; exact Nat.le_refl _)).symm] at hle
        have hod := OD.out (ls.getD j 0) (by
          rw [List.getD_eq_getElem?_getD, List.getElem?_eq_getElem (by rw [HLL.out]; exact hlt)]
          exact List.getElem_mem _)
        have hlg := HLG.out j hlt
        simp only [RD.v] at hc
        rw [hlg] at hc
        generalize ls.getD j 0 = l at *
        generalize (ry.getD j rd0).A = A1 at hc
        generalize (ry.getD j rd0).c = c1 at hc
        generalize sumL (ls.take j) = sj at *
        generalize hs2 : sumL (ls.take (j + 1)) = sj2 at *
        have HS2 := Lib.hid hs2
        have HNX := Lib.hid hnext
        have hl1 := hod.1
        have hmod : ((k : Int) % (l : Int) != 0) = false := by
          have := tmod_eq k l
          rw [decide_eq_true hod.2] at this
          rw [bne, this]; rfl
        have hl0 : ((l : Int) == 0) = false := by
          rw [beq_eq_false_iff_ne]; omega
        have hlm : sj + l ≤ m := by omega
        clear hs2 hnext hod hlg hle
        go_wp2
        go_round
        case rel => exact ⟨j + 1, by omega, by go_num, by rw [HS2.out, HNX.out]; go_num⟩
        case measure => simp [intOf]; omega
      · have hjq : j = q := by omega
        have HJ := Lib.hid (show sumL (ls.take j) = m by rw [hjq]; exact HSU.out)
        rw [HJ.out]
        clear hjq
        go_wp2_with fail
        refine (Pfn.impl_id (m : Int) _ (by omega) (by omega)).mono ?_
        rintro e w14 ⟨A_d2, c_d2, rfl, hown, hb⟩
        rw [HNEW.out, HLI.out] at hown
        rw [HNEW.out, HLI.out]
        have s14 : w13.heap.size ≤ w14.heap.size := hb.size
        replace T := T.trans (hb.mono (by omega))
        replace hby := (hby).below (hb.mono (by omega))
        replace r_za := r_za.below hb
        replace r_zb := r_zb.below hb
        replace r_cz := r_cz.below hb
        replace r_pz := r_pz.below hb
        clear hb
        have r_d2 := Ins.Row.mk hown
        clear hown
        go_wp2_with fail
        refine (Mkp.same_any A_pz A_d2 m m c_pz c_d2 pz (imarks 0 m) _ HL_pz.out HLI.out (by omega) (by omega) r_pz.at_ r_d2.at_).mono ?_
        rintro e w' ⟨rfl, rfl⟩
        rw [S3.out]
        go_wp2_with fail
        refine (Ord.impl_even A_cz m c_cz cz _ HL_cz.out (by omega) HF_cz.out r_cz.at_).mono ?_
        rintro e w15 ⟨rfl, hb⟩
        have s15 : w14.heap.size ≤ w15.heap.size := hb.size
        replace T := T.trans (hb.mono (by omega))
        replace hby := (hby).below (hb.mono (by omega))
        replace r_za := r_za.below hb
        replace r_zb := r_zb.below hb
        replace r_cz := r_cz.below hb
        replace r_pz := r_pz.below hb
        replace r_d2 := r_d2.below hb
        clear hb
        go_wp2_with fail
        refine (Ord.impl_even A_za m c_za za _ HL_za.out (by omega) HF_za.out r_za.at_).mono ?_
        rintro e w16 ⟨rfl, hb⟩
        have s16 : w15.heap.size ≤ w16.heap.size := hb.size
        replace T := T.trans (hb.mono (by omega))
        replace hby := (hby).below (hb.mono (by omega))
        replace r_za := r_za.below hb
        replace r_zb := r_zb.below hb
        replace r_cz := r_cz.below hb
        replace r_pz := r_pz.below hb
        replace r_d2 := r_d2.below hb
        clear hb
        go_wp2_with fail
        refine (Ord.impl_even A_zb m c_zb zb _ HL_zb.out (by omega) HF_zb.out r_zb.at_).mono ?_
        rintro e w17 ⟨rfl, hb⟩
        have s17 : w16.heap.size ≤ w17.heap.size := hb.size
        replace T := T.trans (hb.mono (by omega))
        replace hby := (hby).below (hb.mono (by omega))
        replace r_za := r_za.below hb
        replace r_zb := r_zb.below hb
        replace r_cz := r_cz.below hb
        replace r_pz := r_pz.below hb
        replace r_d2 := r_d2.below hb
        clear hb
        rw [EV.out]
        have hbb : ((evenF za == evenF zb) == (evenF za == evenF zb)) = true := by cases evenF za <;> cases evenF zb <;> rfl
        go_wp2
        go_ret
        exact ⟨rfl, T⟩
  · have h1' : (1048576 : Int) < (n : Int) := by omega
    go_enter Try.func3, Try.ntmps3
    go_wp2
    go_ret
    exact ⟨rfl, Below.refl _ w⟩

set_option maxRecDepth 100000 in
theorem lifted (os : Os) (started : os.Started) (H : Type) (enc : TypeId × Value → H) :
    ReturnsInHanded {} Try.checked os 3 .any (Rows.fnPermsSpec.pre6 enc Try.prog Try.f3 Rows.fnPermsRow.domain false) (Rows.fnPermsSpec.post enc Try.prog Try.f3 false true false false) := by
  refine returnsInHanded_of_change (C := Try.checked) Fr.own started (by kernel_rfl) Try.func3
    (ChangeSpec.witness6 (enc := enc) (C := Try.checked) false ⟨#[], #[.slice none 0 0], []⟩ 8 (by kernel_rfl) (by kernel_rfl) (by kernel_rfl) (by kernel_rfl)) ?_
  intro W base args ds gs before hval0 hW hcnd _
  have hval : ∀ (j : Nat) t v, Try.f3.params[j]? = some t → args[j]? = some v → Value.okWide Try.prog W .any base t v := hval0
  have hW' := hW
  obtain ⟨p, q, hA0, hV, rfl, hfz, hnd⟩ := hW
  have hA : DataW.TrodAll enc Try.prog W 0 (fun _ => true) true Try.f3.params.toList args.toList ds p := hA0
  have hAk := hA
  rw [Try.params3] at hA hval
  obtain ⟨v0, d0, rfl, rfl, h0⟩ := trodAll_one hA
  obtain ⟨rfl, rfl⟩ := trodVars_none hV
  have hlt : ∀ x ∈ p, x.block < W.heap.size := fun x hx => by simpa using hW'.lt x (List.mem_append_left _ hx)
  obtain ⟨A0, n0, c0, l0, rfl, hn0, hm0, hs0, ha0⟩ := Fr.view_nums Try.underlying22 Try.underlying5 (by kernel_rfl) (hval 0 22 v0 rfl rfl) h0 hlt
  clear hA0 hval0
  refine (walk A0 n0 c0 l0 W hn0 hm0 hs0 ha0).mono fun e W' ⟨he, hb⟩ => ?_
  subst he
  exact ⟨_, rfl, _, _, _, [], p, [], hW', trodAll_mk1 (shut_bool Try.underlying4 _), Fr.below_all Fr.laidOut hb _ _ _ _ (Fr.readB_all (by kernel_rfl)) hAk hlt, rfl, hb.frame _, fun h => by cases h⟩

theorem proved : Rows.FnPermsSaid :=
  OpenClaim.holds_of_wide 3 Try.f3 rfl rfl rfl rfl rfl rfl rfl ⟨rfl, rfl, rfl, rfl, rfl⟩ rfl rfl rfl rfl rfl (by kernel_rfl) Try.func3 (by kernel_rfl)
    (of_decide_eq_true (by kernel_rfl)) (by unfold Func.isWrapper; first | (rw [if_pos (by decide +kernel)]; kernel_rfl) | (rw [if_neg (by decide +kernel)]; exact ⟨rfl, rfl⟩))
    (fun os started H enc _ => lifted os started H enc)

end Go.Proofs.Ytijlfgbinpjkiaa.LawPerms
