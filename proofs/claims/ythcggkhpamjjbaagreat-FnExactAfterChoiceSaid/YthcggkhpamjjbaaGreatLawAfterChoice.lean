/- The law of AfterChoice holds: for every argument the program's AfterChoice answers as its model does, changes no argument, and shares no memory. No condition. -/
import Derived.Test.YthcggkhpamjjbaaGreatBig
import Derived.Test.YthcggkhpamjjbaaGreatAfc
import Derived.Test.YthcggkhpamjjbaaGreatPkt
import Derived.Test.YthcggkhpamjjbaaGreatFrame
set_option linter.unusedVariables false
namespace Go.Proofs.YthcggkhpamjjbaaGreat.LawAfterChoice
open Go.ChangeShapes Go.WideShapes Go.ChangeAt Go.RowKit Fr _root_.Go.Proofs.YthcggkhpamjjbaaGreat.Own

set_option maxHeartbeats 4000000 in
theorem walk (A0 : Option Addr) (n0 c0 : Nat) (l0 : List Rws.RD) (n1 : Int) (w : World) (hn0 : l0.length = n0) (hm0 : n0 ≤ maxLen) (hs0 : Sst.WfSS l0) (ha0 : Sst.SSAt w w.heap.size A0 l0) (wf1 : (Lit.int .i64 n1).wf = true) :
    Calls Tryz.prog 4 #[.slice A0 n0 c0, .int .i64 n1] w fun e w' => e = .returned (.bool true) ∧ Below w.heap.size w w' := by
  have hx0 : n0 ≤ 9223372036854775807 := by unfold maxLen at hm0; omega
  have HN0 := Lib.hid hn0
  have HS0 := Lib.hid hs0
  clear hn0 hm0 hs0
  obtain ⟨lo1, hi1⟩ := Ins.wf_lo wf1
  clear wf1
  by_cases hg0 : n0 + Rws.tot l0 n0 ≤ 1048576
  · have hgn0 : n0 ≤ 1048576 := by omega
    have HBG0 := Lib.hid (Big.big_of HN0.out hg0)
    have HLN0 := Lib.hid (fun i (_ : i < n0) => Big.big_len rfl HBG0.out i)
    obtain ⟨res, hres⟩ : ∃ r, r = Afc.choF n1 (l0.map Rws.RD.zs) := ⟨_, rfl⟩
    have HSS := Lib.hid (show Big.BigSS res by rw [hres]; exact Afc.cho_big _ _)
    have hlen := HSS.out.1
    have HR := Lib.hid hres.symm
    clear hres
    obtain ⟨rb, hrb⟩ : ∃ r, r = Afc.choB n1 (l0.map Rws.RD.zs) := ⟨_, rfl⟩
    have HRB := Lib.hid hrb.symm
    clear hrb
    have T : Below w.heap.size w w := Below.refl _ w
    have f0 := ha0
    clear ha0
    go_enter Tryz.func4, Tryz.ntmps4
    go_wp2_with fail
    refine (Sst.sz_ss A0 n0 c0 l0 1048576 _ HN0.out hx0 HS0.out (by omega) f0).mono ?_
    rintro e w' ⟨rfl, rfl⟩
    rw [if_pos hg0]
    have hz_0 : decide ((1048576 : Int) - (n0 : Int) - (Rws.tot l0 n0 : Int) < 0) = false := decide_eq_false (by omega)
    go_wp2_with fail
    refine (Sst.to_ss A0 n0 c0 l0 _ HN0.out hgn0 HLN0.out (f0.more T.size)).mono ?_
    rintro e w1 ⟨g_t1, rs_t1, rfl, hz_t1, hnn_t1, hown, hb⟩
    clear hnn_t1
    have s1 : w.heap.size ≤ w1.heap.size := hb.size
    replace T := T.trans (hb.mono (by omega))
    replace f0 := f0.below (hb.mono (by omega))
    clear hb
    have r_t1 := hown
    clear hown
    go_wp2_with fail
    refine ((Afc.spec_choice (some ⟨g_t1, 0, none⟩) n0 n0 rs_t1 n1 _ r_t1.len (Sst.at_of r_t1) (Kno.fits_of HS0.out hz_t1 r_t1.len) (fun i _ => Big.big_len hz_t1 HBG0.out i) (Rcx.caps_of r_t1) (by omega)).mono (fun _ _ h => Big.castb (by rw [hz_t1, HR.out]) (by rw [hz_t1, HRB.out]) h)).mono ?_
    rintro e w2 ⟨A_w0, c_w0, rs_w0, rfl, hz_w0, hown, hb⟩
    have s2 : w1.heap.size ≤ w2.heap.size := hb.size
    replace T := T.trans (hb.mono (by omega))
    replace f0 := f0.below (hb.mono (by omega))
    replace r_t1 := r_t1.below hb
    clear hb
    have r_w0 := hown
    clear hown
    go_wp2_with fail
    refine (Sst.to_ss A0 n0 c0 l0 _ HN0.out hgn0 HLN0.out (f0.more T.size)).mono ?_
    rintro e w3 ⟨g_x0, rs_x0, rfl, hz_x0, hnn_x0, hown, hb⟩
    clear hnn_x0
    have s3 : w2.heap.size ≤ w3.heap.size := hb.size
    replace T := T.trans (hb.mono (by omega))
    replace f0 := f0.below (hb.mono (by omega))
    replace r_t1 := r_t1.below hb
    replace r_w0 := r_w0.below hb
    clear hb
    have r_x0 := hown
    clear hown
    go_wp2_with fail
    refine ((Afc.impl_choice (some ⟨g_x0, 0, none⟩) n0 n0 rs_x0 n1 _ r_x0.len (Sst.at_of r_x0) (Kno.fits_of HS0.out hz_x0 r_x0.len) (fun i _ => Big.big_len hz_x0 HBG0.out i) (Rcx.caps_of r_x0) (by omega)).mono (fun _ _ h => Big.castb (by rw [hz_x0, HR.out]) (by rw [hz_x0, HRB.out]) h)).mono ?_
    rintro e w4 ⟨A_g0, c_g0, rs_g0, rfl, hz_g0, hown, hb⟩
    have s4 : w3.heap.size ≤ w4.heap.size := hb.size
    replace T := T.trans (hb.mono (by omega))
    replace f0 := f0.below (hb.mono (by omega))
    replace r_t1 := r_t1.below hb
    replace r_w0 := r_w0.below hb
    replace r_x0 := r_x0.below hb
    clear hb
    have r_g0 := hown
    clear hown
    go_wp2_with fail
    refine (Rws.eq_ss _ _ _ _ A_g0 A_w0 res.length c_g0 c_w0 rs_g0 rs_w0 _ r_g0 r_w0 (hz_g0.trans hz_w0.symm) (by omega) (fun i _ => Nat.le_trans (Big.big_len hz_g0 HSS.out i) (by omega))).mono ?_
    rintro e w5 ⟨rfl, hb⟩
    have s5 : w4.heap.size ≤ w5.heap.size := hb.size
    replace T := T.trans (hb.mono (by omega))
    replace f0 := f0.below (hb.mono (by omega))
    replace r_t1 := r_t1.below hb
    replace r_w0 := r_w0.below hb
    replace r_x0 := r_x0.below hb
    replace r_g0 := r_g0.below hb
    clear hb
    go_wp2_with fail
    refine (Sst.to_ss A0 n0 c0 l0 _ HN0.out hgn0 HLN0.out (f0.more T.size)).mono ?_
    rintro e w6 ⟨g_t2, rs_t2, rfl, hz_t2, hnn_t2, hown, hb⟩
    clear hnn_t2
    have s6 : w5.heap.size ≤ w6.heap.size := hb.size
    replace T := T.trans (hb.mono (by omega))
    replace f0 := f0.below (hb.mono (by omega))
    replace r_t1 := r_t1.below hb
    replace r_w0 := r_w0.below hb
    replace r_x0 := r_x0.below hb
    replace r_g0 := r_g0.below hb
    clear hb
    have r_t2 := hown
    clear hown
    go_wp2_with fail
    refine (Rws.eq_ss _ _ _ _ (some ⟨g_x0, 0, none⟩) (some ⟨g_t2, 0, none⟩) n0 n0 n0 rs_x0 rs_t2 _ r_x0 r_t2 (hz_x0.trans hz_t2.symm) (by omega) (fun i _ => Nat.le_trans (Big.big_len hz_x0 HBG0.out i) (by omega))).mono ?_
    rintro e w7 ⟨rfl, hb⟩
    have s7 : w6.heap.size ≤ w7.heap.size := hb.size
    replace T := T.trans (hb.mono (by omega))
    replace f0 := f0.below (hb.mono (by omega))
    replace r_t1 := r_t1.below hb
    replace r_w0 := r_w0.below hb
    replace r_x0 := r_x0.below hb
    replace r_g0 := r_g0.below hb
    replace r_t2 := r_t2.below hb
    clear hb
    have ht_x0 := Big.big_tot hz_x0 HBG0.out n0
    go_wp2_with fail
    refine (Rws.mark_ss _ _ (some ⟨g_x0, 0, none⟩) n0 n0 rs_x0 _ _ (by omega) (by omega) (by omega) r_x0).mono ?_
    rintro e w8 ⟨rfl, hrow, hwi⟩
    clear r_x0
    have r_x0 := hrow
    clear hrow
    have s8 : w7.heap.size ≤ w8.heap.size := hwi.size
    replace T := Rws.below_wi T hwi (by omega) (by omega)
    replace f0 := f0.below (Rws.below_wi (Below.refl w.heap.size _) hwi (by omega) (by omega))
    replace r_t1 := r_t1.wi hwi (by omega)
    replace r_w0 := r_w0.wi hwi (by omega)
    replace r_g0 := r_g0.wi hwi (by omega)
    replace r_t2 := r_t2.wi hwi (by omega)
    clear hwi
    go_wp2_with fail
    refine (Rws.eq_ss _ _ _ _ A_g0 A_w0 res.length c_g0 c_w0 rs_g0 rs_w0 _ r_g0 r_w0 (hz_g0.trans hz_w0.symm) (by omega) (fun i _ => Nat.le_trans (Big.big_len hz_g0 HSS.out i) (by omega))).mono ?_
    rintro e w9 ⟨rfl, hb⟩
    have s9 : w8.heap.size ≤ w9.heap.size := hb.size
    replace T := T.trans (hb.mono (by omega))
    replace f0 := f0.below (hb.mono (by omega))
    replace r_t1 := r_t1.below hb
    replace r_w0 := r_w0.below hb
    replace r_x0 := r_x0.below hb
    replace r_g0 := r_g0.below hb
    replace r_t2 := r_t2.below hb
    clear hb
    have ht_g0 := Big.big_tot hz_g0 HSS.out res.length
    go_wp2_with fail
    refine (Rws.mark_ss _ _ A_g0 res.length c_g0 rs_g0 _ _ (by omega) (by omega) (by omega) r_g0).mono ?_
    rintro e w10 ⟨rfl, hrow, hwi⟩
    clear r_g0
    have r_g0 := hrow
    clear hrow
    have s10 : w9.heap.size ≤ w10.heap.size := hwi.size
    replace T := Rws.below_wi T hwi (by omega) (by omega)
    replace f0 := f0.below (Rws.below_wi (Below.refl w.heap.size _) hwi (by omega) (by omega))
    replace r_t1 := r_t1.wi hwi (by omega)
    replace r_w0 := r_w0.wi hwi (by omega)
    replace r_x0 := r_x0.wi hwi (by omega)
    replace r_t2 := r_t2.wi hwi (by omega)
    clear hwi
    go_wp2_with fail
    refine (Rws.held_ss _ _ A_g0 res.length c_g0 rs_g0 _ _ (by omega) (by omega) (by omega) r_g0).mono ?_
    rintro e w' ⟨rfl, rfl⟩
    go_wp2_with fail
    refine (Sst.to_ss A0 n0 c0 l0 _ HN0.out hgn0 HLN0.out (f0.more T.size)).mono ?_
    rintro e w11 ⟨g_t3, rs_t3, rfl, hz_t3, hnn_t3, hown, hb⟩
    clear hnn_t3
    have s11 : w10.heap.size ≤ w11.heap.size := hb.size
    replace T := T.trans (hb.mono (by omega))
    replace f0 := f0.below (hb.mono (by omega))
    replace r_t1 := r_t1.below hb
    replace r_w0 := r_w0.below hb
    replace r_x0 := r_x0.below hb
    replace r_g0 := r_g0.below hb
    replace r_t2 := r_t2.below hb
    clear hb
    have r_t3 := hown
    clear hown
    go_wp2_with fail
    refine ((Afc.impl_choice (some ⟨g_t3, 0, none⟩) n0 n0 rs_t3 n1 _ r_t3.len (Sst.at_of r_t3) (Kno.fits_of HS0.out hz_t3 r_t3.len) (fun i _ => Big.big_len hz_t3 HBG0.out i) (Rcx.caps_of r_t3) (by omega)).mono (fun _ _ h => Big.castb (by rw [hz_t3, HR.out]) (by rw [hz_t3, HRB.out]) h)).mono ?_
    rintro e w12 ⟨A_h0, c_h0, rs_h0, rfl, hz_h0, hown, hb⟩
    have s12 : w11.heap.size ≤ w12.heap.size := hb.size
    replace T := T.trans (hb.mono (by omega))
    replace f0 := f0.below (hb.mono (by omega))
    replace r_t1 := r_t1.below hb
    replace r_w0 := r_w0.below hb
    replace r_x0 := r_x0.below hb
    replace r_g0 := r_g0.below hb
    replace r_t2 := r_t2.below hb
    replace r_t3 := r_t3.below hb
    clear hb
    have r_h0 := hown
    clear hown
    go_wp2_with fail
    refine (Rws.eq_ss _ _ _ _ A_h0 A_w0 res.length c_h0 c_w0 rs_h0 rs_w0 _ r_h0 r_w0 (hz_h0.trans hz_w0.symm) (by omega) (fun i _ => Nat.le_trans (Big.big_len hz_h0 HSS.out i) (by omega))).mono ?_
    rintro e w13 ⟨rfl, hb⟩
    have s13 : w12.heap.size ≤ w13.heap.size := hb.size
    replace T := T.trans (hb.mono (by omega))
    replace f0 := f0.below (hb.mono (by omega))
    replace r_t1 := r_t1.below hb
    replace r_w0 := r_w0.below hb
    replace r_x0 := r_x0.below hb
    replace r_g0 := r_g0.below hb
    replace r_t2 := r_t2.below hb
    replace r_t3 := r_t3.below hb
    replace r_h0 := r_h0.below hb
    clear hb
    go_wp2_with fail
    refine (Rws.held_ss _ _ A_g0 res.length c_g0 rs_g0 _ _ (by omega) (by omega) (by omega) r_g0).mono ?_
    rintro e w' ⟨rfl, rfl⟩
    go_wp2
    go_ret
    exact ⟨rfl, T⟩
  · go_enter Tryz.func4, Tryz.ntmps4
    go_wp2_with fail
    refine (Sst.sz_ss A0 n0 c0 l0 1048576 _ HN0.out hx0 HS0.out (by omega) ha0).mono ?_
    rintro e w' ⟨rfl, rfl⟩
    rw [if_neg hg0]
    go_wp2
    go_ret
    exact ⟨rfl, Below.refl _ w⟩
set_option maxRecDepth 100000 in
theorem lifted (os : Os) (started : os.Started) (H : Type) (enc : TypeId × Value → H) :
    ReturnsInHanded {} Tryz.checked os 4 .any (Rows.fnExactAfterChoiceSpec.pre6 enc Tryz.prog Tryz.f4 Rows.fnExactAfterChoiceRow.domain false) (Rows.fnExactAfterChoiceSpec.post enc Tryz.prog Tryz.f4 false true false false) := by
  refine returnsInHanded_of_change (C := Tryz.checked) Fr.own started (by kernel_rfl) Tryz.func4
    (ChangeSpec.witness6 (enc := enc) (C := Tryz.checked) false ⟨#[], #[.slice none 0 0, .int .i64 0], []⟩ 8 (by kernel_rfl) (by kernel_rfl) (by kernel_rfl) (by kernel_rfl)) ?_
  intro W base args ds gs before hval0 hW hcnd _
  have hval : ∀ (j : Nat) t v, Tryz.f4.params[j]? = some t → args[j]? = some v → Value.okWide Tryz.prog W .any base t v := hval0
  have hW' := hW
  obtain ⟨p, q, hA0, hV, rfl, hfz, hnd⟩ := hW
  have hA : DataW.TrodAll enc Tryz.prog W 0 (fun _ => true) true Tryz.f4.params.toList args.toList ds p := hA0
  have hAk := hA
  rw [Tryz.params4] at hA hval
  obtain ⟨v0, v1, d0, d1, p0, p1, rfl, rfl, hp, h0, h1⟩ := trodAll_two hA
  obtain ⟨rfl, rfl⟩ := trodVars_none hV
  have hlt : ∀ x ∈ p, x.block < W.heap.size := fun x hx => by simpa using hW'.lt x (List.mem_append_left _ hx)
  obtain ⟨A0, n0, c0, l0, rfl, hn0, hm0, hs0, ha0⟩ := Sst.view_intss Tryz.underlying23 Tryz.underlying28 Tryz.underlying3 (by kernel_rfl) (by kernel_rfl) (hval 0 23 v0 rfl rfl) h0 (fun x hx => hlt x (by rw [hp]; simp [hx]))
  obtain ⟨n1, rfl, wf1⟩ := Fr.view_int Tryz.underlying3 (hval 1 3 v1 rfl rfl) h1
  clear hA0 hval0
  refine (walk A0 n0 c0 l0 n1 W hn0 hm0 hs0 ha0 wf1).mono fun e W' ⟨he, hb⟩ => ?_
  subst he
  exact ⟨_, rfl, _, _, _, [], p, [], hW', trodAll_mk1 (shut_bool Tryz.underlying4 _), Fr.below_all Fr.laidOut hb _ _ _ _ (Fr.readB_all (by kernel_rfl)) hAk hlt, rfl, hb.frame _, fun h => by cases h⟩

theorem proved : Rows.FnExactAfterChoiceSaid :=
  OpenClaim.holds_of_wide 4 Tryz.f4 rfl rfl rfl rfl rfl rfl rfl ⟨rfl, rfl, rfl, rfl, rfl⟩ rfl rfl rfl rfl rfl (by kernel_rfl) Tryz.func4 (by kernel_rfl)
    (of_decide_eq_true (by kernel_rfl)) (by unfold Func.isWrapper; first | (rw [if_pos (by decide +kernel)]; kernel_rfl) | (rw [if_neg (by decide +kernel)]; exact ⟨rfl, rfl⟩))
    (fun os started H enc _ => lifted os started H enc)

end Go.Proofs.YthcggkhpamjjbaaGreat.LawAfterChoice
