/- The law of PilesOf holds: for every argument the program's PilesOf answers as its model does, changes no argument, and shares no memory. No condition. -/
import Derived.Test.YtpfbjbakcfmngaaDls
import Derived.Test.YtpfbjbakcfmngaaPkt
import Derived.Test.YtpfbjbakcfmngaaFrame
set_option linter.unusedVariables false
namespace Go.Proofs.Ytpfbjbakcfmngaa.LawPilesOf
open Go.ChangeShapes Go.WideShapes Go.ChangeAt Go.RowKit Fr _root_.Go.Proofs.Ytpfbjbakcfmngaa.Own

set_option maxHeartbeats 4000000 in
theorem walk (A0 : Option Addr) (n0 c0 : Nat) (l0 : List Int) (n1 : Int) (w : World) (hn0 : l0.length = n0) (hm0 : n0 ≤ maxLen) (hs0 : ∀ z ∈ l0, (Lit.int .i64 z).wf = true) (ha0 : IntsAt w w.heap.size .i64 A0 l0) (wf1 : (Lit.int .i64 n1).wf = true) :
    Calls Try.prog 6 #[.slice A0 n0 c0, .int .i64 n1] w fun e w' => e = .returned (.bool true) ∧ Below w.heap.size w w' := by
  have hx0 : n0 ≤ 9223372036854775807 := by unfold maxLen at hm0; omega
  have hz0 := Ins.fits_of hs0
  have HN0 := Lib.hid hn0
  clear hn0 hm0 hs0
  obtain ⟨lo1, hi1⟩ := Ins.wf_lo wf1
  clear wf1
  by_cases hg0 : n0 ≤ 1048576
  · have hk0 : decide ((1048576 : Int) < (n0 : Int)) = false := decide_eq_false (by omega)
    obtain ⟨res, hres⟩ : ∃ r, r = Plk.pilesI l0 n1 := ⟨_, rfl⟩
    have HSS := Lib.hid (show Rws.SmallSS res by rw [hres]; exact Dls.pilesI_small l0 n1)
    have hlen := HSS.out.1
    have HR := Lib.hid hres.symm
    clear hres
    have T : Below w.heap.size w w := Below.refl _ w
    have f0 := ha0
    clear ha0
    go_enter Try.func6, Try.ntmps6
    go_wp2_with fail
    refine (Ins.to_any A0 n0 c0 l0 _ HN0.out hg0 (f0.more T.size)).mono ?_
    rintro e w1 ⟨g_t1, rfl, hgg, hown, hb⟩
    have s1 : w.heap.size ≤ w1.heap.size := hb.size
    replace T := T.trans (hb.mono (by omega))
    replace f0 := Ins.at_below f0 hb (by omega)
    clear hb
    have r_t1 := Ins.Row.mk hown
    clear hgg hown
    go_wp2_with fail
    refine (Dls.spec_pilesof (some ⟨g_t1, 0, none⟩) n0 n0 l0 n1 _ HN0.out (by omega) hz0 r_t1.at_ lo1 hi1).mono ?_
    rintro e w2 ⟨A_w0, c_w0, rs_w0, rfl, hz_w0, hown, hb⟩
    rw [HR.out] at hown hz_w0
    rw [HR.out]
    have s2 : w1.heap.size ≤ w2.heap.size := hb.size
    replace T := T.trans (hb.mono (by omega))
    replace f0 := Ins.at_below f0 hb (by omega)
    replace r_t1 := r_t1.below hb
    clear hb
    have r_w0 := hown
    clear hown
    go_wp2_with fail
    refine (Ins.to_any A0 n0 c0 l0 _ HN0.out hg0 (f0.more T.size)).mono ?_
    rintro e w3 ⟨g_x0, rfl, hgg, hown, hb⟩
    have s3 : w2.heap.size ≤ w3.heap.size := hb.size
    replace T := T.trans (hb.mono (by omega))
    replace f0 := Ins.at_below f0 hb (by omega)
    replace r_t1 := r_t1.below hb
    replace r_w0 := r_w0.below hb
    clear hb
    have r_x0 := Ins.Row.mk hown
    clear hgg hown
    go_wp2_with fail
    refine (Dls.impl_pilesof (some ⟨g_x0, 0, none⟩) n0 n0 l0 n1 _ HN0.out (by omega) hz0 r_x0.at_ lo1 hi1).mono ?_
    rintro e w4 ⟨A_g0, c_g0, rs_g0, rfl, hz_g0, hown, hb⟩
    rw [HR.out] at hown hz_g0
    rw [HR.out]
    have s4 : w3.heap.size ≤ w4.heap.size := hb.size
    replace T := T.trans (hb.mono (by omega))
    replace f0 := Ins.at_below f0 hb (by omega)
    replace r_t1 := r_t1.below hb
    replace r_w0 := r_w0.below hb
    replace r_x0 := r_x0.below hb
    clear hb
    have r_g0 := hown
    clear hown
    go_wp2_with fail
    refine (Rws.eq_ss _ _ _ _ A_g0 A_w0 res.length c_g0 c_w0 rs_g0 rs_w0 _ r_g0 r_w0 (hz_g0.trans hz_w0.symm) (by omega) (fun i _ => Nat.le_trans (Rws.small_len hz_g0 HSS.out i) (by omega))).mono ?_
    rintro e w5 ⟨rfl, hb⟩
    have s5 : w4.heap.size ≤ w5.heap.size := hb.size
    replace T := T.trans (hb.mono (by omega))
    replace f0 := Ins.at_below f0 hb (by omega)
    replace r_t1 := r_t1.below hb
    replace r_w0 := r_w0.below hb
    replace r_x0 := r_x0.below hb
    replace r_g0 := r_g0.below hb
    clear hb
    go_wp2_with fail
    refine (Ins.to_any A0 n0 c0 l0 _ HN0.out hg0 (f0.more T.size)).mono ?_
    rintro e w6 ⟨g_t2, rfl, hgg, hown, hb⟩
    have s6 : w5.heap.size ≤ w6.heap.size := hb.size
    replace T := T.trans (hb.mono (by omega))
    replace f0 := Ins.at_below f0 hb (by omega)
    replace r_t1 := r_t1.below hb
    replace r_w0 := r_w0.below hb
    replace r_x0 := r_x0.below hb
    replace r_g0 := r_g0.below hb
    clear hb
    have r_t2 := Ins.Row.mk hown
    clear hgg hown
    go_wp2_with fail
    refine (Ins.eq_same (some ⟨g_x0, 0, none⟩) (some ⟨g_t2, 0, none⟩) n0 n0 n0 l0 _ HN0.out (by omega) r_x0.at_ r_t2.at_).mono ?_
    rintro e w7 ⟨rfl, hb⟩
    have s7 : w6.heap.size ≤ w7.heap.size := hb.size
    replace T := T.trans (hb.mono (by omega))
    replace f0 := Ins.at_below f0 hb (by omega)
    replace r_t1 := r_t1.below hb
    replace r_w0 := r_w0.below hb
    replace r_x0 := r_x0.below hb
    replace r_g0 := r_g0.below hb
    replace r_t2 := r_t2.below hb
    clear hb
    go_wp2_with fail
    refine (Ins.mark_any _ _ n0 (some ⟨g_x0, 0, none⟩) n0 _ _ (by omega) (by omega) r_x0.own).mono ?_
    rintro e w8 ⟨rfl, ho, hgr⟩
    have s8 : w7.heap.size ≤ w8.heap.size := hgr.size
    replace T := T.grown hgr (by omega) (fun k hk => by have h1 := r_x0.lo k hk; omega)
    replace f0 := Ins.at_grown f0 hgr (by omega) (fun k hk => by have h1 := r_x0.lo k hk; omega)
    replace r_t1 := r_t1.grown hgr (fun k hk => by have h1 := r_x0.lo k hk; have h2 := r_x0.hi k hk; omega)
    replace r_w0 := r_w0.grown hgr (fun k hk => by have h1 := r_x0.lo k hk; have h2 := r_x0.hi k hk; omega)
    replace r_g0 := r_g0.grown hgr (fun k hk => by have h1 := r_x0.lo k hk; have h2 := r_x0.hi k hk; omega)
    replace r_t2 := r_t2.grown hgr (fun k hk => by have h1 := r_x0.lo k hk; have h2 := r_x0.hi k hk; omega)
    replace r_x0 := r_x0.marked ho hgr
    clear ho hgr
    go_wp2_with fail
    refine (Rws.eq_ss _ _ _ _ A_g0 A_w0 res.length c_g0 c_w0 rs_g0 rs_w0 _ r_g0 r_w0 (hz_g0.trans hz_w0.symm) (by omega) (fun i _ => Nat.le_trans (Rws.small_len hz_g0 HSS.out i) (by omega))).mono ?_
    rintro e w9 ⟨rfl, hb⟩
    have s9 : w8.heap.size ≤ w9.heap.size := hb.size
    replace T := T.trans (hb.mono (by omega))
    replace f0 := Ins.at_below f0 hb (by omega)
    replace r_t1 := r_t1.below hb
    replace r_w0 := r_w0.below hb
    replace r_x0 := r_x0.below hb
    replace r_g0 := r_g0.below hb
    replace r_t2 := r_t2.below hb
    clear hb
    have ht_g0 := Rws.small_tot hz_g0 HSS.out res.length
    go_wp2_with fail
    refine (Rws.mark_ss _ _ A_g0 res.length c_g0 rs_g0 _ _ (by omega) (by omega) (by omega) r_g0).mono ?_
    rintro e w10 ⟨rfl, hrow, hwi⟩
    clear r_g0
    have r_g0 := hrow
    clear hrow
    have s10 : w9.heap.size ≤ w10.heap.size := hwi.size
    replace T := Rws.below_wi T hwi (by omega) (by omega)
    replace f0 := Rws.at_wi f0 hwi (by omega) (by omega)
    replace r_t1 := Rws.row_wi r_t1 hwi (by omega)
    replace r_w0 := r_w0.wi hwi (by omega)
    replace r_x0 := Rws.row_wi r_x0 hwi (by omega)
    replace r_t2 := Rws.row_wi r_t2 hwi (by omega)
    clear hwi
    go_wp2_with fail
    refine (Rws.held_ss _ _ A_g0 res.length c_g0 rs_g0 _ _ (by omega) (by omega) (by omega) r_g0).mono ?_
    rintro e w' ⟨rfl, rfl⟩
    go_wp2_with fail
    refine (Ins.to_any A0 n0 c0 l0 _ HN0.out hg0 (f0.more T.size)).mono ?_
    rintro e w11 ⟨g_t3, rfl, hgg, hown, hb⟩
    have s11 : w10.heap.size ≤ w11.heap.size := hb.size
    replace T := T.trans (hb.mono (by omega))
    replace f0 := Ins.at_below f0 hb (by omega)
    replace r_t1 := r_t1.below hb
    replace r_w0 := r_w0.below hb
    replace r_x0 := r_x0.below hb
    replace r_g0 := r_g0.below hb
    replace r_t2 := r_t2.below hb
    clear hb
    have r_t3 := Ins.Row.mk hown
    clear hgg hown
    go_wp2_with fail
    refine (Dls.impl_pilesof (some ⟨g_t3, 0, none⟩) n0 n0 l0 n1 _ HN0.out (by omega) hz0 r_t3.at_ lo1 hi1).mono ?_
    rintro e w12 ⟨A_h0, c_h0, rs_h0, rfl, hz_h0, hown, hb⟩
    rw [HR.out] at hown hz_h0
    rw [HR.out]
    have s12 : w11.heap.size ≤ w12.heap.size := hb.size
    replace T := T.trans (hb.mono (by omega))
    replace f0 := Ins.at_below f0 hb (by omega)
    replace r_t1 := r_t1.below hb
    replace r_w0 := r_w0.below hb
    replace r_x0 := r_x0.below hb
    replace r_g0 := r_g0.below hb
    replace r_t2 := r_t2.below hb
    replace r_t3 := r_t3.below hb
    clear hb
    have r_h0 := hown
    clear hown
    go_wp2_with fail
    refine (Rws.eq_ss _ _ _ _ A_h0 A_w0 res.length c_h0 c_w0 rs_h0 rs_w0 _ r_h0 r_w0 (hz_h0.trans hz_w0.symm) (by omega) (fun i _ => Nat.le_trans (Rws.small_len hz_h0 HSS.out i) (by omega))).mono ?_
    rintro e w13 ⟨rfl, hb⟩
    have s13 : w12.heap.size ≤ w13.heap.size := hb.size
    replace T := T.trans (hb.mono (by omega))
    replace f0 := Ins.at_below f0 hb (by omega)
    replace r_t1 := r_t1.below hb
    replace r_w0 := r_w0.below hb
    replace r_x0 := r_x0.below hb
    replace r_g0 := r_g0.below hb
    replace r_t2 := r_t2.below hb
    replace r_t3 := r_t3.below hb
    replace r_h0 := r_h0.below hb
    clear hb
    go_wp2_with fail
    refine (Rws.held_ss _ _ A_g0 res.length c_g0 rs_g0 _ _ (by omega) (by omega) (by omega) r_g0).mono ?_
    rintro e w' ⟨rfl, rfl⟩
    go_wp2
    go_ret
    exact ⟨rfl, T⟩
  · have hk0 : (1048576 : Int) < (n0 : Int) := by omega
    go_enter Try.func6, Try.ntmps6
    go_wp2
    go_ret
    first | exact ⟨rfl, Below.refl _ w⟩ | exact ⟨rfl, (Below.refl _ w).alloc (Nat.le_refl _) _⟩
set_option maxRecDepth 100000 in
theorem lifted (os : Os) (started : os.Started) (H : Type) (enc : TypeId × Value → H) :
    ReturnsInHanded {} Try.checked os 6 .any (Rows.fnExactPilesOfSpec.pre6 enc Try.prog Try.f6 Rows.fnExactPilesOfRow.domain false) (Rows.fnExactPilesOfSpec.post enc Try.prog Try.f6 false true false false) := by
  refine returnsInHanded_of_change (C := Try.checked) Fr.own started (by kernel_rfl) Try.func6
    (ChangeSpec.witness6 (enc := enc) (C := Try.checked) false ⟨#[], #[.slice none 0 0, .int .i64 0], []⟩ 8 (by kernel_rfl) (by kernel_rfl) (by kernel_rfl) (by kernel_rfl)) ?_
  intro W base args ds gs before hval0 hW hcnd _
  have hval : ∀ (j : Nat) t v, Try.f6.params[j]? = some t → args[j]? = some v → Value.okWide Try.prog W .any base t v := hval0
  have hW' := hW
  obtain ⟨p, q, hA0, hV, rfl, hfz, hnd⟩ := hW
  have hA : DataW.TrodAll enc Try.prog W 0 (fun _ => true) true Try.f6.params.toList args.toList ds p := hA0
  have hAk := hA
  rw [Try.params6] at hA hval
  obtain ⟨v0, v1, d0, d1, p0, p1, rfl, rfl, hp, h0, h1⟩ := trodAll_two hA
  obtain ⟨rfl, rfl⟩ := trodVars_none hV
  have hlt : ∀ x ∈ p, x.block < W.heap.size := fun x hx => by simpa using hW'.lt x (List.mem_append_left _ hx)
  obtain ⟨A0, n0, c0, l0, rfl, hn0, hm0, hs0, ha0⟩ := Fr.view_nums Try.underlying25 Try.underlying3 (by kernel_rfl) (hval 0 25 v0 rfl rfl) h0 (fun x hx => hlt x (by rw [hp]; simp [hx]))
  obtain ⟨n1, rfl, wf1⟩ := Fr.view_int Try.underlying3 (hval 1 3 v1 rfl rfl) h1
  clear hA0 hval0
  refine (walk A0 n0 c0 l0 n1 W hn0 hm0 hs0 ha0 wf1).mono fun e W' ⟨he, hb⟩ => ?_
  subst he
  exact ⟨_, rfl, _, _, _, [], p, [], hW', trodAll_mk1 (shut_bool Try.underlying4 _), Fr.below_all Fr.laidOut hb _ _ _ _ (Fr.readB_all (by kernel_rfl)) hAk hlt, rfl, hb.frame _, fun h => by cases h⟩

theorem proved : Rows.FnExactPilesOfSaid :=
  OpenClaim.holds_of_wide 6 Try.f6 rfl rfl rfl rfl rfl rfl rfl ⟨rfl, rfl, rfl, rfl, rfl⟩ rfl rfl rfl rfl rfl (by kernel_rfl) Try.func6 (by kernel_rfl)
    (of_decide_eq_true (by kernel_rfl)) (by unfold Func.isWrapper; first | (rw [if_pos (by decide +kernel)]; kernel_rfl) | (rw [if_neg (by decide +kernel)]; exact ⟨rfl, rfl⟩))
    (fun os started H enc _ => lifted os started H enc)

end Go.Proofs.Ytpfbjbakcfmngaa.LawPilesOf
