/- The law of SplitSides holds: for every argument the program's SplitSides answers as its model does, changes no argument, and shares no memory. No condition. -/
import Derived.Test.YtfbgpofpbdbkiaaSpt
import Derived.Test.YtfbgpofpbdbkiaaPkt
import Derived.Test.YtfbgpofpbdbkiaaFrame
set_option linter.unusedVariables false
namespace Go.Proofs.Ytfbgpofpbdbkiaa.LawSplitSides
open Go.ChangeShapes Go.WideShapes Go.ChangeAt Go.RowKit Fr _root_.Go.Proofs.Ytfbgpofpbdbkiaa.Own

set_option maxHeartbeats 4000000 in
theorem walk (A0 : Option Addr) (n0 c0 : Nat) (l0 : List Int) (w : World) (hn0 : l0.length = n0) (hm0 : n0 ≤ maxLen) (hs0 : ∀ z ∈ l0, (Lit.int .i64 z).wf = true) (ha0 : IntsAt w w.heap.size .i64 A0 l0) :
    Calls Try.prog 8 #[.slice A0 n0 c0] w fun e w' => e = .returned (.bool true) ∧ Below w.heap.size w w' := by
  have hx0 : n0 ≤ 9223372036854775807 := by unfold maxLen at hm0; omega
  have hz0 := Ins.fits_of hs0
  have HN0 := Lib.hid hn0
  clear hn0 hm0 hs0
  by_cases hg0 : n0 ≤ 1048576
  · have hk0 : decide ((1048576 : Int) < (n0 : Int)) = false := decide_eq_false (by omega)
    obtain ⟨res, hres⟩ : ∃ r, r = Spt.upL l0 n0 := ⟨_, rfl⟩
    have hlen : res.length ≤ 1048576 := by rw [hres]; exact (by have := Spt.upL_len l0 n0; omega)
    have HR := Lib.hid hres.symm
    clear hres
    obtain ⟨res2, hres2⟩ : ∃ r, r = Spt.dnL l0 n0 := ⟨_, rfl⟩
    have hlen2 : res2.length ≤ 1048576 := by rw [hres2]; exact (by have := Spt.dnL_len l0 n0; omega)
    have HR2 := Lib.hid hres2.symm
    clear hres2
    have T : Below w.heap.size w w := Below.refl _ w
    have f0 := ha0
    clear ha0
    go_enter Try.func8, Try.ntmps8
    go_wp2_with fail
    refine (Ins.to_any A0 n0 c0 l0 _ HN0.out hg0 (f0.more T.size)).mono ?_
    rintro e w1 ⟨g_t1, rfl, hgg, hown, hb⟩
    have s1 : w.heap.size ≤ w1.heap.size := hb.size
    replace T := T.trans (hb.mono (by omega))
    replace f0 := Ins.at_below f0 hb (by omega)
    clear hb
    have r_t1 := Ins.Row.mk hown
    clear hgg hown
    go_wp2_with fail
    refine (Spt.spec_split (some ⟨g_t1, 0, none⟩) n0 n0 l0 _ HN0.out (by omega) hz0 r_t1.at_).mono ?_
    rintro e w2 ⟨A_w0, c_w0, A_w1, c_w1, rfl, hown1, hown2, ne_w0, hb⟩
    rw [HR.out] at hown1
    rw [HR2.out] at hown2
    rw [HR.out, HR2.out]
    have s2 : w1.heap.size ≤ w2.heap.size := hb.size
    replace T := T.trans (hb.mono (by omega))
    replace f0 := Ins.at_below f0 hb (by omega)
    replace r_t1 := r_t1.below hb
    clear hb
    have r_w0 := Ins.Row.mk hown1
    have r_w1 := Ins.Row.mk hown2
    clear hown1 hown2
    go_wp2_with fail
    refine (Ins.to_any A0 n0 c0 l0 _ HN0.out hg0 (f0.more T.size)).mono ?_
    rintro e w3 ⟨g_x0, rfl, hgg, hown, hb⟩
    have s3 : w2.heap.size ≤ w3.heap.size := hb.size
    replace T := T.trans (hb.mono (by omega))
    replace f0 := Ins.at_below f0 hb (by omega)
    replace r_t1 := r_t1.below hb
    replace r_w0 := r_w0.below hb
    replace r_w1 := r_w1.below hb
    clear hb
    have r_x0 := Ins.Row.mk hown
    clear hgg hown
    go_wp2_with fail
    refine (Spt.impl_split (some ⟨g_x0, 0, none⟩) n0 n0 l0 _ HN0.out (by omega) hz0 r_x0.at_).mono ?_
    rintro e w4 ⟨A_g0, c_g0, A_g1, c_g1, rfl, hown1, hown2, ne_g0, hb⟩
    rw [HR.out] at hown1
    rw [HR2.out] at hown2
    rw [HR.out, HR2.out]
    have s4 : w3.heap.size ≤ w4.heap.size := hb.size
    replace T := T.trans (hb.mono (by omega))
    replace f0 := Ins.at_below f0 hb (by omega)
    replace r_t1 := r_t1.below hb
    replace r_w0 := r_w0.below hb
    replace r_w1 := r_w1.below hb
    replace r_x0 := r_x0.below hb
    clear hb
    have r_g0 := Ins.Row.mk hown1
    have r_g1 := Ins.Row.mk hown2
    clear hown1 hown2
    go_wp2_with fail
    refine (Ins.eq_same A_g0 A_w0 res.length c_g0 c_w0 res _ rfl (by omega) r_g0.at_ r_w0.at_).mono ?_
    rintro e w5 ⟨rfl, hb⟩
    have s5 : w4.heap.size ≤ w5.heap.size := hb.size
    replace T := T.trans (hb.mono (by omega))
    replace f0 := Ins.at_below f0 hb (by omega)
    replace r_t1 := r_t1.below hb
    replace r_w0 := r_w0.below hb
    replace r_w1 := r_w1.below hb
    replace r_x0 := r_x0.below hb
    replace r_g0 := r_g0.below hb
    replace r_g1 := r_g1.below hb
    clear hb
    go_wp2_with fail
    refine (Ins.eq_same A_g1 A_w1 res2.length c_g1 c_w1 res2 _ rfl (by omega) r_g1.at_ r_w1.at_).mono ?_
    rintro e w6 ⟨rfl, hb⟩
    have s6 : w5.heap.size ≤ w6.heap.size := hb.size
    replace T := T.trans (hb.mono (by omega))
    replace f0 := Ins.at_below f0 hb (by omega)
    replace r_t1 := r_t1.below hb
    replace r_w0 := r_w0.below hb
    replace r_w1 := r_w1.below hb
    replace r_x0 := r_x0.below hb
    replace r_g0 := r_g0.below hb
    replace r_g1 := r_g1.below hb
    clear hb
    go_wp2_with fail
    refine (Ins.to_any A0 n0 c0 l0 _ HN0.out hg0 (f0.more T.size)).mono ?_
    rintro e w7 ⟨g_t2, rfl, hgg, hown, hb⟩
    have s7 : w6.heap.size ≤ w7.heap.size := hb.size
    replace T := T.trans (hb.mono (by omega))
    replace f0 := Ins.at_below f0 hb (by omega)
    replace r_t1 := r_t1.below hb
    replace r_w0 := r_w0.below hb
    replace r_w1 := r_w1.below hb
    replace r_x0 := r_x0.below hb
    replace r_g0 := r_g0.below hb
    replace r_g1 := r_g1.below hb
    clear hb
    have r_t2 := Ins.Row.mk hown
    clear hgg hown
    go_wp2_with fail
    refine (Ins.eq_same (some ⟨g_x0, 0, none⟩) (some ⟨g_t2, 0, none⟩) n0 n0 n0 l0 _ HN0.out (by omega) r_x0.at_ r_t2.at_).mono ?_
    rintro e w8 ⟨rfl, hb⟩
    have s8 : w7.heap.size ≤ w8.heap.size := hb.size
    replace T := T.trans (hb.mono (by omega))
    replace f0 := Ins.at_below f0 hb (by omega)
    replace r_t1 := r_t1.below hb
    replace r_w0 := r_w0.below hb
    replace r_w1 := r_w1.below hb
    replace r_x0 := r_x0.below hb
    replace r_g0 := r_g0.below hb
    replace r_g1 := r_g1.below hb
    replace r_t2 := r_t2.below hb
    clear hb
    go_wp2_with fail
    refine (Ins.mark_any _ _ n0 (some ⟨g_x0, 0, none⟩) n0 _ _ (by omega) (by omega) r_x0.own).mono ?_
    rintro e w9 ⟨rfl, ho, hgr⟩
    have s9 : w8.heap.size ≤ w9.heap.size := hgr.size
    replace T := T.grown hgr (by omega) (fun k hk => by have h1 := r_x0.lo k hk; omega)
    replace f0 := Ins.at_grown f0 hgr (by omega) (fun k hk => by have h1 := r_x0.lo k hk; omega)
    replace r_t1 := r_t1.grown hgr (fun k hk => by have h1 := r_x0.lo k hk; have h2 := r_x0.hi k hk; omega)
    replace r_w0 := r_w0.grown hgr (fun k hk => by have h1 := r_x0.lo k hk; have h2 := r_x0.hi k hk; omega)
    replace r_w1 := r_w1.grown hgr (fun k hk => by have h1 := r_x0.lo k hk; have h2 := r_x0.hi k hk; omega)
    replace r_g0 := r_g0.grown hgr (fun k hk => by have h1 := r_x0.lo k hk; have h2 := r_x0.hi k hk; omega)
    replace r_g1 := r_g1.grown hgr (fun k hk => by have h1 := r_x0.lo k hk; have h2 := r_x0.hi k hk; omega)
    replace r_t2 := r_t2.grown hgr (fun k hk => by have h1 := r_x0.lo k hk; have h2 := r_x0.hi k hk; omega)
    replace r_x0 := r_x0.marked ho hgr
    clear ho hgr
    go_wp2_with fail
    refine (Ins.eq_same A_g0 A_w0 res.length c_g0 c_w0 res _ rfl (by omega) r_g0.at_ r_w0.at_).mono ?_
    rintro e w10 ⟨rfl, hb⟩
    have s10 : w9.heap.size ≤ w10.heap.size := hb.size
    replace T := T.trans (hb.mono (by omega))
    replace f0 := Ins.at_below f0 hb (by omega)
    replace r_t1 := r_t1.below hb
    replace r_w0 := r_w0.below hb
    replace r_w1 := r_w1.below hb
    replace r_x0 := r_x0.below hb
    replace r_g0 := r_g0.below hb
    replace r_g1 := r_g1.below hb
    replace r_t2 := r_t2.below hb
    clear hb
    go_wp2_with fail
    refine (Ins.eq_same A_g1 A_w1 res2.length c_g1 c_w1 res2 _ rfl (by omega) r_g1.at_ r_w1.at_).mono ?_
    rintro e w11 ⟨rfl, hb⟩
    have s11 : w10.heap.size ≤ w11.heap.size := hb.size
    replace T := T.trans (hb.mono (by omega))
    replace f0 := Ins.at_below f0 hb (by omega)
    replace r_t1 := r_t1.below hb
    replace r_w0 := r_w0.below hb
    replace r_w1 := r_w1.below hb
    replace r_x0 := r_x0.below hb
    replace r_g0 := r_g0.below hb
    replace r_g1 := r_g1.below hb
    replace r_t2 := r_t2.below hb
    clear hb
    go_wp2_with fail
    refine (Ins.mark_any _ _ res.length A_g0 c_g0 _ _ (by omega) (by omega) r_g0.own).mono ?_
    rintro e w12 ⟨rfl, ho, hgr⟩
    have s12 : w11.heap.size ≤ w12.heap.size := hgr.size
    replace T := T.grown hgr (by omega) (fun k hk => by have h1 := r_g0.lo k hk; omega)
    replace f0 := Ins.at_grown f0 hgr (by omega) (fun k hk => by have h1 := r_g0.lo k hk; omega)
    replace r_t1 := r_t1.grown hgr (fun k hk => by have h1 := r_g0.lo k hk; have h2 := r_g0.hi k hk; omega)
    replace r_w0 := r_w0.grown hgr (fun k hk => by have h1 := r_g0.lo k hk; have h2 := r_g0.hi k hk; omega)
    replace r_w1 := r_w1.grown hgr (fun k hk => by have h1 := r_g0.lo k hk; have h2 := r_g0.hi k hk; omega)
    replace r_x0 := r_x0.grown hgr (fun k hk => by have h1 := r_g0.lo k hk; have h2 := r_g0.hi k hk; omega)
    replace r_g1 := Spt.Row.grown_ne r_g1 hgr (fun k hk => (ne_g0 k hk))
    replace r_t2 := r_t2.grown hgr (fun k hk => by have h1 := r_g0.lo k hk; have h2 := r_g0.hi k hk; omega)
    replace r_g0 := r_g0.marked ho hgr
    clear ho hgr
    go_wp2_with fail
    refine (Ins.mark_any _ _ res2.length A_g1 c_g1 _ _ (by omega) (by omega) r_g1.own).mono ?_
    rintro e w13 ⟨rfl, ho, hgr⟩
    have s13 : w12.heap.size ≤ w13.heap.size := hgr.size
    replace T := T.grown hgr (by omega) (fun k hk => by have h1 := r_g1.lo k hk; omega)
    replace f0 := Ins.at_grown f0 hgr (by omega) (fun k hk => by have h1 := r_g1.lo k hk; omega)
    replace r_t1 := r_t1.grown hgr (fun k hk => by have h1 := r_g1.lo k hk; have h2 := r_g1.hi k hk; omega)
    replace r_w0 := r_w0.grown hgr (fun k hk => by have h1 := r_g1.lo k hk; have h2 := r_g1.hi k hk; omega)
    replace r_w1 := r_w1.grown hgr (fun k hk => by have h1 := r_g1.lo k hk; have h2 := r_g1.hi k hk; omega)
    replace r_x0 := r_x0.grown hgr (fun k hk => by have h1 := r_g1.lo k hk; have h2 := r_g1.hi k hk; omega)
    replace r_g0 := Spt.Row.grown_ne r_g0 hgr (fun k hk => (fun e => ne_g0 k e hk))
    replace r_t2 := r_t2.grown hgr (fun k hk => by have h1 := r_g1.lo k hk; have h2 := r_g1.hi k hk; omega)
    replace r_g1 := r_g1.marked ho hgr
    clear ho hgr
    go_wp2_with fail
    refine (Ins.held_any _ res.length c_g0 A_g0 _ (by omega) (by omega) r_g0.at_).mono ?_
    rintro e w' ⟨rfl, rfl⟩
    go_wp2_with fail
    refine (Ins.held_any _ res2.length c_g1 A_g1 _ (by omega) (by omega) r_g1.at_).mono ?_
    rintro e w' ⟨rfl, rfl⟩
    go_wp2_with fail
    refine (Ins.to_any A0 n0 c0 l0 _ HN0.out hg0 (f0.more T.size)).mono ?_
    rintro e w14 ⟨g_t3, rfl, hgg, hown, hb⟩
    have s14 : w13.heap.size ≤ w14.heap.size := hb.size
    replace T := T.trans (hb.mono (by omega))
    replace f0 := Ins.at_below f0 hb (by omega)
    replace r_t1 := r_t1.below hb
    replace r_w0 := r_w0.below hb
    replace r_w1 := r_w1.below hb
    replace r_x0 := r_x0.below hb
    replace r_g0 := r_g0.below hb
    replace r_g1 := r_g1.below hb
    replace r_t2 := r_t2.below hb
    clear hb
    have r_t3 := Ins.Row.mk hown
    clear hgg hown
    go_wp2_with fail
    refine (Spt.impl_split (some ⟨g_t3, 0, none⟩) n0 n0 l0 _ HN0.out (by omega) hz0 r_t3.at_).mono ?_
    rintro e w15 ⟨A_h0, c_h0, A_h1, c_h1, rfl, hown1, hown2, ne_h0, hb⟩
    rw [HR.out] at hown1
    rw [HR2.out] at hown2
    rw [HR.out, HR2.out]
    have s15 : w14.heap.size ≤ w15.heap.size := hb.size
    replace T := T.trans (hb.mono (by omega))
    replace f0 := Ins.at_below f0 hb (by omega)
    replace r_t1 := r_t1.below hb
    replace r_w0 := r_w0.below hb
    replace r_w1 := r_w1.below hb
    replace r_x0 := r_x0.below hb
    replace r_g0 := r_g0.below hb
    replace r_g1 := r_g1.below hb
    replace r_t2 := r_t2.below hb
    replace r_t3 := r_t3.below hb
    clear hb
    have r_h0 := Ins.Row.mk hown1
    have r_h1 := Ins.Row.mk hown2
    clear hown1 hown2
    go_wp2_with fail
    refine (Ins.eq_same A_h0 A_w0 res.length c_h0 c_w0 res _ rfl (by omega) r_h0.at_ r_w0.at_).mono ?_
    rintro e w16 ⟨rfl, hb⟩
    have s16 : w15.heap.size ≤ w16.heap.size := hb.size
    replace T := T.trans (hb.mono (by omega))
    replace f0 := Ins.at_below f0 hb (by omega)
    replace r_t1 := r_t1.below hb
    replace r_w0 := r_w0.below hb
    replace r_w1 := r_w1.below hb
    replace r_x0 := r_x0.below hb
    replace r_g0 := r_g0.below hb
    replace r_g1 := r_g1.below hb
    replace r_t2 := r_t2.below hb
    replace r_t3 := r_t3.below hb
    replace r_h0 := r_h0.below hb
    replace r_h1 := r_h1.below hb
    clear hb
    go_wp2_with fail
    refine (Ins.eq_same A_h1 A_w1 res2.length c_h1 c_w1 res2 _ rfl (by omega) r_h1.at_ r_w1.at_).mono ?_
    rintro e w17 ⟨rfl, hb⟩
    have s17 : w16.heap.size ≤ w17.heap.size := hb.size
    replace T := T.trans (hb.mono (by omega))
    replace f0 := Ins.at_below f0 hb (by omega)
    replace r_t1 := r_t1.below hb
    replace r_w0 := r_w0.below hb
    replace r_w1 := r_w1.below hb
    replace r_x0 := r_x0.below hb
    replace r_g0 := r_g0.below hb
    replace r_g1 := r_g1.below hb
    replace r_t2 := r_t2.below hb
    replace r_t3 := r_t3.below hb
    replace r_h0 := r_h0.below hb
    replace r_h1 := r_h1.below hb
    clear hb
    go_wp2_with fail
    refine (Ins.held_any _ res.length c_g0 A_g0 _ (by omega) (by omega) r_g0.at_).mono ?_
    rintro e w' ⟨rfl, rfl⟩
    go_wp2_with fail
    refine (Ins.held_any _ res2.length c_g1 A_g1 _ (by omega) (by omega) r_g1.at_).mono ?_
    rintro e w' ⟨rfl, rfl⟩
    go_wp2
    go_ret
    exact ⟨rfl, T⟩
  · have hk0 : (1048576 : Int) < (n0 : Int) := by omega
    go_enter Try.func8, Try.ntmps8
    go_wp2
    go_ret
    first | exact ⟨rfl, Below.refl _ w⟩ | exact ⟨rfl, (Below.refl _ w).alloc (Nat.le_refl _) _⟩
set_option maxRecDepth 100000 in
theorem lifted (os : Os) (started : os.Started) (H : Type) (enc : TypeId × Value → H) :
    ReturnsInHanded {} Try.checked os 8 .any (Rows.fnExactSplitSidesSpec.pre6 enc Try.prog Try.f8 Rows.fnExactSplitSidesRow.domain false) (Rows.fnExactSplitSidesSpec.post enc Try.prog Try.f8 false true false false) := by
  refine returnsInHanded_of_change (C := Try.checked) Fr.own started (by kernel_rfl) Try.func8
    (ChangeSpec.witness6 (enc := enc) (C := Try.checked) false ⟨#[], #[.slice none 0 0], []⟩ 8 (by kernel_rfl) (by kernel_rfl) (by kernel_rfl) (by kernel_rfl)) ?_
  intro W base args ds gs before hval0 hW hcnd _
  have hval : ∀ (j : Nat) t v, Try.f8.params[j]? = some t → args[j]? = some v → Value.okWide Try.prog W .any base t v := hval0
  have hW' := hW
  obtain ⟨p, q, hA0, hV, rfl, hfz, hnd⟩ := hW
  have hA : DataW.TrodAll enc Try.prog W 0 (fun _ => true) true Try.f8.params.toList args.toList ds p := hA0
  have hAk := hA
  rw [Try.params8] at hA hval
  obtain ⟨v0, d0, rfl, rfl, h0⟩ := trodAll_one hA
  obtain ⟨rfl, rfl⟩ := trodVars_none hV
  have hlt : ∀ x ∈ p, x.block < W.heap.size := fun x hx => by simpa using hW'.lt x (List.mem_append_left _ hx)
  obtain ⟨A0, n0, c0, l0, rfl, hn0, hm0, hs0, ha0⟩ := Fr.view_nums Try.underlying23 Try.underlying3 (by kernel_rfl) (hval 0 23 v0 rfl rfl) h0 hlt
  clear hA0 hval0
  refine (walk A0 n0 c0 l0 W hn0 hm0 hs0 ha0).mono fun e W' ⟨he, hb⟩ => ?_
  subst he
  exact ⟨_, rfl, _, _, _, [], p, [], hW', trodAll_mk1 (shut_bool Try.underlying4 _), Fr.below_all Fr.laidOut hb _ _ _ _ (Fr.readB_all (by kernel_rfl)) hAk hlt, rfl, hb.frame _, fun h => by cases h⟩

theorem proved : Rows.FnExactSplitSidesSaid :=
  OpenClaim.holds_of_wide 8 Try.f8 rfl rfl rfl rfl rfl rfl rfl ⟨rfl, rfl, rfl, rfl, rfl⟩ rfl rfl rfl rfl rfl (by kernel_rfl) Try.func8 (by kernel_rfl)
    (of_decide_eq_true (by kernel_rfl)) (by unfold Func.isWrapper; first | (rw [if_pos (by decide +kernel)]; kernel_rfl) | (rw [if_neg (by decide +kernel)]; exact ⟨rfl, rfl⟩))
    (fun os started H enc _ => lifted os started H enc)

end Go.Proofs.Ytfbgpofpbdbkiaa.LawSplitSides
