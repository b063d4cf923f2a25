/- The law of PlacesFor holds: for every argument the program's PlacesFor answers as its model does, changes no argument, and shares no memory. No condition. -/
import Derived.Test.YtpfbjbakcfmngaaPls
import Derived.Test.YtpfbjbakcfmngaaPlf
import Derived.Test.YtpfbjbakcfmngaaPkt
import Derived.Test.YtpfbjbakcfmngaaFrame
set_option linter.unusedVariables false
namespace Go.Proofs.Ytpfbjbakcfmngaa.LawPlacesFor
open Go.ChangeShapes Go.WideShapes Go.ChangeAt Go.RowKit Fr _root_.Go.Proofs.Ytpfbjbakcfmngaa.Own

set_option maxHeartbeats 4000000 in
theorem walk (n0 : Int) (n1 : Int) (n2 : Int) (n3 : Int) (w : World) (wf0 : (Lit.int .i64 n0).wf = true) (wf1 : (Lit.int .i64 n1).wf = true) (wf2 : (Lit.int .i64 n2).wf = true) (wf3 : (Lit.int .i64 n3).wf = true) :
    Calls Try.prog 12 #[.int .i64 n0, .int .i64 n1, .int .i64 n2, .int .i64 n3] w fun e w' => e = .returned (.bool true) ∧ Below w.heap.size w w' := by
  obtain ⟨lo0, hi0⟩ := Ins.wf_lo wf0
  clear wf0
  obtain ⟨lo1, hi1⟩ := Ins.wf_lo wf1
  clear wf1
  obtain ⟨lo2, hi2⟩ := Ins.wf_lo wf2
  clear wf2
  obtain ⟨lo3, hi3⟩ := Ins.wf_lo wf3
  clear wf3
  obtain ⟨res, hres⟩ : ∃ r, r = Plf.plcL n0 n1 n2 n3 := ⟨_, rfl⟩
  have hlen : res.length ≤ 1048576 := by rw [hres]; exact Plf.plc_short n0 n1 n2 n3
  have HR := Lib.hid hres.symm
  clear hres
  obtain ⟨rb, hrb⟩ : ∃ r, r = Plf.plcB n0 n1 n2 n3 := ⟨_, rfl⟩
  have HRB := Lib.hid hrb.symm
  clear hrb
  have T : Below w.heap.size w w := Below.refl _ w
  go_enter Try.func12, Try.ntmps12
  go_wp2_with fail
  refine (Pls.spec_plc n0 n1 n2 n3 _ lo0 hi0 lo1 hi1).mono ?_
  rintro e w1 ⟨A_w0, c_w0, rfl, hown, hb⟩
  rw [HR.out] at hown
  rw [HR.out]
  rw [HRB.out]
  have s1 : w.heap.size ≤ w1.heap.size := hb.size
  replace T := T.trans (hb.mono (by omega))
  clear hb
  have r_w0 := Ins.Row.mk hown
  clear hown
  go_wp2_with fail
  refine (Plf.impl_plc n0 n1 n2 n3 _ lo0 hi0 lo1 hi1 lo3 hi3).mono ?_
  rintro e w2 ⟨A_g0, c_g0, rfl, hown, hb⟩
  rw [HR.out] at hown
  rw [HR.out]
  rw [HRB.out]
  have s2 : w1.heap.size ≤ w2.heap.size := hb.size
  replace T := T.trans (hb.mono (by omega))
  replace r_w0 := r_w0.below hb
  clear hb
  have r_g0 := Ins.Row.mk hown
  clear hown
  go_wp2_with fail
  refine (Ins.eq_same A_g0 A_w0 res.length c_g0 c_w0 res _ rfl (by omega) r_g0.at_ r_w0.at_).mono ?_
  rintro e w3 ⟨rfl, hb⟩
  have s3 : w2.heap.size ≤ w3.heap.size := hb.size
  replace T := T.trans (hb.mono (by omega))
  replace r_w0 := r_w0.below hb
  replace r_g0 := r_g0.below hb
  clear hb
  go_wp2_with fail
  refine (Ins.mark_any _ _ res.length A_g0 c_g0 _ _ (by omega) (by omega) r_g0.own).mono ?_
  rintro e w4 ⟨rfl, ho, hgr⟩
  have s4 : w3.heap.size ≤ w4.heap.size := hgr.size
  replace T := T.grown hgr (by omega) (fun k hk => by have h1 := r_g0.lo k hk; omega)
  replace r_w0 := r_w0.grown hgr (fun k hk => by have h1 := r_g0.lo k hk; have h2 := r_g0.hi k hk; omega)
  replace r_g0 := r_g0.marked ho hgr
  clear ho hgr
  go_wp2_with fail
  refine (Ins.held_any _ res.length c_g0 A_g0 _ (by omega) (by omega) r_g0.at_).mono ?_
  rintro e w' ⟨rfl, rfl⟩
  go_wp2_with fail
  refine (Plf.impl_plc n0 n1 n2 n3 _ lo0 hi0 lo1 hi1 lo3 hi3).mono ?_
  rintro e w5 ⟨A_h0, c_h0, rfl, hown, hb⟩
  rw [HR.out] at hown
  rw [HR.out]
  rw [HRB.out]
  have s5 : w4.heap.size ≤ w5.heap.size := hb.size
  replace T := T.trans (hb.mono (by omega))
  replace r_w0 := r_w0.below hb
  replace r_g0 := r_g0.below hb
  clear hb
  have r_h0 := Ins.Row.mk hown
  clear hown
  go_wp2_with fail
  refine (Ins.eq_same A_h0 A_w0 res.length c_h0 c_w0 res _ rfl (by omega) r_h0.at_ r_w0.at_).mono ?_
  rintro e w6 ⟨rfl, hb⟩
  have s6 : w5.heap.size ≤ w6.heap.size := hb.size
  replace T := T.trans (hb.mono (by omega))
  replace r_w0 := r_w0.below hb
  replace r_g0 := r_g0.below hb
  replace r_h0 := r_h0.below hb
  clear hb
  go_wp2_with fail
  refine (Ins.held_any _ res.length c_g0 A_g0 _ (by omega) (by omega) r_g0.at_).mono ?_
  rintro e w' ⟨rfl, rfl⟩
  go_wp2
  go_ret
  exact ⟨rfl, T⟩
set_option maxRecDepth 100000 in
theorem lifted (os : Os) (started : os.Started) (H : Type) (enc : TypeId × Value → H) :
    ReturnsInHanded {} Try.checked os 12 .any (Rows.fnExactPlacesForSpec.pre6 enc Try.prog Try.f12 Rows.fnExactPlacesForRow.domain false) (Rows.fnExactPlacesForSpec.post enc Try.prog Try.f12 false true false false) := by
  refine returnsInHanded_of_change (C := Try.checked) Fr.own started (by kernel_rfl) Try.func12
    (ChangeSpec.witness6 (enc := enc) (C := Try.checked) false ⟨#[], #[.int .i64 0, .int .i64 0, .int .i64 0, .int .i64 0], []⟩ 8 (by kernel_rfl) (by kernel_rfl) (by kernel_rfl) (by kernel_rfl)) ?_
  intro W base args ds gs before hval0 hW hcnd _
  have hval : ∀ (j : Nat) t v, Try.f12.params[j]? = some t → args[j]? = some v → Value.okWide Try.prog W .any base t v := hval0
  have hW' := hW
  obtain ⟨p, q, hA0, hV, rfl, hfz, hnd⟩ := hW
  have hA : DataW.TrodAll enc Try.prog W 0 (fun _ => true) true Try.f12.params.toList args.toList ds p := hA0
  have hAk := hA
  rw [Try.params12] at hA hval
  obtain ⟨v0, v1, v2, v3, d0, d1, d2, d3, p0, p1, p2, p3, rfl, rfl, hp, h0, h1, h2, h3⟩ := trodAll_four hA
  obtain ⟨rfl, rfl⟩ := trodVars_none hV
  have hlt : ∀ x ∈ p, x.block < W.heap.size := fun x hx => by simpa using hW'.lt x (List.mem_append_left _ hx)
  obtain ⟨n0, rfl, wf0⟩ := Fr.view_int Try.underlying3 (hval 0 3 v0 rfl rfl) h0
  obtain ⟨n1, rfl, wf1⟩ := Fr.view_int Try.underlying3 (hval 1 3 v1 rfl rfl) h1
  obtain ⟨n2, rfl, wf2⟩ := Fr.view_int Try.underlying3 (hval 2 3 v2 rfl rfl) h2
  obtain ⟨n3, rfl, wf3⟩ := Fr.view_int Try.underlying3 (hval 3 3 v3 rfl rfl) h3
  clear hA0 hval0
  refine (walk n0 n1 n2 n3 W wf0 wf1 wf2 wf3).mono fun e W' ⟨he, hb⟩ => ?_
  subst he
  exact ⟨_, rfl, _, _, _, [], p, [], hW', trodAll_mk1 (shut_bool Try.underlying4 _), Fr.below_all Fr.laidOut hb _ _ _ _ (Fr.readB_all (by kernel_rfl)) hAk hlt, rfl, hb.frame _, fun h => by cases h⟩

theorem proved : Rows.FnExactPlacesForSaid :=
  OpenClaim.holds_of_wide 12 Try.f12 rfl rfl rfl rfl rfl rfl rfl ⟨rfl, rfl, rfl, rfl, rfl⟩ rfl rfl rfl rfl rfl (by kernel_rfl) Try.func12 (by kernel_rfl)
    (of_decide_eq_true (by kernel_rfl)) (by unfold Func.isWrapper; first | (rw [if_pos (by decide +kernel)]; kernel_rfl) | (rw [if_neg (by decide +kernel)]; exact ⟨rfl, rfl⟩))
    (fun os started H enc _ => lifted os started H enc)

end Go.Proofs.Ytpfbjbakcfmngaa.LawPlacesFor
