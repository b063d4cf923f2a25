/- The law of MessagesOf holds: for every argument the program's MessagesOf answers as its model does, changes no argument, and shares no memory. No condition. -/
import Derived.Test.YtingbpkbdafgeaaHno
import Derived.Test.YtingbpkbdafgeaaHms
import Derived.Test.YtingbpkbdafgeaaPkt
import Derived.Test.YtingbpkbdafgeaaFrame
set_option linter.unusedVariables false
namespace Go.Proofs.Ytingbpkbdafgeaa.LawMessagesOf
open Go.ChangeShapes Go.WideShapes Go.ChangeAt Go.RowKit Fr _root_.Go.Proofs.Ytingbpkbdafgeaa.Own

set_option maxHeartbeats 4000000 in
theorem walk (n0 : Int) (n1 : Int) (w : World) (wf0 : (Lit.int .i64 n0).wf = true) (wf1 : (Lit.int .i64 n1).wf = true) :
    Calls Try.prog 5 #[.int .i64 n0, .int .i64 n1] w fun e w' => e = .returned (.bool true) ∧ Below w.heap.size w w' := by
  obtain ⟨lo0, hi0⟩ := Ins.wf_lo wf0
  clear wf0
  obtain ⟨lo1, hi1⟩ := Ins.wf_lo wf1
  clear wf1
  obtain ⟨res, hres⟩ : ∃ r, r = Hno.messagesI n0 n1 := ⟨_, rfl⟩
  have HSS := Lib.hid (show Rws.SmallSS res by rw [hres]; exact Hms.messages_small n0 n1)
  have hlen := HSS.out.1
  have HR := Lib.hid hres.symm
  clear hres
  have T : Below w.heap.size w w := Below.refl _ w
  go_enter Try.func5, Try.ntmps5
  go_wp2_with fail
  refine (Hno.spec_messages n0 n1 _ lo0 hi0 lo1 hi1).mono ?_
  rintro e w1 ⟨A_w0, c_w0, rs_w0, rfl, hz_w0, hown, hb⟩
  rw [HR.out] at hown hz_w0
  rw [HR.out]
  have s1 : w.heap.size ≤ w1.heap.size := hb.size
  replace T := T.trans (hb.mono (by omega))
  clear hb
  have r_w0 := hown
  clear hown
  go_wp2_with fail
  refine (Hms.impl_messages n0 n1 _ lo0 hi0 lo1 hi1).mono ?_
  rintro e w2 ⟨A_g0, c_g0, rs_g0, rfl, hz_g0, hown, hb⟩
  rw [HR.out] at hown hz_g0
  rw [HR.out]
  have s2 : w1.heap.size ≤ w2.heap.size := hb.size
  replace T := T.trans (hb.mono (by omega))
  replace r_w0 := r_w0.below hb
  clear hb
  have r_g0 := hown
  clear hown
  go_wp2_with fail
  refine (Rws.eq_ss _ _ _ _ A_g0 A_w0 res.length c_g0 c_w0 rs_g0 rs_w0 _ r_g0 r_w0 (hz_g0.trans hz_w0.symm) (by omega) (fun i _ => Nat.le_trans (Rws.small_len hz_g0 HSS.out i) (by omega))).mono ?_
  rintro e w3 ⟨rfl, hb⟩
  have s3 : w2.heap.size ≤ w3.heap.size := hb.size
  replace T := T.trans (hb.mono (by omega))
  replace r_w0 := r_w0.below hb
  replace r_g0 := r_g0.below hb
  clear hb
  have ht_g0 := Rws.small_tot hz_g0 HSS.out res.length
  go_wp2_with fail
  refine (Rws.mark_ss _ _ A_g0 res.length c_g0 rs_g0 _ _ (by omega) (by omega) (by omega) r_g0).mono ?_
  rintro e w4 ⟨rfl, hrow, hwi⟩
  clear r_g0
  have r_g0 := hrow
  clear hrow
  have s4 : w3.heap.size ≤ w4.heap.size := hwi.size
  replace T := Rws.below_wi T hwi (by omega) (by omega)
  replace r_w0 := r_w0.wi hwi (by omega)
  clear hwi
  go_wp2_with fail
  refine (Rws.held_ss _ _ A_g0 res.length c_g0 rs_g0 _ _ (by omega) (by omega) (by omega) r_g0).mono ?_
  rintro e w' ⟨rfl, rfl⟩
  go_wp2_with fail
  refine (Hms.impl_messages n0 n1 _ lo0 hi0 lo1 hi1).mono ?_
  rintro e w5 ⟨A_h0, c_h0, rs_h0, rfl, hz_h0, hown, hb⟩
  rw [HR.out] at hown hz_h0
  rw [HR.out]
  have s5 : w4.heap.size ≤ w5.heap.size := hb.size
  replace T := T.trans (hb.mono (by omega))
  replace r_w0 := r_w0.below hb
  replace r_g0 := r_g0.below hb
  clear hb
  have r_h0 := hown
  clear hown
  go_wp2_with fail
  refine (Rws.eq_ss _ _ _ _ A_h0 A_w0 res.length c_h0 c_w0 rs_h0 rs_w0 _ r_h0 r_w0 (hz_h0.trans hz_w0.symm) (by omega) (fun i _ => Nat.le_trans (Rws.small_len hz_h0 HSS.out i) (by omega))).mono ?_
  rintro e w6 ⟨rfl, hb⟩
  have s6 : w5.heap.size ≤ w6.heap.size := hb.size
  replace T := T.trans (hb.mono (by omega))
  replace r_w0 := r_w0.below hb
  replace r_g0 := r_g0.below hb
  replace r_h0 := r_h0.below hb
  clear hb
  go_wp2_with fail
  refine (Rws.held_ss _ _ A_g0 res.length c_g0 rs_g0 _ _ (by omega) (by omega) (by omega) r_g0).mono ?_
  rintro e w' ⟨rfl, rfl⟩
  go_wp2
  go_ret
  exact ⟨rfl, T⟩
set_option maxRecDepth 100000 in
theorem lifted (os : Os) (started : os.Started) (H : Type) (enc : TypeId × Value → H) :
    ReturnsInHanded {} Try.checked os 5 .any (Rows.fnExactMessagesOfSpec.pre6 enc Try.prog Try.f5 Rows.fnExactMessagesOfRow.domain false) (Rows.fnExactMessagesOfSpec.post enc Try.prog Try.f5 false true false false) := by
  refine returnsInHanded_of_change (C := Try.checked) Fr.own started (by kernel_rfl) Try.func5
    (ChangeSpec.witness6 (enc := enc) (C := Try.checked) false ⟨#[], #[.int .i64 0, .int .i64 0], []⟩ 8 (by kernel_rfl) (by kernel_rfl) (by kernel_rfl) (by kernel_rfl)) ?_
  intro W base args ds gs before hval0 hW hcnd _
  have hval : ∀ (j : Nat) t v, Try.f5.params[j]? = some t → args[j]? = some v → Value.okWide Try.prog W .any base t v := hval0
  have hW' := hW
  obtain ⟨p, q, hA0, hV, rfl, hfz, hnd⟩ := hW
  have hA : DataW.TrodAll enc Try.prog W 0 (fun _ => true) true Try.f5.params.toList args.toList ds p := hA0
  have hAk := hA
  rw [Try.params5] at hA hval
  obtain ⟨v0, v1, d0, d1, p0, p1, rfl, rfl, hp, h0, h1⟩ := trodAll_two hA
  obtain ⟨rfl, rfl⟩ := trodVars_none hV
  have hlt : ∀ x ∈ p, x.block < W.heap.size := fun x hx => by simpa using hW'.lt x (List.mem_append_left _ hx)
  obtain ⟨n0, rfl, wf0⟩ := Fr.view_int Try.underlying3 (hval 0 3 v0 rfl rfl) h0
  obtain ⟨n1, rfl, wf1⟩ := Fr.view_int Try.underlying3 (hval 1 3 v1 rfl rfl) h1
  clear hA0 hval0
  refine (walk n0 n1 W wf0 wf1).mono fun e W' ⟨he, hb⟩ => ?_
  subst he
  exact ⟨_, rfl, _, _, _, [], p, [], hW', trodAll_mk1 (shut_bool Try.underlying4 _), Fr.below_all Fr.laidOut hb _ _ _ _ (Fr.readB_all (by kernel_rfl)) hAk hlt, rfl, hb.frame _, fun h => by cases h⟩

theorem proved : Rows.FnExactMessagesOfSaid :=
  OpenClaim.holds_of_wide 5 Try.f5 rfl rfl rfl rfl rfl rfl rfl ⟨rfl, rfl, rfl, rfl, rfl⟩ rfl rfl rfl rfl rfl (by kernel_rfl) Try.func5 (by kernel_rfl)
    (of_decide_eq_true (by kernel_rfl)) (by unfold Func.isWrapper; first | (rw [if_pos (by decide +kernel)]; kernel_rfl) | (rw [if_neg (by decide +kernel)]; exact ⟨rfl, rfl⟩))
    (fun os started H enc _ => lifted os started H enc)

end Go.Proofs.Ytingbpkbdafgeaa.LawMessagesOf
