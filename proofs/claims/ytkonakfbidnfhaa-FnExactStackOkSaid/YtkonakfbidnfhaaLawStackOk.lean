/- The law of StackOk holds: for every argument the program's StackOk answers as its model does, changes no argument, and shares no memory. No condition. -/
import Derived.Deep.RegionHeld3
import Derived.Deep.RegionWith
import Derived.BigQuiet
import Derived.Test.YtkonakfbidnfhaaSks
import Derived.Test.YtkonakfbidnfhaaSkj
import Derived.Test.YtkonakfbidnfhaaStk
import Derived.Test.YtkonakfbidnfhaaPkt
import Derived.Test.YtkonakfbidnfhaaFrame
set_option linter.unusedVariables false
namespace Go.Proofs.Ytkonakfbidnfhaa.LawStackOk
open Go.ChangeShapes Go.WideShapes Go.ChangeAt Go.RowKit Fr _root_.Go.Proofs.Ytkonakfbidnfhaa.Own

set_option maxHeartbeats 4000000 in
theorem walk (A0 : Option Addr) (n0 c0 : Nat) (l0 : List Int) (m0 : Int) (w : World) (hn0 : l0.length = n0) (hm0 : n0 ≤ maxLen) (hs0 : ∀ z ∈ l0, (Lit.int .i64 z).wf = true) (wm0 : (Lit.int .i64 m0).wf = true) (ha0 : IntsAt w w.heap.size .i64 A0 l0) :
    Calls Try.prog 5 #[Stk.stV A0 n0 c0 m0] w fun e w' => e = .returned (.bool true) ∧ Below w.heap.size w w' := by
  have hx0 : n0 ≤ 9223372036854775807 := by unfold maxLen at hm0; omega
  have hz0 := Ins.fits_of hs0
  obtain ⟨mlo0, mhi0⟩ := Ins.wf_lo wm0
  clear wm0
  have HN0 := Lib.hid hn0
  clear hn0 hm0 hs0
  by_cases hg0 : n0 ≤ 1048576
  · have hk0 : decide ((1048576 : Int) < (n0 : Int)) = false := decide_eq_false (by omega)
    have T : Below w.heap.size w w := Below.refl _ w
    have f0 := ha0
    clear ha0
    go_enter Try.func5, Try.ntmps5
    go_wp2_with fail
    generalize hbox : w.alloc _ = wb_param
    have hb : Below w.heap.size w wb_param := by rw [← hbox]; exact (Below.refl _ _).alloc (Nat.le_refl _) _
    have sz_param : w.heap.size + 1 ≤ wb_param.heap.size := by rw [← hbox]; simp
    obtain ⟨ba_param, bb_param⟩ : wb_param.cell? ⟨w.heap.size, 0, none⟩ = some (.slice A0 n0 c0) ∧ wb_param.cell? ⟨w.heap.size, 1, none⟩ = some (.int .i64 m0) := by rw [← hbox]; exact Stk.cell2 (heap_alloc_new _ _)
    clear hbox
    have s0 : w.heap.size ≤ wb_param.heap.size := hb.size
    replace T := T.trans (hb.mono (by omega))
    replace f0 := Ins.at_below f0 hb (by omega)
    clear hb
    refine (Stk.sz_stack A0 n0 c0 m0 1048576 _ hx0 (by omega) (by omega)).mono ?_
    rintro e w2 ⟨rfl, hb⟩
    rw [if_pos (show (n0 : Int) ≤ 1048576 by omega)]
    have hz_0 : decide ((1048576 : Int) - (n0 : Int) < 0) = false := decide_eq_false (by omega)
    have s2 : wb_param.heap.size ≤ w2.heap.size := hb.size
    replace T := T.trans (hb.mono (by omega))
    replace f0 := Ins.at_below f0 hb (by omega)
    replace ba_param := (hb.cell (p := ⟨w.heap.size, 0, none⟩) (by show w.heap.size < _; omega)).trans ba_param
    replace bb_param := (hb.cell (p := ⟨w.heap.size, 1, none⟩) (by show w.heap.size < _; omega)).trans bb_param
    clear hb
    go_wp2_with fail
    refine (Stk.to_stack A0 n0 c0 l0 m0 _ HN0.out hg0 (f0.more T.size)).mono ?_
    rintro e w4 ⟨g_t1, rfl, hown, hb⟩
    rw [HN0.out] at hown
    rw [HN0.out]
    have s4 : w2.heap.size ≤ w4.heap.size := hb.size
    replace T := T.trans (hb.mono (by omega))
    replace f0 := Ins.at_below f0 hb (by omega)
    replace ba_param := (hb.cell (p := ⟨w.heap.size, 0, none⟩) (by show w.heap.size < _; omega)).trans ba_param
    replace bb_param := (hb.cell (p := ⟨w.heap.size, 1, none⟩) (by show w.heap.size < _; omega)).trans bb_param
    clear hb
    have r_t1 := Ins.Row.mk hown
    clear hown
    go_wp2_with fail
    refine (Sks.spec_ok (some ⟨g_t1, 0, none⟩) n0 n0 l0 m0 _ HN0.out (Nat.le_refl _) (by omega) hz0 r_t1.at_).mono ?_
    rintro e w6 ⟨rfl, hb⟩
    have s6 : w4.heap.size ≤ w6.heap.size := hb.size
    replace T := T.trans (hb.mono (by omega))
    replace f0 := Ins.at_below f0 hb (by omega)
    replace r_t1 := r_t1.below hb
    replace ba_param := (hb.cell (p := ⟨w.heap.size, 0, none⟩) (by show w.heap.size < _; omega)).trans ba_param
    replace bb_param := (hb.cell (p := ⟨w.heap.size, 1, none⟩) (by show w.heap.size < _; omega)).trans bb_param
    clear hb
    go_wp2_with fail
    refine (Stk.to_stack A0 n0 c0 l0 m0 _ HN0.out hg0 (f0.more T.size)).mono ?_
    rintro e w8 ⟨g_x0, rfl, hown, hb⟩
    rw [HN0.out] at hown
    rw [HN0.out]
    have s8 : w6.heap.size ≤ w8.heap.size := hb.size
    replace T := T.trans (hb.mono (by omega))
    replace f0 := Ins.at_below f0 hb (by omega)
    replace r_t1 := r_t1.below hb
    replace ba_param := (hb.cell (p := ⟨w.heap.size, 0, none⟩) (by show w.heap.size < _; omega)).trans ba_param
    replace bb_param := (hb.cell (p := ⟨w.heap.size, 1, none⟩) (by show w.heap.size < _; omega)).trans bb_param
    clear hb
    have r_x0 := Ins.Row.mk hown
    clear hown
    have pa_param := (((Below.refl w8.heap.size w8).alloc (Nat.le_refl _) (.cells #[.slice (some ⟨g_x0, 0, none⟩) n0 n0, .int .i64 m0] 25)).cell (p := ⟨w.heap.size, 0, none⟩) (by show w.heap.size < _; omega)).trans ba_param
    have pb_param := (((Below.refl w8.heap.size w8).alloc (Nat.le_refl _) (.cells #[.slice (some ⟨g_x0, 0, none⟩) n0 n0, .int .i64 m0] 25)).cell (p := ⟨w.heap.size, 1, none⟩) (by show w.heap.size < _; omega)).trans bb_param
    go_wp2_with fail
    clear pa_param pb_param
    generalize hbox : w8.alloc _ = wb_x0
    have hb : Below w8.heap.size w8 wb_x0 := by rw [← hbox]; exact (Below.refl _ _).alloc (Nat.le_refl _) _
    have sz_x0 : w8.heap.size + 1 ≤ wb_x0.heap.size := by rw [← hbox]; simp
    obtain ⟨ba_x0, bb_x0⟩ : wb_x0.cell? ⟨w8.heap.size, 0, none⟩ = some (.slice (some ⟨g_x0, 0, none⟩) n0 n0) ∧ wb_x0.cell? ⟨w8.heap.size, 1, none⟩ = some (.int .i64 m0) := by rw [← hbox]; exact Stk.cell2 (heap_alloc_new _ _)
    clear hbox
    have s9 : w8.heap.size ≤ wb_x0.heap.size := hb.size
    replace T := T.trans (hb.mono (by omega))
    replace f0 := Ins.at_below f0 hb (by omega)
    replace r_t1 := r_t1.below hb
    replace r_x0 := r_x0.below hb
    replace ba_param := (hb.cell (p := ⟨w.heap.size, 0, none⟩) (by show w.heap.size < _; omega)).trans ba_param
    replace bb_param := (hb.cell (p := ⟨w.heap.size, 1, none⟩) (by show w.heap.size < _; omega)).trans bb_param
    clear hb
    refine (Skj.impl_ok (some ⟨g_x0, 0, none⟩) n0 n0 l0 m0 _ HN0.out (Nat.le_refl _) (by omega) hz0 r_x0.at_).mono ?_
    rintro e w11 ⟨rfl, hb⟩
    have s11 : wb_x0.heap.size ≤ w11.heap.size := hb.size
    replace T := T.trans (hb.mono (by omega))
    replace f0 := Ins.at_below f0 hb (by omega)
    replace r_t1 := r_t1.below hb
    replace r_x0 := r_x0.below hb
    replace ba_param := (hb.cell (p := ⟨w.heap.size, 0, none⟩) (by show w.heap.size < _; omega)).trans ba_param
    replace bb_param := (hb.cell (p := ⟨w.heap.size, 1, none⟩) (by show w.heap.size < _; omega)).trans bb_param
    replace ba_x0 := (hb.cell (p := ⟨w8.heap.size, 0, none⟩) (by show w8.heap.size < _; omega)).trans ba_x0
    replace bb_x0 := (hb.cell (p := ⟨w8.heap.size, 1, none⟩) (by show w8.heap.size < _; omega)).trans bb_x0
    clear hb
    have hb := (Below.refl w11.heap.size w11).drew
    have s12 : w11.heap.size ≤ w11.drew.heap.size := hb.size
    replace T := T.trans (hb.mono (by omega))
    replace f0 := Ins.at_below f0 hb (by omega)
    replace r_t1 := r_t1.below hb
    replace r_x0 := r_x0.below hb
    replace ba_param := (hb.cell (p := ⟨w.heap.size, 0, none⟩) (by show w.heap.size < _; omega)).trans ba_param
    replace bb_param := (hb.cell (p := ⟨w.heap.size, 1, none⟩) (by show w.heap.size < _; omega)).trans bb_param
    replace ba_x0 := (hb.cell (p := ⟨w8.heap.size, 0, none⟩) (by show w8.heap.size < _; omega)).trans ba_x0
    replace bb_x0 := (hb.cell (p := ⟨w8.heap.size, 1, none⟩) (by show w8.heap.size < _; omega)).trans bb_x0
    clear hb
    go_wp2_with fail
    go_region_held3 (fun w' => w'.cell? ⟨w.heap.size, 0, none⟩ = some (.slice A0 n0 c0) ∧ w'.cell? ⟨w.heap.size, 1, none⟩ = some (.int .i64 m0) ∧ w'.cell? ⟨w8.heap.size, 0, none⟩ = some (.slice (some ⟨g_x0, 0, none⟩) n0 n0) ∧ w'.cell? ⟨w8.heap.size, 1, none⟩ = some (.int .i64 m0)) ((first | exact ⟨ba_param, bb_param, ba_x0, bb_x0⟩)) ((first | (go_at_call 23; refine (Stk.to_stack A0 n0 c0 l0 m0 _ HN0.out hg0 (f0.more T.size)).mono ?_; rintro e w14 ⟨g_t2, rfl, hown, hb⟩; rw [HN0.out] at hown; rw [HN0.out]; have s14 : w11.drew.heap.size ≤ w14.heap.size := hb.size; replace T := T.trans (hb.mono (by omega)); replace f0 := Ins.at_below f0 hb (by omega); replace r_t1 := r_t1.below hb; replace r_x0 := r_x0.below hb; replace ba_param := (hb.cell (p := ⟨w.heap.size, 0, none⟩) (by show w.heap.size < _; omega)).trans ba_param; replace bb_param := (hb.cell (p := ⟨w.heap.size, 1, none⟩) (by show w.heap.size < _; omega)).trans bb_param; replace ba_x0 := (hb.cell (p := ⟨w8.heap.size, 0, none⟩) (by show w8.heap.size < _; omega)).trans ba_x0; replace bb_x0 := (hb.cell (p := ⟨w8.heap.size, 1, none⟩) (by show w8.heap.size < _; omega)).trans bb_x0; clear hb; have r_t2 := Ins.Row.mk hown; clear hown) | (go_at_call 24; refine (Stk.eq_stack (some ⟨g_x0, 0, none⟩) (some ⟨g_t2, 0, none⟩) n0 n0 n0 l0 m0 _ HN0.out (by omega) r_x0.at_ r_t2.at_).mono ?_; rintro e w16 ⟨rfl, hb⟩; have s16 : w14.heap.size ≤ w16.heap.size := hb.size; replace T := T.trans (hb.mono (by omega)); replace f0 := Ins.at_below f0 hb (by omega); replace r_t1 := r_t1.below hb; replace r_x0 := r_x0.below hb; replace r_t2 := r_t2.below hb; replace ba_param := (hb.cell (p := ⟨w.heap.size, 0, none⟩) (by show w.heap.size < _; omega)).trans ba_param; replace bb_param := (hb.cell (p := ⟨w.heap.size, 1, none⟩) (by show w.heap.size < _; omega)).trans bb_param; replace ba_x0 := (hb.cell (p := ⟨w8.heap.size, 0, none⟩) (by show w8.heap.size < _; omega)).trans ba_x0; replace bb_x0 := (hb.cell (p := ⟨w8.heap.size, 1, none⟩) (by show w8.heap.size < _; omega)).trans bb_x0; clear hb)))
    go_wp2
    go_ret
    exact ⟨rfl, T⟩
  · have hk0 : (1048576 : Int) < (n0 : Int) := by omega
    have hk20 : (1048576 : Int) - (n0 : Int) < 0 := by omega
    go_enter Try.func5, Try.ntmps5
    go_wp2_with fail
    refine (Stk.sz_stack A0 n0 c0 m0 1048576 _ hx0 (by omega) (by omega)).mono ?_
    rintro e wz ⟨rfl, hb⟩
    rw [if_neg (show ¬ (n0 : Int) ≤ 1048576 by omega)]
    go_wp2
    go_ret
    exact ⟨rfl, ((Below.refl _ w).alloc (Nat.le_refl _) _).trans (hb.mono (by simp))⟩
set_option maxRecDepth 100000 in
theorem lifted (os : Os) (started : os.Started) (H : Type) (enc : TypeId × Value → H) :
    ReturnsInHanded {} Try.checked os 5 .any (Rows.fnExactStackOkSpec.pre6 enc Try.prog Try.f5 Rows.fnExactStackOkRow.domain false) (Rows.fnExactStackOkSpec.post enc Try.prog Try.f5 false true false false) := by
  refine returnsInHanded_of_change (C := Try.checked) Fr.own started (by kernel_rfl) Try.func5
    (ChangeSpec.witness6 (enc := enc) (C := Try.checked) false ⟨#[], #[.agg #[.slice none 0 0, .int .i64 0]], []⟩ 8 (by kernel_rfl) (by kernel_rfl) (by kernel_rfl) (by kernel_rfl)) ?_
  intro W base args ds gs before hval0 hW hcnd _
  have hval : ∀ (j : Nat) t v, Try.f5.params[j]? = some t → args[j]? = some v → Value.okWide Try.prog W .any base t v := hval0
  have hW' := hW
  obtain ⟨p, q, hA0, hV, rfl, hfz, hnd⟩ := hW
  have hA : DataW.TrodAll enc Try.prog W 0 (fun _ => true) true Try.f5.params.toList args.toList ds p := hA0
  have hAk := hA
  rw [Try.params5] at hA hval
  obtain ⟨v0, d0, rfl, rfl, h0⟩ := trodAll_one hA
  obtain ⟨rfl, rfl⟩ := trodVars_none hV
  have hlt : ∀ x ∈ p, x.block < W.heap.size := fun x hx => by simpa using hW'.lt x (List.mem_append_left _ hx)
  obtain ⟨A0, n0, c0, l0, m0, rfl, hn0, hm0, hs0, wm0, ha0⟩ := Stk.view_stack Try.underlying38 (by kernel_rfl) (by kernel_rfl) Try.underlying23 Try.underlying3 (by kernel_rfl) Try.underlying3 (hval 0 38 v0 rfl rfl) h0 hlt
  clear hA0 hval0
  refine (walk A0 n0 c0 l0 m0 W hn0 hm0 hs0 wm0 ha0).mono fun e W' ⟨he, hb⟩ => ?_
  subst he
  exact ⟨_, rfl, _, _, _, [], p, [], hW', trodAll_mk1 (shut_bool Try.underlying4 _), Fr.below_all Fr.laidOut hb _ _ _ _ (Fr.readB_all (by kernel_rfl)) hAk hlt, rfl, hb.frame _, fun h => by cases h⟩

theorem proved : Rows.FnExactStackOkSaid :=
  OpenClaim.holds_of_wide 5 Try.f5 rfl rfl rfl rfl rfl rfl rfl ⟨rfl, rfl, rfl, rfl, rfl⟩ rfl rfl rfl rfl rfl (by kernel_rfl) Try.func5 (by kernel_rfl)
    (of_decide_eq_true (by kernel_rfl)) (by unfold Func.isWrapper; first | (rw [if_pos (by decide +kernel)]; kernel_rfl) | (rw [if_neg (by decide +kernel)]; exact ⟨rfl, rfl⟩))
    (fun os started H enc _ => lifted os started H enc)

end Go.Proofs.Ytkonakfbidnfhaa.LawStackOk
