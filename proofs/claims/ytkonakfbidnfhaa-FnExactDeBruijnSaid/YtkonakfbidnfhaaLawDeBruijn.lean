/- The law of DeBruijn holds: for every argument the program's DeBruijn answers as its model does, changes no argument, and shares no memory. No condition. -/
import Derived.Deep.RegionHeld3
import Derived.Deep.RegionWith
import Derived.BigQuiet
import Derived.Test.YtkonakfbidnfhaaSkr
import Derived.Test.YtkonakfbidnfhaaSkm
import Derived.Test.YtkonakfbidnfhaaStk
import Derived.Test.YtkonakfbidnfhaaPkt
import Derived.Test.YtkonakfbidnfhaaFrame
set_option linter.unusedVariables false
namespace Go.Proofs.Ytkonakfbidnfhaa.LawDeBruijn
open Go.ChangeShapes Go.WideShapes Go.ChangeAt Go.RowKit Fr _root_.Go.Proofs.Ytkonakfbidnfhaa.Own

set_option maxHeartbeats 4000000 in
theorem walk (n0 : Int) (w : World) (wf0 : (Lit.int .i64 n0).wf = true) :
    Calls Try.prog 8 #[.int .i64 n0] w fun e w' => e = .returned (.bool true) ∧ Below w.heap.size w w' := by
  obtain ⟨lo0, hi0⟩ := Ins.wf_lo wf0
  clear wf0
  obtain ⟨res, hres⟩ : ∃ r, r = Skq.dbS n0 := ⟨_, rfl⟩
  have hlen : res.length ≤ 1048576 := by rw [hres]; exact Skq.db_short n0
  have HR := Lib.hid hres.symm
  clear hres
  obtain ⟨rm, hrm⟩ : ∃ r, r = Skq.dbM n0 := ⟨_, rfl⟩
  have HRM := Lib.hid hrm.symm
  clear hrm
  obtain ⟨rb, hrb⟩ : ∃ r, r = Skq.dbB n0 := ⟨_, rfl⟩
  have HRB := Lib.hid hrb.symm
  clear hrb
  have T : Below w.heap.size w w := Below.refl _ w
  go_enter Try.func8, Try.ntmps8
  go_wp2_with fail
  refine (Skr.spec_db n0 _ lo0 hi0).mono ?_
  rintro e w1 ⟨A_w0, c_w0, rfl, hown, hb⟩
  rw [HR.out] at hown
  rw [HR.out, HRM.out, HRB.out]
  have s1 : w.heap.size ≤ w1.heap.size := hb.size
  replace T := T.trans (hb.mono (by omega))
  clear hb
  have r_w0 := Ins.Row.mk hown
  clear hown
  go_wp2_with fail
  generalize hbox : w1.alloc _ = wb_w0
  have hb : Below w1.heap.size w1 wb_w0 := by rw [← hbox]; exact (Below.refl _ _).alloc (Nat.le_refl _) _
  have sz_w0 : w1.heap.size + 1 ≤ wb_w0.heap.size := by rw [← hbox]; simp
  obtain ⟨ba_w0, bb_w0⟩ : wb_w0.cell? ⟨w1.heap.size, 0, none⟩ = some (.slice A_w0 res.length c_w0) ∧ wb_w0.cell? ⟨w1.heap.size, 1, none⟩ = some (.int .i64 rm) := by rw [← hbox]; exact Stk.cell2 (heap_alloc_new _ _)
  clear hbox
  have s2 : w1.heap.size ≤ wb_w0.heap.size := hb.size
  replace T := T.trans (hb.mono (by omega))
  replace r_w0 := r_w0.below hb
  clear hb
  refine (Skm.impl_db n0 _ lo0 hi0).mono ?_
  rintro e w4 ⟨A_g0, c_g0, rfl, hown, hb⟩
  rw [HR.out] at hown
  rw [HR.out, HRM.out, HRB.out]
  have s4 : wb_w0.heap.size ≤ w4.heap.size := hb.size
  replace T := T.trans (hb.mono (by omega))
  replace r_w0 := r_w0.below hb
  replace ba_w0 := (hb.cell (p := ⟨w1.heap.size, 0, none⟩) (by show w1.heap.size < _; omega)).trans ba_w0
  replace bb_w0 := (hb.cell (p := ⟨w1.heap.size, 1, none⟩) (by show w1.heap.size < _; omega)).trans bb_w0
  clear hb
  have r_g0 := Ins.Row.mk hown
  clear hown
  have pa_w0 := (((Below.refl w4.heap.size w4).alloc (Nat.le_refl _) (.cells #[.slice A_g0 res.length c_g0, .int .i64 rm] 25)).cell (p := ⟨w1.heap.size, 0, none⟩) (by show w1.heap.size < _; omega)).trans ba_w0
  have pb_w0 := (((Below.refl w4.heap.size w4).alloc (Nat.le_refl _) (.cells #[.slice A_g0 res.length c_g0, .int .i64 rm] 25)).cell (p := ⟨w1.heap.size, 1, none⟩) (by show w1.heap.size < _; omega)).trans bb_w0
  go_wp2_with fail
  clear pa_w0 pb_w0
  generalize hbox : w4.alloc _ = wb_g0
  have hb : Below w4.heap.size w4 wb_g0 := by rw [← hbox]; exact (Below.refl _ _).alloc (Nat.le_refl _) _
  have sz_g0 : w4.heap.size + 1 ≤ wb_g0.heap.size := by rw [← hbox]; simp
  obtain ⟨ba_g0, bb_g0⟩ : wb_g0.cell? ⟨w4.heap.size, 0, none⟩ = some (.slice A_g0 res.length c_g0) ∧ wb_g0.cell? ⟨w4.heap.size, 1, none⟩ = some (.int .i64 rm) := by rw [← hbox]; exact Stk.cell2 (heap_alloc_new _ _)
  clear hbox
  have s6 : w4.heap.size ≤ wb_g0.heap.size := hb.size
  replace T := T.trans (hb.mono (by omega))
  replace r_w0 := r_w0.below hb
  replace r_g0 := r_g0.below hb
  replace ba_w0 := (hb.cell (p := ⟨w1.heap.size, 0, none⟩) (by show w1.heap.size < _; omega)).trans ba_w0
  replace bb_w0 := (hb.cell (p := ⟨w1.heap.size, 1, none⟩) (by show w1.heap.size < _; omega)).trans bb_w0
  clear hb
  refine (Stk.eq_stack A_g0 A_w0 res.length c_g0 c_w0 res rm _ rfl (by omega) r_g0.at_ r_w0.at_).mono ?_
  rintro e w6 ⟨rfl, hb⟩
  have s7 : wb_g0.heap.size ≤ w6.heap.size := hb.size
  replace T := T.trans (hb.mono (by omega))
  replace r_w0 := r_w0.below hb
  replace r_g0 := r_g0.below hb
  replace ba_w0 := (hb.cell (p := ⟨w1.heap.size, 0, none⟩) (by show w1.heap.size < _; omega)).trans ba_w0
  replace bb_w0 := (hb.cell (p := ⟨w1.heap.size, 1, none⟩) (by show w1.heap.size < _; omega)).trans bb_w0
  replace ba_g0 := (hb.cell (p := ⟨w4.heap.size, 0, none⟩) (by show w4.heap.size < _; omega)).trans ba_g0
  replace bb_g0 := (hb.cell (p := ⟨w4.heap.size, 1, none⟩) (by show w4.heap.size < _; omega)).trans bb_g0
  clear hb
  go_wp2_with fail
  refine (Stk.mark_stack _ _ res.length A_g0 c_g0 rm _ _ (by omega) (by omega) r_g0.own).mono ?_
  rintro e w9 ⟨rfl, ho, hgr⟩
  have s9 : w6.heap.size ≤ w9.heap.size := hgr.size
  replace T := T.grown hgr (by omega) (fun k hk => by have h1 := r_g0.lo k hk; omega)
  replace r_w0 := r_w0.grown hgr (fun k hk => by have h1 := r_g0.lo k hk; have h2 := r_g0.hi k hk; omega)
  replace ba_w0 := hgr.cell ba_w0 (fun e => by have h1 := r_g0.lo _ e.symm; have h2 := r_g0.hi _ e.symm; simp only at h1 h2; omega)
  replace bb_w0 := hgr.cell bb_w0 (fun e => by have h1 := r_g0.lo _ e.symm; have h2 := r_g0.hi _ e.symm; simp only at h1 h2; omega)
  replace ba_g0 := hgr.cell ba_g0 (fun e => by have h1 := r_g0.lo _ e.symm; have h2 := r_g0.hi _ e.symm; simp only at h1 h2; omega)
  replace bb_g0 := hgr.cell bb_g0 (fun e => by have h1 := r_g0.lo _ e.symm; have h2 := r_g0.hi _ e.symm; simp only at h1 h2; omega)
  replace r_g0 := r_g0.marked ho hgr
  clear ho hgr
  go_wp2_with fail
  refine (Stk.held_stack _ res.length c_g0 A_g0 rm _ (by omega) (by omega) r_g0.at_).mono ?_
  rintro e w11 ⟨rfl, hb⟩
  have s11 : w9.heap.size ≤ w11.heap.size := hb.size
  replace T := T.trans (hb.mono (by omega))
  replace r_w0 := r_w0.below hb
  replace r_g0 := r_g0.below hb
  replace ba_w0 := (hb.cell (p := ⟨w1.heap.size, 0, none⟩) (by show w1.heap.size < _; omega)).trans ba_w0
  replace bb_w0 := (hb.cell (p := ⟨w1.heap.size, 1, none⟩) (by show w1.heap.size < _; omega)).trans bb_w0
  replace ba_g0 := (hb.cell (p := ⟨w4.heap.size, 0, none⟩) (by show w4.heap.size < _; omega)).trans ba_g0
  replace bb_g0 := (hb.cell (p := ⟨w4.heap.size, 1, none⟩) (by show w4.heap.size < _; omega)).trans bb_g0
  clear hb
  go_wp2_with fail
  refine (Skm.impl_db n0 _ lo0 hi0).mono ?_
  rintro e w13 ⟨A_h0, c_h0, rfl, hown, hb⟩
  rw [HR.out] at hown
  rw [HR.out, HRM.out, HRB.out]
  have s13 : w11.heap.size ≤ w13.heap.size := hb.size
  replace T := T.trans (hb.mono (by omega))
  replace r_w0 := r_w0.below hb
  replace r_g0 := r_g0.below hb
  replace ba_w0 := (hb.cell (p := ⟨w1.heap.size, 0, none⟩) (by show w1.heap.size < _; omega)).trans ba_w0
  replace bb_w0 := (hb.cell (p := ⟨w1.heap.size, 1, none⟩) (by show w1.heap.size < _; omega)).trans bb_w0
  replace ba_g0 := (hb.cell (p := ⟨w4.heap.size, 0, none⟩) (by show w4.heap.size < _; omega)).trans ba_g0
  replace bb_g0 := (hb.cell (p := ⟨w4.heap.size, 1, none⟩) (by show w4.heap.size < _; omega)).trans bb_g0
  clear hb
  have r_h0 := Ins.Row.mk hown
  clear hown
  have pa_w0 := (((Below.refl w13.heap.size w13).alloc (Nat.le_refl _) (.cells #[.slice A_h0 res.length c_h0, .int .i64 rm] 25)).cell (p := ⟨w1.heap.size, 0, none⟩) (by show w1.heap.size < _; omega)).trans ba_w0
  have pb_w0 := (((Below.refl w13.heap.size w13).alloc (Nat.le_refl _) (.cells #[.slice A_h0 res.length c_h0, .int .i64 rm] 25)).cell (p := ⟨w1.heap.size, 1, none⟩) (by show w1.heap.size < _; omega)).trans bb_w0
  have pa_g0 := (((Below.refl w13.heap.size w13).alloc (Nat.le_refl _) (.cells #[.slice A_h0 res.length c_h0, .int .i64 rm] 25)).cell (p := ⟨w4.heap.size, 0, none⟩) (by show w4.heap.size < _; omega)).trans ba_g0
  have pb_g0 := (((Below.refl w13.heap.size w13).alloc (Nat.le_refl _) (.cells #[.slice A_h0 res.length c_h0, .int .i64 rm] 25)).cell (p := ⟨w4.heap.size, 1, none⟩) (by show w4.heap.size < _; omega)).trans bb_g0
  go_wp2_with fail
  clear pa_w0 pb_w0 pa_g0 pb_g0
  generalize hbox : w13.alloc _ = wb_h0
  have hb : Below w13.heap.size w13 wb_h0 := by rw [← hbox]; exact (Below.refl _ _).alloc (Nat.le_refl _) _
  have sz_h0 : w13.heap.size + 1 ≤ wb_h0.heap.size := by rw [← hbox]; simp
  obtain ⟨ba_h0, bb_h0⟩ : wb_h0.cell? ⟨w13.heap.size, 0, none⟩ = some (.slice A_h0 res.length c_h0) ∧ wb_h0.cell? ⟨w13.heap.size, 1, none⟩ = some (.int .i64 rm) := by rw [← hbox]; exact Stk.cell2 (heap_alloc_new _ _)
  clear hbox
  have s15 : w13.heap.size ≤ wb_h0.heap.size := hb.size
  replace T := T.trans (hb.mono (by omega))
  replace r_w0 := r_w0.below hb
  replace r_g0 := r_g0.below hb
  replace r_h0 := r_h0.below hb
  replace ba_w0 := (hb.cell (p := ⟨w1.heap.size, 0, none⟩) (by show w1.heap.size < _; omega)).trans ba_w0
  replace bb_w0 := (hb.cell (p := ⟨w1.heap.size, 1, none⟩) (by show w1.heap.size < _; omega)).trans bb_w0
  replace ba_g0 := (hb.cell (p := ⟨w4.heap.size, 0, none⟩) (by show w4.heap.size < _; omega)).trans ba_g0
  replace bb_g0 := (hb.cell (p := ⟨w4.heap.size, 1, none⟩) (by show w4.heap.size < _; omega)).trans bb_g0
  clear hb
  refine (Stk.eq_stack A_h0 A_w0 res.length c_h0 c_w0 res rm _ rfl (by omega) r_h0.at_ r_w0.at_).mono ?_
  rintro e w15 ⟨rfl, hb⟩
  have s16 : wb_h0.heap.size ≤ w15.heap.size := hb.size
  replace T := T.trans (hb.mono (by omega))
  replace r_w0 := r_w0.below hb
  replace r_g0 := r_g0.below hb
  replace r_h0 := r_h0.below hb
  replace ba_w0 := (hb.cell (p := ⟨w1.heap.size, 0, none⟩) (by show w1.heap.size < _; omega)).trans ba_w0
  replace bb_w0 := (hb.cell (p := ⟨w1.heap.size, 1, none⟩) (by show w1.heap.size < _; omega)).trans bb_w0
  replace ba_g0 := (hb.cell (p := ⟨w4.heap.size, 0, none⟩) (by show w4.heap.size < _; omega)).trans ba_g0
  replace bb_g0 := (hb.cell (p := ⟨w4.heap.size, 1, none⟩) (by show w4.heap.size < _; omega)).trans bb_g0
  replace ba_h0 := (hb.cell (p := ⟨w13.heap.size, 0, none⟩) (by show w13.heap.size < _; omega)).trans ba_h0
  replace bb_h0 := (hb.cell (p := ⟨w13.heap.size, 1, none⟩) (by show w13.heap.size < _; omega)).trans bb_h0
  clear hb
  go_wp2_with fail
  refine (Stk.held_stack _ res.length c_g0 A_g0 rm _ (by omega) (by omega) r_g0.at_).mono ?_
  rintro e w18 ⟨rfl, hb⟩
  have s18 : w15.heap.size ≤ w18.heap.size := hb.size
  replace T := T.trans (hb.mono (by omega))
  replace r_w0 := r_w0.below hb
  replace r_g0 := r_g0.below hb
  replace r_h0 := r_h0.below hb
  replace ba_w0 := (hb.cell (p := ⟨w1.heap.size, 0, none⟩) (by show w1.heap.size < _; omega)).trans ba_w0
  replace bb_w0 := (hb.cell (p := ⟨w1.heap.size, 1, none⟩) (by show w1.heap.size < _; omega)).trans bb_w0
  replace ba_g0 := (hb.cell (p := ⟨w4.heap.size, 0, none⟩) (by show w4.heap.size < _; omega)).trans ba_g0
  replace bb_g0 := (hb.cell (p := ⟨w4.heap.size, 1, none⟩) (by show w4.heap.size < _; omega)).trans bb_g0
  replace ba_h0 := (hb.cell (p := ⟨w13.heap.size, 0, none⟩) (by show w13.heap.size < _; omega)).trans ba_h0
  replace bb_h0 := (hb.cell (p := ⟨w13.heap.size, 1, none⟩) (by show w13.heap.size < _; omega)).trans bb_h0
  clear hb
  go_wp2
  go_ret
  exact ⟨rfl, T⟩
set_option maxRecDepth 100000 in
theorem lifted (os : Os) (started : os.Started) (H : Type) (enc : TypeId × Value → H) :
    ReturnsInHanded {} Try.checked os 8 .any (Rows.fnExactDeBruijnSpec.pre6 enc Try.prog Try.f8 Rows.fnExactDeBruijnRow.domain false) (Rows.fnExactDeBruijnSpec.post enc Try.prog Try.f8 false true false false) := by
  refine returnsInHanded_of_change (C := Try.checked) Fr.own started (by kernel_rfl) Try.func8
    (ChangeSpec.witness6 (enc := enc) (C := Try.checked) false ⟨#[], #[.int .i64 0], []⟩ 8 (by kernel_rfl) (by kernel_rfl) (by kernel_rfl) (by kernel_rfl)) ?_
  intro W base args ds gs before hval0 hW hcnd _
  have hval : ∀ (j : Nat) t v, Try.f8.params[j]? = some t → args[j]? = some v → Value.okWide Try.prog W .any base t v := hval0
  have hW' := hW
  obtain ⟨p, q, hA0, hV, rfl, hfz, hnd⟩ := hW
  have hA : DataW.TrodAll enc Try.prog W 0 (fun _ => true) true Try.f8.params.toList args.toList ds p := hA0
  have hAk := hA
  rw [Try.params8] at hA hval
  obtain ⟨v0, d0, rfl, rfl, h0⟩ := trodAll_one hA
  obtain ⟨rfl, rfl⟩ := trodVars_none hV
  have hlt : ∀ x ∈ p, x.block < W.heap.size := fun x hx => by simpa using hW'.lt x (List.mem_append_left _ hx)
  obtain ⟨n0, rfl, wf0⟩ := Fr.view_int Try.underlying3 (hval 0 3 v0 rfl rfl) h0
  clear hA0 hval0
  refine (walk n0 W wf0).mono fun e W' ⟨he, hb⟩ => ?_
  subst he
  exact ⟨_, rfl, _, _, _, [], p, [], hW', trodAll_mk1 (shut_bool Try.underlying4 _), Fr.below_all Fr.laidOut hb _ _ _ _ (Fr.readB_all (by kernel_rfl)) hAk hlt, rfl, hb.frame _, fun h => by cases h⟩

theorem proved : Rows.FnExactDeBruijnSaid :=
  OpenClaim.holds_of_wide 8 Try.f8 rfl rfl rfl rfl rfl rfl rfl ⟨rfl, rfl, rfl, rfl, rfl⟩ rfl rfl rfl rfl rfl (by kernel_rfl) Try.func8 (by kernel_rfl)
    (of_decide_eq_true (by kernel_rfl)) (by unfold Func.isWrapper; first | (rw [if_pos (by decide +kernel)]; kernel_rfl) | (rw [if_neg (by decide +kernel)]; exact ⟨rfl, rfl⟩))
    (fun os started H enc _ => lifted os started H enc)

end Go.Proofs.Ytkonakfbidnfhaa.LawDeBruijn
