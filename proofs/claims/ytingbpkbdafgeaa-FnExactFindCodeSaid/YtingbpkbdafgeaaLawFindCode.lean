/- The law of FindCode holds: for every argument the program's FindCode answers as its model does, changes no argument, and shares no memory. No condition. -/
import Derived.Deep.RegionHeld3
import Derived.Deep.RegionWith
import Derived.BigQuiet
import Derived.Test.YtingbpkbdafgeaaFcs
import Derived.Test.YtingbpkbdafgeaaFci
import Derived.Test.YtingbpkbdafgeaaCde
import Derived.Test.YtingbpkbdafgeaaPkt
import Derived.Test.YtingbpkbdafgeaaFrame
set_option linter.unusedVariables false
namespace Go.Proofs.Ytingbpkbdafgeaa.LawFindCode
open Go.ChangeShapes Go.WideShapes Go.ChangeAt Go.RowKit Fr _root_.Go.Proofs.Ytingbpkbdafgeaa.Own

set_option maxHeartbeats 8000000 in
theorem walk (n0 : Int) (n1 : Int) (w : World) (wf0 : (Lit.int .i64 n0).wf = true) (wf1 : (Lit.int .i64 n1).wf = true) :
    Calls Try.prog 8 #[.int .i64 n0, .int .i64 n1] w fun e w' => e = .returned (.bool true) ∧ Below w.heap.size w w' := by
  obtain ⟨lo0, hi0⟩ := Ins.wf_lo wf0
  clear wf0
  obtain ⟨lo1, hi1⟩ := Ins.wf_lo wf1
  clear wf1
  obtain ⟨res, hres⟩ : ∃ r, r = Fcd.fndH n0 n1 := ⟨_, rfl⟩
  have HSS := Lib.hid (show Rws.SmallSS res by rw [hres]; exact Fcs.fndH_small n0 n1)
  have hlen := HSS.out.1
  obtain ⟨res2, hres2⟩ : ∃ r, r = Fcd.fndS n0 n1 := ⟨_, rfl⟩
  have HSS2 := Lib.hid (show Rws.SmallSS res2 by rw [hres2]; exact Fcs.fndS_small n0 n1)
  have hlen2 := HSS2.out.1
  have HR2 := Lib.hid hres2.symm
  clear hres2
  obtain ⟨rm, hrm⟩ : ∃ r, r = Fcd.fndD n0 n1 := ⟨_, rfl⟩
  have HRM := Lib.hid hrm.symm
  clear hrm
  have HR := Lib.hid hres.symm
  clear hres
  obtain ⟨rb, hrb⟩ : ∃ r, r = Fcd.fndB n0 n1 := ⟨_, rfl⟩
  have HRB := Lib.hid hrb.symm
  clear hrb
  have T : Below w.heap.size w w := Below.refl _ w
  go_enter Try.func8, Try.ntmps8
  go_wp2_with fail
  refine (Fcs.spec_find n0 n1 _ lo0 hi0 lo1 hi1).mono ?_
  rintro e w1 ⟨A_w0, c_w0, B_w0, d_w0, rs_w0, r2_w0, rfl, hz_w0, hy_w0, hown, hb⟩
  rw [HR.out] at hz_w0 hown
  rw [HR2.out] at hy_w0 hown
  rw [HR.out, HR2.out, HRM.out, HRB.out]
  have s1 : w.heap.size ≤ w1.heap.size := hb.size
  replace T := T.trans (hb.mono (by omega))
  clear hb
  have r_w0 := hown
  clear hown
  go_wp2_with fail
  generalize hbox : w1.alloc _ = wb_w0
  have hb : Below w1.heap.size w1 wb_w0 := by rw [← hbox]; exact (Below.refl _ _).alloc (Nat.le_refl _) _
  have sz_w0 : w1.heap.size + 1 ≤ wb_w0.heap.size := by rw [← hbox]; simp
  obtain ⟨ba_w0, bb_w0, bc_w0⟩ : wb_w0.cell? ⟨w1.heap.size, 0, none⟩ = some (.int .i64 rm) ∧ wb_w0.cell? ⟨w1.heap.size, 1, none⟩ = some (.slice A_w0 res.length c_w0) ∧ wb_w0.cell? ⟨w1.heap.size, 2, none⟩ = some (.slice B_w0 res2.length d_w0) := by rw [← hbox]; exact Cde.cell3 (heap_alloc_new _ _)
  clear hbox
  have s2 : w1.heap.size ≤ wb_w0.heap.size := hb.size
  replace T := T.trans (hb.mono (by omega))
  replace r_w0 := r_w0.below hb
  clear hb
  refine (Fci.impl_find n0 n1 _ lo0 hi0 lo1 hi1).mono ?_
  rintro e w4 ⟨A_g0, c_g0, B_g0, d_g0, rs_g0, r2_g0, rfl, hz_g0, hy_g0, hown, hb⟩
  rw [HR.out] at hz_g0 hown
  rw [HR2.out] at hy_g0 hown
  rw [HR.out, HR2.out, HRM.out, HRB.out]
  have s4 : wb_w0.heap.size ≤ w4.heap.size := hb.size
  replace T := T.trans (hb.mono (by omega))
  replace r_w0 := r_w0.below hb
  replace ba_w0 := (hb.cell (p := ⟨w1.heap.size, 0, none⟩) (by show w1.heap.size < _; omega)).trans ba_w0
  replace bb_w0 := (hb.cell (p := ⟨w1.heap.size, 1, none⟩) (by show w1.heap.size < _; omega)).trans bb_w0
  replace bc_w0 := (hb.cell (p := ⟨w1.heap.size, 2, none⟩) (by show w1.heap.size < _; omega)).trans bc_w0
  clear hb
  have r_g0 := hown
  clear hown
  have pa_w0 := (((Below.refl w4.heap.size w4).alloc (Nat.le_refl _) (.cells #[.int .i64 rm, .slice A_g0 res.length c_g0, .slice B_g0 res2.length d_g0] 26)).cell (p := ⟨w1.heap.size, 0, none⟩) (by show w1.heap.size < _; omega)).trans ba_w0
  have pb_w0 := (((Below.refl w4.heap.size w4).alloc (Nat.le_refl _) (.cells #[.int .i64 rm, .slice A_g0 res.length c_g0, .slice B_g0 res2.length d_g0] 26)).cell (p := ⟨w1.heap.size, 1, none⟩) (by show w1.heap.size < _; omega)).trans bb_w0
  have pc_w0 := (((Below.refl w4.heap.size w4).alloc (Nat.le_refl _) (.cells #[.int .i64 rm, .slice A_g0 res.length c_g0, .slice B_g0 res2.length d_g0] 26)).cell (p := ⟨w1.heap.size, 2, none⟩) (by show w1.heap.size < _; omega)).trans bc_w0
  go_wp2_with fail
  clear pa_w0 pb_w0 pc_w0
  generalize hbox : w4.alloc _ = wb_g0
  have hb : Below w4.heap.size w4 wb_g0 := by rw [← hbox]; exact (Below.refl _ _).alloc (Nat.le_refl _) _
  have sz_g0 : w4.heap.size + 1 ≤ wb_g0.heap.size := by rw [← hbox]; simp
  obtain ⟨ba_g0, bb_g0, bc_g0⟩ : wb_g0.cell? ⟨w4.heap.size, 0, none⟩ = some (.int .i64 rm) ∧ wb_g0.cell? ⟨w4.heap.size, 1, none⟩ = some (.slice A_g0 res.length c_g0) ∧ wb_g0.cell? ⟨w4.heap.size, 2, none⟩ = some (.slice B_g0 res2.length d_g0) := by rw [← hbox]; exact Cde.cell3 (heap_alloc_new _ _)
  clear hbox
  have s6 : w4.heap.size ≤ wb_g0.heap.size := hb.size
  replace T := T.trans (hb.mono (by omega))
  replace r_w0 := r_w0.below hb
  replace r_g0 := r_g0.below hb
  replace ba_w0 := (hb.cell (p := ⟨w1.heap.size, 0, none⟩) (by show w1.heap.size < _; omega)).trans ba_w0
  replace bb_w0 := (hb.cell (p := ⟨w1.heap.size, 1, none⟩) (by show w1.heap.size < _; omega)).trans bb_w0
  replace bc_w0 := (hb.cell (p := ⟨w1.heap.size, 2, none⟩) (by show w1.heap.size < _; omega)).trans bc_w0
  clear hb
  refine (Cde.eq_code _ _ _ _ _ _ _ _ rm A_g0 A_w0 res.length c_g0 c_w0 B_g0 B_w0 res2.length d_g0 d_w0 rs_g0 rs_w0 r2_g0 r2_w0 _ r_g0.choose_spec.1 r_w0.choose_spec.1 r_g0.choose_spec.2.1 r_w0.choose_spec.2.1 (hz_g0.trans hz_w0.symm) (hy_g0.trans hy_w0.symm) (by omega) (by omega) (fun i _ => Nat.le_trans (Rws.small_len hz_g0 HSS.out i) (by omega)) (fun i _ => Nat.le_trans (Rws.small_len hy_g0 HSS2.out i) (by omega))).mono ?_
  rintro e w6 ⟨rfl, hb⟩
  have s7 : wb_g0.heap.size ≤ w6.heap.size := hb.size
  replace T := T.trans (hb.mono (by omega))
  replace r_w0 := r_w0.below hb
  replace r_g0 := r_g0.below hb
  replace ba_w0 := (hb.cell (p := ⟨w1.heap.size, 0, none⟩) (by show w1.heap.size < _; omega)).trans ba_w0
  replace bb_w0 := (hb.cell (p := ⟨w1.heap.size, 1, none⟩) (by show w1.heap.size < _; omega)).trans bb_w0
  replace bc_w0 := (hb.cell (p := ⟨w1.heap.size, 2, none⟩) (by show w1.heap.size < _; omega)).trans bc_w0
  replace ba_g0 := (hb.cell (p := ⟨w4.heap.size, 0, none⟩) (by show w4.heap.size < _; omega)).trans ba_g0
  replace bb_g0 := (hb.cell (p := ⟨w4.heap.size, 1, none⟩) (by show w4.heap.size < _; omega)).trans bb_g0
  replace bc_g0 := (hb.cell (p := ⟨w4.heap.size, 2, none⟩) (by show w4.heap.size < _; omega)).trans bc_g0
  clear hb
  have ht_g0 := Rws.small_tot hz_g0 HSS.out res.length
  have hu_g0 := Rws.small_tot hy_g0 HSS2.out res2.length
  go_wp2_with fail
  refine (Cde.mark_code wb_w0.heap.size w4.heap.size rm _ A_g0 res.length c_g0 B_g0 res2.length d_g0 rs_g0 r2_g0 _ (by omega) (by omega) (by omega) (by omega) r_g0).mono ?_
  rintro e w9 ⟨rfl, hrow, hwi⟩
  have s9 : w6.heap.size ≤ w9.heap.size := hwi.size
  replace T := Rws.below_wi T hwi (by omega) (by omega)
  replace r_w0 := r_w0.wi hwi (by omega)
  replace ba_w0 := Cde.cell_wi hwi ba_w0 (by omega)
  replace bb_w0 := Cde.cell_wi hwi bb_w0 (by omega)
  replace bc_w0 := Cde.cell_wi hwi bc_w0 (by omega)
  replace ba_g0 := Cde.cell_wi hwi ba_g0 (by omega)
  replace bb_g0 := Cde.cell_wi hwi bb_g0 (by omega)
  replace bc_g0 := Cde.cell_wi hwi bc_g0 (by omega)
  clear hwi
  replace r_g0 := hrow
  clear hrow
  go_wp2_with fail
  refine (Cde.held_code wb_w0.heap.size w4.heap.size rm _ A_g0 res.length c_g0 B_g0 res2.length d_g0 rs_g0 r2_g0 _ (by omega) (by omega) (by omega) (by omega) r_g0).mono ?_
  rintro e w11 ⟨rfl, hb⟩
  have s11 : w9.heap.size ≤ w11.heap.size := hb.size
  replace T := T.trans (hb.mono (by omega))
  replace r_w0 := r_w0.below hb
  replace r_g0 := r_g0.below hb
  replace ba_w0 := (hb.cell (p := ⟨w1.heap.size, 0, none⟩) (by show w1.heap.size < _; omega)).trans ba_w0
  replace bb_w0 := (hb.cell (p := ⟨w1.heap.size, 1, none⟩) (by show w1.heap.size < _; omega)).trans bb_w0
  replace bc_w0 := (hb.cell (p := ⟨w1.heap.size, 2, none⟩) (by show w1.heap.size < _; omega)).trans bc_w0
  replace ba_g0 := (hb.cell (p := ⟨w4.heap.size, 0, none⟩) (by show w4.heap.size < _; omega)).trans ba_g0
  replace bb_g0 := (hb.cell (p := ⟨w4.heap.size, 1, none⟩) (by show w4.heap.size < _; omega)).trans bb_g0
  replace bc_g0 := (hb.cell (p := ⟨w4.heap.size, 2, none⟩) (by show w4.heap.size < _; omega)).trans bc_g0
  clear hb
  go_wp2_with fail
  refine (Fci.impl_find n0 n1 _ lo0 hi0 lo1 hi1).mono ?_
  rintro e w13 ⟨A_h0, c_h0, B_h0, d_h0, rs_h0, r2_h0, rfl, hz_h0, hy_h0, hown, hb⟩
  rw [HR.out] at hz_h0 hown
  rw [HR2.out] at hy_h0 hown
  rw [HR.out, HR2.out, HRM.out, HRB.out]
  have s13 : w11.heap.size ≤ w13.heap.size := hb.size
  replace T := T.trans (hb.mono (by omega))
  replace r_w0 := r_w0.below hb
  replace r_g0 := r_g0.below hb
  replace ba_w0 := (hb.cell (p := ⟨w1.heap.size, 0, none⟩) (by show w1.heap.size < _; omega)).trans ba_w0
  replace bb_w0 := (hb.cell (p := ⟨w1.heap.size, 1, none⟩) (by show w1.heap.size < _; omega)).trans bb_w0
  replace bc_w0 := (hb.cell (p := ⟨w1.heap.size, 2, none⟩) (by show w1.heap.size < _; omega)).trans bc_w0
  replace ba_g0 := (hb.cell (p := ⟨w4.heap.size, 0, none⟩) (by show w4.heap.size < _; omega)).trans ba_g0
  replace bb_g0 := (hb.cell (p := ⟨w4.heap.size, 1, none⟩) (by show w4.heap.size < _; omega)).trans bb_g0
  replace bc_g0 := (hb.cell (p := ⟨w4.heap.size, 2, none⟩) (by show w4.heap.size < _; omega)).trans bc_g0
  clear hb
  have r_h0 := hown
  clear hown
  have pa_w0 := (((Below.refl w13.heap.size w13).alloc (Nat.le_refl _) (.cells #[.int .i64 rm, .slice A_h0 res.length c_h0, .slice B_h0 res2.length d_h0] 26)).cell (p := ⟨w1.heap.size, 0, none⟩) (by show w1.heap.size < _; omega)).trans ba_w0
  have pb_w0 := (((Below.refl w13.heap.size w13).alloc (Nat.le_refl _) (.cells #[.int .i64 rm, .slice A_h0 res.length c_h0, .slice B_h0 res2.length d_h0] 26)).cell (p := ⟨w1.heap.size, 1, none⟩) (by show w1.heap.size < _; omega)).trans bb_w0
  have pc_w0 := (((Below.refl w13.heap.size w13).alloc (Nat.le_refl _) (.cells #[.int .i64 rm, .slice A_h0 res.length c_h0, .slice B_h0 res2.length d_h0] 26)).cell (p := ⟨w1.heap.size, 2, none⟩) (by show w1.heap.size < _; omega)).trans bc_w0
  have pa_g0 := (((Below.refl w13.heap.size w13).alloc (Nat.le_refl _) (.cells #[.int .i64 rm, .slice A_h0 res.length c_h0, .slice B_h0 res2.length d_h0] 26)).cell (p := ⟨w4.heap.size, 0, none⟩) (by show w4.heap.size < _; omega)).trans ba_g0
  have pb_g0 := (((Below.refl w13.heap.size w13).alloc (Nat.le_refl _) (.cells #[.int .i64 rm, .slice A_h0 res.length c_h0, .slice B_h0 res2.length d_h0] 26)).cell (p := ⟨w4.heap.size, 1, none⟩) (by show w4.heap.size < _; omega)).trans bb_g0
  have pc_g0 := (((Below.refl w13.heap.size w13).alloc (Nat.le_refl _) (.cells #[.int .i64 rm, .slice A_h0 res.length c_h0, .slice B_h0 res2.length d_h0] 26)).cell (p := ⟨w4.heap.size, 2, none⟩) (by show w4.heap.size < _; omega)).trans bc_g0
  go_wp2_with fail
  clear pa_w0 pb_w0 pc_w0 pa_g0 pb_g0 pc_g0
  generalize hbox : w13.alloc _ = wb_h0
  have hb : Below w13.heap.size w13 wb_h0 := by rw [← hbox]; exact (Below.refl _ _).alloc (Nat.le_refl _) _
  have sz_h0 : w13.heap.size + 1 ≤ wb_h0.heap.size := by rw [← hbox]; simp
  obtain ⟨ba_h0, bb_h0, bc_h0⟩ : wb_h0.cell? ⟨w13.heap.size, 0, none⟩ = some (.int .i64 rm) ∧ wb_h0.cell? ⟨w13.heap.size, 1, none⟩ = some (.slice A_h0 res.length c_h0) ∧ wb_h0.cell? ⟨w13.heap.size, 2, none⟩ = some (.slice B_h0 res2.length d_h0) := by rw [← hbox]; exact Cde.cell3 (heap_alloc_new _ _)
  clear hbox
  have s15 : w13.heap.size ≤ wb_h0.heap.size := hb.size
  replace T := T.trans (hb.mono (by omega))
  replace r_w0 := r_w0.below hb
  replace r_g0 := r_g0.below hb
  replace r_h0 := r_h0.below hb
  replace ba_w0 := (hb.cell (p := ⟨w1.heap.size, 0, none⟩) (by show w1.heap.size < _; omega)).trans ba_w0
  replace bb_w0 := (hb.cell (p := ⟨w1.heap.size, 1, none⟩) (by show w1.heap.size < _; omega)).trans bb_w0
  replace bc_w0 := (hb.cell (p := ⟨w1.heap.size, 2, none⟩) (by show w1.heap.size < _; omega)).trans bc_w0
  replace ba_g0 := (hb.cell (p := ⟨w4.heap.size, 0, none⟩) (by show w4.heap.size < _; omega)).trans ba_g0
  replace bb_g0 := (hb.cell (p := ⟨w4.heap.size, 1, none⟩) (by show w4.heap.size < _; omega)).trans bb_g0
  replace bc_g0 := (hb.cell (p := ⟨w4.heap.size, 2, none⟩) (by show w4.heap.size < _; omega)).trans bc_g0
  clear hb
  refine (Cde.eq_code _ _ _ _ _ _ _ _ rm A_h0 A_w0 res.length c_h0 c_w0 B_h0 B_w0 res2.length d_h0 d_w0 rs_h0 rs_w0 r2_h0 r2_w0 _ r_h0.choose_spec.1 r_w0.choose_spec.1 r_h0.choose_spec.2.1 r_w0.choose_spec.2.1 (hz_h0.trans hz_w0.symm) (hy_h0.trans hy_w0.symm) (by omega) (by omega) (fun i _ => Nat.le_trans (Rws.small_len hz_h0 HSS.out i) (by omega)) (fun i _ => Nat.le_trans (Rws.small_len hy_h0 HSS2.out i) (by omega))).mono ?_
  rintro e w15 ⟨rfl, hb⟩
  have s16 : wb_h0.heap.size ≤ w15.heap.size := hb.size
  replace T := T.trans (hb.mono (by omega))
  replace r_w0 := r_w0.below hb
  replace r_g0 := r_g0.below hb
  replace r_h0 := r_h0.below hb
  replace ba_w0 := (hb.cell (p := ⟨w1.heap.size, 0, none⟩) (by show w1.heap.size < _; omega)).trans ba_w0
  replace bb_w0 := (hb.cell (p := ⟨w1.heap.size, 1, none⟩) (by show w1.heap.size < _; omega)).trans bb_w0
  replace bc_w0 := (hb.cell (p := ⟨w1.heap.size, 2, none⟩) (by show w1.heap.size < _; omega)).trans bc_w0
  replace ba_g0 := (hb.cell (p := ⟨w4.heap.size, 0, none⟩) (by show w4.heap.size < _; omega)).trans ba_g0
  replace bb_g0 := (hb.cell (p := ⟨w4.heap.size, 1, none⟩) (by show w4.heap.size < _; omega)).trans bb_g0
  replace bc_g0 := (hb.cell (p := ⟨w4.heap.size, 2, none⟩) (by show w4.heap.size < _; omega)).trans bc_g0
  replace ba_h0 := (hb.cell (p := ⟨w13.heap.size, 0, none⟩) (by show w13.heap.size < _; omega)).trans ba_h0
  replace bb_h0 := (hb.cell (p := ⟨w13.heap.size, 1, none⟩) (by show w13.heap.size < _; omega)).trans bb_h0
  replace bc_h0 := (hb.cell (p := ⟨w13.heap.size, 2, none⟩) (by show w13.heap.size < _; omega)).trans bc_h0
  clear hb
  go_wp2_with fail
  refine (Cde.held_code wb_w0.heap.size w4.heap.size rm _ A_g0 res.length c_g0 B_g0 res2.length d_g0 rs_g0 r2_g0 _ (by omega) (by omega) (by omega) (by omega) r_g0).mono ?_
  rintro e w18 ⟨rfl, hb⟩
  have s18 : w15.heap.size ≤ w18.heap.size := hb.size
  replace T := T.trans (hb.mono (by omega))
  replace r_w0 := r_w0.below hb
  replace r_g0 := r_g0.below hb
  replace r_h0 := r_h0.below hb
  replace ba_w0 := (hb.cell (p := ⟨w1.heap.size, 0, none⟩) (by show w1.heap.size < _; omega)).trans ba_w0
  replace bb_w0 := (hb.cell (p := ⟨w1.heap.size, 1, none⟩) (by show w1.heap.size < _; omega)).trans bb_w0
  replace bc_w0 := (hb.cell (p := ⟨w1.heap.size, 2, none⟩) (by show w1.heap.size < _; omega)).trans bc_w0
  replace ba_g0 := (hb.cell (p := ⟨w4.heap.size, 0, none⟩) (by show w4.heap.size < _; omega)).trans ba_g0
  replace bb_g0 := (hb.cell (p := ⟨w4.heap.size, 1, none⟩) (by show w4.heap.size < _; omega)).trans bb_g0
  replace bc_g0 := (hb.cell (p := ⟨w4.heap.size, 2, none⟩) (by show w4.heap.size < _; omega)).trans bc_g0
  replace ba_h0 := (hb.cell (p := ⟨w13.heap.size, 0, none⟩) (by show w13.heap.size < _; omega)).trans ba_h0
  replace bb_h0 := (hb.cell (p := ⟨w13.heap.size, 1, none⟩) (by show w13.heap.size < _; omega)).trans bb_h0
  replace bc_h0 := (hb.cell (p := ⟨w13.heap.size, 2, none⟩) (by show w13.heap.size < _; omega)).trans bc_h0
  clear hb
  go_wp2
  go_ret
  exact ⟨rfl, T⟩
set_option maxRecDepth 100000 in
theorem lifted (os : Os) (started : os.Started) (H : Type) (enc : TypeId × Value → H) :
    ReturnsInHanded {} Try.checked os 8 .any (Rows.fnExactFindCodeSpec.pre6 enc Try.prog Try.f8 Rows.fnExactFindCodeRow.domain false) (Rows.fnExactFindCodeSpec.post enc Try.prog Try.f8 false true false false) := by
  refine returnsInHanded_of_change (C := Try.checked) Fr.own started (by kernel_rfl) Try.func8
    (ChangeSpec.witness6 (enc := enc) (C := Try.checked) false ⟨#[], #[.int .i64 0, .int .i64 0], []⟩ 8 (by kernel_rfl) (by kernel_rfl) (by kernel_rfl) (by kernel_rfl)) ?_
  intro W base args ds gs before hval0 hW hcnd _
  have hval : ∀ (j : Nat) t v, Try.f8.params[j]? = some t → args[j]? = some v → Value.okWide Try.prog W .any base t v := hval0
  have hW' := hW
  obtain ⟨p, q, hA0, hV, rfl, hfz, hnd⟩ := hW
  have hA : DataW.TrodAll enc Try.prog W 0 (fun _ => true) true Try.f8.params.toList args.toList ds p := hA0
  have hAk := hA
  rw [Try.params8] at hA hval
  obtain ⟨v0, v1, d0, d1, p0, p1, rfl, rfl, hp, h0, h1⟩ := trodAll_two hA
  obtain ⟨rfl, rfl⟩ := trodVars_none hV
  have hlt : ∀ x ∈ p, x.block < W.heap.size := fun x hx => by simpa using hW'.lt x (List.mem_append_left _ hx)
  obtain ⟨n0, rfl, wf0⟩ := Fr.view_int Try.underlying3 (hval 0 3 v0 rfl rfl) h0
  obtain ⟨n1, rfl, wf1⟩ := Fr.view_int Try.underlying3 (hval 1 3 v1 rfl rfl) h1
  clear hA0 hval0
  refine (walk n0 n1 W wf0 wf1).mono fun e W' ⟨he, hb⟩ => ?_
  subst he
  exact ⟨_, rfl, _, _, _, [], p, [], hW', trodAll_mk1 (shut_bool Try.underlying4 _), Fr.below_all Fr.laidOut hb _ _ _ _ (Fr.readB_all (by kernel_rfl)) hAk hlt, rfl, hb.frame _, fun h => by cases h⟩

theorem proved : Rows.FnExactFindCodeSaid :=
  OpenClaim.holds_of_wide 8 Try.f8 rfl rfl rfl rfl rfl rfl rfl ⟨rfl, rfl, rfl, rfl, rfl⟩ rfl rfl rfl rfl rfl (by kernel_rfl) Try.func8 (by kernel_rfl)
    (of_decide_eq_true (by kernel_rfl)) (by unfold Func.isWrapper; first | (rw [if_pos (by decide +kernel)]; kernel_rfl) | (rw [if_neg (by decide +kernel)]; exact ⟨rfl, rfl⟩))
    (fun os started H enc _ => lifted os started H enc)

end Go.Proofs.Ytingbpkbdafgeaa.LawFindCode
