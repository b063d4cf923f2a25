/- The law of CutStack holds: for every argument the program's CutStack answers as its model does, changes no argument, and shares no memory. No condition. -/
import Derived.Deep.RegionHeld3
import Derived.Deep.RegionWith
import Derived.BigQuiet
import Derived.Test.YtkonakfbidnfhaaSkl
import Derived.Test.YtkonakfbidnfhaaSkk
import Derived.Test.YtkonakfbidnfhaaStk
import Derived.Test.YtkonakfbidnfhaaPkt
import Derived.Test.YtkonakfbidnfhaaFrame
set_option linter.unusedVariables false
namespace Go.Proofs.Ytkonakfbidnfhaa.LawCutStack
open Go.ChangeShapes Go.WideShapes Go.ChangeAt Go.RowKit Fr _root_.Go.Proofs.Ytkonakfbidnfhaa.Own

set_option maxHeartbeats 4000000 in
theorem walk (A0 : Option Addr) (n0 c0 : Nat) (l0 : List Int) (m0 : Int) (n1 : Int) (w : World) (hn0 : l0.length = n0) (hm0 : n0 ≤ maxLen) (hs0 : ∀ z ∈ l0, (Lit.int .i64 z).wf = true) (wm0 : (Lit.int .i64 m0).wf = true) (ha0 : IntsAt w w.heap.size .i64 A0 l0) (wf1 : (Lit.int .i64 n1).wf = true) :
    Calls Try.prog 11 #[Stk.stV A0 n0 c0 m0, .int .i64 n1] w fun e w' => e = .returned (.bool true) ∧ Below w.heap.size w w' := by
  have hx0 : n0 ≤ 9223372036854775807 := by unfold maxLen at hm0; omega
  have hz0 := Ins.fits_of hs0
  obtain ⟨mlo0, mhi0⟩ := Ins.wf_lo wm0
  clear wm0
  have HN0 := Lib.hid hn0
  clear hn0 hm0 hs0
  obtain ⟨lo1, hi1⟩ := Ins.wf_lo wf1
  clear wf1
  by_cases hg0 : n0 ≤ 1048576
  · have hk0 : decide ((1048576 : Int) < (n0 : Int)) = false := decide_eq_false (by omega)
    obtain ⟨res, hres⟩ : ∃ r, r = Skp.cutS l0 m0 n1 := ⟨_, rfl⟩
    have hlen : res.length ≤ 1048576 := by rw [hres]; exact Skp.cut_short l0 m0 n1
    have HR := Lib.hid hres.symm
    clear hres
    obtain ⟨rm, hrm⟩ : ∃ r, r = Skp.cutM l0 m0 n1 := ⟨_, rfl⟩
    have HRM := Lib.hid hrm.symm
    clear hrm
    obtain ⟨rb, hrb⟩ : ∃ r, r = Skp.cutB l0 m0 n1 := ⟨_, rfl⟩
    have HRB := Lib.hid hrb.symm
    clear hrb
    have T : Below w.heap.size w w := Below.refl _ w
    have f0 := ha0
    clear ha0
    go_enter Try.func11, Try.ntmps11
    go_wp2_with fail
    generalize hbox : w.alloc _ = wb_param
    have hb : Below w.heap.size w wb_param := by rw [← hbox]; exact (Below.refl _ _).alloc (Nat.le_refl _) _
    have sz_param : w.heap.size + 1 ≤ wb_param.heap.size := by rw [← hbox]; simp
    obtain ⟨ba_param, bb_param⟩ : wb_param.cell? ⟨w.heap.size, 0, none⟩ = some (.slice A0 n0 c0) ∧ wb_param.cell? ⟨w.heap.size, 1, none⟩ = some (.int .i64 m0) := by rw [← hbox]; exact Stk.cell2 (heap_alloc_new _ _)
    clear hbox
    have s0 : w.heap.size ≤ wb_param.heap.size := hb.size
    replace T := T.trans (hb.mono (by omega))
    replace f0 := Ins.at_below f0 hb (by omega)
    clear hb
    refine (Stk.sz_stack A0 n0 c0 m0 1048576 _ hx0 (by omega) (by omega)).mono ?_
    rintro e w2 ⟨rfl, hb⟩
    rw [if_pos (show (n0 : Int) ≤ 1048576 by omega)]
    have hz_0 : decide ((1048576 : Int) - (n0 : Int) < 0) = false := decide_eq_false (by omega)
    have s2 : wb_param.heap.size ≤ w2.heap.size := hb.size
    replace T := T.trans (hb.mono (by omega))
    replace f0 := Ins.at_below f0 hb (by omega)
    replace ba_param := (hb.cell (p := ⟨w.heap.size, 0, none⟩) (by show w.heap.size < _; omega)).trans ba_param
    replace bb_param := (hb.cell (p := ⟨w.heap.size, 1, none⟩) (by show w.heap.size < _; omega)).trans bb_param
    clear hb
    go_wp2_with fail
    refine (Stk.to_stack A0 n0 c0 l0 m0 _ HN0.out hg0 (f0.more T.size)).mono ?_
    rintro e w4 ⟨g_t1, rfl, hown, hb⟩
    rw [HN0.out] at hown
    rw [HN0.out]
    have s4 : w2.heap.size ≤ w4.heap.size := hb.size
    replace T := T.trans (hb.mono (by omega))
    replace f0 := Ins.at_below f0 hb (by omega)
    replace ba_param := (hb.cell (p := ⟨w.heap.size, 0, none⟩) (by show w.heap.size < _; omega)).trans ba_param
    replace bb_param := (hb.cell (p := ⟨w.heap.size, 1, none⟩) (by show w.heap.size < _; omega)).trans bb_param
    clear hb
    have r_t1 := Ins.Row.mk hown
    clear hown
    go_wp2_with fail
    refine (Skl.spec_cut (some ⟨g_t1, 0, none⟩) n0 n0 l0 m0 n1 _ HN0.out (Nat.le_refl _) (by omega) hz0 r_t1.at_ lo1 hi1).mono ?_
    rintro e w6 ⟨A_w0, c_w0, rfl, hown, hb⟩
    rw [HR.out] at hown
    rw [HR.out, HRM.out, HRB.out]
    have s6 : w4.heap.size ≤ w6.heap.size := hb.size
    replace T := T.trans (hb.mono (by omega))
    replace f0 := Ins.at_below f0 hb (by omega)
    replace r_t1 := r_t1.below hb
    replace ba_param := (hb.cell (p := ⟨w.heap.size, 0, none⟩) (by show w.heap.size < _; omega)).trans ba_param
    replace bb_param := (hb.cell (p := ⟨w.heap.size, 1, none⟩) (by show w.heap.size < _; omega)).trans bb_param
    clear hb
    have r_w0 := Ins.Row.mk hown
    clear hown
    have pa_param := (((Below.refl w6.heap.size w6).alloc (Nat.le_refl _) (.cells #[.slice A_w0 res.length c_w0, .int .i64 rm] 25)).cell (p := ⟨w.heap.size, 0, none⟩) (by show w.heap.size < _; omega)).trans ba_param
    have pb_param := (((Below.refl w6.heap.size w6).alloc (Nat.le_refl _) (.cells #[.slice A_w0 res.length c_w0, .int .i64 rm] 25)).cell (p := ⟨w.heap.size, 1, none⟩) (by show w.heap.size < _; omega)).trans bb_param
    go_wp2_with fail
    clear pa_param pb_param
    generalize hbox : w6.alloc _ = wb_w0
    have hb : Below w6.heap.size w6 wb_w0 := by rw [← hbox]; exact (Below.refl _ _).alloc (Nat.le_refl _) _
    have sz_w0 : w6.heap.size + 1 ≤ wb_w0.heap.size := by rw [← hbox]; simp
    obtain ⟨ba_w0, bb_w0⟩ : wb_w0.cell? ⟨w6.heap.size, 0, none⟩ = some (.slice A_w0 res.length c_w0) ∧ wb_w0.cell? ⟨w6.heap.size, 1, none⟩ = some (.int .i64 rm) := by rw [← hbox]; exact Stk.cell2 (heap_alloc_new _ _)
    clear hbox
    have s8 : w6.heap.size ≤ wb_w0.heap.size := hb.size
    replace T := T.trans (hb.mono (by omega))
    replace f0 := Ins.at_below f0 hb (by omega)
    replace r_t1 := r_t1.below hb
    replace r_w0 := r_w0.below hb
    replace ba_param := (hb.cell (p := ⟨w.heap.size, 0, none⟩) (by show w.heap.size < _; omega)).trans ba_param
    replace bb_param := (hb.cell (p := ⟨w.heap.size, 1, none⟩) (by show w.heap.size < _; omega)).trans bb_param
    clear hb
    refine (Stk.to_stack A0 n0 c0 l0 m0 _ HN0.out hg0 (f0.more T.size)).mono ?_
    rintro e w8 ⟨g_x0, rfl, hown, hb⟩
    rw [HN0.out] at hown
    rw [HN0.out]
    have s9 : wb_w0.heap.size ≤ w8.heap.size := hb.size
    replace T := T.trans (hb.mono (by omega))
    replace f0 := Ins.at_below f0 hb (by omega)
    replace r_t1 := r_t1.below hb
    replace r_w0 := r_w0.below hb
    replace ba_param := (hb.cell (p := ⟨w.heap.size, 0, none⟩) (by show w.heap.size < _; omega)).trans ba_param
    replace bb_param := (hb.cell (p := ⟨w.heap.size, 1, none⟩) (by show w.heap.size < _; omega)).trans bb_param
    replace ba_w0 := (hb.cell (p := ⟨w6.heap.size, 0, none⟩) (by show w6.heap.size < _; omega)).trans ba_w0
    replace bb_w0 := (hb.cell (p := ⟨w6.heap.size, 1, none⟩) (by show w6.heap.size < _; omega)).trans bb_w0
    clear hb
    have r_x0 := Ins.Row.mk hown
    clear hown
    have pa_param := (((Below.refl w8.heap.size w8).alloc (Nat.le_refl _) (.cells #[.slice (some ⟨g_x0, 0, none⟩) n0 n0, .int .i64 m0] 25)).cell (p := ⟨w.heap.size, 0, none⟩) (by show w.heap.size < _; omega)).trans ba_param
    have pb_param := (((Below.refl w8.heap.size w8).alloc (Nat.le_refl _) (.cells #[.slice (some ⟨g_x0, 0, none⟩) n0 n0, .int .i64 m0] 25)).cell (p := ⟨w.heap.size, 1, none⟩) (by show w.heap.size < _; omega)).trans bb_param
    have pa_w0 := (((Below.refl w8.heap.size w8).alloc (Nat.le_refl _) (.cells #[.slice (some ⟨g_x0, 0, none⟩) n0 n0, .int .i64 m0] 25)).cell (p := ⟨w6.heap.size, 0, none⟩) (by show w6.heap.size < _; omega)).trans ba_w0
    have pb_w0 := (((Below.refl w8.heap.size w8).alloc (Nat.le_refl _) (.cells #[.slice (some ⟨g_x0, 0, none⟩) n0 n0, .int .i64 m0] 25)).cell (p := ⟨w6.heap.size, 1, none⟩) (by show w6.heap.size < _; omega)).trans bb_w0
    go_wp2_with fail
    clear pa_param pb_param pa_w0 pb_w0
    generalize hbox : w8.alloc _ = wb_x0
    have hb : Below w8.heap.size w8 wb_x0 := by rw [← hbox]; exact (Below.refl _ _).alloc (Nat.le_refl _) _
    have sz_x0 : w8.heap.size + 1 ≤ wb_x0.heap.size := by rw [← hbox]; simp
    obtain ⟨ba_x0, bb_x0⟩ : wb_x0.cell? ⟨w8.heap.size, 0, none⟩ = some (.slice (some ⟨g_x0, 0, none⟩) n0 n0) ∧ wb_x0.cell? ⟨w8.heap.size, 1, none⟩ = some (.int .i64 m0) := by rw [← hbox]; exact Stk.cell2 (heap_alloc_new _ _)
    clear hbox
    have s10 : w8.heap.size ≤ wb_x0.heap.size := hb.size
    replace T := T.trans (hb.mono (by omega))
    replace f0 := Ins.at_below f0 hb (by omega)
    replace r_t1 := r_t1.below hb
    replace r_w0 := r_w0.below hb
    replace r_x0 := r_x0.below hb
    replace ba_param := (hb.cell (p := ⟨w.heap.size, 0, none⟩) (by show w.heap.size < _; omega)).trans ba_param
    replace bb_param := (hb.cell (p := ⟨w.heap.size, 1, none⟩) (by show w.heap.size < _; omega)).trans bb_param
    replace ba_w0 := (hb.cell (p := ⟨w6.heap.size, 0, none⟩) (by show w6.heap.size < _; omega)).trans ba_w0
    replace bb_w0 := (hb.cell (p := ⟨w6.heap.size, 1, none⟩) (by show w6.heap.size < _; omega)).trans bb_w0
    clear hb
    refine (Skk.impl_cut (some ⟨g_x0, 0, none⟩) n0 n0 l0 m0 n1 _ HN0.out (Nat.le_refl _) (by omega) hz0 r_x0.at_ lo1 hi1).mono ?_
    rintro e w12 ⟨A_g0, c_g0, rfl, hown, hb⟩
    rw [HR.out] at hown
    rw [HR.out, HRM.out, HRB.out]
    have s12 : wb_x0.heap.size ≤ w12.heap.size := hb.size
    replace T := T.trans (hb.mono (by omega))
    replace f0 := Ins.at_below f0 hb (by omega)
    replace r_t1 := r_t1.below hb
    replace r_w0 := r_w0.below hb
    replace r_x0 := r_x0.below hb
    replace ba_param := (hb.cell (p := ⟨w.heap.size, 0, none⟩) (by show w.heap.size < _; omega)).trans ba_param
    replace bb_param := (hb.cell (p := ⟨w.heap.size, 1, none⟩) (by show w.heap.size < _; omega)).trans bb_param
    replace ba_w0 := (hb.cell (p := ⟨w6.heap.size, 0, none⟩) (by show w6.heap.size < _; omega)).trans ba_w0
    replace bb_w0 := (hb.cell (p := ⟨w6.heap.size, 1, none⟩) (by show w6.heap.size < _; omega)).trans bb_w0
    replace ba_x0 := (hb.cell (p := ⟨w8.heap.size, 0, none⟩) (by show w8.heap.size < _; omega)).trans ba_x0
    replace bb_x0 := (hb.cell (p := ⟨w8.heap.size, 1, none⟩) (by show w8.heap.size < _; omega)).trans bb_x0
    clear hb
    have r_g0 := Ins.Row.mk hown
    clear hown
    have pa_param := (((Below.refl w12.heap.size w12).alloc (Nat.le_refl _) (.cells #[.slice A_g0 res.length c_g0, .int .i64 rm] 25)).cell (p := ⟨w.heap.size, 0, none⟩) (by show w.heap.size < _; omega)).trans ba_param
    have pb_param := (((Below.refl w12.heap.size w12).alloc (Nat.le_refl _) (.cells #[.slice A_g0 res.length c_g0, .int .i64 rm] 25)).cell (p := ⟨w.heap.size, 1, none⟩) (by show w.heap.size < _; omega)).trans bb_param
    have pa_w0 := (((Below.refl w12.heap.size w12).alloc (Nat.le_refl _) (.cells #[.slice A_g0 res.length c_g0, .int .i64 rm] 25)).cell (p := ⟨w6.heap.size, 0, none⟩) (by show w6.heap.size < _; omega)).trans ba_w0
    have pb_w0 := (((Below.refl w12.heap.size w12).alloc (Nat.le_refl _) (.cells #[.slice A_g0 res.length c_g0, .int .i64 rm] 25)).cell (p := ⟨w6.heap.size, 1, none⟩) (by show w6.heap.size < _; omega)).trans bb_w0
    have pa_x0 := (((Below.refl w12.heap.size w12).alloc (Nat.le_refl _) (.cells #[.slice A_g0 res.length c_g0, .int .i64 rm] 25)).cell (p := ⟨w8.heap.size, 0, none⟩) (by show w8.heap.size < _; omega)).trans ba_x0
    have pb_x0 := (((Below.refl w12.heap.size w12).alloc (Nat.le_refl _) (.cells #[.slice A_g0 res.length c_g0, .int .i64 rm] 25)).cell (p := ⟨w8.heap.size, 1, none⟩) (by show w8.heap.size < _; omega)).trans bb_x0
    go_wp2_with fail
    clear pa_param pb_param pa_w0 pb_w0 pa_x0 pb_x0
    generalize hbox : w12.alloc _ = wb_g0
    have hb : Below w12.heap.size w12 wb_g0 := by rw [← hbox]; exact (Below.refl _ _).alloc (Nat.le_refl _) _
    have sz_g0 : w12.heap.size + 1 ≤ wb_g0.heap.size := by rw [← hbox]; simp
    obtain ⟨ba_g0, bb_g0⟩ : wb_g0.cell? ⟨w12.heap.size, 0, none⟩ = some (.slice A_g0 res.length c_g0) ∧ wb_g0.cell? ⟨w12.heap.size, 1, none⟩ = some (.int .i64 rm) := by rw [← hbox]; exact Stk.cell2 (heap_alloc_new _ _)
    clear hbox
    have s14 : w12.heap.size ≤ wb_g0.heap.size := hb.size
    replace T := T.trans (hb.mono (by omega))
    replace f0 := Ins.at_below f0 hb (by omega)
    replace r_t1 := r_t1.below hb
    replace r_w0 := r_w0.below hb
    replace r_x0 := r_x0.below hb
    replace r_g0 := r_g0.below hb
    replace ba_param := (hb.cell (p := ⟨w.heap.size, 0, none⟩) (by show w.heap.size < _; omega)).trans ba_param
    replace bb_param := (hb.cell (p := ⟨w.heap.size, 1, none⟩) (by show w.heap.size < _; omega)).trans bb_param
    replace ba_w0 := (hb.cell (p := ⟨w6.heap.size, 0, none⟩) (by show w6.heap.size < _; omega)).trans ba_w0
    replace bb_w0 := (hb.cell (p := ⟨w6.heap.size, 1, none⟩) (by show w6.heap.size < _; omega)).trans bb_w0
    replace ba_x0 := (hb.cell (p := ⟨w8.heap.size, 0, none⟩) (by show w8.heap.size < _; omega)).trans ba_x0
    replace bb_x0 := (hb.cell (p := ⟨w8.heap.size, 1, none⟩) (by show w8.heap.size < _; omega)).trans bb_x0
    clear hb
    refine (Stk.eq_stack A_g0 A_w0 res.length c_g0 c_w0 res rm _ rfl (by omega) r_g0.at_ r_w0.at_).mono ?_
    rintro e w14 ⟨rfl, hb⟩
    have s15 : wb_g0.heap.size ≤ w14.heap.size := hb.size
    replace T := T.trans (hb.mono (by omega))
    replace f0 := Ins.at_below f0 hb (by omega)
    replace r_t1 := r_t1.below hb
    replace r_w0 := r_w0.below hb
    replace r_x0 := r_x0.below hb
    replace r_g0 := r_g0.below hb
    replace ba_param := (hb.cell (p := ⟨w.heap.size, 0, none⟩) (by show w.heap.size < _; omega)).trans ba_param
    replace bb_param := (hb.cell (p := ⟨w.heap.size, 1, none⟩) (by show w.heap.size < _; omega)).trans bb_param
    replace ba_w0 := (hb.cell (p := ⟨w6.heap.size, 0, none⟩) (by show w6.heap.size < _; omega)).trans ba_w0
    replace bb_w0 := (hb.cell (p := ⟨w6.heap.size, 1, none⟩) (by show w6.heap.size < _; omega)).trans bb_w0
    replace ba_x0 := (hb.cell (p := ⟨w8.heap.size, 0, none⟩) (by show w8.heap.size < _; omega)).trans ba_x0
    replace bb_x0 := (hb.cell (p := ⟨w8.heap.size, 1, none⟩) (by show w8.heap.size < _; omega)).trans bb_x0
    replace ba_g0 := (hb.cell (p := ⟨w12.heap.size, 0, none⟩) (by show w12.heap.size < _; omega)).trans ba_g0
    replace bb_g0 := (hb.cell (p := ⟨w12.heap.size, 1, none⟩) (by show w12.heap.size < _; omega)).trans bb_g0
    clear hb
    have hb := (Below.refl w14.heap.size w14).drew
    have s16 : w14.heap.size ≤ w14.drew.heap.size := hb.size
    replace T := T.trans (hb.mono (by omega))
    replace f0 := Ins.at_below f0 hb (by omega)
    replace r_t1 := r_t1.below hb
    replace r_w0 := r_w0.below hb
    replace r_x0 := r_x0.below hb
    replace r_g0 := r_g0.below hb
    replace ba_param := (hb.cell (p := ⟨w.heap.size, 0, none⟩) (by show w.heap.size < _; omega)).trans ba_param
    replace bb_param := (hb.cell (p := ⟨w.heap.size, 1, none⟩) (by show w.heap.size < _; omega)).trans bb_param
    replace ba_w0 := (hb.cell (p := ⟨w6.heap.size, 0, none⟩) (by show w6.heap.size < _; omega)).trans ba_w0
    replace bb_w0 := (hb.cell (p := ⟨w6.heap.size, 1, none⟩) (by show w6.heap.size < _; omega)).trans bb_w0
    replace ba_x0 := (hb.cell (p := ⟨w8.heap.size, 0, none⟩) (by show w8.heap.size < _; omega)).trans ba_x0
    replace bb_x0 := (hb.cell (p := ⟨w8.heap.size, 1, none⟩) (by show w8.heap.size < _; omega)).trans bb_x0
    replace ba_g0 := (hb.cell (p := ⟨w12.heap.size, 0, none⟩) (by show w12.heap.size < _; omega)).trans ba_g0
    replace bb_g0 := (hb.cell (p := ⟨w12.heap.size, 1, none⟩) (by show w12.heap.size < _; omega)).trans bb_g0
    clear hb
    go_wp2_with fail
    go_region_held3 (fun w' => w'.cell? ⟨w.heap.size, 0, none⟩ = some (.slice A0 n0 c0) ∧ w'.cell? ⟨w.heap.size, 1, none⟩ = some (.int .i64 m0) ∧ w'.cell? ⟨w6.heap.size, 0, none⟩ = some (.slice A_w0 res.length c_w0) ∧ w'.cell? ⟨w6.heap.size, 1, none⟩ = some (.int .i64 rm) ∧ w'.cell? ⟨w8.heap.size, 0, none⟩ = some (.slice (some ⟨g_x0, 0, none⟩) n0 n0) ∧ w'.cell? ⟨w8.heap.size, 1, none⟩ = some (.int .i64 m0) ∧ w'.cell? ⟨w12.heap.size, 0, none⟩ = some (.slice A_g0 res.length c_g0) ∧ w'.cell? ⟨w12.heap.size, 1, none⟩ = some (.int .i64 rm)) ((first | exact ⟨ba_param, bb_param, ba_w0, bb_w0, ba_x0, bb_x0, ba_g0, bb_g0⟩)) ((first | (go_at_call 23; refine (Stk.to_stack A0 n0 c0 l0 m0 _ HN0.out hg0 (f0.more T.size)).mono ?_; rintro e w18 ⟨g_t2, rfl, hown, hb⟩; rw [HN0.out] at hown; rw [HN0.out]; have s18 : w14.drew.heap.size ≤ w18.heap.size := hb.size; replace T := T.trans (hb.mono (by omega)); replace f0 := Ins.at_below f0 hb (by omega); replace r_t1 := r_t1.below hb; replace r_w0 := r_w0.below hb; replace r_x0 := r_x0.below hb; replace r_g0 := r_g0.below hb; replace ba_param := (hb.cell (p := ⟨w.heap.size, 0, none⟩) (by show w.heap.size < _; omega)).trans ba_param; replace bb_param := (hb.cell (p := ⟨w.heap.size, 1, none⟩) (by show w.heap.size < _; omega)).trans bb_param; replace ba_w0 := (hb.cell (p := ⟨w6.heap.size, 0, none⟩) (by show w6.heap.size < _; omega)).trans ba_w0; replace bb_w0 := (hb.cell (p := ⟨w6.heap.size, 1, none⟩) (by show w6.heap.size < _; omega)).trans bb_w0; replace ba_x0 := (hb.cell (p := ⟨w8.heap.size, 0, none⟩) (by show w8.heap.size < _; omega)).trans ba_x0; replace bb_x0 := (hb.cell (p := ⟨w8.heap.size, 1, none⟩) (by show w8.heap.size < _; omega)).trans bb_x0; replace ba_g0 := (hb.cell (p := ⟨w12.heap.size, 0, none⟩) (by show w12.heap.size < _; omega)).trans ba_g0; replace bb_g0 := (hb.cell (p := ⟨w12.heap.size, 1, none⟩) (by show w12.heap.size < _; omega)).trans bb_g0; clear hb; have r_t2 := Ins.Row.mk hown; clear hown) | (go_at_call 24; refine (Stk.eq_stack (some ⟨g_x0, 0, none⟩) (some ⟨g_t2, 0, none⟩) n0 n0 n0 l0 m0 _ HN0.out (by omega) r_x0.at_ r_t2.at_).mono ?_; rintro e w20 ⟨rfl, hb⟩; have s20 : w18.heap.size ≤ w20.heap.size := hb.size; replace T := T.trans (hb.mono (by omega)); replace f0 := Ins.at_below f0 hb (by omega); replace r_t1 := r_t1.below hb; replace r_w0 := r_w0.below hb; replace r_x0 := r_x0.below hb; replace r_g0 := r_g0.below hb; replace r_t2 := r_t2.below hb; replace ba_param := (hb.cell (p := ⟨w.heap.size, 0, none⟩) (by show w.heap.size < _; omega)).trans ba_param; replace bb_param := (hb.cell (p := ⟨w.heap.size, 1, none⟩) (by show w.heap.size < _; omega)).trans bb_param; replace ba_w0 := (hb.cell (p := ⟨w6.heap.size, 0, none⟩) (by show w6.heap.size < _; omega)).trans ba_w0; replace bb_w0 := (hb.cell (p := ⟨w6.heap.size, 1, none⟩) (by show w6.heap.size < _; omega)).trans bb_w0; replace ba_x0 := (hb.cell (p := ⟨w8.heap.size, 0, none⟩) (by show w8.heap.size < _; omega)).trans ba_x0; replace bb_x0 := (hb.cell (p := ⟨w8.heap.size, 1, none⟩) (by show w8.heap.size < _; omega)).trans bb_x0; replace ba_g0 := (hb.cell (p := ⟨w12.heap.size, 0, none⟩) (by show w12.heap.size < _; omega)).trans ba_g0; replace bb_g0 := (hb.cell (p := ⟨w12.heap.size, 1, none⟩) (by show w12.heap.size < _; omega)).trans bb_g0; clear hb)))
    go_wp2_with fail
    refine (Stk.mark_stack _ _ n0 (some ⟨g_x0, 0, none⟩) n0 m0 _ _ (by omega) (by omega) r_x0.own).mono ?_
    rintro e w22 ⟨rfl, ho, hgr⟩
    have s22 : w20.heap.size ≤ w22.heap.size := hgr.size
    replace T := T.grown hgr (by omega) (fun k hk => by have h1 := r_x0.lo k hk; omega)
    replace f0 := Ins.at_grown f0 hgr (by omega) (fun k hk => by have h1 := r_x0.lo k hk; omega)
    replace r_t1 := r_t1.grown hgr (fun k hk => by have h1 := r_x0.lo k hk; have h2 := r_x0.hi k hk; omega)
    replace r_w0 := r_w0.grown hgr (fun k hk => by have h1 := r_x0.lo k hk; have h2 := r_x0.hi k hk; omega)
    replace r_g0 := r_g0.grown hgr (fun k hk => by have h1 := r_x0.lo k hk; have h2 := r_x0.hi k hk; omega)
    replace r_t2 := r_t2.grown hgr (fun k hk => by have h1 := r_x0.lo k hk; have h2 := r_x0.hi k hk; omega)
    replace ba_param := hgr.cell ba_param (fun e => by have h1 := r_x0.lo _ e.symm; have h2 := r_x0.hi _ e.symm; simp only at h1 h2; omega)
    replace bb_param := hgr.cell bb_param (fun e => by have h1 := r_x0.lo _ e.symm; have h2 := r_x0.hi _ e.symm; simp only at h1 h2; omega)
    replace ba_w0 := hgr.cell ba_w0 (fun e => by have h1 := r_x0.lo _ e.symm; have h2 := r_x0.hi _ e.symm; simp only at h1 h2; omega)
    replace bb_w0 := hgr.cell bb_w0 (fun e => by have h1 := r_x0.lo _ e.symm; have h2 := r_x0.hi _ e.symm; simp only at h1 h2; omega)
    replace ba_x0 := hgr.cell ba_x0 (fun e => by have h1 := r_x0.lo _ e.symm; have h2 := r_x0.hi _ e.symm; simp only at h1 h2; omega)
    replace bb_x0 := hgr.cell bb_x0 (fun e => by have h1 := r_x0.lo _ e.symm; have h2 := r_x0.hi _ e.symm; simp only at h1 h2; omega)
    replace ba_g0 := hgr.cell ba_g0 (fun e => by have h1 := r_x0.lo _ e.symm; have h2 := r_x0.hi _ e.symm; simp only at h1 h2; omega)
    replace bb_g0 := hgr.cell bb_g0 (fun e => by have h1 := r_x0.lo _ e.symm; have h2 := r_x0.hi _ e.symm; simp only at h1 h2; omega)
    replace r_x0 := r_x0.marked ho hgr
    clear ho hgr
    go_wp2_with fail
    refine (Stk.eq_stack A_g0 A_w0 res.length c_g0 c_w0 res rm _ rfl (by omega) r_g0.at_ r_w0.at_).mono ?_
    rintro e w24 ⟨rfl, hb⟩
    have s24 : w22.heap.size ≤ w24.heap.size := hb.size
    replace T := T.trans (hb.mono (by omega))
    replace f0 := Ins.at_below f0 hb (by omega)
    replace r_t1 := r_t1.below hb
    replace r_w0 := r_w0.below hb
    replace r_x0 := r_x0.below hb
    replace r_g0 := r_g0.below hb
    replace r_t2 := r_t2.below hb
    replace ba_param := (hb.cell (p := ⟨w.heap.size, 0, none⟩) (by show w.heap.size < _; omega)).trans ba_param
    replace bb_param := (hb.cell (p := ⟨w.heap.size, 1, none⟩) (by show w.heap.size < _; omega)).trans bb_param
    replace ba_w0 := (hb.cell (p := ⟨w6.heap.size, 0, none⟩) (by show w6.heap.size < _; omega)).trans ba_w0
    replace bb_w0 := (hb.cell (p := ⟨w6.heap.size, 1, none⟩) (by show w6.heap.size < _; omega)).trans bb_w0
    replace ba_x0 := (hb.cell (p := ⟨w8.heap.size, 0, none⟩) (by show w8.heap.size < _; omega)).trans ba_x0
    replace bb_x0 := (hb.cell (p := ⟨w8.heap.size, 1, none⟩) (by show w8.heap.size < _; omega)).trans bb_x0
    replace ba_g0 := (hb.cell (p := ⟨w12.heap.size, 0, none⟩) (by show w12.heap.size < _; omega)).trans ba_g0
    replace bb_g0 := (hb.cell (p := ⟨w12.heap.size, 1, none⟩) (by show w12.heap.size < _; omega)).trans bb_g0
    clear hb
    go_wp2_with fail
    refine (Stk.mark_stack _ _ res.length A_g0 c_g0 rm _ _ (by omega) (by omega) r_g0.own).mono ?_
    rintro e w26 ⟨rfl, ho, hgr⟩
    have s26 : w24.heap.size ≤ w26.heap.size := hgr.size
    replace T := T.grown hgr (by omega) (fun k hk => by have h1 := r_g0.lo k hk; omega)
    replace f0 := Ins.at_grown f0 hgr (by omega) (fun k hk => by have h1 := r_g0.lo k hk; omega)
    replace r_t1 := r_t1.grown hgr (fun k hk => by have h1 := r_g0.lo k hk; have h2 := r_g0.hi k hk; omega)
    replace r_w0 := r_w0.grown hgr (fun k hk => by have h1 := r_g0.lo k hk; have h2 := r_g0.hi k hk; omega)
    replace r_x0 := r_x0.grown hgr (fun k hk => by have h1 := r_g0.lo k hk; have h2 := r_g0.hi k hk; omega)
    replace r_t2 := r_t2.grown hgr (fun k hk => by have h1 := r_g0.lo k hk; have h2 := r_g0.hi k hk; omega)
    replace ba_param := hgr.cell ba_param (fun e => by have h1 := r_g0.lo _ e.symm; have h2 := r_g0.hi _ e.symm; simp only at h1 h2; omega)
    replace bb_param := hgr.cell bb_param (fun e => by have h1 := r_g0.lo _ e.symm; have h2 := r_g0.hi _ e.symm; simp only at h1 h2; omega)
    replace ba_w0 := hgr.cell ba_w0 (fun e => by have h1 := r_g0.lo _ e.symm; have h2 := r_g0.hi _ e.symm; simp only at h1 h2; omega)
    replace bb_w0 := hgr.cell bb_w0 (fun e => by have h1 := r_g0.lo _ e.symm; have h2 := r_g0.hi _ e.symm; simp only at h1 h2; omega)
    replace ba_x0 := hgr.cell ba_x0 (fun e => by have h1 := r_g0.lo _ e.symm; have h2 := r_g0.hi _ e.symm; simp only at h1 h2; omega)
    replace bb_x0 := hgr.cell bb_x0 (fun e => by have h1 := r_g0.lo _ e.symm; have h2 := r_g0.hi _ e.symm; simp only at h1 h2; omega)
    replace ba_g0 := hgr.cell ba_g0 (fun e => by have h1 := r_g0.lo _ e.symm; have h2 := r_g0.hi _ e.symm; simp only at h1 h2; omega)
    replace bb_g0 := hgr.cell bb_g0 (fun e => by have h1 := r_g0.lo _ e.symm; have h2 := r_g0.hi _ e.symm; simp only at h1 h2; omega)
    replace r_g0 := r_g0.marked ho hgr
    clear ho hgr
    go_wp2_with fail
    refine (Stk.held_stack _ res.length c_g0 A_g0 rm _ (by omega) (by omega) r_g0.at_).mono ?_
    rintro e w28 ⟨rfl, hb⟩
    have s28 : w26.heap.size ≤ w28.heap.size := hb.size
    replace T := T.trans (hb.mono (by omega))
    replace f0 := Ins.at_below f0 hb (by omega)
    replace r_t1 := r_t1.below hb
    replace r_w0 := r_w0.below hb
    replace r_x0 := r_x0.below hb
    replace r_g0 := r_g0.below hb
    replace r_t2 := r_t2.below hb
    replace ba_param := (hb.cell (p := ⟨w.heap.size, 0, none⟩) (by show w.heap.size < _; omega)).trans ba_param
    replace bb_param := (hb.cell (p := ⟨w.heap.size, 1, none⟩) (by show w.heap.size < _; omega)).trans bb_param
    replace ba_w0 := (hb.cell (p := ⟨w6.heap.size, 0, none⟩) (by show w6.heap.size < _; omega)).trans ba_w0
    replace bb_w0 := (hb.cell (p := ⟨w6.heap.size, 1, none⟩) (by show w6.heap.size < _; omega)).trans bb_w0
    replace ba_x0 := (hb.cell (p := ⟨w8.heap.size, 0, none⟩) (by show w8.heap.size < _; omega)).trans ba_x0
    replace bb_x0 := (hb.cell (p := ⟨w8.heap.size, 1, none⟩) (by show w8.heap.size < _; omega)).trans bb_x0
    replace ba_g0 := (hb.cell (p := ⟨w12.heap.size, 0, none⟩) (by show w12.heap.size < _; omega)).trans ba_g0
    replace bb_g0 := (hb.cell (p := ⟨w12.heap.size, 1, none⟩) (by show w12.heap.size < _; omega)).trans bb_g0
    clear hb
    go_wp2_with fail
    refine (Stk.to_stack A0 n0 c0 l0 m0 _ HN0.out hg0 (f0.more T.size)).mono ?_
    rintro e w30 ⟨g_t3, rfl, hown, hb⟩
    rw [HN0.out] at hown
    rw [HN0.out]
    have s30 : w28.heap.size ≤ w30.heap.size := hb.size
    replace T := T.trans (hb.mono (by omega))
    replace f0 := Ins.at_below f0 hb (by omega)
    replace r_t1 := r_t1.below hb
    replace r_w0 := r_w0.below hb
    replace r_x0 := r_x0.below hb
    replace r_g0 := r_g0.below hb
    replace r_t2 := r_t2.below hb
    replace ba_param := (hb.cell (p := ⟨w.heap.size, 0, none⟩) (by show w.heap.size < _; omega)).trans ba_param
    replace bb_param := (hb.cell (p := ⟨w.heap.size, 1, none⟩) (by show w.heap.size < _; omega)).trans bb_param
    replace ba_w0 := (hb.cell (p := ⟨w6.heap.size, 0, none⟩) (by show w6.heap.size < _; omega)).trans ba_w0
    replace bb_w0 := (hb.cell (p := ⟨w6.heap.size, 1, none⟩) (by show w6.heap.size < _; omega)).trans bb_w0
    replace ba_x0 := (hb.cell (p := ⟨w8.heap.size, 0, none⟩) (by show w8.heap.size < _; omega)).trans ba_x0
    replace bb_x0 := (hb.cell (p := ⟨w8.heap.size, 1, none⟩) (by show w8.heap.size < _; omega)).trans bb_x0
    replace ba_g0 := (hb.cell (p := ⟨w12.heap.size, 0, none⟩) (by show w12.heap.size < _; omega)).trans ba_g0
    replace bb_g0 := (hb.cell (p := ⟨w12.heap.size, 1, none⟩) (by show w12.heap.size < _; omega)).trans bb_g0
    clear hb
    have r_t3 := Ins.Row.mk hown
    clear hown
    go_wp2_with fail
    refine (Skk.impl_cut (some ⟨g_t3, 0, none⟩) n0 n0 l0 m0 n1 _ HN0.out (Nat.le_refl _) (by omega) hz0 r_t3.at_ lo1 hi1).mono ?_
    rintro e w32 ⟨A_h0, c_h0, rfl, hown, hb⟩
    rw [HR.out] at hown
    rw [HR.out, HRM.out, HRB.out]
    have s32 : w30.heap.size ≤ w32.heap.size := hb.size
    replace T := T.trans (hb.mono (by omega))
    replace f0 := Ins.at_below f0 hb (by omega)
    replace r_t1 := r_t1.below hb
    replace r_w0 := r_w0.below hb
    replace r_x0 := r_x0.below hb
    replace r_g0 := r_g0.below hb
    replace r_t2 := r_t2.below hb
    replace r_t3 := r_t3.below hb
    replace ba_param := (hb.cell (p := ⟨w.heap.size, 0, none⟩) (by show w.heap.size < _; omega)).trans ba_param
    replace bb_param := (hb.cell (p := ⟨w.heap.size, 1, none⟩) (by show w.heap.size < _; omega)).trans bb_param
    replace ba_w0 := (hb.cell (p := ⟨w6.heap.size, 0, none⟩) (by show w6.heap.size < _; omega)).trans ba_w0
    replace bb_w0 := (hb.cell (p := ⟨w6.heap.size, 1, none⟩) (by show w6.heap.size < _; omega)).trans bb_w0
    replace ba_x0 := (hb.cell (p := ⟨w8.heap.size, 0, none⟩) (by show w8.heap.size < _; omega)).trans ba_x0
    replace bb_x0 := (hb.cell (p := ⟨w8.heap.size, 1, none⟩) (by show w8.heap.size < _; omega)).trans bb_x0
    replace ba_g0 := (hb.cell (p := ⟨w12.heap.size, 0, none⟩) (by show w12.heap.size < _; omega)).trans ba_g0
    replace bb_g0 := (hb.cell (p := ⟨w12.heap.size, 1, none⟩) (by show w12.heap.size < _; omega)).trans bb_g0
    clear hb
    have r_h0 := Ins.Row.mk hown
    clear hown
    have pa_param := (((Below.refl w32.heap.size w32).alloc (Nat.le_refl _) (.cells #[.slice A_h0 res.length c_h0, .int .i64 rm] 25)).cell (p := ⟨w.heap.size, 0, none⟩) (by show w.heap.size < _; omega)).trans ba_param
    have pb_param := (((Below.refl w32.heap.size w32).alloc (Nat.le_refl _) (.cells #[.slice A_h0 res.length c_h0, .int .i64 rm] 25)).cell (p := ⟨w.heap.size, 1, none⟩) (by show w.heap.size < _; omega)).trans bb_param
    have pa_w0 := (((Below.refl w32.heap.size w32).alloc (Nat.le_refl _) (.cells #[.slice A_h0 res.length c_h0, .int .i64 rm] 25)).cell (p := ⟨w6.heap.size, 0, none⟩) (by show w6.heap.size < _; omega)).trans ba_w0
    have pb_w0 := (((Below.refl w32.heap.size w32).alloc (Nat.le_refl _) (.cells #[.slice A_h0 res.length c_h0, .int .i64 rm] 25)).cell (p := ⟨w6.heap.size, 1, none⟩) (by show w6.heap.size < _; omega)).trans bb_w0
    have pa_x0 := (((Below.refl w32.heap.size w32).alloc (Nat.le_refl _) (.cells #[.slice A_h0 res.length c_h0, .int .i64 rm] 25)).cell (p := ⟨w8.heap.size, 0, none⟩) (by show w8.heap.size < _; omega)).trans ba_x0
    have pb_x0 := (((Below.refl w32.heap.size w32).alloc (Nat.le_refl _) (.cells #[.slice A_h0 res.length c_h0, .int .i64 rm] 25)).cell (p := ⟨w8.heap.size, 1, none⟩) (by show w8.heap.size < _; omega)).trans bb_x0
    have pa_g0 := (((Below.refl w32.heap.size w32).alloc (Nat.le_refl _) (.cells #[.slice A_h0 res.length c_h0, .int .i64 rm] 25)).cell (p := ⟨w12.heap.size, 0, none⟩) (by show w12.heap.size < _; omega)).trans ba_g0
    have pb_g0 := (((Below.refl w32.heap.size w32).alloc (Nat.le_refl _) (.cells #[.slice A_h0 res.length c_h0, .int .i64 rm] 25)).cell (p := ⟨w12.heap.size, 1, none⟩) (by show w12.heap.size < _; omega)).trans bb_g0
    go_wp2_with fail
    clear pa_param pb_param pa_w0 pb_w0 pa_x0 pb_x0 pa_g0 pb_g0
    generalize hbox : w32.alloc _ = wb_h0
    have hb : Below w32.heap.size w32 wb_h0 := by rw [← hbox]; exact (Below.refl _ _).alloc (Nat.le_refl _) _
    have sz_h0 : w32.heap.size + 1 ≤ wb_h0.heap.size := by rw [← hbox]; simp
    obtain ⟨ba_h0, bb_h0⟩ : wb_h0.cell? ⟨w32.heap.size, 0, none⟩ = some (.slice A_h0 res.length c_h0) ∧ wb_h0.cell? ⟨w32.heap.size, 1, none⟩ = some (.int .i64 rm) := by rw [← hbox]; exact Stk.cell2 (heap_alloc_new _ _)
    clear hbox
    have s34 : w32.heap.size ≤ wb_h0.heap.size := hb.size
    replace T := T.trans (hb.mono (by omega))
    replace f0 := Ins.at_below f0 hb (by omega)
    replace r_t1 := r_t1.below hb
    replace r_w0 := r_w0.below hb
    replace r_x0 := r_x0.below hb
    replace r_g0 := r_g0.below hb
    replace r_t2 := r_t2.below hb
    replace r_t3 := r_t3.below hb
    replace r_h0 := r_h0.below hb
    replace ba_param := (hb.cell (p := ⟨w.heap.size, 0, none⟩) (by show w.heap.size < _; omega)).trans ba_param
    replace bb_param := (hb.cell (p := ⟨w.heap.size, 1, none⟩) (by show w.heap.size < _; omega)).trans bb_param
    replace ba_w0 := (hb.cell (p := ⟨w6.heap.size, 0, none⟩) (by show w6.heap.size < _; omega)).trans ba_w0
    replace bb_w0 := (hb.cell (p := ⟨w6.heap.size, 1, none⟩) (by show w6.heap.size < _; omega)).trans bb_w0
    replace ba_x0 := (hb.cell (p := ⟨w8.heap.size, 0, none⟩) (by show w8.heap.size < _; omega)).trans ba_x0
    replace bb_x0 := (hb.cell (p := ⟨w8.heap.size, 1, none⟩) (by show w8.heap.size < _; omega)).trans bb_x0
    replace ba_g0 := (hb.cell (p := ⟨w12.heap.size, 0, none⟩) (by show w12.heap.size < _; omega)).trans ba_g0
    replace bb_g0 := (hb.cell (p := ⟨w12.heap.size, 1, none⟩) (by show w12.heap.size < _; omega)).trans bb_g0
    clear hb
    refine (Stk.eq_stack A_h0 A_w0 res.length c_h0 c_w0 res rm _ rfl (by omega) r_h0.at_ r_w0.at_).mono ?_
    rintro e w34 ⟨rfl, hb⟩
    have s35 : wb_h0.heap.size ≤ w34.heap.size := hb.size
    replace T := T.trans (hb.mono (by omega))
    replace f0 := Ins.at_below f0 hb (by omega)
    replace r_t1 := r_t1.below hb
    replace r_w0 := r_w0.below hb
    replace r_x0 := r_x0.below hb
    replace r_g0 := r_g0.below hb
    replace r_t2 := r_t2.below hb
    replace r_t3 := r_t3.below hb
    replace r_h0 := r_h0.below hb
    replace ba_param := (hb.cell (p := ⟨w.heap.size, 0, none⟩) (by show w.heap.size < _; omega)).trans ba_param
    replace bb_param := (hb.cell (p := ⟨w.heap.size, 1, none⟩) (by show w.heap.size < _; omega)).trans bb_param
    replace ba_w0 := (hb.cell (p := ⟨w6.heap.size, 0, none⟩) (by show w6.heap.size < _; omega)).trans ba_w0
    replace bb_w0 := (hb.cell (p := ⟨w6.heap.size, 1, none⟩) (by show w6.heap.size < _; omega)).trans bb_w0
    replace ba_x0 := (hb.cell (p := ⟨w8.heap.size, 0, none⟩) (by show w8.heap.size < _; omega)).trans ba_x0
    replace bb_x0 := (hb.cell (p := ⟨w8.heap.size, 1, none⟩) (by show w8.heap.size < _; omega)).trans bb_x0
    replace ba_g0 := (hb.cell (p := ⟨w12.heap.size, 0, none⟩) (by show w12.heap.size < _; omega)).trans ba_g0
    replace bb_g0 := (hb.cell (p := ⟨w12.heap.size, 1, none⟩) (by show w12.heap.size < _; omega)).trans bb_g0
    replace ba_h0 := (hb.cell (p := ⟨w32.heap.size, 0, none⟩) (by show w32.heap.size < _; omega)).trans ba_h0
    replace bb_h0 := (hb.cell (p := ⟨w32.heap.size, 1, none⟩) (by show w32.heap.size < _; omega)).trans bb_h0
    clear hb
    go_wp2_with fail
    refine (Stk.held_stack _ res.length c_g0 A_g0 rm _ (by omega) (by omega) r_g0.at_).mono ?_
    rintro e w37 ⟨rfl, hb⟩
    have s37 : w34.heap.size ≤ w37.heap.size := hb.size
    replace T := T.trans (hb.mono (by omega))
    replace f0 := Ins.at_below f0 hb (by omega)
    replace r_t1 := r_t1.below hb
    replace r_w0 := r_w0.below hb
    replace r_x0 := r_x0.below hb
    replace r_g0 := r_g0.below hb
    replace r_t2 := r_t2.below hb
    replace r_t3 := r_t3.below hb
    replace r_h0 := r_h0.below hb
    replace ba_param := (hb.cell (p := ⟨w.heap.size, 0, none⟩) (by show w.heap.size < _; omega)).trans ba_param
    replace bb_param := (hb.cell (p := ⟨w.heap.size, 1, none⟩) (by show w.heap.size < _; omega)).trans bb_param
    replace ba_w0 := (hb.cell (p := ⟨w6.heap.size, 0, none⟩) (by show w6.heap.size < _; omega)).trans ba_w0
    replace bb_w0 := (hb.cell (p := ⟨w6.heap.size, 1, none⟩) (by show w6.heap.size < _; omega)).trans bb_w0
    replace ba_x0 := (hb.cell (p := ⟨w8.heap.size, 0, none⟩) (by show w8.heap.size < _; omega)).trans ba_x0
    replace bb_x0 := (hb.cell (p := ⟨w8.heap.size, 1, none⟩) (by show w8.heap.size < _; omega)).trans bb_x0
    replace ba_g0 := (hb.cell (p := ⟨w12.heap.size, 0, none⟩) (by show w12.heap.size < _; omega)).trans ba_g0
    replace bb_g0 := (hb.cell (p := ⟨w12.heap.size, 1, none⟩) (by show w12.heap.size < _; omega)).trans bb_g0
    replace ba_h0 := (hb.cell (p := ⟨w32.heap.size, 0, none⟩) (by show w32.heap.size < _; omega)).trans ba_h0
    replace bb_h0 := (hb.cell (p := ⟨w32.heap.size, 1, none⟩) (by show w32.heap.size < _; omega)).trans bb_h0
    clear hb
    go_wp2
    go_ret
    exact ⟨rfl, T⟩
  · have hk0 : (1048576 : Int) < (n0 : Int) := by omega
    have hk20 : (1048576 : Int) - (n0 : Int) < 0 := by omega
    go_enter Try.func11, Try.ntmps11
    go_wp2_with fail
    refine (Stk.sz_stack A0 n0 c0 m0 1048576 _ hx0 (by omega) (by omega)).mono ?_
    rintro e wz ⟨rfl, hb⟩
    rw [if_neg (show ¬ (n0 : Int) ≤ 1048576 by omega)]
    go_wp2
    go_ret
    exact ⟨rfl, ((Below.refl _ w).alloc (Nat.le_refl _) _).trans (hb.mono (by simp))⟩
set_option maxRecDepth 100000 in
theorem lifted (os : Os) (started : os.Started) (H : Type) (enc : TypeId × Value → H) :
    ReturnsInHanded {} Try.checked os 11 .any (Rows.fnExactCutStackSpec.pre6 enc Try.prog Try.f11 Rows.fnExactCutStackRow.domain false) (Rows.fnExactCutStackSpec.post enc Try.prog Try.f11 false true false false) := by
  refine returnsInHanded_of_change (C := Try.checked) Fr.own started (by kernel_rfl) Try.func11
    (ChangeSpec.witness6 (enc := enc) (C := Try.checked) false ⟨#[], #[.agg #[.slice none 0 0, .int .i64 0], .int .i64 0], []⟩ 8 (by kernel_rfl) (by kernel_rfl) (by kernel_rfl) (by kernel_rfl)) ?_
  intro W base args ds gs before hval0 hW hcnd _
  have hval : ∀ (j : Nat) t v, Try.f11.params[j]? = some t → args[j]? = some v → Value.okWide Try.prog W .any base t v := hval0
  have hW' := hW
  obtain ⟨p, q, hA0, hV, rfl, hfz, hnd⟩ := hW
  have hA : DataW.TrodAll enc Try.prog W 0 (fun _ => true) true Try.f11.params.toList args.toList ds p := hA0
  have hAk := hA
  rw [Try.params11] at hA hval
  obtain ⟨v0, v1, d0, d1, p0, p1, rfl, rfl, hp, h0, h1⟩ := trodAll_two hA
  obtain ⟨rfl, rfl⟩ := trodVars_none hV
  have hlt : ∀ x ∈ p, x.block < W.heap.size := fun x hx => by simpa using hW'.lt x (List.mem_append_left _ hx)
  obtain ⟨A0, n0, c0, l0, m0, rfl, hn0, hm0, hs0, wm0, ha0⟩ := Stk.view_stack Try.underlying38 (by kernel_rfl) (by kernel_rfl) Try.underlying23 Try.underlying3 (by kernel_rfl) Try.underlying3 (hval 0 38 v0 rfl rfl) h0 (fun x hx => hlt x (by rw [hp]; simp [hx]))
  obtain ⟨n1, rfl, wf1⟩ := Fr.view_int Try.underlying3 (hval 1 3 v1 rfl rfl) h1
  clear hA0 hval0
  refine (walk A0 n0 c0 l0 m0 n1 W hn0 hm0 hs0 wm0 ha0 wf1).mono fun e W' ⟨he, hb⟩ => ?_
  subst he
  exact ⟨_, rfl, _, _, _, [], p, [], hW', trodAll_mk1 (shut_bool Try.underlying4 _), Fr.below_all Fr.laidOut hb _ _ _ _ (Fr.readB_all (by kernel_rfl)) hAk hlt, rfl, hb.frame _, fun h => by cases h⟩

theorem proved : Rows.FnExactCutStackSaid :=
  OpenClaim.holds_of_wide 11 Try.f11 rfl rfl rfl rfl rfl rfl rfl ⟨rfl, rfl, rfl, rfl, rfl⟩ rfl rfl rfl rfl rfl (by kernel_rfl) Try.func11 (by kernel_rfl)
    (of_decide_eq_true (by kernel_rfl)) (by unfold Func.isWrapper; first | (rw [if_pos (by decide +kernel)]; kernel_rfl) | (rw [if_neg (by decide +kernel)]; exact ⟨rfl, rfl⟩))
    (fun os started H enc _ => lifted os started H enc)

end Go.Proofs.Ytkonakfbidnfhaa.LawCutStack
