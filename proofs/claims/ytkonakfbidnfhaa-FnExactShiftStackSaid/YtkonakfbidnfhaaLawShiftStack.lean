/- The law of ShiftStack holds: for every argument the program's ShiftStack answers as its model does, changes no argument, and shares no memory. No condition. -/
import Derived.Deep.RegionHeld3
import Derived.Deep.RegionWith
import Derived.BigQuiet
import Derived.Test.YtkonakfbidnfhaaSkt
import Derived.Test.YtkonakfbidnfhaaSkn
import Derived.Test.YtkonakfbidnfhaaStk
import Derived.Test.YtkonakfbidnfhaaPkt
import Derived.Test.YtkonakfbidnfhaaFrame
set_option linter.unusedVariables false
namespace Go.Proofs.Ytkonakfbidnfhaa.LawShiftStack
open Go.ChangeShapes Go.WideShapes Go.ChangeAt Go.RowKit Fr _root_.Go.Proofs.Ytkonakfbidnfhaa.Own

set_option maxHeartbeats 4000000 in
theorem walk (A0 : Option Addr) (n0 c0 : Nat) (l0 : List Int) (A1 : Option Addr) (n1 c1 : Nat) (l1 : List Int) (w : World) (hn0 : l0.length = n0) (hm0 : n0 ≤ maxLen) (hs0 : ∀ z ∈ l0, (Lit.int .i64 z).wf = true) (ha0 : IntsAt w w.heap.size .i64 A0 l0) (hn1 : l1.length = n1) (hm1 : n1 ≤ maxLen) (hs1 : ∀ z ∈ l1, (Lit.int .i64 z).wf = true) (ha1 : IntsAt w w.heap.size .i64 A1 l1) :
    Calls Try.prog 9 #[.slice A0 n0 c0, .slice A1 n1 c1] w fun e w' => e = .returned (.bool true) ∧ Below w.heap.size w w' := by
  have hx0 : n0 ≤ 9223372036854775807 := by unfold maxLen at hm0; omega
  have hz0 := Ins.fits_of hs0
  have HN0 := Lib.hid hn0
  clear hn0 hm0 hs0
  have hx1 : n1 ≤ 9223372036854775807 := by unfold maxLen at hm1; omega
  have hz1 := Ins.fits_of hs1
  have HN1 := Lib.hid hn1
  clear hn1 hm1 hs1
  by_cases hg0 : n0 ≤ 1048576
  · have hk0 : decide ((1048576 : Int) < (n0 : Int)) = false := decide_eq_false (by omega)
    by_cases hg1 : n1 ≤ 1048576
    · have hk1 : decide ((1048576 : Int) < (n1 : Int)) = false := decide_eq_false (by omega)
      obtain ⟨res, hres⟩ : ∃ r, r = Skq.shS l0 l1 := ⟨_, rfl⟩
      have hlen : res.length ≤ 1048576 := by rw [hres]; exact Skq.sh_short l0 l1
      have HR := Lib.hid hres.symm
      clear hres
      obtain ⟨rm, hrm⟩ : ∃ r, r = Skq.shM l0 l1 := ⟨_, rfl⟩
      have HRM := Lib.hid hrm.symm
      clear hrm
      obtain ⟨rb, hrb⟩ : ∃ r, r = Skq.shB l0 l1 := ⟨_, rfl⟩
      have HRB := Lib.hid hrb.symm
      clear hrb
      have T : Below w.heap.size w w := Below.refl _ w
      have f0 := ha0
      clear ha0
      have f1 := ha1
      clear ha1
      go_enter Try.func9, Try.ntmps9
      go_wp2_with fail
      refine (Ins.to_any A0 n0 c0 l0 _ HN0.out hg0 (f0.more T.size)).mono ?_
      rintro e w1 ⟨g_t1, rfl, hgg, hown, hb⟩
      have s1 : w.heap.size ≤ w1.heap.size := hb.size
      replace T := T.trans (hb.mono (by omega))
      replace f0 := Ins.at_below f0 hb (by omega)
      replace f1 := Ins.at_below f1 hb (by omega)
      clear hb
      have r_t1 := Ins.Row.mk hown
      clear hgg hown
      go_wp2_with fail
      refine (Ins.to_any A1 n1 c1 l1 _ HN1.out hg1 (f1.more T.size)).mono ?_
      rintro e w3 ⟨g_t2, rfl, hgg, hown, hb⟩
      have s3 : w1.heap.size ≤ w3.heap.size := hb.size
      replace T := T.trans (hb.mono (by omega))
      replace f0 := Ins.at_below f0 hb (by omega)
      replace f1 := Ins.at_below f1 hb (by omega)
      replace r_t1 := r_t1.below hb
      clear hb
      have r_t2 := Ins.Row.mk hown
      clear hgg hown
      go_wp2_with fail
      refine (Skt.spec_shift (some ⟨g_t1, 0, none⟩) n0 n0 l0 (some ⟨g_t2, 0, none⟩) n1 n1 l1 _ HN0.out (Nat.le_refl _) (by omega) hz0 r_t1.at_ HN1.out (Nat.le_refl _) (by omega) hz1 r_t2.at_).mono ?_
      rintro e w5 ⟨A_w0, c_w0, rfl, hown, hb⟩
      rw [HR.out] at hown
      rw [HR.out, HRM.out, HRB.out]
      have s5 : w3.heap.size ≤ w5.heap.size := hb.size
      replace T := T.trans (hb.mono (by omega))
      replace f0 := Ins.at_below f0 hb (by omega)
      replace f1 := Ins.at_below f1 hb (by omega)
      replace r_t1 := r_t1.below hb
      replace r_t2 := r_t2.below hb
      clear hb
      have r_w0 := Ins.Row.mk hown
      clear hown
      go_wp2_with fail
      generalize hbox : w5.alloc _ = wb_w0
      have hb : Below w5.heap.size w5 wb_w0 := by rw [← hbox]; exact (Below.refl _ _).alloc (Nat.le_refl _) _
      have sz_w0 : w5.heap.size + 1 ≤ wb_w0.heap.size := by rw [← hbox]; simp
      obtain ⟨ba_w0, bb_w0⟩ : wb_w0.cell? ⟨w5.heap.size, 0, none⟩ = some (.slice A_w0 res.length c_w0) ∧ wb_w0.cell? ⟨w5.heap.size, 1, none⟩ = some (.int .i64 rm) := by rw [← hbox]; exact Stk.cell2 (heap_alloc_new _ _)
      clear hbox
      have s7 : w5.heap.size ≤ wb_w0.heap.size := hb.size
      replace T := T.trans (hb.mono (by omega))
      replace f0 := Ins.at_below f0 hb (by omega)
      replace f1 := Ins.at_below f1 hb (by omega)
      replace r_t1 := r_t1.below hb
      replace r_t2 := r_t2.below hb
      replace r_w0 := r_w0.below hb
      clear hb
      refine (Ins.to_any A0 n0 c0 l0 _ HN0.out hg0 (f0.more T.size)).mono ?_
      rintro e w7 ⟨g_x0, rfl, hgg, hown, hb⟩
      have s8 : wb_w0.heap.size ≤ w7.heap.size := hb.size
      replace T := T.trans (hb.mono (by omega))
      replace f0 := Ins.at_below f0 hb (by omega)
      replace f1 := Ins.at_below f1 hb (by omega)
      replace r_t1 := r_t1.below hb
      replace r_t2 := r_t2.below hb
      replace r_w0 := r_w0.below hb
      replace ba_w0 := (hb.cell (p := ⟨w5.heap.size, 0, none⟩) (by show w5.heap.size < _; omega)).trans ba_w0
      replace bb_w0 := (hb.cell (p := ⟨w5.heap.size, 1, none⟩) (by show w5.heap.size < _; omega)).trans bb_w0
      clear hb
      have r_x0 := Ins.Row.mk hown
      clear hgg hown
      go_wp2_with fail
      refine (Ins.to_any A1 n1 c1 l1 _ HN1.out hg1 (f1.more T.size)).mono ?_
      rintro e w10 ⟨g_x1, rfl, hgg, hown, hb⟩
      have s10 : w7.heap.size ≤ w10.heap.size := hb.size
      replace T := T.trans (hb.mono (by omega))
      replace f0 := Ins.at_below f0 hb (by omega)
      replace f1 := Ins.at_below f1 hb (by omega)
      replace r_t1 := r_t1.below hb
      replace r_t2 := r_t2.below hb
      replace r_w0 := r_w0.below hb
      replace r_x0 := r_x0.below hb
      replace ba_w0 := (hb.cell (p := ⟨w5.heap.size, 0, none⟩) (by show w5.heap.size < _; omega)).trans ba_w0
      replace bb_w0 := (hb.cell (p := ⟨w5.heap.size, 1, none⟩) (by show w5.heap.size < _; omega)).trans bb_w0
      clear hb
      have r_x1 := Ins.Row.mk hown
      clear hgg hown
      go_wp2_with fail
      refine (Skn.impl_shift (some ⟨g_x0, 0, none⟩) n0 n0 l0 (some ⟨g_x1, 0, none⟩) n1 n1 l1 _ HN0.out (Nat.le_refl _) (by omega) hz0 r_x0.at_ HN1.out (Nat.le_refl _) (by omega) hz1 r_x1.at_).mono ?_
      rintro e w12 ⟨A_g0, c_g0, rfl, hown, hb⟩
      rw [HR.out] at hown
      rw [HR.out, HRM.out, HRB.out]
      have s12 : w10.heap.size ≤ w12.heap.size := hb.size
      replace T := T.trans (hb.mono (by omega))
      replace f0 := Ins.at_below f0 hb (by omega)
      replace f1 := Ins.at_below f1 hb (by omega)
      replace r_t1 := r_t1.below hb
      replace r_t2 := r_t2.below hb
      replace r_w0 := r_w0.below hb
      replace r_x0 := r_x0.below hb
      replace r_x1 := r_x1.below hb
      replace ba_w0 := (hb.cell (p := ⟨w5.heap.size, 0, none⟩) (by show w5.heap.size < _; omega)).trans ba_w0
      replace bb_w0 := (hb.cell (p := ⟨w5.heap.size, 1, none⟩) (by show w5.heap.size < _; omega)).trans bb_w0
      clear hb
      have r_g0 := Ins.Row.mk hown
      clear hown
      have pa_w0 := (((Below.refl w12.heap.size w12).alloc (Nat.le_refl _) (.cells #[.slice A_g0 res.length c_g0, .int .i64 rm] 25)).cell (p := ⟨w5.heap.size, 0, none⟩) (by show w5.heap.size < _; omega)).trans ba_w0
      have pb_w0 := (((Below.refl w12.heap.size w12).alloc (Nat.le_refl _) (.cells #[.slice A_g0 res.length c_g0, .int .i64 rm] 25)).cell (p := ⟨w5.heap.size, 1, none⟩) (by show w5.heap.size < _; omega)).trans bb_w0
      go_wp2_with fail
      clear pa_w0 pb_w0
      generalize hbox : w12.alloc _ = wb_g0
      have hb : Below w12.heap.size w12 wb_g0 := by rw [← hbox]; exact (Below.refl _ _).alloc (Nat.le_refl _) _
      have sz_g0 : w12.heap.size + 1 ≤ wb_g0.heap.size := by rw [← hbox]; simp
      obtain ⟨ba_g0, bb_g0⟩ : wb_g0.cell? ⟨w12.heap.size, 0, none⟩ = some (.slice A_g0 res.length c_g0) ∧ wb_g0.cell? ⟨w12.heap.size, 1, none⟩ = some (.int .i64 rm) := by rw [← hbox]; exact Stk.cell2 (heap_alloc_new _ _)
      clear hbox
      have s14 : w12.heap.size ≤ wb_g0.heap.size := hb.size
      replace T := T.trans (hb.mono (by omega))
      replace f0 := Ins.at_below f0 hb (by omega)
      replace f1 := Ins.at_below f1 hb (by omega)
      replace r_t1 := r_t1.below hb
      replace r_t2 := r_t2.below hb
      replace r_w0 := r_w0.below hb
      replace r_x0 := r_x0.below hb
      replace r_x1 := r_x1.below hb
      replace r_g0 := r_g0.below hb
      replace ba_w0 := (hb.cell (p := ⟨w5.heap.size, 0, none⟩) (by show w5.heap.size < _; omega)).trans ba_w0
      replace bb_w0 := (hb.cell (p := ⟨w5.heap.size, 1, none⟩) (by show w5.heap.size < _; omega)).trans bb_w0
      clear hb
      refine (Stk.eq_stack A_g0 A_w0 res.length c_g0 c_w0 res rm _ rfl (by omega) r_g0.at_ r_w0.at_).mono ?_
      rintro e w14 ⟨rfl, hb⟩
      have s15 : wb_g0.heap.size ≤ w14.heap.size := hb.size
      replace T := T.trans (hb.mono (by omega))
      replace f0 := Ins.at_below f0 hb (by omega)
      replace f1 := Ins.at_below f1 hb (by omega)
      replace r_t1 := r_t1.below hb
      replace r_t2 := r_t2.below hb
      replace r_w0 := r_w0.below hb
      replace r_x0 := r_x0.below hb
      replace r_x1 := r_x1.below hb
      replace r_g0 := r_g0.below hb
      replace ba_w0 := (hb.cell (p := ⟨w5.heap.size, 0, none⟩) (by show w5.heap.size < _; omega)).trans ba_w0
      replace bb_w0 := (hb.cell (p := ⟨w5.heap.size, 1, none⟩) (by show w5.heap.size < _; omega)).trans bb_w0
      replace ba_g0 := (hb.cell (p := ⟨w12.heap.size, 0, none⟩) (by show w12.heap.size < _; omega)).trans ba_g0
      replace bb_g0 := (hb.cell (p := ⟨w12.heap.size, 1, none⟩) (by show w12.heap.size < _; omega)).trans bb_g0
      clear hb
      go_wp2_with fail
      refine (Ins.to_any A0 n0 c0 l0 _ HN0.out hg0 (f0.more T.size)).mono ?_
      rintro e w17 ⟨g_t3, rfl, hgg, hown, hb⟩
      have s17 : w14.heap.size ≤ w17.heap.size := hb.size
      replace T := T.trans (hb.mono (by omega))
      replace f0 := Ins.at_below f0 hb (by omega)
      replace f1 := Ins.at_below f1 hb (by omega)
      replace r_t1 := r_t1.below hb
      replace r_t2 := r_t2.below hb
      replace r_w0 := r_w0.below hb
      replace r_x0 := r_x0.below hb
      replace r_x1 := r_x1.below hb
      replace r_g0 := r_g0.below hb
      replace ba_w0 := (hb.cell (p := ⟨w5.heap.size, 0, none⟩) (by show w5.heap.size < _; omega)).trans ba_w0
      replace bb_w0 := (hb.cell (p := ⟨w5.heap.size, 1, none⟩) (by show w5.heap.size < _; omega)).trans bb_w0
      replace ba_g0 := (hb.cell (p := ⟨w12.heap.size, 0, none⟩) (by show w12.heap.size < _; omega)).trans ba_g0
      replace bb_g0 := (hb.cell (p := ⟨w12.heap.size, 1, none⟩) (by show w12.heap.size < _; omega)).trans bb_g0
      clear hb
      have r_t3 := Ins.Row.mk hown
      clear hgg hown
      go_wp2_with fail
      refine (Ins.eq_same (some ⟨g_x0, 0, none⟩) (some ⟨g_t3, 0, none⟩) n0 n0 n0 l0 _ HN0.out (by omega) r_x0.at_ r_t3.at_).mono ?_
      rintro e w19 ⟨rfl, hb⟩
      have s19 : w17.heap.size ≤ w19.heap.size := hb.size
      replace T := T.trans (hb.mono (by omega))
      replace f0 := Ins.at_below f0 hb (by omega)
      replace f1 := Ins.at_below f1 hb (by omega)
      replace r_t1 := r_t1.below hb
      replace r_t2 := r_t2.below hb
      replace r_w0 := r_w0.below hb
      replace r_x0 := r_x0.below hb
      replace r_x1 := r_x1.below hb
      replace r_g0 := r_g0.below hb
      replace r_t3 := r_t3.below hb
      replace ba_w0 := (hb.cell (p := ⟨w5.heap.size, 0, none⟩) (by show w5.heap.size < _; omega)).trans ba_w0
      replace bb_w0 := (hb.cell (p := ⟨w5.heap.size, 1, none⟩) (by show w5.heap.size < _; omega)).trans bb_w0
      replace ba_g0 := (hb.cell (p := ⟨w12.heap.size, 0, none⟩) (by show w12.heap.size < _; omega)).trans ba_g0
      replace bb_g0 := (hb.cell (p := ⟨w12.heap.size, 1, none⟩) (by show w12.heap.size < _; omega)).trans bb_g0
      clear hb
      go_wp2_with fail
      refine (Ins.to_any A1 n1 c1 l1 _ HN1.out hg1 (f1.more T.size)).mono ?_
      rintro e w21 ⟨g_t4, rfl, hgg, hown, hb⟩
      have s21 : w19.heap.size ≤ w21.heap.size := hb.size
      replace T := T.trans (hb.mono (by omega))
      replace f0 := Ins.at_below f0 hb (by omega)
      replace f1 := Ins.at_below f1 hb (by omega)
      replace r_t1 := r_t1.below hb
      replace r_t2 := r_t2.below hb
      replace r_w0 := r_w0.below hb
      replace r_x0 := r_x0.below hb
      replace r_x1 := r_x1.below hb
      replace r_g0 := r_g0.below hb
      replace r_t3 := r_t3.below hb
      replace ba_w0 := (hb.cell (p := ⟨w5.heap.size, 0, none⟩) (by show w5.heap.size < _; omega)).trans ba_w0
      replace bb_w0 := (hb.cell (p := ⟨w5.heap.size, 1, none⟩) (by show w5.heap.size < _; omega)).trans bb_w0
      replace ba_g0 := (hb.cell (p := ⟨w12.heap.size, 0, none⟩) (by show w12.heap.size < _; omega)).trans ba_g0
      replace bb_g0 := (hb.cell (p := ⟨w12.heap.size, 1, none⟩) (by show w12.heap.size < _; omega)).trans bb_g0
      clear hb
      have r_t4 := Ins.Row.mk hown
      clear hgg hown
      go_wp2_with fail
      refine (Ins.eq_same (some ⟨g_x1, 0, none⟩) (some ⟨g_t4, 0, none⟩) n1 n1 n1 l1 _ HN1.out (by omega) r_x1.at_ r_t4.at_).mono ?_
      rintro e w23 ⟨rfl, hb⟩
      have s23 : w21.heap.size ≤ w23.heap.size := hb.size
      replace T := T.trans (hb.mono (by omega))
      replace f0 := Ins.at_below f0 hb (by omega)
      replace f1 := Ins.at_below f1 hb (by omega)
      replace r_t1 := r_t1.below hb
      replace r_t2 := r_t2.below hb
      replace r_w0 := r_w0.below hb
      replace r_x0 := r_x0.below hb
      replace r_x1 := r_x1.below hb
      replace r_g0 := r_g0.below hb
      replace r_t3 := r_t3.below hb
      replace r_t4 := r_t4.below hb
      replace ba_w0 := (hb.cell (p := ⟨w5.heap.size, 0, none⟩) (by show w5.heap.size < _; omega)).trans ba_w0
      replace bb_w0 := (hb.cell (p := ⟨w5.heap.size, 1, none⟩) (by show w5.heap.size < _; omega)).trans bb_w0
      replace ba_g0 := (hb.cell (p := ⟨w12.heap.size, 0, none⟩) (by show w12.heap.size < _; omega)).trans ba_g0
      replace bb_g0 := (hb.cell (p := ⟨w12.heap.size, 1, none⟩) (by show w12.heap.size < _; omega)).trans bb_g0
      clear hb
      go_wp2_with fail
      refine (Ins.mark_any _ _ n0 (some ⟨g_x0, 0, none⟩) n0 _ _ (by omega) (by omega) r_x0.own).mono ?_
      rintro e w25 ⟨rfl, ho, hgr⟩
      have s25 : w23.heap.size ≤ w25.heap.size := hgr.size
      replace T := T.grown hgr (by omega) (fun k hk => by have h1 := r_x0.lo k hk; omega)
      replace f0 := Ins.at_grown f0 hgr (by omega) (fun k hk => by have h1 := r_x0.lo k hk; omega)
      replace f1 := Ins.at_grown f1 hgr (by omega) (fun k hk => by have h1 := r_x0.lo k hk; omega)
      replace r_t1 := r_t1.grown hgr (fun k hk => by have h1 := r_x0.lo k hk; have h2 := r_x0.hi k hk; omega)
      replace r_t2 := r_t2.grown hgr (fun k hk => by have h1 := r_x0.lo k hk; have h2 := r_x0.hi k hk; omega)
      replace r_w0 := r_w0.grown hgr (fun k hk => by have h1 := r_x0.lo k hk; have h2 := r_x0.hi k hk; omega)
      replace r_x1 := r_x1.grown hgr (fun k hk => by have h1 := r_x0.lo k hk; have h2 := r_x0.hi k hk; omega)
      replace r_g0 := r_g0.grown hgr (fun k hk => by have h1 := r_x0.lo k hk; have h2 := r_x0.hi k hk; omega)
      replace r_t3 := r_t3.grown hgr (fun k hk => by have h1 := r_x0.lo k hk; have h2 := r_x0.hi k hk; omega)
      replace r_t4 := r_t4.grown hgr (fun k hk => by have h1 := r_x0.lo k hk; have h2 := r_x0.hi k hk; omega)
      replace ba_w0 := hgr.cell ba_w0 (fun e => by have h1 := r_x0.lo _ e.symm; have h2 := r_x0.hi _ e.symm; simp only at h1 h2; omega)
      replace bb_w0 := hgr.cell bb_w0 (fun e => by have h1 := r_x0.lo _ e.symm; have h2 := r_x0.hi _ e.symm; simp only at h1 h2; omega)
      replace ba_g0 := hgr.cell ba_g0 (fun e => by have h1 := r_x0.lo _ e.symm; have h2 := r_x0.hi _ e.symm; simp only at h1 h2; omega)
      replace bb_g0 := hgr.cell bb_g0 (fun e => by have h1 := r_x0.lo _ e.symm; have h2 := r_x0.hi _ e.symm; simp only at h1 h2; omega)
      replace r_x0 := r_x0.marked ho hgr
      clear ho hgr
      go_wp2_with fail
      refine (Ins.mark_any _ _ n1 (some ⟨g_x1, 0, none⟩) n1 _ _ (by omega) (by omega) r_x1.own).mono ?_
      rintro e w27 ⟨rfl, ho, hgr⟩
      have s27 : w25.heap.size ≤ w27.heap.size := hgr.size
      replace T := T.grown hgr (by omega) (fun k hk => by have h1 := r_x1.lo k hk; omega)
      replace f0 := Ins.at_grown f0 hgr (by omega) (fun k hk => by have h1 := r_x1.lo k hk; omega)
      replace f1 := Ins.at_grown f1 hgr (by omega) (fun k hk => by have h1 := r_x1.lo k hk; omega)
      replace r_t1 := r_t1.grown hgr (fun k hk => by have h1 := r_x1.lo k hk; have h2 := r_x1.hi k hk; omega)
      replace r_t2 := r_t2.grown hgr (fun k hk => by have h1 := r_x1.lo k hk; have h2 := r_x1.hi k hk; omega)
      replace r_w0 := r_w0.grown hgr (fun k hk => by have h1 := r_x1.lo k hk; have h2 := r_x1.hi k hk; omega)
      replace r_x0 := r_x0.grown hgr (fun k hk => by have h1 := r_x1.lo k hk; have h2 := r_x1.hi k hk; omega)
      replace r_g0 := r_g0.grown hgr (fun k hk => by have h1 := r_x1.lo k hk; have h2 := r_x1.hi k hk; omega)
      replace r_t3 := r_t3.grown hgr (fun k hk => by have h1 := r_x1.lo k hk; have h2 := r_x1.hi k hk; omega)
      replace r_t4 := r_t4.grown hgr (fun k hk => by have h1 := r_x1.lo k hk; have h2 := r_x1.hi k hk; omega)
      replace ba_w0 := hgr.cell ba_w0 (fun e => by have h1 := r_x1.lo _ e.symm; have h2 := r_x1.hi _ e.symm; simp only at h1 h2; omega)
      replace bb_w0 := hgr.cell bb_w0 (fun e => by have h1 := r_x1.lo _ e.symm; have h2 := r_x1.hi _ e.symm; simp only at h1 h2; omega)
      replace ba_g0 := hgr.cell ba_g0 (fun e => by have h1 := r_x1.lo _ e.symm; have h2 := r_x1.hi _ e.symm; simp only at h1 h2; omega)
      replace bb_g0 := hgr.cell bb_g0 (fun e => by have h1 := r_x1.lo _ e.symm; have h2 := r_x1.hi _ e.symm; simp only at h1 h2; omega)
      replace r_x1 := r_x1.marked ho hgr
      clear ho hgr
      go_wp2_with fail
      refine (Stk.eq_stack A_g0 A_w0 res.length c_g0 c_w0 res rm _ rfl (by omega) r_g0.at_ r_w0.at_).mono ?_
      rintro e w29 ⟨rfl, hb⟩
      have s29 : w27.heap.size ≤ w29.heap.size := hb.size
      replace T := T.trans (hb.mono (by omega))
      replace f0 := Ins.at_below f0 hb (by omega)
      replace f1 := Ins.at_below f1 hb (by omega)
      replace r_t1 := r_t1.below hb
      replace r_t2 := r_t2.below hb
      replace r_w0 := r_w0.below hb
      replace r_x0 := r_x0.below hb
      replace r_x1 := r_x1.below hb
      replace r_g0 := r_g0.below hb
      replace r_t3 := r_t3.below hb
      replace r_t4 := r_t4.below hb
      replace ba_w0 := (hb.cell (p := ⟨w5.heap.size, 0, none⟩) (by show w5.heap.size < _; omega)).trans ba_w0
      replace bb_w0 := (hb.cell (p := ⟨w5.heap.size, 1, none⟩) (by show w5.heap.size < _; omega)).trans bb_w0
      replace ba_g0 := (hb.cell (p := ⟨w12.heap.size, 0, none⟩) (by show w12.heap.size < _; omega)).trans ba_g0
      replace bb_g0 := (hb.cell (p := ⟨w12.heap.size, 1, none⟩) (by show w12.heap.size < _; omega)).trans bb_g0
      clear hb
      go_wp2_with fail
      refine (Stk.mark_stack _ _ res.length A_g0 c_g0 rm _ _ (by omega) (by omega) r_g0.own).mono ?_
      rintro e w31 ⟨rfl, ho, hgr⟩
      have s31 : w29.heap.size ≤ w31.heap.size := hgr.size
      replace T := T.grown hgr (by omega) (fun k hk => by have h1 := r_g0.lo k hk; omega)
      replace f0 := Ins.at_grown f0 hgr (by omega) (fun k hk => by have h1 := r_g0.lo k hk; omega)
      replace f1 := Ins.at_grown f1 hgr (by omega) (fun k hk => by have h1 := r_g0.lo k hk; omega)
      replace r_t1 := r_t1.grown hgr (fun k hk => by have h1 := r_g0.lo k hk; have h2 := r_g0.hi k hk; omega)
      replace r_t2 := r_t2.grown hgr (fun k hk => by have h1 := r_g0.lo k hk; have h2 := r_g0.hi k hk; omega)
      replace r_w0 := r_w0.grown hgr (fun k hk => by have h1 := r_g0.lo k hk; have h2 := r_g0.hi k hk; omega)
      replace r_x0 := r_x0.grown hgr (fun k hk => by have h1 := r_g0.lo k hk; have h2 := r_g0.hi k hk; omega)
      replace r_x1 := r_x1.grown hgr (fun k hk => by have h1 := r_g0.lo k hk; have h2 := r_g0.hi k hk; omega)
      replace r_t3 := r_t3.grown hgr (fun k hk => by have h1 := r_g0.lo k hk; have h2 := r_g0.hi k hk; omega)
      replace r_t4 := r_t4.grown hgr (fun k hk => by have h1 := r_g0.lo k hk; have h2 := r_g0.hi k hk; omega)
      replace ba_w0 := hgr.cell ba_w0 (fun e => by have h1 := r_g0.lo _ e.symm; have h2 := r_g0.hi _ e.symm; simp only at h1 h2; omega)
      replace bb_w0 := hgr.cell bb_w0 (fun e => by have h1 := r_g0.lo _ e.symm; have h2 := r_g0.hi _ e.symm; simp only at h1 h2; omega)
      replace ba_g0 := hgr.cell ba_g0 (fun e => by have h1 := r_g0.lo _ e.symm; have h2 := r_g0.hi _ e.symm; simp only at h1 h2; omega)
      replace bb_g0 := hgr.cell bb_g0 (fun e => by have h1 := r_g0.lo _ e.symm; have h2 := r_g0.hi _ e.symm; simp only at h1 h2; omega)
      replace r_g0 := r_g0.marked ho hgr
      clear ho hgr
      go_wp2_with fail
      refine (Stk.held_stack _ res.length c_g0 A_g0 rm _ (by omega) (by omega) r_g0.at_).mono ?_
      rintro e w33 ⟨rfl, hb⟩
      have s33 : w31.heap.size ≤ w33.heap.size := hb.size
      replace T := T.trans (hb.mono (by omega))
      replace f0 := Ins.at_below f0 hb (by omega)
      replace f1 := Ins.at_below f1 hb (by omega)
      replace r_t1 := r_t1.below hb
      replace r_t2 := r_t2.below hb
      replace r_w0 := r_w0.below hb
      replace r_x0 := r_x0.below hb
      replace r_x1 := r_x1.below hb
      replace r_g0 := r_g0.below hb
      replace r_t3 := r_t3.below hb
      replace r_t4 := r_t4.below hb
      replace ba_w0 := (hb.cell (p := ⟨w5.heap.size, 0, none⟩) (by show w5.heap.size < _; omega)).trans ba_w0
      replace bb_w0 := (hb.cell (p := ⟨w5.heap.size, 1, none⟩) (by show w5.heap.size < _; omega)).trans bb_w0
      replace ba_g0 := (hb.cell (p := ⟨w12.heap.size, 0, none⟩) (by show w12.heap.size < _; omega)).trans ba_g0
      replace bb_g0 := (hb.cell (p := ⟨w12.heap.size, 1, none⟩) (by show w12.heap.size < _; omega)).trans bb_g0
      clear hb
      go_wp2_with fail
      refine (Ins.to_any A0 n0 c0 l0 _ HN0.out hg0 (f0.more T.size)).mono ?_
      rintro e w35 ⟨g_t5, rfl, hgg, hown, hb⟩
      have s35 : w33.heap.size ≤ w35.heap.size := hb.size
      replace T := T.trans (hb.mono (by omega))
      replace f0 := Ins.at_below f0 hb (by omega)
      replace f1 := Ins.at_below f1 hb (by omega)
      replace r_t1 := r_t1.below hb
      replace r_t2 := r_t2.below hb
      replace r_w0 := r_w0.below hb
      replace r_x0 := r_x0.below hb
      replace r_x1 := r_x1.below hb
      replace r_g0 := r_g0.below hb
      replace r_t3 := r_t3.below hb
      replace r_t4 := r_t4.below hb
      replace ba_w0 := (hb.cell (p := ⟨w5.heap.size, 0, none⟩) (by show w5.heap.size < _; omega)).trans ba_w0
      replace bb_w0 := (hb.cell (p := ⟨w5.heap.size, 1, none⟩) (by show w5.heap.size < _; omega)).trans bb_w0
      replace ba_g0 := (hb.cell (p := ⟨w12.heap.size, 0, none⟩) (by show w12.heap.size < _; omega)).trans ba_g0
      replace bb_g0 := (hb.cell (p := ⟨w12.heap.size, 1, none⟩) (by show w12.heap.size < _; omega)).trans bb_g0
      clear hb
      have r_t5 := Ins.Row.mk hown
      clear hgg hown
      go_wp2_with fail
      refine (Ins.to_any A1 n1 c1 l1 _ HN1.out hg1 (f1.more T.size)).mono ?_
      rintro e w37 ⟨g_t6, rfl, hgg, hown, hb⟩
      have s37 : w35.heap.size ≤ w37.heap.size := hb.size
      replace T := T.trans (hb.mono (by omega))
      replace f0 := Ins.at_below f0 hb (by omega)
      replace f1 := Ins.at_below f1 hb (by omega)
      replace r_t1 := r_t1.below hb
      replace r_t2 := r_t2.below hb
      replace r_w0 := r_w0.below hb
      replace r_x0 := r_x0.below hb
      replace r_x1 := r_x1.below hb
      replace r_g0 := r_g0.below hb
      replace r_t3 := r_t3.below hb
      replace r_t4 := r_t4.below hb
      replace r_t5 := r_t5.below hb
      replace ba_w0 := (hb.cell (p := ⟨w5.heap.size, 0, none⟩) (by show w5.heap.size < _; omega)).trans ba_w0
      replace bb_w0 := (hb.cell (p := ⟨w5.heap.size, 1, none⟩) (by show w5.heap.size < _; omega)).trans bb_w0
      replace ba_g0 := (hb.cell (p := ⟨w12.heap.size, 0, none⟩) (by show w12.heap.size < _; omega)).trans ba_g0
      replace bb_g0 := (hb.cell (p := ⟨w12.heap.size, 1, none⟩) (by show w12.heap.size < _; omega)).trans bb_g0
      clear hb
      have r_t6 := Ins.Row.mk hown
      clear hgg hown
      go_wp2_with fail
      refine (Skn.impl_shift (some ⟨g_t5, 0, none⟩) n0 n0 l0 (some ⟨g_t6, 0, none⟩) n1 n1 l1 _ HN0.out (Nat.le_refl _) (by omega) hz0 r_t5.at_ HN1.out (Nat.le_refl _) (by omega) hz1 r_t6.at_).mono ?_
      rintro e w39 ⟨A_h0, c_h0, rfl, hown, hb⟩
      rw [HR.out] at hown
      rw [HR.out, HRM.out, HRB.out]
      have s39 : w37.heap.size ≤ w39.heap.size := hb.size
      replace T := T.trans (hb.mono (by omega))
      replace f0 := Ins.at_below f0 hb (by omega)
      replace f1 := Ins.at_below f1 hb (by omega)
      replace r_t1 := r_t1.below hb
      replace r_t2 := r_t2.below hb
      replace r_w0 := r_w0.below hb
      replace r_x0 := r_x0.below hb
      replace r_x1 := r_x1.below hb
      replace r_g0 := r_g0.below hb
      replace r_t3 := r_t3.below hb
      replace r_t4 := r_t4.below hb
      replace r_t5 := r_t5.below hb
      replace r_t6 := r_t6.below hb
      replace ba_w0 := (hb.cell (p := ⟨w5.heap.size, 0, none⟩) (by show w5.heap.size < _; omega)).trans ba_w0
      replace bb_w0 := (hb.cell (p := ⟨w5.heap.size, 1, none⟩) (by show w5.heap.size < _; omega)).trans bb_w0
      replace ba_g0 := (hb.cell (p := ⟨w12.heap.size, 0, none⟩) (by show w12.heap.size < _; omega)).trans ba_g0
      replace bb_g0 := (hb.cell (p := ⟨w12.heap.size, 1, none⟩) (by show w12.heap.size < _; omega)).trans bb_g0
      clear hb
      have r_h0 := Ins.Row.mk hown
      clear hown
      have pa_w0 := (((Below.refl w39.heap.size w39).alloc (Nat.le_refl _) (.cells #[.slice A_h0 res.length c_h0, .int .i64 rm] 25)).cell (p := ⟨w5.heap.size, 0, none⟩) (by show w5.heap.size < _; omega)).trans ba_w0
      have pb_w0 := (((Below.refl w39.heap.size w39).alloc (Nat.le_refl _) (.cells #[.slice A_h0 res.length c_h0, .int .i64 rm] 25)).cell (p := ⟨w5.heap.size, 1, none⟩) (by show w5.heap.size < _; omega)).trans bb_w0
      have pa_g0 := (((Below.refl w39.heap.size w39).alloc (Nat.le_refl _) (.cells #[.slice A_h0 res.length c_h0, .int .i64 rm] 25)).cell (p := ⟨w12.heap.size, 0, none⟩) (by show w12.heap.size < _; omega)).trans ba_g0
      have pb_g0 := (((Below.refl w39.heap.size w39).alloc (Nat.le_refl _) (.cells #[.slice A_h0 res.length c_h0, .int .i64 rm] 25)).cell (p := ⟨w12.heap.size, 1, none⟩) (by show w12.heap.size < _; omega)).trans bb_g0
      go_wp2_with fail
      clear pa_w0 pb_w0 pa_g0 pb_g0
      generalize hbox : w39.alloc _ = wb_h0
      have hb : Below w39.heap.size w39 wb_h0 := by rw [← hbox]; exact (Below.refl _ _).alloc (Nat.le_refl _) _
      have sz_h0 : w39.heap.size + 1 ≤ wb_h0.heap.size := by rw [← hbox]; simp
      obtain ⟨ba_h0, bb_h0⟩ : wb_h0.cell? ⟨w39.heap.size, 0, none⟩ = some (.slice A_h0 res.length c_h0) ∧ wb_h0.cell? ⟨w39.heap.size, 1, none⟩ = some (.int .i64 rm) := by rw [← hbox]; exact Stk.cell2 (heap_alloc_new _ _)
      clear hbox
      have s41 : w39.heap.size ≤ wb_h0.heap.size := hb.size
      replace T := T.trans (hb.mono (by omega))
      replace f0 := Ins.at_below f0 hb (by omega)
      replace f1 := Ins.at_below f1 hb (by omega)
      replace r_t1 := r_t1.below hb
      replace r_t2 := r_t2.below hb
      replace r_w0 := r_w0.below hb
      replace r_x0 := r_x0.below hb
      replace r_x1 := r_x1.below hb
      replace r_g0 := r_g0.below hb
      replace r_t3 := r_t3.below hb
      replace r_t4 := r_t4.below hb
      replace r_t5 := r_t5.below hb
      replace r_t6 := r_t6.below hb
      replace r_h0 := r_h0.below hb
      replace ba_w0 := (hb.cell (p := ⟨w5.heap.size, 0, none⟩) (by show w5.heap.size < _; omega)).trans ba_w0
      replace bb_w0 := (hb.cell (p := ⟨w5.heap.size, 1, none⟩) (by show w5.heap.size < _; omega)).trans bb_w0
      replace ba_g0 := (hb.cell (p := ⟨w12.heap.size, 0, none⟩) (by show w12.heap.size < _; omega)).trans ba_g0
      replace bb_g0 := (hb.cell (p := ⟨w12.heap.size, 1, none⟩) (by show w12.heap.size < _; omega)).trans bb_g0
      clear hb
      refine (Stk.eq_stack A_h0 A_w0 res.length c_h0 c_w0 res rm _ rfl (by omega) r_h0.at_ r_w0.at_).mono ?_
      rintro e w41 ⟨rfl, hb⟩
      have s42 : wb_h0.heap.size ≤ w41.heap.size := hb.size
      replace T := T.trans (hb.mono (by omega))
      replace f0 := Ins.at_below f0 hb (by omega)
      replace f1 := Ins.at_below f1 hb (by omega)
      replace r_t1 := r_t1.below hb
      replace r_t2 := r_t2.below hb
      replace r_w0 := r_w0.below hb
      replace r_x0 := r_x0.below hb
      replace r_x1 := r_x1.below hb
      replace r_g0 := r_g0.below hb
      replace r_t3 := r_t3.below hb
      replace r_t4 := r_t4.below hb
      replace r_t5 := r_t5.below hb
      replace r_t6 := r_t6.below hb
      replace r_h0 := r_h0.below hb
      replace ba_w0 := (hb.cell (p := ⟨w5.heap.size, 0, none⟩) (by show w5.heap.size < _; omega)).trans ba_w0
      replace bb_w0 := (hb.cell (p := ⟨w5.heap.size, 1, none⟩) (by show w5.heap.size < _; omega)).trans bb_w0
      replace ba_g0 := (hb.cell (p := ⟨w12.heap.size, 0, none⟩) (by show w12.heap.size < _; omega)).trans ba_g0
      replace bb_g0 := (hb.cell (p := ⟨w12.heap.size, 1, none⟩) (by show w12.heap.size < _; omega)).trans bb_g0
      replace ba_h0 := (hb.cell (p := ⟨w39.heap.size, 0, none⟩) (by show w39.heap.size < _; omega)).trans ba_h0
      replace bb_h0 := (hb.cell (p := ⟨w39.heap.size, 1, none⟩) (by show w39.heap.size < _; omega)).trans bb_h0
      clear hb
      go_wp2_with fail
      refine (Stk.held_stack _ res.length c_g0 A_g0 rm _ (by omega) (by omega) r_g0.at_).mono ?_
      rintro e w44 ⟨rfl, hb⟩
      have s44 : w41.heap.size ≤ w44.heap.size := hb.size
      replace T := T.trans (hb.mono (by omega))
      replace f0 := Ins.at_below f0 hb (by omega)
      replace f1 := Ins.at_below f1 hb (by omega)
      replace r_t1 := r_t1.below hb
      replace r_t2 := r_t2.below hb
      replace r_w0 := r_w0.below hb
      replace r_x0 := r_x0.below hb
      replace r_x1 := r_x1.below hb
      replace r_g0 := r_g0.below hb
      replace r_t3 := r_t3.below hb
      replace r_t4 := r_t4.below hb
      replace r_t5 := r_t5.below hb
      replace r_t6 := r_t6.below hb
      replace r_h0 := r_h0.below hb
      replace ba_w0 := (hb.cell (p := ⟨w5.heap.size, 0, none⟩) (by show w5.heap.size < _; omega)).trans ba_w0
      replace bb_w0 := (hb.cell (p := ⟨w5.heap.size, 1, none⟩) (by show w5.heap.size < _; omega)).trans bb_w0
      replace ba_g0 := (hb.cell (p := ⟨w12.heap.size, 0, none⟩) (by show w12.heap.size < _; omega)).trans ba_g0
      replace bb_g0 := (hb.cell (p := ⟨w12.heap.size, 1, none⟩) (by show w12.heap.size < _; omega)).trans bb_g0
      replace ba_h0 := (hb.cell (p := ⟨w39.heap.size, 0, none⟩) (by show w39.heap.size < _; omega)).trans ba_h0
      replace bb_h0 := (hb.cell (p := ⟨w39.heap.size, 1, none⟩) (by show w39.heap.size < _; omega)).trans bb_h0
      clear hb
      go_wp2
      go_ret
      exact ⟨rfl, T⟩
    · have hk1 : (1048576 : Int) < (n1 : Int) := by omega
      go_enter Try.func9, Try.ntmps9
      go_wp2
      go_ret
      first | exact ⟨rfl, Below.refl _ w⟩ | exact ⟨rfl, (Below.refl _ w).alloc (Nat.le_refl _) _⟩
  · have hk0 : (1048576 : Int) < (n0 : Int) := by omega
    go_enter Try.func9, Try.ntmps9
    go_wp2
    go_ret
    first | exact ⟨rfl, Below.refl _ w⟩ | exact ⟨rfl, (Below.refl _ w).alloc (Nat.le_refl _) _⟩
set_option maxRecDepth 100000 in
theorem lifted (os : Os) (started : os.Started) (H : Type) (enc : TypeId × Value → H) :
    ReturnsInHanded {} Try.checked os 9 .any (Rows.fnExactShiftStackSpec.pre6 enc Try.prog Try.f9 Rows.fnExactShiftStackRow.domain false) (Rows.fnExactShiftStackSpec.post enc Try.prog Try.f9 false true false false) := by
  refine returnsInHanded_of_change (C := Try.checked) Fr.own started (by kernel_rfl) Try.func9
    (ChangeSpec.witness6 (enc := enc) (C := Try.checked) false ⟨#[], #[.slice none 0 0, .slice none 0 0], []⟩ 8 (by kernel_rfl) (by kernel_rfl) (by kernel_rfl) (by kernel_rfl)) ?_
  intro W base args ds gs before hval0 hW hcnd _
  have hval : ∀ (j : Nat) t v, Try.f9.params[j]? = some t → args[j]? = some v → Value.okWide Try.prog W .any base t v := hval0
  have hW' := hW
  obtain ⟨p, q, hA0, hV, rfl, hfz, hnd⟩ := hW
  have hA : DataW.TrodAll enc Try.prog W 0 (fun _ => true) true Try.f9.params.toList args.toList ds p := hA0
  have hAk := hA
  rw [Try.params9] at hA hval
  obtain ⟨v0, v1, d0, d1, p0, p1, rfl, rfl, hp, h0, h1⟩ := trodAll_two hA
  obtain ⟨rfl, rfl⟩ := trodVars_none hV
  have hlt : ∀ x ∈ p, x.block < W.heap.size := fun x hx => by simpa using hW'.lt x (List.mem_append_left _ hx)
  obtain ⟨A0, n0, c0, l0, rfl, hn0, hm0, hs0, ha0⟩ := Fr.view_nums Try.underlying23 Try.underlying3 (by kernel_rfl) (hval 0 23 v0 rfl rfl) h0 (fun x hx => hlt x (by rw [hp]; simp [hx]))
  obtain ⟨A1, n1, c1, l1, rfl, hn1, hm1, hs1, ha1⟩ := Fr.view_nums Try.underlying23 Try.underlying3 (by kernel_rfl) (hval 1 23 v1 rfl rfl) h1 (fun x hx => hlt x (by rw [hp]; simp [hx]))
  clear hA0 hval0
  refine (walk A0 n0 c0 l0 A1 n1 c1 l1 W hn0 hm0 hs0 ha0 hn1 hm1 hs1 ha1).mono fun e W' ⟨he, hb⟩ => ?_
  subst he
  exact ⟨_, rfl, _, _, _, [], p, [], hW', trodAll_mk1 (shut_bool Try.underlying4 _), Fr.below_all Fr.laidOut hb _ _ _ _ (Fr.readB_all (by kernel_rfl)) hAk hlt, rfl, hb.frame _, fun h => by cases h⟩

theorem proved : Rows.FnExactShiftStackSaid :=
  OpenClaim.holds_of_wide 9 Try.f9 rfl rfl rfl rfl rfl rfl rfl ⟨rfl, rfl, rfl, rfl, rfl⟩ rfl rfl rfl rfl rfl (by kernel_rfl) Try.func9 (by kernel_rfl)
    (of_decide_eq_true (by kernel_rfl)) (by unfold Func.isWrapper; first | (rw [if_pos (by decide +kernel)]; kernel_rfl) | (rw [if_neg (by decide +kernel)]; exact ⟨rfl, rfl⟩))
    (fun os started H enc _ => lifted os started H enc)

end Go.Proofs.Ytkonakfbidnfhaa.LawShiftStack
