/- The law of RunTrick holds: for every argument the program's RunTrick answers as its model does, changes no argument, and shares no memory. No condition. -/
import Derived.Deep.RegionHeld3
import Derived.Deep.RegionWith
import Derived.BigQuiet
import Derived.Test.YtibephoepkofnaaGreatTrp
import Derived.Test.YtibephoepkofnaaGreatTrk
import Derived.Test.YtibephoepkofnaaGreatPkt
import Derived.Test.YtibephoepkofnaaGreatFrame
set_option linter.unusedVariables false
namespace Go.Proofs.YtibephoepkofnaaGreat.LawRunTrick
open Go.ChangeShapes Go.WideShapes Go.ChangeAt Go.RowKit Fr _root_.Go.Proofs.YtibephoepkofnaaGreat.Own

set_option maxHeartbeats 4000000 in
theorem walk (A0 : Option Addr) (n0 c0 : Nat) (l0 : List Int) (S0 : Option Addr) (m0 d0 : Nat) (t0 : List Tst.SR) (x0 a0 b0 : Int) (A1 : Option Addr) (n1 c1 : Nat) (l1 : List Int) (w : World) (hn0 : l0.length = n0) (hm0 : n0 ≤ maxLen) (hs0 : ∀ z ∈ l0, (Lit.int .i64 z).wf = true) (ha0 : IntsAt w w.heap.size .i64 A0 l0) (hk0 : t0.length = m0) (hj0 : m0 ≤ maxLen) (hw0 : Tst.WfS t0) (hq0 : Tst.StepsAt w w.heap.size S0 t0) (wx0 : (Lit.int .i64 x0).wf = true) (wa0 : (Lit.int .i64 a0).wf = true) (wb0 : (Lit.int .i64 b0).wf = true) (hn1 : l1.length = n1) (hm1 : n1 ≤ maxLen) (hs1 : ∀ z ∈ l1, (Lit.int .i64 z).wf = true) (ha1 : IntsAt w w.heap.size .i64 A1 l1) :
    Calls Tryz.prog 4 #[Trk.trV A0 n0 c0 S0 m0 d0 x0 a0 b0, .slice A1 n1 c1] w fun e w' => e = .returned (.bool true) ∧ Below w.heap.size w w' := by
  have hx0 : n0 ≤ 9223372036854775807 := by unfold maxLen at hm0; omega
  have hz0 := Ins.fits_of hs0
  have HN0 := Lib.hid hn0
  clear hn0 hm0 hs0
  have f0 := ha0
  clear ha0
  have hy0 : m0 ≤ 9223372036854775807 := by unfold maxLen at hj0; omega
  have HM0 := Lib.hid hk0
  have HW0 := Lib.hid hw0
  have g0 := hq0
  clear hk0 hj0 hw0 hq0
  obtain ⟨xlo0, xhi0⟩ := Ins.wf_lo wx0
  clear wx0
  obtain ⟨alo0, ahi0⟩ := Ins.wf_lo wa0
  clear wa0
  obtain ⟨blo0, bhi0⟩ := Ins.wf_lo wb0
  clear wb0
  have hx1 : n1 ≤ 9223372036854775807 := by unfold maxLen at hm1; omega
  have hz1 := Ins.fits_of hs1
  have HN1 := Lib.hid hn1
  clear hn1 hm1 hs1
  have f1 := ha1
  clear ha1
  have T : Below w.heap.size w w := Below.refl _ w
  by_cases hg1 : (n1 : Int) ≤ 1048576
  · have hL1 : n1 ≤ 1048576 := by omega
    have hd1 : decide ((1048576 : Int) < (n1 : Int)) = false := decide_eq_false (by omega)
    by_cases hg0 : (n0 : Int) + (m0 : Int) ≤ (1048576 : Int)
    · have hL0 : n0 ≤ 1048576 := by omega
      have hM0 : m0 ≤ 1048576 := by omega
      obtain ⟨res, hres⟩ : ∃ r, r = Trn.runS l0 t0 x0 a0 b0 l1 := ⟨_, rfl⟩
      have hlen : res.length ≤ 1048576 := by rw [hres]; exact Trn.run_len _ _ _ _ _ _
      have HR := Lib.hid hres.symm
      clear hres
      obtain ⟨rm, hrm⟩ : ∃ r, r = Trn.runM l0 t0 x0 a0 b0 l1 := ⟨_, rfl⟩
      have HRM := Lib.hid hrm.symm
      clear hrm
      obtain ⟨rb, hrb⟩ : ∃ r, r = Trn.runB l0 t0 x0 a0 b0 l1 := ⟨_, rfl⟩
      have HRB := Lib.hid hrb.symm
      clear hrb
      go_enter Tryz.func4, Tryz.ntmps4
      obtain ⟨wp0, hbox0⟩ : ∃ W, W = World.alloc w (.cells #[.slice A0 n0 c0, .slice S0 m0 d0, .int .i64 x0, .int .i64 a0, .int .i64 b0] 45) := ⟨_, rfl⟩
      have hbx0 := True.intro
      have hb : Below w.heap.size w wp0 := by rw [hbox0]; exact Tst.box_below _ _
      have sz_p0 : w.heap.size + 1 ≤ wp0.heap.size := by rw [hbox0]; simp
      have HX_p0 : Hid (wp0.heap[w.heap.size]? = some (.cells #[.slice A0 n0 c0, .slice S0 m0 d0, .int .i64 x0, .int .i64 a0, .int .i64 b0] 45 (0, 0))) := Lib.hid (by rw [hbox0]; exact heap_alloc_new _ _)
      have s0 : w.heap.size ≤ wp0.heap.size := hb.size
      replace T := T.trans (hb.mono (by omega))
      replace f0 := Ins.at_below f0 hb (by omega)
      replace g0 := g0.below (hb.mono (by omega))
      replace f1 := Ins.at_below f1 hb (by omega)
      clear hb
      have c0_p0 := (Tst.cell_at HX_p0.out 0).trans rfl
      have c1_p0 := (Tst.cell_at HX_p0.out 1).trans rfl
      have c2_p0 := (Tst.cell_at HX_p0.out 2).trans rfl
      have c3_p0 := (Tst.cell_at HX_p0.out 3).trans rfl
      have c4_p0 := (Tst.cell_at HX_p0.out 4).trans rfl
      go_wp2_with fail
      clear hbx0
      rw [← hbox0]
      clear hbox0
      go_wp2_with fail
      refine (Trk.sz_trick A0 n0 c0 S0 m0 d0 x0 a0 b0 ((1048576 : Int)) _ hx0 hy0 (by omega) (by omega)).mono ?_
      rintro e w2 ⟨rfl, hb⟩
      rw [if_pos (show (n0 : Int) + (m0 : Int) ≤ (1048576 : Int) by omega)]
      have hz_0 : decide ((1048576 : Int) - (n0 : Int) - (m0 : Int) < 0) = false := decide_eq_false (by omega)
      have s2 : wp0.heap.size ≤ w2.heap.size := hb.size
      replace T := T.trans (hb.mono (by omega))
      replace f0 := Ins.at_below f0 hb (by omega)
      replace g0 := g0.below (hb.mono (by omega))
      replace f1 := Ins.at_below f1 hb (by omega)
      clear c0_p0 c1_p0 c2_p0 c3_p0 c4_p0
      replace HX_p0 := Lib.hid ((hb.block (w.heap.size) (by omega)).trans HX_p0.out)
      have c0_p0 := (Tst.cell_at HX_p0.out 0).trans rfl
      have c1_p0 := (Tst.cell_at HX_p0.out 1).trans rfl
      have c2_p0 := (Tst.cell_at HX_p0.out 2).trans rfl
      have c3_p0 := (Tst.cell_at HX_p0.out 3).trans rfl
      have c4_p0 := (Tst.cell_at HX_p0.out 4).trans rfl
      clear hb
      go_wp2_with fail
      refine (Trk.to_trick A0 n0 c0 l0 S0 m0 d0 t0 x0 a0 b0 _ HN0.out hL0 (f0.more T.size) HM0.out hM0 (g0.more T.size)).mono ?_
      rintro e w4 ⟨g_t_1, h_t_1, rfl, hown, hst, hgh_t_1, hb⟩
      rw [HN0.out] at hown
      rw [HM0.out] at hst
      rw [HN0.out, HM0.out]
      have s4 : w2.heap.size ≤ w4.heap.size := hb.size
      replace T := T.trans (hb.mono (by omega))
      replace f0 := Ins.at_below f0 hb (by omega)
      replace g0 := g0.below (hb.mono (by omega))
      replace f1 := Ins.at_below f1 hb (by omega)
      clear c0_p0 c1_p0 c2_p0 c3_p0 c4_p0
      replace HX_p0 := Lib.hid ((hb.block (w.heap.size) (by omega)).trans HX_p0.out)
      have c0_p0 := (Tst.cell_at HX_p0.out 0).trans rfl
      have c1_p0 := (Tst.cell_at HX_p0.out 1).trans rfl
      have c2_p0 := (Tst.cell_at HX_p0.out 2).trans rfl
      have c3_p0 := (Tst.cell_at HX_p0.out 3).trans rfl
      have c4_p0 := (Tst.cell_at HX_p0.out 4).trans rfl
      clear hb
      have r_t_1 := Ins.Row.mk hown
      have q_t_1 := hst
      clear hown hst
      go_wp2_with fail
      refine (Ins.to_any A1 n1 c1 l1 _ HN1.out hL1 (f1.more T.size)).mono ?_
      rintro e w6 ⟨g_t_2, rfl, hgg, hown, hb⟩
      have s6 : w4.heap.size ≤ w6.heap.size := hb.size
      replace T := T.trans (hb.mono (by omega))
      replace f0 := Ins.at_below f0 hb (by omega)
      replace g0 := g0.below (hb.mono (by omega))
      replace f1 := Ins.at_below f1 hb (by omega)
      replace r_t_1 := r_t_1.below hb
      replace q_t_1 := q_t_1.below hb
      clear c0_p0 c1_p0 c2_p0 c3_p0 c4_p0
      replace HX_p0 := Lib.hid ((hb.block (w.heap.size) (by omega)).trans HX_p0.out)
      have c0_p0 := (Tst.cell_at HX_p0.out 0).trans rfl
      have c1_p0 := (Tst.cell_at HX_p0.out 1).trans rfl
      have c2_p0 := (Tst.cell_at HX_p0.out 2).trans rfl
      have c3_p0 := (Tst.cell_at HX_p0.out 3).trans rfl
      have c4_p0 := (Tst.cell_at HX_p0.out 4).trans rfl
      clear hb
      have r_t_2 := Ins.Row.mk hown
      clear hgg hown
      go_wp2_with fail
      refine (Trn.spec_run (some ⟨g_t_1, 0, none⟩) n0 n0 l0 (some ⟨h_t_1, 0, none⟩) m0 m0 t0 x0 a0 b0 (some ⟨g_t_2, 0, none⟩) n1 n1 l1 _ HN0.out (by omega) hz0 r_t_1.at_ HM0.out (by omega) q_t_1.at_ HN1.out (by omega) r_t_2.at_).mono ?_
      rintro e w8 ⟨A_w0, c_w0, rfl, hown, hb⟩
      rw [HR.out] at hown
      rw [HR.out, HRM.out, HRB.out]
      have s8 : w6.heap.size ≤ w8.heap.size := hb.size
      replace T := T.trans (hb.mono (by omega))
      replace f0 := Ins.at_below f0 hb (by omega)
      replace g0 := g0.below (hb.mono (by omega))
      replace f1 := Ins.at_below f1 hb (by omega)
      replace r_t_1 := r_t_1.below hb
      replace q_t_1 := q_t_1.below hb
      replace r_t_2 := r_t_2.below hb
      clear c0_p0 c1_p0 c2_p0 c3_p0 c4_p0
      replace HX_p0 := Lib.hid ((hb.block (w.heap.size) (by omega)).trans HX_p0.out)
      have c0_p0 := (Tst.cell_at HX_p0.out 0).trans rfl
      have c1_p0 := (Tst.cell_at HX_p0.out 1).trans rfl
      have c2_p0 := (Tst.cell_at HX_p0.out 2).trans rfl
      have c3_p0 := (Tst.cell_at HX_p0.out 3).trans rfl
      have c4_p0 := (Tst.cell_at HX_p0.out 4).trans rfl
      clear hb
      have r_w0 := Ins.Row.mk hown
      clear hown
      have p0_p0 := (Tst.cell_at (((Tst.box_below w8 (.cells #[.slice A_w0 res.length c_w0, .int .i64 rm] 32)).block (w.heap.size) (by omega)).trans HX_p0.out) 0).trans rfl
      have p1_p0 := (Tst.cell_at (((Tst.box_below w8 (.cells #[.slice A_w0 res.length c_w0, .int .i64 rm] 32)).block (w.heap.size) (by omega)).trans HX_p0.out) 1).trans rfl
      have p2_p0 := (Tst.cell_at (((Tst.box_below w8 (.cells #[.slice A_w0 res.length c_w0, .int .i64 rm] 32)).block (w.heap.size) (by omega)).trans HX_p0.out) 2).trans rfl
      have p3_p0 := (Tst.cell_at (((Tst.box_below w8 (.cells #[.slice A_w0 res.length c_w0, .int .i64 rm] 32)).block (w.heap.size) (by omega)).trans HX_p0.out) 3).trans rfl
      have p4_p0 := (Tst.cell_at (((Tst.box_below w8 (.cells #[.slice A_w0 res.length c_w0, .int .i64 rm] 32)).block (w.heap.size) (by omega)).trans HX_p0.out) 4).trans rfl
      go_wp2_with fail
      clear p0_p0 p1_p0 p2_p0 p3_p0 p4_p0
      generalize hbox : World.alloc w8 _ = wb_w0
      have hb : Below w8.heap.size w8 wb_w0 := by rw [← hbox]; exact Tst.box_below _ _
      have sz_w0 : w8.heap.size + 1 ≤ wb_w0.heap.size := by rw [← hbox]; simp
      have HX_w0 : Hid (wb_w0.heap[w8.heap.size]? = some (.cells #[.slice A_w0 res.length c_w0, .int .i64 rm] 32 (0, 0))) := Lib.hid (by rw [← hbox]; exact heap_alloc_new _ _)
      clear hbox
      have s10 : w8.heap.size ≤ wb_w0.heap.size := hb.size
      replace T := T.trans (hb.mono (by omega))
      replace f0 := Ins.at_below f0 hb (by omega)
      replace g0 := g0.below (hb.mono (by omega))
      replace f1 := Ins.at_below f1 hb (by omega)
      replace r_t_1 := r_t_1.below hb
      replace q_t_1 := q_t_1.below hb
      replace r_t_2 := r_t_2.below hb
      replace r_w0 := r_w0.below hb
      clear c0_p0 c1_p0 c2_p0 c3_p0 c4_p0
      replace HX_p0 := Lib.hid ((hb.block (w.heap.size) (by omega)).trans HX_p0.out)
      have c0_p0 := (Tst.cell_at HX_p0.out 0).trans rfl
      have c1_p0 := (Tst.cell_at HX_p0.out 1).trans rfl
      have c2_p0 := (Tst.cell_at HX_p0.out 2).trans rfl
      have c3_p0 := (Tst.cell_at HX_p0.out 3).trans rfl
      have c4_p0 := (Tst.cell_at HX_p0.out 4).trans rfl
      clear hb
      have c0_w0 := (Tst.cell_at HX_w0.out 0).trans rfl
      have c1_w0 := (Tst.cell_at HX_w0.out 1).trans rfl
      refine (Trk.to_trick A0 n0 c0 l0 S0 m0 d0 t0 x0 a0 b0 _ HN0.out hL0 (f0.more T.size) HM0.out hM0 (g0.more T.size)).mono ?_
      rintro e w10 ⟨g_x0, h_x0, rfl, hown, hst, hgh_x0, hb⟩
      rw [HN0.out] at hown
      rw [HM0.out] at hst
      rw [HN0.out, HM0.out]
      have s11 : wb_w0.heap.size ≤ w10.heap.size := hb.size
      replace T := T.trans (hb.mono (by omega))
      replace f0 := Ins.at_below f0 hb (by omega)
      replace g0 := g0.below (hb.mono (by omega))
      replace f1 := Ins.at_below f1 hb (by omega)
      replace r_t_1 := r_t_1.below hb
      replace q_t_1 := q_t_1.below hb
      replace r_t_2 := r_t_2.below hb
      replace r_w0 := r_w0.below hb
      clear c0_p0 c1_p0 c2_p0 c3_p0 c4_p0 c0_w0 c1_w0
      replace HX_p0 := Lib.hid ((hb.block (w.heap.size) (by omega)).trans HX_p0.out)
      have c0_p0 := (Tst.cell_at HX_p0.out 0).trans rfl
      have c1_p0 := (Tst.cell_at HX_p0.out 1).trans rfl
      have c2_p0 := (Tst.cell_at HX_p0.out 2).trans rfl
      have c3_p0 := (Tst.cell_at HX_p0.out 3).trans rfl
      have c4_p0 := (Tst.cell_at HX_p0.out 4).trans rfl
      replace HX_w0 := Lib.hid ((hb.block (w8.heap.size) (by omega)).trans HX_w0.out)
      have c0_w0 := (Tst.cell_at HX_w0.out 0).trans rfl
      have c1_w0 := (Tst.cell_at HX_w0.out 1).trans rfl
      clear hb
      have r_x0 := Ins.Row.mk hown
      have q_x0 := hst
      clear hown hst
      have p0_p0 := (Tst.cell_at (((Tst.box_below w10 (.cells #[.slice (some ⟨g_x0, 0, none⟩) n0 n0, .slice (some ⟨h_x0, 0, none⟩) m0 m0, .int .i64 x0, .int .i64 a0, .int .i64 b0] 51)).block (w.heap.size) (by omega)).trans HX_p0.out) 0).trans rfl
      have p1_p0 := (Tst.cell_at (((Tst.box_below w10 (.cells #[.slice (some ⟨g_x0, 0, none⟩) n0 n0, .slice (some ⟨h_x0, 0, none⟩) m0 m0, .int .i64 x0, .int .i64 a0, .int .i64 b0] 51)).block (w.heap.size) (by omega)).trans HX_p0.out) 1).trans rfl
      have p2_p0 := (Tst.cell_at (((Tst.box_below w10 (.cells #[.slice (some ⟨g_x0, 0, none⟩) n0 n0, .slice (some ⟨h_x0, 0, none⟩) m0 m0, .int .i64 x0, .int .i64 a0, .int .i64 b0] 51)).block (w.heap.size) (by omega)).trans HX_p0.out) 2).trans rfl
      have p3_p0 := (Tst.cell_at (((Tst.box_below w10 (.cells #[.slice (some ⟨g_x0, 0, none⟩) n0 n0, .slice (some ⟨h_x0, 0, none⟩) m0 m0, .int .i64 x0, .int .i64 a0, .int .i64 b0] 51)).block (w.heap.size) (by omega)).trans HX_p0.out) 3).trans rfl
      have p4_p0 := (Tst.cell_at (((Tst.box_below w10 (.cells #[.slice (some ⟨g_x0, 0, none⟩) n0 n0, .slice (some ⟨h_x0, 0, none⟩) m0 m0, .int .i64 x0, .int .i64 a0, .int .i64 b0] 51)).block (w.heap.size) (by omega)).trans HX_p0.out) 4).trans rfl
      have p0_w0 := (Tst.cell_at (((Tst.box_below w10 (.cells #[.slice (some ⟨g_x0, 0, none⟩) n0 n0, .slice (some ⟨h_x0, 0, none⟩) m0 m0, .int .i64 x0, .int .i64 a0, .int .i64 b0] 51)).block (w8.heap.size) (by omega)).trans HX_w0.out) 0).trans rfl
      have p1_w0 := (Tst.cell_at (((Tst.box_below w10 (.cells #[.slice (some ⟨g_x0, 0, none⟩) n0 n0, .slice (some ⟨h_x0, 0, none⟩) m0 m0, .int .i64 x0, .int .i64 a0, .int .i64 b0] 51)).block (w8.heap.size) (by omega)).trans HX_w0.out) 1).trans rfl
      go_wp2_with fail
      clear p0_p0 p1_p0 p2_p0 p3_p0 p4_p0 p0_w0 p1_w0
      generalize hbox : World.alloc w10 _ = wb_x0
      have hb : Below w10.heap.size w10 wb_x0 := by rw [← hbox]; exact Tst.box_below _ _
      have sz_x0 : w10.heap.size + 1 ≤ wb_x0.heap.size := by rw [← hbox]; simp
      have HX_x0 : Hid (wb_x0.heap[w10.heap.size]? = some (.cells #[.slice (some ⟨g_x0, 0, none⟩) n0 n0, .slice (some ⟨h_x0, 0, none⟩) m0 m0, .int .i64 x0, .int .i64 a0, .int .i64 b0] 51 (0, 0))) := Lib.hid (by rw [← hbox]; exact heap_alloc_new _ _)
      clear hbox
      have s13 : w10.heap.size ≤ wb_x0.heap.size := hb.size
      replace T := T.trans (hb.mono (by omega))
      replace f0 := Ins.at_below f0 hb (by omega)
      replace g0 := g0.below (hb.mono (by omega))
      replace f1 := Ins.at_below f1 hb (by omega)
      replace r_t_1 := r_t_1.below hb
      replace q_t_1 := q_t_1.below hb
      replace r_t_2 := r_t_2.below hb
      replace r_w0 := r_w0.below hb
      replace r_x0 := r_x0.below hb
      replace q_x0 := q_x0.below hb
      clear c0_p0 c1_p0 c2_p0 c3_p0 c4_p0 c0_w0 c1_w0
      replace HX_p0 := Lib.hid ((hb.block (w.heap.size) (by omega)).trans HX_p0.out)
      have c0_p0 := (Tst.cell_at HX_p0.out 0).trans rfl
      have c1_p0 := (Tst.cell_at HX_p0.out 1).trans rfl
      have c2_p0 := (Tst.cell_at HX_p0.out 2).trans rfl
      have c3_p0 := (Tst.cell_at HX_p0.out 3).trans rfl
      have c4_p0 := (Tst.cell_at HX_p0.out 4).trans rfl
      replace HX_w0 := Lib.hid ((hb.block (w8.heap.size) (by omega)).trans HX_w0.out)
      have c0_w0 := (Tst.cell_at HX_w0.out 0).trans rfl
      have c1_w0 := (Tst.cell_at HX_w0.out 1).trans rfl
      clear hb
      have c0_x0 := (Tst.cell_at HX_x0.out 0).trans rfl
      have c1_x0 := (Tst.cell_at HX_x0.out 1).trans rfl
      have c2_x0 := (Tst.cell_at HX_x0.out 2).trans rfl
      have c3_x0 := (Tst.cell_at HX_x0.out 3).trans rfl
      have c4_x0 := (Tst.cell_at HX_x0.out 4).trans rfl
      refine (Ins.to_any A1 n1 c1 l1 _ HN1.out hL1 (f1.more T.size)).mono ?_
      rintro e w13 ⟨g_x1, rfl, hgg, hown, hb⟩
      have s14 : wb_x0.heap.size ≤ w13.heap.size := hb.size
      replace T := T.trans (hb.mono (by omega))
      replace f0 := Ins.at_below f0 hb (by omega)
      replace g0 := g0.below (hb.mono (by omega))
      replace f1 := Ins.at_below f1 hb (by omega)
      replace r_t_1 := r_t_1.below hb
      replace q_t_1 := q_t_1.below hb
      replace r_t_2 := r_t_2.below hb
      replace r_w0 := r_w0.below hb
      replace r_x0 := r_x0.below hb
      replace q_x0 := q_x0.below hb
      clear c0_p0 c1_p0 c2_p0 c3_p0 c4_p0 c0_w0 c1_w0 c0_x0 c1_x0 c2_x0 c3_x0 c4_x0
      replace HX_p0 := Lib.hid ((hb.block (w.heap.size) (by omega)).trans HX_p0.out)
      have c0_p0 := (Tst.cell_at HX_p0.out 0).trans rfl
      have c1_p0 := (Tst.cell_at HX_p0.out 1).trans rfl
      have c2_p0 := (Tst.cell_at HX_p0.out 2).trans rfl
      have c3_p0 := (Tst.cell_at HX_p0.out 3).trans rfl
      have c4_p0 := (Tst.cell_at HX_p0.out 4).trans rfl
      replace HX_w0 := Lib.hid ((hb.block (w8.heap.size) (by omega)).trans HX_w0.out)
      have c0_w0 := (Tst.cell_at HX_w0.out 0).trans rfl
      have c1_w0 := (Tst.cell_at HX_w0.out 1).trans rfl
      replace HX_x0 := Lib.hid ((hb.block (w10.heap.size) (by omega)).trans HX_x0.out)
      have c0_x0 := (Tst.cell_at HX_x0.out 0).trans rfl
      have c1_x0 := (Tst.cell_at HX_x0.out 1).trans rfl
      have c2_x0 := (Tst.cell_at HX_x0.out 2).trans rfl
      have c3_x0 := (Tst.cell_at HX_x0.out 3).trans rfl
      have c4_x0 := (Tst.cell_at HX_x0.out 4).trans rfl
      clear hb
      have r_x1 := Ins.Row.mk hown
      clear hgg hown
      go_wp2_with fail
      refine (Trp.impl_run (some ⟨g_x0, 0, none⟩) n0 n0 l0 (some ⟨h_x0, 0, none⟩) m0 m0 t0 x0 a0 b0 (some ⟨g_x1, 0, none⟩) n1 n1 l1 _ HN0.out (by omega) hz0 r_x0.at_ HM0.out (by omega) q_x0.at_ HN1.out (Nat.le_refl _) (by omega) r_x1.at_).mono ?_
      rintro e w16 ⟨A_g0, c_g0, rfl, hown, hb⟩
      rw [HR.out] at hown
      rw [HR.out, HRM.out, HRB.out]
      have s16 : w13.heap.size ≤ w16.heap.size := hb.size
      replace T := T.trans (hb.mono (by omega))
      replace f0 := Ins.at_below f0 hb (by omega)
      replace g0 := g0.below (hb.mono (by omega))
      replace f1 := Ins.at_below f1 hb (by omega)
      replace r_t_1 := r_t_1.below hb
      replace q_t_1 := q_t_1.below hb
      replace r_t_2 := r_t_2.below hb
      replace r_w0 := r_w0.below hb
      replace r_x0 := r_x0.below hb
      replace q_x0 := q_x0.below hb
      replace r_x1 := r_x1.below hb
      clear c0_p0 c1_p0 c2_p0 c3_p0 c4_p0 c0_w0 c1_w0 c0_x0 c1_x0 c2_x0 c3_x0 c4_x0
      replace HX_p0 := Lib.hid ((hb.block (w.heap.size) (by omega)).trans HX_p0.out)
      have c0_p0 := (Tst.cell_at HX_p0.out 0).trans rfl
      have c1_p0 := (Tst.cell_at HX_p0.out 1).trans rfl
      have c2_p0 := (Tst.cell_at HX_p0.out 2).trans rfl
      have c3_p0 := (Tst.cell_at HX_p0.out 3).trans rfl
      have c4_p0 := (Tst.cell_at HX_p0.out 4).trans rfl
      replace HX_w0 := Lib.hid ((hb.block (w8.heap.size) (by omega)).trans HX_w0.out)
      have c0_w0 := (Tst.cell_at HX_w0.out 0).trans rfl
      have c1_w0 := (Tst.cell_at HX_w0.out 1).trans rfl
      replace HX_x0 := Lib.hid ((hb.block (w10.heap.size) (by omega)).trans HX_x0.out)
      have c0_x0 := (Tst.cell_at HX_x0.out 0).trans rfl
      have c1_x0 := (Tst.cell_at HX_x0.out 1).trans rfl
      have c2_x0 := (Tst.cell_at HX_x0.out 2).trans rfl
      have c3_x0 := (Tst.cell_at HX_x0.out 3).trans rfl
      have c4_x0 := (Tst.cell_at HX_x0.out 4).trans rfl
      clear hb
      have r_g0 := Ins.Row.mk hown
      clear hown
      have p0_p0 := (Tst.cell_at (((Tst.box_below w16 (.cells #[.slice A_g0 res.length c_g0, .int .i64 rm] 32)).block (w.heap.size) (by omega)).trans HX_p0.out) 0).trans rfl
      have p1_p0 := (Tst.cell_at (((Tst.box_below w16 (.cells #[.slice A_g0 res.length c_g0, .int .i64 rm] 32)).block (w.heap.size) (by omega)).trans HX_p0.out) 1).trans rfl
      have p2_p0 := (Tst.cell_at (((Tst.box_below w16 (.cells #[.slice A_g0 res.length c_g0, .int .i64 rm] 32)).block (w.heap.size) (by omega)).trans HX_p0.out) 2).trans rfl
      have p3_p0 := (Tst.cell_at (((Tst.box_below w16 (.cells #[.slice A_g0 res.length c_g0, .int .i64 rm] 32)).block (w.heap.size) (by omega)).trans HX_p0.out) 3).trans rfl
      have p4_p0 := (Tst.cell_at (((Tst.box_below w16 (.cells #[.slice A_g0 res.length c_g0, .int .i64 rm] 32)).block (w.heap.size) (by omega)).trans HX_p0.out) 4).trans rfl
      have p0_w0 := (Tst.cell_at (((Tst.box_below w16 (.cells #[.slice A_g0 res.length c_g0, .int .i64 rm] 32)).block (w8.heap.size) (by omega)).trans HX_w0.out) 0).trans rfl
      have p1_w0 := (Tst.cell_at (((Tst.box_below w16 (.cells #[.slice A_g0 res.length c_g0, .int .i64 rm] 32)).block (w8.heap.size) (by omega)).trans HX_w0.out) 1).trans rfl
      have p0_x0 := (Tst.cell_at (((Tst.box_below w16 (.cells #[.slice A_g0 res.length c_g0, .int .i64 rm] 32)).block (w10.heap.size) (by omega)).trans HX_x0.out) 0).trans rfl
      have p1_x0 := (Tst.cell_at (((Tst.box_below w16 (.cells #[.slice A_g0 res.length c_g0, .int .i64 rm] 32)).block (w10.heap.size) (by omega)).trans HX_x0.out) 1).trans rfl
      have p2_x0 := (Tst.cell_at (((Tst.box_below w16 (.cells #[.slice A_g0 res.length c_g0, .int .i64 rm] 32)).block (w10.heap.size) (by omega)).trans HX_x0.out) 2).trans rfl
      have p3_x0 := (Tst.cell_at (((Tst.box_below w16 (.cells #[.slice A_g0 res.length c_g0, .int .i64 rm] 32)).block (w10.heap.size) (by omega)).trans HX_x0.out) 3).trans rfl
      have p4_x0 := (Tst.cell_at (((Tst.box_below w16 (.cells #[.slice A_g0 res.length c_g0, .int .i64 rm] 32)).block (w10.heap.size) (by omega)).trans HX_x0.out) 4).trans rfl
      go_wp2_with fail
      clear p0_p0 p1_p0 p2_p0 p3_p0 p4_p0 p0_w0 p1_w0 p0_x0 p1_x0 p2_x0 p3_x0 p4_x0
      generalize hbox : World.alloc w16 _ = wb_g0
      have hb : Below w16.heap.size w16 wb_g0 := by rw [← hbox]; exact Tst.box_below _ _
      have sz_g0 : w16.heap.size + 1 ≤ wb_g0.heap.size := by rw [← hbox]; simp
      have HX_g0 : Hid (wb_g0.heap[w16.heap.size]? = some (.cells #[.slice A_g0 res.length c_g0, .int .i64 rm] 32 (0, 0))) := Lib.hid (by rw [← hbox]; exact heap_alloc_new _ _)
      clear hbox
      have s18 : w16.heap.size ≤ wb_g0.heap.size := hb.size
      replace T := T.trans (hb.mono (by omega))
      replace f0 := Ins.at_below f0 hb (by omega)
      replace g0 := g0.below (hb.mono (by omega))
      replace f1 := Ins.at_below f1 hb (by omega)
      replace r_t_1 := r_t_1.below hb
      replace q_t_1 := q_t_1.below hb
      replace r_t_2 := r_t_2.below hb
      replace r_w0 := r_w0.below hb
      replace r_x0 := r_x0.below hb
      replace q_x0 := q_x0.below hb
      replace r_x1 := r_x1.below hb
      replace r_g0 := r_g0.below hb
      clear c0_p0 c1_p0 c2_p0 c3_p0 c4_p0 c0_w0 c1_w0 c0_x0 c1_x0 c2_x0 c3_x0 c4_x0
      replace HX_p0 := Lib.hid ((hb.block (w.heap.size) (by omega)).trans HX_p0.out)
      have c0_p0 := (Tst.cell_at HX_p0.out 0).trans rfl
      have c1_p0 := (Tst.cell_at HX_p0.out 1).trans rfl
      have c2_p0 := (Tst.cell_at HX_p0.out 2).trans rfl
      have c3_p0 := (Tst.cell_at HX_p0.out 3).trans rfl
      have c4_p0 := (Tst.cell_at HX_p0.out 4).trans rfl
      replace HX_w0 := Lib.hid ((hb.block (w8.heap.size) (by omega)).trans HX_w0.out)
      have c0_w0 := (Tst.cell_at HX_w0.out 0).trans rfl
      have c1_w0 := (Tst.cell_at HX_w0.out 1).trans rfl
      replace HX_x0 := Lib.hid ((hb.block (w10.heap.size) (by omega)).trans HX_x0.out)
      have c0_x0 := (Tst.cell_at HX_x0.out 0).trans rfl
      have c1_x0 := (Tst.cell_at HX_x0.out 1).trans rfl
      have c2_x0 := (Tst.cell_at HX_x0.out 2).trans rfl
      have c3_x0 := (Tst.cell_at HX_x0.out 3).trans rfl
      have c4_x0 := (Tst.cell_at HX_x0.out 4).trans rfl
      clear hb
      have c0_g0 := (Tst.cell_at HX_g0.out 0).trans rfl
      have c1_g0 := (Tst.cell_at HX_g0.out 1).trans rfl
      refine (Scn.eq_scene A_g0 A_w0 res.length c_g0 c_w0 res rm _ rfl (by omega) r_g0.at_ r_w0.at_).mono ?_
      rintro e w18 ⟨rfl, hb⟩
      have s19 : wb_g0.heap.size ≤ w18.heap.size := hb.size
      replace T := T.trans (hb.mono (by omega))
      replace f0 := Ins.at_below f0 hb (by omega)
      replace g0 := g0.below (hb.mono (by omega))
      replace f1 := Ins.at_below f1 hb (by omega)
      replace r_t_1 := r_t_1.below hb
      replace q_t_1 := q_t_1.below hb
      replace r_t_2 := r_t_2.below hb
      replace r_w0 := r_w0.below hb
      replace r_x0 := r_x0.below hb
      replace q_x0 := q_x0.below hb
      replace r_x1 := r_x1.below hb
      replace r_g0 := r_g0.below hb
      clear c0_p0 c1_p0 c2_p0 c3_p0 c4_p0 c0_w0 c1_w0 c0_x0 c1_x0 c2_x0 c3_x0 c4_x0 c0_g0 c1_g0
      replace HX_p0 := Lib.hid ((hb.block (w.heap.size) (by omega)).trans HX_p0.out)
      have c0_p0 := (Tst.cell_at HX_p0.out 0).trans rfl
      have c1_p0 := (Tst.cell_at HX_p0.out 1).trans rfl
      have c2_p0 := (Tst.cell_at HX_p0.out 2).trans rfl
      have c3_p0 := (Tst.cell_at HX_p0.out 3).trans rfl
      have c4_p0 := (Tst.cell_at HX_p0.out 4).trans rfl
      replace HX_w0 := Lib.hid ((hb.block (w8.heap.size) (by omega)).trans HX_w0.out)
      have c0_w0 := (Tst.cell_at HX_w0.out 0).trans rfl
      have c1_w0 := (Tst.cell_at HX_w0.out 1).trans rfl
      replace HX_x0 := Lib.hid ((hb.block (w10.heap.size) (by omega)).trans HX_x0.out)
      have c0_x0 := (Tst.cell_at HX_x0.out 0).trans rfl
      have c1_x0 := (Tst.cell_at HX_x0.out 1).trans rfl
      have c2_x0 := (Tst.cell_at HX_x0.out 2).trans rfl
      have c3_x0 := (Tst.cell_at HX_x0.out 3).trans rfl
      have c4_x0 := (Tst.cell_at HX_x0.out 4).trans rfl
      replace HX_g0 := Lib.hid ((hb.block (w16.heap.size) (by omega)).trans HX_g0.out)
      have c0_g0 := (Tst.cell_at HX_g0.out 0).trans rfl
      have c1_g0 := (Tst.cell_at HX_g0.out 1).trans rfl
      clear hb
      have hb := (Below.refl w18.heap.size w18).drew
      have s20 : w18.heap.size ≤ w18.drew.heap.size := hb.size
      replace T := T.trans (hb.mono (by omega))
      replace f0 := Ins.at_below f0 hb (by omega)
      replace g0 := g0.below (hb.mono (by omega))
      replace f1 := Ins.at_below f1 hb (by omega)
      replace r_t_1 := r_t_1.below hb
      replace q_t_1 := q_t_1.below hb
      replace r_t_2 := r_t_2.below hb
      replace r_w0 := r_w0.below hb
      replace r_x0 := r_x0.below hb
      replace q_x0 := q_x0.below hb
      replace r_x1 := r_x1.below hb
      replace r_g0 := r_g0.below hb
      clear c0_p0 c1_p0 c2_p0 c3_p0 c4_p0 c0_w0 c1_w0 c0_x0 c1_x0 c2_x0 c3_x0 c4_x0 c0_g0 c1_g0
      replace HX_p0 := Lib.hid ((hb.block (w.heap.size) (by omega)).trans HX_p0.out)
      have c0_p0 := (Tst.cell_at HX_p0.out 0).trans rfl
      have c1_p0 := (Tst.cell_at HX_p0.out 1).trans rfl
      have c2_p0 := (Tst.cell_at HX_p0.out 2).trans rfl
      have c3_p0 := (Tst.cell_at HX_p0.out 3).trans rfl
      have c4_p0 := (Tst.cell_at HX_p0.out 4).trans rfl
      replace HX_w0 := Lib.hid ((hb.block (w8.heap.size) (by omega)).trans HX_w0.out)
      have c0_w0 := (Tst.cell_at HX_w0.out 0).trans rfl
      have c1_w0 := (Tst.cell_at HX_w0.out 1).trans rfl
      replace HX_x0 := Lib.hid ((hb.block (w10.heap.size) (by omega)).trans HX_x0.out)
      have c0_x0 := (Tst.cell_at HX_x0.out 0).trans rfl
      have c1_x0 := (Tst.cell_at HX_x0.out 1).trans rfl
      have c2_x0 := (Tst.cell_at HX_x0.out 2).trans rfl
      have c3_x0 := (Tst.cell_at HX_x0.out 3).trans rfl
      have c4_x0 := (Tst.cell_at HX_x0.out 4).trans rfl
      replace HX_g0 := Lib.hid ((hb.block (w16.heap.size) (by omega)).trans HX_g0.out)
      have c0_g0 := (Tst.cell_at HX_g0.out 0).trans rfl
      have c1_g0 := (Tst.cell_at HX_g0.out 1).trans rfl
      clear hb
      go_wp2_with fail
      go_region_held3 (fun w' => w'.cell? ⟨w.heap.size, 0, none⟩ = some (.slice A0 n0 c0) ∧ w'.cell? ⟨w.heap.size, 1, none⟩ = some (.slice S0 m0 d0) ∧ w'.cell? ⟨w.heap.size, 2, none⟩ = some (.int .i64 x0) ∧ w'.cell? ⟨w.heap.size, 3, none⟩ = some (.int .i64 a0) ∧ w'.cell? ⟨w.heap.size, 4, none⟩ = some (.int .i64 b0) ∧ w'.cell? ⟨w8.heap.size, 0, none⟩ = some (.slice A_w0 res.length c_w0) ∧ w'.cell? ⟨w8.heap.size, 1, none⟩ = some (.int .i64 rm) ∧ w'.cell? ⟨w10.heap.size, 0, none⟩ = some (.slice (some ⟨g_x0, 0, none⟩) n0 n0) ∧ w'.cell? ⟨w10.heap.size, 1, none⟩ = some (.slice (some ⟨h_x0, 0, none⟩) m0 m0) ∧ w'.cell? ⟨w10.heap.size, 2, none⟩ = some (.int .i64 x0) ∧ w'.cell? ⟨w10.heap.size, 3, none⟩ = some (.int .i64 a0) ∧ w'.cell? ⟨w10.heap.size, 4, none⟩ = some (.int .i64 b0) ∧ w'.cell? ⟨w16.heap.size, 0, none⟩ = some (.slice A_g0 res.length c_g0) ∧ w'.cell? ⟨w16.heap.size, 1, none⟩ = some (.int .i64 rm)) ((first | exact ⟨c0_p0, c1_p0, c2_p0, c3_p0, c4_p0, c0_w0, c1_w0, c0_x0, c1_x0, c2_x0, c3_x0, c4_x0, c0_g0, c1_g0⟩)) ((first | (go_at_call 17; refine (Trk.to_trick A0 n0 c0 l0 S0 m0 d0 t0 x0 a0 b0 _ HN0.out hL0 (f0.more T.size) HM0.out hM0 (g0.more T.size)).mono ?_; rintro e w22 ⟨g_t_3, h_t_3, rfl, hown, hst, hgh_t_3, hb⟩; rw [HN0.out] at hown; rw [HM0.out] at hst; rw [HN0.out, HM0.out]; have s22 : w18.drew.heap.size ≤ w22.heap.size := hb.size; replace T := T.trans (hb.mono (by omega)); replace f0 := Ins.at_below f0 hb (by omega); replace g0 := g0.below (hb.mono (by omega)); replace f1 := Ins.at_below f1 hb (by omega); replace r_t_1 := r_t_1.below hb; replace q_t_1 := q_t_1.below hb; replace r_t_2 := r_t_2.below hb; replace r_w0 := r_w0.below hb; replace r_x0 := r_x0.below hb; replace q_x0 := q_x0.below hb; replace r_x1 := r_x1.below hb; replace r_g0 := r_g0.below hb; clear c0_p0 c1_p0 c2_p0 c3_p0 c4_p0 c0_w0 c1_w0 c0_x0 c1_x0 c2_x0 c3_x0 c4_x0 c0_g0 c1_g0; replace HX_p0 := Lib.hid ((hb.block (w.heap.size) (by omega)).trans HX_p0.out); have c0_p0 := (Tst.cell_at HX_p0.out 0).trans rfl; have c1_p0 := (Tst.cell_at HX_p0.out 1).trans rfl; have c2_p0 := (Tst.cell_at HX_p0.out 2).trans rfl; have c3_p0 := (Tst.cell_at HX_p0.out 3).trans rfl; have c4_p0 := (Tst.cell_at HX_p0.out 4).trans rfl; replace HX_w0 := Lib.hid ((hb.block (w8.heap.size) (by omega)).trans HX_w0.out); have c0_w0 := (Tst.cell_at HX_w0.out 0).trans rfl; have c1_w0 := (Tst.cell_at HX_w0.out 1).trans rfl; replace HX_x0 := Lib.hid ((hb.block (w10.heap.size) (by omega)).trans HX_x0.out); have c0_x0 := (Tst.cell_at HX_x0.out 0).trans rfl; have c1_x0 := (Tst.cell_at HX_x0.out 1).trans rfl; have c2_x0 := (Tst.cell_at HX_x0.out 2).trans rfl; have c3_x0 := (Tst.cell_at HX_x0.out 3).trans rfl; have c4_x0 := (Tst.cell_at HX_x0.out 4).trans rfl; replace HX_g0 := Lib.hid ((hb.block (w16.heap.size) (by omega)).trans HX_g0.out); have c0_g0 := (Tst.cell_at HX_g0.out 0).trans rfl; have c1_g0 := (Tst.cell_at HX_g0.out 1).trans rfl; clear hb; have r_t_3 := Ins.Row.mk hown; have q_t_3 := hst; clear hown hst) | (go_at_call 20; refine (Trk.eq_trick (some ⟨g_x0, 0, none⟩) (some ⟨g_t_3, 0, none⟩) n0 n0 n0 l0 (some ⟨h_x0, 0, none⟩) (some ⟨h_t_3, 0, none⟩) m0 m0 m0 t0 x0 a0 b0 _ HN0.out (by omega) r_x0.at_ r_t_3.at_ HM0.out (by omega) q_x0.at_ q_t_3.at_).mono ?_; rintro e w24 ⟨rfl, hb⟩; have s24 : w22.heap.size ≤ w24.heap.size := hb.size; replace T := T.trans (hb.mono (by omega)); replace f0 := Ins.at_below f0 hb (by omega); replace g0 := g0.below (hb.mono (by omega)); replace f1 := Ins.at_below f1 hb (by omega); replace r_t_1 := r_t_1.below hb; replace q_t_1 := q_t_1.below hb; replace r_t_2 := r_t_2.below hb; replace r_w0 := r_w0.below hb; replace r_x0 := r_x0.below hb; replace q_x0 := q_x0.below hb; replace r_x1 := r_x1.below hb; replace r_g0 := r_g0.below hb; replace r_t_3 := r_t_3.below hb; replace q_t_3 := q_t_3.below hb; clear c0_p0 c1_p0 c2_p0 c3_p0 c4_p0 c0_w0 c1_w0 c0_x0 c1_x0 c2_x0 c3_x0 c4_x0 c0_g0 c1_g0; replace HX_p0 := Lib.hid ((hb.block (w.heap.size) (by omega)).trans HX_p0.out); have c0_p0 := (Tst.cell_at HX_p0.out 0).trans rfl; have c1_p0 := (Tst.cell_at HX_p0.out 1).trans rfl; have c2_p0 := (Tst.cell_at HX_p0.out 2).trans rfl; have c3_p0 := (Tst.cell_at HX_p0.out 3).trans rfl; have c4_p0 := (Tst.cell_at HX_p0.out 4).trans rfl; replace HX_w0 := Lib.hid ((hb.block (w8.heap.size) (by omega)).trans HX_w0.out); have c0_w0 := (Tst.cell_at HX_w0.out 0).trans rfl; have c1_w0 := (Tst.cell_at HX_w0.out 1).trans rfl; replace HX_x0 := Lib.hid ((hb.block (w10.heap.size) (by omega)).trans HX_x0.out); have c0_x0 := (Tst.cell_at HX_x0.out 0).trans rfl; have c1_x0 := (Tst.cell_at HX_x0.out 1).trans rfl; have c2_x0 := (Tst.cell_at HX_x0.out 2).trans rfl; have c3_x0 := (Tst.cell_at HX_x0.out 3).trans rfl; have c4_x0 := (Tst.cell_at HX_x0.out 4).trans rfl; replace HX_g0 := Lib.hid ((hb.block (w16.heap.size) (by omega)).trans HX_g0.out); have c0_g0 := (Tst.cell_at HX_g0.out 0).trans rfl; have c1_g0 := (Tst.cell_at HX_g0.out 1).trans rfl; clear hb)))
      go_wp2_with fail
      refine (Ins.to_any A1 n1 c1 l1 _ HN1.out hL1 (f1.more T.size)).mono ?_
      rintro e w26 ⟨g_t_4, rfl, hgg, hown, hb⟩
      have s26 : w24.heap.size ≤ w26.heap.size := hb.size
      replace T := T.trans (hb.mono (by omega))
      replace f0 := Ins.at_below f0 hb (by omega)
      replace g0 := g0.below (hb.mono (by omega))
      replace f1 := Ins.at_below f1 hb (by omega)
      replace r_t_1 := r_t_1.below hb
      replace q_t_1 := q_t_1.below hb
      replace r_t_2 := r_t_2.below hb
      replace r_w0 := r_w0.below hb
      replace r_x0 := r_x0.below hb
      replace q_x0 := q_x0.below hb
      replace r_x1 := r_x1.below hb
      replace r_g0 := r_g0.below hb
      replace r_t_3 := r_t_3.below hb
      replace q_t_3 := q_t_3.below hb
      clear c0_p0 c1_p0 c2_p0 c3_p0 c4_p0 c0_w0 c1_w0 c0_x0 c1_x0 c2_x0 c3_x0 c4_x0 c0_g0 c1_g0
      replace HX_p0 := Lib.hid ((hb.block (w.heap.size) (by omega)).trans HX_p0.out)
      have c0_p0 := (Tst.cell_at HX_p0.out 0).trans rfl
      have c1_p0 := (Tst.cell_at HX_p0.out 1).trans rfl
      have c2_p0 := (Tst.cell_at HX_p0.out 2).trans rfl
      have c3_p0 := (Tst.cell_at HX_p0.out 3).trans rfl
      have c4_p0 := (Tst.cell_at HX_p0.out 4).trans rfl
      replace HX_w0 := Lib.hid ((hb.block (w8.heap.size) (by omega)).trans HX_w0.out)
      have c0_w0 := (Tst.cell_at HX_w0.out 0).trans rfl
      have c1_w0 := (Tst.cell_at HX_w0.out 1).trans rfl
      replace HX_x0 := Lib.hid ((hb.block (w10.heap.size) (by omega)).trans HX_x0.out)
      have c0_x0 := (Tst.cell_at HX_x0.out 0).trans rfl
      have c1_x0 := (Tst.cell_at HX_x0.out 1).trans rfl
      have c2_x0 := (Tst.cell_at HX_x0.out 2).trans rfl
      have c3_x0 := (Tst.cell_at HX_x0.out 3).trans rfl
      have c4_x0 := (Tst.cell_at HX_x0.out 4).trans rfl
      replace HX_g0 := Lib.hid ((hb.block (w16.heap.size) (by omega)).trans HX_g0.out)
      have c0_g0 := (Tst.cell_at HX_g0.out 0).trans rfl
      have c1_g0 := (Tst.cell_at HX_g0.out 1).trans rfl
      clear hb
      have r_t_4 := Ins.Row.mk hown
      clear hgg hown
      go_wp2_with fail
      refine (Ins.eq_same (some ⟨g_x1, 0, none⟩) (some ⟨g_t_4, 0, none⟩) n1 n1 n1 l1 _ HN1.out (by omega) r_x1.at_ r_t_4.at_).mono ?_
      rintro e w28 ⟨rfl, hb⟩
      have s28 : w26.heap.size ≤ w28.heap.size := hb.size
      replace T := T.trans (hb.mono (by omega))
      replace f0 := Ins.at_below f0 hb (by omega)
      replace g0 := g0.below (hb.mono (by omega))
      replace f1 := Ins.at_below f1 hb (by omega)
      replace r_t_1 := r_t_1.below hb
      replace q_t_1 := q_t_1.below hb
      replace r_t_2 := r_t_2.below hb
      replace r_w0 := r_w0.below hb
      replace r_x0 := r_x0.below hb
      replace q_x0 := q_x0.below hb
      replace r_x1 := r_x1.below hb
      replace r_g0 := r_g0.below hb
      replace r_t_3 := r_t_3.below hb
      replace q_t_3 := q_t_3.below hb
      replace r_t_4 := r_t_4.below hb
      clear c0_p0 c1_p0 c2_p0 c3_p0 c4_p0 c0_w0 c1_w0 c0_x0 c1_x0 c2_x0 c3_x0 c4_x0 c0_g0 c1_g0
      replace HX_p0 := Lib.hid ((hb.block (w.heap.size) (by omega)).trans HX_p0.out)
      have c0_p0 := (Tst.cell_at HX_p0.out 0).trans rfl
      have c1_p0 := (Tst.cell_at HX_p0.out 1).trans rfl
      have c2_p0 := (Tst.cell_at HX_p0.out 2).trans rfl
      have c3_p0 := (Tst.cell_at HX_p0.out 3).trans rfl
      have c4_p0 := (Tst.cell_at HX_p0.out 4).trans rfl
      replace HX_w0 := Lib.hid ((hb.block (w8.heap.size) (by omega)).trans HX_w0.out)
      have c0_w0 := (Tst.cell_at HX_w0.out 0).trans rfl
      have c1_w0 := (Tst.cell_at HX_w0.out 1).trans rfl
      replace HX_x0 := Lib.hid ((hb.block (w10.heap.size) (by omega)).trans HX_x0.out)
      have c0_x0 := (Tst.cell_at HX_x0.out 0).trans rfl
      have c1_x0 := (Tst.cell_at HX_x0.out 1).trans rfl
      have c2_x0 := (Tst.cell_at HX_x0.out 2).trans rfl
      have c3_x0 := (Tst.cell_at HX_x0.out 3).trans rfl
      have c4_x0 := (Tst.cell_at HX_x0.out 4).trans rfl
      replace HX_g0 := Lib.hid ((hb.block (w16.heap.size) (by omega)).trans HX_g0.out)
      have c0_g0 := (Tst.cell_at HX_g0.out 0).trans rfl
      have c1_g0 := (Tst.cell_at HX_g0.out 1).trans rfl
      clear hb
      obtain ⟨ys_x0, hys_x0, _⟩ := q_x0.1
      go_wp2_with fail
      refine (Trk.mark_trick _ _ (some ⟨g_x0, 0, none⟩) n0 n0 (some ⟨h_x0, 0, none⟩) m0 m0 x0 a0 b0 _ _ ys_x0 _ (by omega) (by omega) r_x0.own hys_x0 r_x0.hi q_x0.hi (fun q h1 h2 => hgh_x0 (by simp only [Option.map_some, Option.some.injEq] at h1 h2; omega))).mono ?_
      rintro e w30 ⟨rfl, hwi⟩
      clear r_x0 q_x0 hys_x0 hgh_x0
      have s30 : w28.heap.size ≤ w30.heap.size := hwi.size
      replace T := Rws.below_wi T hwi (by omega) (by omega)
      replace f0 := Rws.at_wi f0 hwi (by omega) (by omega)
      replace g0 := g0.below (Rws.below_wi (Below.refl w.heap.size _) hwi (by omega) (by omega))
      replace f1 := Rws.at_wi f1 hwi (by omega) (by omega)
      replace r_t_1 := Rws.row_wi r_t_1 hwi (by omega)
      replace q_t_1 := Trk.srow_wi q_t_1 hwi (by omega)
      replace r_t_2 := Rws.row_wi r_t_2 hwi (by omega)
      replace r_w0 := Rws.row_wi r_w0 hwi (by omega)
      replace r_x1 := Rws.row_wi r_x1 hwi (by omega)
      replace r_g0 := Rws.row_wi r_g0 hwi (by omega)
      replace r_t_3 := Rws.row_wi r_t_3 hwi (by omega)
      replace q_t_3 := Trk.srow_wi q_t_3 hwi (by omega)
      replace r_t_4 := Rws.row_wi r_t_4 hwi (by omega)
      clear c0_p0 c1_p0 c2_p0 c3_p0 c4_p0 c0_w0 c1_w0 c0_x0 c1_x0 c2_x0 c3_x0 c4_x0 c0_g0 c1_g0
      replace HX_p0 := Lib.hid ((hwi.block (w.heap.size) (by omega) (by omega)).trans HX_p0.out)
      have c0_p0 := (Tst.cell_at HX_p0.out 0).trans rfl
      have c1_p0 := (Tst.cell_at HX_p0.out 1).trans rfl
      have c2_p0 := (Tst.cell_at HX_p0.out 2).trans rfl
      have c3_p0 := (Tst.cell_at HX_p0.out 3).trans rfl
      have c4_p0 := (Tst.cell_at HX_p0.out 4).trans rfl
      replace HX_w0 := Lib.hid ((hwi.block (w8.heap.size) (by omega) (by omega)).trans HX_w0.out)
      have c0_w0 := (Tst.cell_at HX_w0.out 0).trans rfl
      have c1_w0 := (Tst.cell_at HX_w0.out 1).trans rfl
      replace HX_x0 := Lib.hid ((hwi.block (w10.heap.size) (by omega) (by omega)).trans HX_x0.out)
      have c0_x0 := (Tst.cell_at HX_x0.out 0).trans rfl
      have c1_x0 := (Tst.cell_at HX_x0.out 1).trans rfl
      have c2_x0 := (Tst.cell_at HX_x0.out 2).trans rfl
      have c3_x0 := (Tst.cell_at HX_x0.out 3).trans rfl
      have c4_x0 := (Tst.cell_at HX_x0.out 4).trans rfl
      replace HX_g0 := Lib.hid ((hwi.block (w16.heap.size) (by omega) (by omega)).trans HX_g0.out)
      have c0_g0 := (Tst.cell_at HX_g0.out 0).trans rfl
      have c1_g0 := (Tst.cell_at HX_g0.out 1).trans rfl
      clear hwi
      go_wp2_with fail
      refine (Ins.mark_any _ _ n1 (some ⟨g_x1, 0, none⟩) n1 _ _ (by omega) (by omega) r_x1.own).mono ?_
      rintro e w32 ⟨rfl, ho, hgr⟩
      have s32 : w30.heap.size ≤ w32.heap.size := hgr.size
      replace T := T.grown hgr (by omega) (fun k hk => by have h1 := r_x1.lo k hk; omega)
      replace f0 := Ins.at_grown f0 hgr (by omega) (fun k hk => by have h1 := r_x1.lo k hk; omega)
      replace g0 := g0.below ((Below.refl w.heap.size _).grown hgr (by omega) (fun k hk => by have h1 := r_x1.lo k hk; omega))
      replace f1 := Ins.at_grown f1 hgr (by omega) (fun k hk => by have h1 := r_x1.lo k hk; omega)
      replace r_t_1 := r_t_1.grown hgr (fun k hk => by have h1 := r_x1.lo k hk; have h2 := r_x1.hi k hk; omega)
      replace q_t_1 := q_t_1.grown hgr (fun k hk => by have h1 := r_x1.lo k hk; have h2 := r_x1.hi k hk; omega)
      replace r_t_2 := r_t_2.grown hgr (fun k hk => by have h1 := r_x1.lo k hk; have h2 := r_x1.hi k hk; omega)
      replace r_w0 := r_w0.grown hgr (fun k hk => by have h1 := r_x1.lo k hk; have h2 := r_x1.hi k hk; omega)
      replace r_g0 := r_g0.grown hgr (fun k hk => by have h1 := r_x1.lo k hk; have h2 := r_x1.hi k hk; omega)
      replace r_t_3 := r_t_3.grown hgr (fun k hk => by have h1 := r_x1.lo k hk; have h2 := r_x1.hi k hk; omega)
      replace q_t_3 := q_t_3.grown hgr (fun k hk => by have h1 := r_x1.lo k hk; have h2 := r_x1.hi k hk; omega)
      replace r_t_4 := r_t_4.grown hgr (fun k hk => by have h1 := r_x1.lo k hk; have h2 := r_x1.hi k hk; omega)
      clear c0_p0 c1_p0 c2_p0 c3_p0 c4_p0 c0_w0 c1_w0 c0_x0 c1_x0 c2_x0 c3_x0 c4_x0 c0_g0 c1_g0
      replace HX_p0 := Lib.hid ((hgr.block (w.heap.size) (by omega) (fun e => by have h1 := r_x1.lo _ e.symm; have h2 := r_x1.hi _ e.symm; omega)).trans HX_p0.out)
      have c0_p0 := (Tst.cell_at HX_p0.out 0).trans rfl
      have c1_p0 := (Tst.cell_at HX_p0.out 1).trans rfl
      have c2_p0 := (Tst.cell_at HX_p0.out 2).trans rfl
      have c3_p0 := (Tst.cell_at HX_p0.out 3).trans rfl
      have c4_p0 := (Tst.cell_at HX_p0.out 4).trans rfl
      replace HX_w0 := Lib.hid ((hgr.block (w8.heap.size) (by omega) (fun e => by have h1 := r_x1.lo _ e.symm; have h2 := r_x1.hi _ e.symm; omega)).trans HX_w0.out)
      have c0_w0 := (Tst.cell_at HX_w0.out 0).trans rfl
      have c1_w0 := (Tst.cell_at HX_w0.out 1).trans rfl
      replace HX_x0 := Lib.hid ((hgr.block (w10.heap.size) (by omega) (fun e => by have h1 := r_x1.lo _ e.symm; have h2 := r_x1.hi _ e.symm; omega)).trans HX_x0.out)
      have c0_x0 := (Tst.cell_at HX_x0.out 0).trans rfl
      have c1_x0 := (Tst.cell_at HX_x0.out 1).trans rfl
      have c2_x0 := (Tst.cell_at HX_x0.out 2).trans rfl
      have c3_x0 := (Tst.cell_at HX_x0.out 3).trans rfl
      have c4_x0 := (Tst.cell_at HX_x0.out 4).trans rfl
      replace HX_g0 := Lib.hid ((hgr.block (w16.heap.size) (by omega) (fun e => by have h1 := r_x1.lo _ e.symm; have h2 := r_x1.hi _ e.symm; omega)).trans HX_g0.out)
      have c0_g0 := (Tst.cell_at HX_g0.out 0).trans rfl
      have c1_g0 := (Tst.cell_at HX_g0.out 1).trans rfl
      replace r_x1 := r_x1.marked ho hgr
      clear ho hgr
      go_wp2_with fail
      refine (Scn.eq_scene A_g0 A_w0 res.length c_g0 c_w0 res rm _ rfl (by omega) r_g0.at_ r_w0.at_).mono ?_
      rintro e w34 ⟨rfl, hb⟩
      have s34 : w32.heap.size ≤ w34.heap.size := hb.size
      replace T := T.trans (hb.mono (by omega))
      replace f0 := Ins.at_below f0 hb (by omega)
      replace g0 := g0.below (hb.mono (by omega))
      replace f1 := Ins.at_below f1 hb (by omega)
      replace r_t_1 := r_t_1.below hb
      replace q_t_1 := q_t_1.below hb
      replace r_t_2 := r_t_2.below hb
      replace r_w0 := r_w0.below hb
      replace r_x1 := r_x1.below hb
      replace r_g0 := r_g0.below hb
      replace r_t_3 := r_t_3.below hb
      replace q_t_3 := q_t_3.below hb
      replace r_t_4 := r_t_4.below hb
      clear c0_p0 c1_p0 c2_p0 c3_p0 c4_p0 c0_w0 c1_w0 c0_x0 c1_x0 c2_x0 c3_x0 c4_x0 c0_g0 c1_g0
      replace HX_p0 := Lib.hid ((hb.block (w.heap.size) (by omega)).trans HX_p0.out)
      have c0_p0 := (Tst.cell_at HX_p0.out 0).trans rfl
      have c1_p0 := (Tst.cell_at HX_p0.out 1).trans rfl
      have c2_p0 := (Tst.cell_at HX_p0.out 2).trans rfl
      have c3_p0 := (Tst.cell_at HX_p0.out 3).trans rfl
      have c4_p0 := (Tst.cell_at HX_p0.out 4).trans rfl
      replace HX_w0 := Lib.hid ((hb.block (w8.heap.size) (by omega)).trans HX_w0.out)
      have c0_w0 := (Tst.cell_at HX_w0.out 0).trans rfl
      have c1_w0 := (Tst.cell_at HX_w0.out 1).trans rfl
      replace HX_x0 := Lib.hid ((hb.block (w10.heap.size) (by omega)).trans HX_x0.out)
      have c0_x0 := (Tst.cell_at HX_x0.out 0).trans rfl
      have c1_x0 := (Tst.cell_at HX_x0.out 1).trans rfl
      have c2_x0 := (Tst.cell_at HX_x0.out 2).trans rfl
      have c3_x0 := (Tst.cell_at HX_x0.out 3).trans rfl
      have c4_x0 := (Tst.cell_at HX_x0.out 4).trans rfl
      replace HX_g0 := Lib.hid ((hb.block (w16.heap.size) (by omega)).trans HX_g0.out)
      have c0_g0 := (Tst.cell_at HX_g0.out 0).trans rfl
      have c1_g0 := (Tst.cell_at HX_g0.out 1).trans rfl
      clear hb
      go_wp2_with fail
      refine (Scn.mark_scene _ _ res.length A_g0 c_g0 rm _ _ (by omega) (by omega) r_g0.own).mono ?_
      rintro e w36 ⟨rfl, ho, hgr⟩
      have s36 : w34.heap.size ≤ w36.heap.size := hgr.size
      replace T := T.grown hgr (by omega) (fun k hk => by have h1 := r_g0.lo k hk; omega)
      replace f0 := Ins.at_grown f0 hgr (by omega) (fun k hk => by have h1 := r_g0.lo k hk; omega)
      replace g0 := g0.below ((Below.refl w.heap.size _).grown hgr (by omega) (fun k hk => by have h1 := r_g0.lo k hk; omega))
      replace f1 := Ins.at_grown f1 hgr (by omega) (fun k hk => by have h1 := r_g0.lo k hk; omega)
      replace r_t_1 := r_t_1.grown hgr (fun k hk => by have h1 := r_g0.lo k hk; have h2 := r_g0.hi k hk; omega)
      replace q_t_1 := q_t_1.grown hgr (fun k hk => by have h1 := r_g0.lo k hk; have h2 := r_g0.hi k hk; omega)
      replace r_t_2 := r_t_2.grown hgr (fun k hk => by have h1 := r_g0.lo k hk; have h2 := r_g0.hi k hk; omega)
      replace r_w0 := r_w0.grown hgr (fun k hk => by have h1 := r_g0.lo k hk; have h2 := r_g0.hi k hk; omega)
      replace r_x1 := r_x1.grown hgr (fun k hk => by have h1 := r_g0.lo k hk; have h2 := r_g0.hi k hk; omega)
      replace r_t_3 := r_t_3.grown hgr (fun k hk => by have h1 := r_g0.lo k hk; have h2 := r_g0.hi k hk; omega)
      replace q_t_3 := q_t_3.grown hgr (fun k hk => by have h1 := r_g0.lo k hk; have h2 := r_g0.hi k hk; omega)
      replace r_t_4 := r_t_4.grown hgr (fun k hk => by have h1 := r_g0.lo k hk; have h2 := r_g0.hi k hk; omega)
      clear c0_p0 c1_p0 c2_p0 c3_p0 c4_p0 c0_w0 c1_w0 c0_x0 c1_x0 c2_x0 c3_x0 c4_x0 c0_g0 c1_g0
      replace HX_p0 := Lib.hid ((hgr.block (w.heap.size) (by omega) (fun e => by have h1 := r_g0.lo _ e.symm; have h2 := r_g0.hi _ e.symm; omega)).trans HX_p0.out)
      have c0_p0 := (Tst.cell_at HX_p0.out 0).trans rfl
      have c1_p0 := (Tst.cell_at HX_p0.out 1).trans rfl
      have c2_p0 := (Tst.cell_at HX_p0.out 2).trans rfl
      have c3_p0 := (Tst.cell_at HX_p0.out 3).trans rfl
      have c4_p0 := (Tst.cell_at HX_p0.out 4).trans rfl
      replace HX_w0 := Lib.hid ((hgr.block (w8.heap.size) (by omega) (fun e => by have h1 := r_g0.lo _ e.symm; have h2 := r_g0.hi _ e.symm; omega)).trans HX_w0.out)
      have c0_w0 := (Tst.cell_at HX_w0.out 0).trans rfl
      have c1_w0 := (Tst.cell_at HX_w0.out 1).trans rfl
      replace HX_x0 := Lib.hid ((hgr.block (w10.heap.size) (by omega) (fun e => by have h1 := r_g0.lo _ e.symm; have h2 := r_g0.hi _ e.symm; omega)).trans HX_x0.out)
      have c0_x0 := (Tst.cell_at HX_x0.out 0).trans rfl
      have c1_x0 := (Tst.cell_at HX_x0.out 1).trans rfl
      have c2_x0 := (Tst.cell_at HX_x0.out 2).trans rfl
      have c3_x0 := (Tst.cell_at HX_x0.out 3).trans rfl
      have c4_x0 := (Tst.cell_at HX_x0.out 4).trans rfl
      replace HX_g0 := Lib.hid ((hgr.block (w16.heap.size) (by omega) (fun e => by have h1 := r_g0.lo _ e.symm; have h2 := r_g0.hi _ e.symm; omega)).trans HX_g0.out)
      have c0_g0 := (Tst.cell_at HX_g0.out 0).trans rfl
      have c1_g0 := (Tst.cell_at HX_g0.out 1).trans rfl
      replace r_g0 := r_g0.marked ho hgr
      clear ho hgr
      go_wp2_with fail
      refine (Scn.held_scene _ res.length c_g0 A_g0 rm _ (by omega) (by omega) r_g0.at_).mono ?_
      rintro e w38 ⟨rfl, hb⟩
      have s38 : w36.heap.size ≤ w38.heap.size := hb.size
      replace T := T.trans (hb.mono (by omega))
      replace f0 := Ins.at_below f0 hb (by omega)
      replace g0 := g0.below (hb.mono (by omega))
      replace f1 := Ins.at_below f1 hb (by omega)
      replace r_t_1 := r_t_1.below hb
      replace q_t_1 := q_t_1.below hb
      replace r_t_2 := r_t_2.below hb
      replace r_w0 := r_w0.below hb
      replace r_x1 := r_x1.below hb
      replace r_g0 := r_g0.below hb
      replace r_t_3 := r_t_3.below hb
      replace q_t_3 := q_t_3.below hb
      replace r_t_4 := r_t_4.below hb
      clear c0_p0 c1_p0 c2_p0 c3_p0 c4_p0 c0_w0 c1_w0 c0_x0 c1_x0 c2_x0 c3_x0 c4_x0 c0_g0 c1_g0
      replace HX_p0 := Lib.hid ((hb.block (w.heap.size) (by omega)).trans HX_p0.out)
      have c0_p0 := (Tst.cell_at HX_p0.out 0).trans rfl
      have c1_p0 := (Tst.cell_at HX_p0.out 1).trans rfl
      have c2_p0 := (Tst.cell_at HX_p0.out 2).trans rfl
      have c3_p0 := (Tst.cell_at HX_p0.out 3).trans rfl
      have c4_p0 := (Tst.cell_at HX_p0.out 4).trans rfl
      replace HX_w0 := Lib.hid ((hb.block (w8.heap.size) (by omega)).trans HX_w0.out)
      have c0_w0 := (Tst.cell_at HX_w0.out 0).trans rfl
      have c1_w0 := (Tst.cell_at HX_w0.out 1).trans rfl
      replace HX_x0 := Lib.hid ((hb.block (w10.heap.size) (by omega)).trans HX_x0.out)
      have c0_x0 := (Tst.cell_at HX_x0.out 0).trans rfl
      have c1_x0 := (Tst.cell_at HX_x0.out 1).trans rfl
      have c2_x0 := (Tst.cell_at HX_x0.out 2).trans rfl
      have c3_x0 := (Tst.cell_at HX_x0.out 3).trans rfl
      have c4_x0 := (Tst.cell_at HX_x0.out 4).trans rfl
      replace HX_g0 := Lib.hid ((hb.block (w16.heap.size) (by omega)).trans HX_g0.out)
      have c0_g0 := (Tst.cell_at HX_g0.out 0).trans rfl
      have c1_g0 := (Tst.cell_at HX_g0.out 1).trans rfl
      clear hb
      go_wp2_with fail
      refine (Trk.to_trick A0 n0 c0 l0 S0 m0 d0 t0 x0 a0 b0 _ HN0.out hL0 (f0.more T.size) HM0.out hM0 (g0.more T.size)).mono ?_
      rintro e w40 ⟨g_t_5, h_t_5, rfl, hown, hst, hgh_t_5, hb⟩
      rw [HN0.out] at hown
      rw [HM0.out] at hst
      rw [HN0.out, HM0.out]
      have s40 : w38.heap.size ≤ w40.heap.size := hb.size
      replace T := T.trans (hb.mono (by omega))
      replace f0 := Ins.at_below f0 hb (by omega)
      replace g0 := g0.below (hb.mono (by omega))
      replace f1 := Ins.at_below f1 hb (by omega)
      replace r_t_1 := r_t_1.below hb
      replace q_t_1 := q_t_1.below hb
      replace r_t_2 := r_t_2.below hb
      replace r_w0 := r_w0.below hb
      replace r_x1 := r_x1.below hb
      replace r_g0 := r_g0.below hb
      replace r_t_3 := r_t_3.below hb
      replace q_t_3 := q_t_3.below hb
      replace r_t_4 := r_t_4.below hb
      clear c0_p0 c1_p0 c2_p0 c3_p0 c4_p0 c0_w0 c1_w0 c0_x0 c1_x0 c2_x0 c3_x0 c4_x0 c0_g0 c1_g0
      replace HX_p0 := Lib.hid ((hb.block (w.heap.size) (by omega)).trans HX_p0.out)
      have c0_p0 := (Tst.cell_at HX_p0.out 0).trans rfl
      have c1_p0 := (Tst.cell_at HX_p0.out 1).trans rfl
      have c2_p0 := (Tst.cell_at HX_p0.out 2).trans rfl
      have c3_p0 := (Tst.cell_at HX_p0.out 3).trans rfl
      have c4_p0 := (Tst.cell_at HX_p0.out 4).trans rfl
      replace HX_w0 := Lib.hid ((hb.block (w8.heap.size) (by omega)).trans HX_w0.out)
      have c0_w0 := (Tst.cell_at HX_w0.out 0).trans rfl
      have c1_w0 := (Tst.cell_at HX_w0.out 1).trans rfl
      replace HX_x0 := Lib.hid ((hb.block (w10.heap.size) (by omega)).trans HX_x0.out)
      have c0_x0 := (Tst.cell_at HX_x0.out 0).trans rfl
      have c1_x0 := (Tst.cell_at HX_x0.out 1).trans rfl
      have c2_x0 := (Tst.cell_at HX_x0.out 2).trans rfl
      have c3_x0 := (Tst.cell_at HX_x0.out 3).trans rfl
      have c4_x0 := (Tst.cell_at HX_x0.out 4).trans rfl
      replace HX_g0 := Lib.hid ((hb.block (w16.heap.size) (by omega)).trans HX_g0.out)
      have c0_g0 := (Tst.cell_at HX_g0.out 0).trans rfl
      have c1_g0 := (Tst.cell_at HX_g0.out 1).trans rfl
      clear hb
      have r_t_5 := Ins.Row.mk hown
      have q_t_5 := hst
      clear hown hst
      go_wp2_with fail
      refine (Ins.to_any A1 n1 c1 l1 _ HN1.out hL1 (f1.more T.size)).mono ?_
      rintro e w42 ⟨g_t_6, rfl, hgg, hown, hb⟩
      have s42 : w40.heap.size ≤ w42.heap.size := hb.size
      replace T := T.trans (hb.mono (by omega))
      replace f0 := Ins.at_below f0 hb (by omega)
      replace g0 := g0.below (hb.mono (by omega))
      replace f1 := Ins.at_below f1 hb (by omega)
      replace r_t_1 := r_t_1.below hb
      replace q_t_1 := q_t_1.below hb
      replace r_t_2 := r_t_2.below hb
      replace r_w0 := r_w0.below hb
      replace r_x1 := r_x1.below hb
      replace r_g0 := r_g0.below hb
      replace r_t_3 := r_t_3.below hb
      replace q_t_3 := q_t_3.below hb
      replace r_t_4 := r_t_4.below hb
      replace r_t_5 := r_t_5.below hb
      replace q_t_5 := q_t_5.below hb
      clear c0_p0 c1_p0 c2_p0 c3_p0 c4_p0 c0_w0 c1_w0 c0_x0 c1_x0 c2_x0 c3_x0 c4_x0 c0_g0 c1_g0
      replace HX_p0 := Lib.hid ((hb.block (w.heap.size) (by omega)).trans HX_p0.out)
      have c0_p0 := (Tst.cell_at HX_p0.out 0).trans rfl
      have c1_p0 := (Tst.cell_at HX_p0.out 1).trans rfl
      have c2_p0 := (Tst.cell_at HX_p0.out 2).trans rfl
      have c3_p0 := (Tst.cell_at HX_p0.out 3).trans rfl
      have c4_p0 := (Tst.cell_at HX_p0.out 4).trans rfl
      replace HX_w0 := Lib.hid ((hb.block (w8.heap.size) (by omega)).trans HX_w0.out)
      have c0_w0 := (Tst.cell_at HX_w0.out 0).trans rfl
      have c1_w0 := (Tst.cell_at HX_w0.out 1).trans rfl
      replace HX_x0 := Lib.hid ((hb.block (w10.heap.size) (by omega)).trans HX_x0.out)
      have c0_x0 := (Tst.cell_at HX_x0.out 0).trans rfl
      have c1_x0 := (Tst.cell_at HX_x0.out 1).trans rfl
      have c2_x0 := (Tst.cell_at HX_x0.out 2).trans rfl
      have c3_x0 := (Tst.cell_at HX_x0.out 3).trans rfl
      have c4_x0 := (Tst.cell_at HX_x0.out 4).trans rfl
      replace HX_g0 := Lib.hid ((hb.block (w16.heap.size) (by omega)).trans HX_g0.out)
      have c0_g0 := (Tst.cell_at HX_g0.out 0).trans rfl
      have c1_g0 := (Tst.cell_at HX_g0.out 1).trans rfl
      clear hb
      have r_t_6 := Ins.Row.mk hown
      clear hgg hown
      go_wp2_with fail
      refine (Trp.impl_run (some ⟨g_t_5, 0, none⟩) n0 n0 l0 (some ⟨h_t_5, 0, none⟩) m0 m0 t0 x0 a0 b0 (some ⟨g_t_6, 0, none⟩) n1 n1 l1 _ HN0.out (by omega) hz0 r_t_5.at_ HM0.out (by omega) q_t_5.at_ HN1.out (Nat.le_refl _) (by omega) r_t_6.at_).mono ?_
      rintro e w44 ⟨A_h0, c_h0, rfl, hown, hb⟩
      rw [HR.out] at hown
      rw [HR.out, HRM.out, HRB.out]
      have s44 : w42.heap.size ≤ w44.heap.size := hb.size
      replace T := T.trans (hb.mono (by omega))
      replace f0 := Ins.at_below f0 hb (by omega)
      replace g0 := g0.below (hb.mono (by omega))
      replace f1 := Ins.at_below f1 hb (by omega)
      replace r_t_1 := r_t_1.below hb
      replace q_t_1 := q_t_1.below hb
      replace r_t_2 := r_t_2.below hb
      replace r_w0 := r_w0.below hb
      replace r_x1 := r_x1.below hb
      replace r_g0 := r_g0.below hb
      replace r_t_3 := r_t_3.below hb
      replace q_t_3 := q_t_3.below hb
      replace r_t_4 := r_t_4.below hb
      replace r_t_5 := r_t_5.below hb
      replace q_t_5 := q_t_5.below hb
      replace r_t_6 := r_t_6.below hb
      clear c0_p0 c1_p0 c2_p0 c3_p0 c4_p0 c0_w0 c1_w0 c0_x0 c1_x0 c2_x0 c3_x0 c4_x0 c0_g0 c1_g0
      replace HX_p0 := Lib.hid ((hb.block (w.heap.size) (by omega)).trans HX_p0.out)
      have c0_p0 := (Tst.cell_at HX_p0.out 0).trans rfl
      have c1_p0 := (Tst.cell_at HX_p0.out 1).trans rfl
      have c2_p0 := (Tst.cell_at HX_p0.out 2).trans rfl
      have c3_p0 := (Tst.cell_at HX_p0.out 3).trans rfl
      have c4_p0 := (Tst.cell_at HX_p0.out 4).trans rfl
      replace HX_w0 := Lib.hid ((hb.block (w8.heap.size) (by omega)).trans HX_w0.out)
      have c0_w0 := (Tst.cell_at HX_w0.out 0).trans rfl
      have c1_w0 := (Tst.cell_at HX_w0.out 1).trans rfl
      replace HX_x0 := Lib.hid ((hb.block (w10.heap.size) (by omega)).trans HX_x0.out)
      have c0_x0 := (Tst.cell_at HX_x0.out 0).trans rfl
      have c1_x0 := (Tst.cell_at HX_x0.out 1).trans rfl
      have c2_x0 := (Tst.cell_at HX_x0.out 2).trans rfl
      have c3_x0 := (Tst.cell_at HX_x0.out 3).trans rfl
      have c4_x0 := (Tst.cell_at HX_x0.out 4).trans rfl
      replace HX_g0 := Lib.hid ((hb.block (w16.heap.size) (by omega)).trans HX_g0.out)
      have c0_g0 := (Tst.cell_at HX_g0.out 0).trans rfl
      have c1_g0 := (Tst.cell_at HX_g0.out 1).trans rfl
      clear hb
      have r_h0 := Ins.Row.mk hown
      clear hown
      have p0_p0 := (Tst.cell_at (((Tst.box_below w44 (.cells #[.slice A_h0 res.length c_h0, .int .i64 rm] 32)).block (w.heap.size) (by omega)).trans HX_p0.out) 0).trans rfl
      have p1_p0 := (Tst.cell_at (((Tst.box_below w44 (.cells #[.slice A_h0 res.length c_h0, .int .i64 rm] 32)).block (w.heap.size) (by omega)).trans HX_p0.out) 1).trans rfl
      have p2_p0 := (Tst.cell_at (((Tst.box_below w44 (.cells #[.slice A_h0 res.length c_h0, .int .i64 rm] 32)).block (w.heap.size) (by omega)).trans HX_p0.out) 2).trans rfl
      have p3_p0 := (Tst.cell_at (((Tst.box_below w44 (.cells #[.slice A_h0 res.length c_h0, .int .i64 rm] 32)).block (w.heap.size) (by omega)).trans HX_p0.out) 3).trans rfl
      have p4_p0 := (Tst.cell_at (((Tst.box_below w44 (.cells #[.slice A_h0 res.length c_h0, .int .i64 rm] 32)).block (w.heap.size) (by omega)).trans HX_p0.out) 4).trans rfl
      have p0_w0 := (Tst.cell_at (((Tst.box_below w44 (.cells #[.slice A_h0 res.length c_h0, .int .i64 rm] 32)).block (w8.heap.size) (by omega)).trans HX_w0.out) 0).trans rfl
      have p1_w0 := (Tst.cell_at (((Tst.box_below w44 (.cells #[.slice A_h0 res.length c_h0, .int .i64 rm] 32)).block (w8.heap.size) (by omega)).trans HX_w0.out) 1).trans rfl
      have p0_x0 := (Tst.cell_at (((Tst.box_below w44 (.cells #[.slice A_h0 res.length c_h0, .int .i64 rm] 32)).block (w10.heap.size) (by omega)).trans HX_x0.out) 0).trans rfl
      have p1_x0 := (Tst.cell_at (((Tst.box_below w44 (.cells #[.slice A_h0 res.length c_h0, .int .i64 rm] 32)).block (w10.heap.size) (by omega)).trans HX_x0.out) 1).trans rfl
      have p2_x0 := (Tst.cell_at (((Tst.box_below w44 (.cells #[.slice A_h0 res.length c_h0, .int .i64 rm] 32)).block (w10.heap.size) (by omega)).trans HX_x0.out) 2).trans rfl
      have p3_x0 := (Tst.cell_at (((Tst.box_below w44 (.cells #[.slice A_h0 res.length c_h0, .int .i64 rm] 32)).block (w10.heap.size) (by omega)).trans HX_x0.out) 3).trans rfl
      have p4_x0 := (Tst.cell_at (((Tst.box_below w44 (.cells #[.slice A_h0 res.length c_h0, .int .i64 rm] 32)).block (w10.heap.size) (by omega)).trans HX_x0.out) 4).trans rfl
      have p0_g0 := (Tst.cell_at (((Tst.box_below w44 (.cells #[.slice A_h0 res.length c_h0, .int .i64 rm] 32)).block (w16.heap.size) (by omega)).trans HX_g0.out) 0).trans rfl
      have p1_g0 := (Tst.cell_at (((Tst.box_below w44 (.cells #[.slice A_h0 res.length c_h0, .int .i64 rm] 32)).block (w16.heap.size) (by omega)).trans HX_g0.out) 1).trans rfl
      go_wp2_with fail
      clear p0_p0 p1_p0 p2_p0 p3_p0 p4_p0 p0_w0 p1_w0 p0_x0 p1_x0 p2_x0 p3_x0 p4_x0 p0_g0 p1_g0
      generalize hbox : World.alloc w44 _ = wb_h0
      have hb : Below w44.heap.size w44 wb_h0 := by rw [← hbox]; exact Tst.box_below _ _
      have sz_h0 : w44.heap.size + 1 ≤ wb_h0.heap.size := by rw [← hbox]; simp
      have HX_h0 : Hid (wb_h0.heap[w44.heap.size]? = some (.cells #[.slice A_h0 res.length c_h0, .int .i64 rm] 32 (0, 0))) := Lib.hid (by rw [← hbox]; exact heap_alloc_new _ _)
      clear hbox
      have s46 : w44.heap.size ≤ wb_h0.heap.size := hb.size
      replace T := T.trans (hb.mono (by omega))
      replace f0 := Ins.at_below f0 hb (by omega)
      replace g0 := g0.below (hb.mono (by omega))
      replace f1 := Ins.at_below f1 hb (by omega)
      replace r_t_1 := r_t_1.below hb
      replace q_t_1 := q_t_1.below hb
      replace r_t_2 := r_t_2.below hb
      replace r_w0 := r_w0.below hb
      replace r_x1 := r_x1.below hb
      replace r_g0 := r_g0.below hb
      replace r_t_3 := r_t_3.below hb
      replace q_t_3 := q_t_3.below hb
      replace r_t_4 := r_t_4.below hb
      replace r_t_5 := r_t_5.below hb
      replace q_t_5 := q_t_5.below hb
      replace r_t_6 := r_t_6.below hb
      replace r_h0 := r_h0.below hb
      clear c0_p0 c1_p0 c2_p0 c3_p0 c4_p0 c0_w0 c1_w0 c0_x0 c1_x0 c2_x0 c3_x0 c4_x0 c0_g0 c1_g0
      replace HX_p0 := Lib.hid ((hb.block (w.heap.size) (by omega)).trans HX_p0.out)
      have c0_p0 := (Tst.cell_at HX_p0.out 0).trans rfl
      have c1_p0 := (Tst.cell_at HX_p0.out 1).trans rfl
      have c2_p0 := (Tst.cell_at HX_p0.out 2).trans rfl
      have c3_p0 := (Tst.cell_at HX_p0.out 3).trans rfl
      have c4_p0 := (Tst.cell_at HX_p0.out 4).trans rfl
      replace HX_w0 := Lib.hid ((hb.block (w8.heap.size) (by omega)).trans HX_w0.out)
      have c0_w0 := (Tst.cell_at HX_w0.out 0).trans rfl
      have c1_w0 := (Tst.cell_at HX_w0.out 1).trans rfl
      replace HX_x0 := Lib.hid ((hb.block (w10.heap.size) (by omega)).trans HX_x0.out)
      have c0_x0 := (Tst.cell_at HX_x0.out 0).trans rfl
      have c1_x0 := (Tst.cell_at HX_x0.out 1).trans rfl
      have c2_x0 := (Tst.cell_at HX_x0.out 2).trans rfl
      have c3_x0 := (Tst.cell_at HX_x0.out 3).trans rfl
      have c4_x0 := (Tst.cell_at HX_x0.out 4).trans rfl
      replace HX_g0 := Lib.hid ((hb.block (w16.heap.size) (by omega)).trans HX_g0.out)
      have c0_g0 := (Tst.cell_at HX_g0.out 0).trans rfl
      have c1_g0 := (Tst.cell_at HX_g0.out 1).trans rfl
      clear hb
      have c0_h0 := (Tst.cell_at HX_h0.out 0).trans rfl
      have c1_h0 := (Tst.cell_at HX_h0.out 1).trans rfl
      refine (Scn.eq_scene A_h0 A_w0 res.length c_h0 c_w0 res rm _ rfl (by omega) r_h0.at_ r_w0.at_).mono ?_
      rintro e w46 ⟨rfl, hb⟩
      have s47 : wb_h0.heap.size ≤ w46.heap.size := hb.size
      replace T := T.trans (hb.mono (by omega))
      replace f0 := Ins.at_below f0 hb (by omega)
      replace g0 := g0.below (hb.mono (by omega))
      replace f1 := Ins.at_below f1 hb (by omega)
      replace r_t_1 := r_t_1.below hb
      replace q_t_1 := q_t_1.below hb
      replace r_t_2 := r_t_2.below hb
      replace r_w0 := r_w0.below hb
      replace r_x1 := r_x1.below hb
      replace r_g0 := r_g0.below hb
      replace r_t_3 := r_t_3.below hb
      replace q_t_3 := q_t_3.below hb
      replace r_t_4 := r_t_4.below hb
      replace r_t_5 := r_t_5.below hb
      replace q_t_5 := q_t_5.below hb
      replace r_t_6 := r_t_6.below hb
      replace r_h0 := r_h0.below hb
      clear c0_p0 c1_p0 c2_p0 c3_p0 c4_p0 c0_w0 c1_w0 c0_x0 c1_x0 c2_x0 c3_x0 c4_x0 c0_g0 c1_g0 c0_h0 c1_h0
      replace HX_p0 := Lib.hid ((hb.block (w.heap.size) (by omega)).trans HX_p0.out)
      have c0_p0 := (Tst.cell_at HX_p0.out 0).trans rfl
      have c1_p0 := (Tst.cell_at HX_p0.out 1).trans rfl
      have c2_p0 := (Tst.cell_at HX_p0.out 2).trans rfl
      have c3_p0 := (Tst.cell_at HX_p0.out 3).trans rfl
      have c4_p0 := (Tst.cell_at HX_p0.out 4).trans rfl
      replace HX_w0 := Lib.hid ((hb.block (w8.heap.size) (by omega)).trans HX_w0.out)
      have c0_w0 := (Tst.cell_at HX_w0.out 0).trans rfl
      have c1_w0 := (Tst.cell_at HX_w0.out 1).trans rfl
      replace HX_x0 := Lib.hid ((hb.block (w10.heap.size) (by omega)).trans HX_x0.out)
      have c0_x0 := (Tst.cell_at HX_x0.out 0).trans rfl
      have c1_x0 := (Tst.cell_at HX_x0.out 1).trans rfl
      have c2_x0 := (Tst.cell_at HX_x0.out 2).trans rfl
      have c3_x0 := (Tst.cell_at HX_x0.out 3).trans rfl
      have c4_x0 := (Tst.cell_at HX_x0.out 4).trans rfl
      replace HX_g0 := Lib.hid ((hb.block (w16.heap.size) (by omega)).trans HX_g0.out)
      have c0_g0 := (Tst.cell_at HX_g0.out 0).trans rfl
      have c1_g0 := (Tst.cell_at HX_g0.out 1).trans rfl
      replace HX_h0 := Lib.hid ((hb.block (w44.heap.size) (by omega)).trans HX_h0.out)
      have c0_h0 := (Tst.cell_at HX_h0.out 0).trans rfl
      have c1_h0 := (Tst.cell_at HX_h0.out 1).trans rfl
      clear hb
      go_wp2_with fail
      refine (Scn.held_scene _ res.length c_g0 A_g0 rm _ (by omega) (by omega) r_g0.at_).mono ?_
      rintro e w49 ⟨rfl, hb⟩
      have s49 : w46.heap.size ≤ w49.heap.size := hb.size
      replace T := T.trans (hb.mono (by omega))
      replace f0 := Ins.at_below f0 hb (by omega)
      replace g0 := g0.below (hb.mono (by omega))
      replace f1 := Ins.at_below f1 hb (by omega)
      replace r_t_1 := r_t_1.below hb
      replace q_t_1 := q_t_1.below hb
      replace r_t_2 := r_t_2.below hb
      replace r_w0 := r_w0.below hb
      replace r_x1 := r_x1.below hb
      replace r_g0 := r_g0.below hb
      replace r_t_3 := r_t_3.below hb
      replace q_t_3 := q_t_3.below hb
      replace r_t_4 := r_t_4.below hb
      replace r_t_5 := r_t_5.below hb
      replace q_t_5 := q_t_5.below hb
      replace r_t_6 := r_t_6.below hb
      replace r_h0 := r_h0.below hb
      clear c0_p0 c1_p0 c2_p0 c3_p0 c4_p0 c0_w0 c1_w0 c0_x0 c1_x0 c2_x0 c3_x0 c4_x0 c0_g0 c1_g0 c0_h0 c1_h0
      replace HX_p0 := Lib.hid ((hb.block (w.heap.size) (by omega)).trans HX_p0.out)
      have c0_p0 := (Tst.cell_at HX_p0.out 0).trans rfl
      have c1_p0 := (Tst.cell_at HX_p0.out 1).trans rfl
      have c2_p0 := (Tst.cell_at HX_p0.out 2).trans rfl
      have c3_p0 := (Tst.cell_at HX_p0.out 3).trans rfl
      have c4_p0 := (Tst.cell_at HX_p0.out 4).trans rfl
      replace HX_w0 := Lib.hid ((hb.block (w8.heap.size) (by omega)).trans HX_w0.out)
      have c0_w0 := (Tst.cell_at HX_w0.out 0).trans rfl
      have c1_w0 := (Tst.cell_at HX_w0.out 1).trans rfl
      replace HX_x0 := Lib.hid ((hb.block (w10.heap.size) (by omega)).trans HX_x0.out)
      have c0_x0 := (Tst.cell_at HX_x0.out 0).trans rfl
      have c1_x0 := (Tst.cell_at HX_x0.out 1).trans rfl
      have c2_x0 := (Tst.cell_at HX_x0.out 2).trans rfl
      have c3_x0 := (Tst.cell_at HX_x0.out 3).trans rfl
      have c4_x0 := (Tst.cell_at HX_x0.out 4).trans rfl
      replace HX_g0 := Lib.hid ((hb.block (w16.heap.size) (by omega)).trans HX_g0.out)
      have c0_g0 := (Tst.cell_at HX_g0.out 0).trans rfl
      have c1_g0 := (Tst.cell_at HX_g0.out 1).trans rfl
      replace HX_h0 := Lib.hid ((hb.block (w44.heap.size) (by omega)).trans HX_h0.out)
      have c0_h0 := (Tst.cell_at HX_h0.out 0).trans rfl
      have c1_h0 := (Tst.cell_at HX_h0.out 1).trans rfl
      clear hb
      go_wp2
      go_ret
      exact ⟨rfl, T⟩
    · have hz_n0 : (-1 : Int) < 0 := by decide
      go_enter Tryz.func4, Tryz.ntmps4
      obtain ⟨wp0, hbox0⟩ : ∃ W, W = World.alloc w (.cells #[.slice A0 n0 c0, .slice S0 m0 d0, .int .i64 x0, .int .i64 a0, .int .i64 b0] 45) := ⟨_, rfl⟩
      have hbx0 := True.intro
      have hb : Below w.heap.size w wp0 := by rw [hbox0]; exact Tst.box_below _ _
      have sz_p0 : w.heap.size + 1 ≤ wp0.heap.size := by rw [hbox0]; simp
      have HX_p0 : Hid (wp0.heap[w.heap.size]? = some (.cells #[.slice A0 n0 c0, .slice S0 m0 d0, .int .i64 x0, .int .i64 a0, .int .i64 b0] 45 (0, 0))) := Lib.hid (by rw [hbox0]; exact heap_alloc_new _ _)
      have s0 : w.heap.size ≤ wp0.heap.size := hb.size
      replace T := T.trans (hb.mono (by omega))
      replace f0 := Ins.at_below f0 hb (by omega)
      replace g0 := g0.below (hb.mono (by omega))
      replace f1 := Ins.at_below f1 hb (by omega)
      clear hb
      have c0_p0 := (Tst.cell_at HX_p0.out 0).trans rfl
      have c1_p0 := (Tst.cell_at HX_p0.out 1).trans rfl
      have c2_p0 := (Tst.cell_at HX_p0.out 2).trans rfl
      have c3_p0 := (Tst.cell_at HX_p0.out 3).trans rfl
      have c4_p0 := (Tst.cell_at HX_p0.out 4).trans rfl
      go_wp2_with fail
      clear hbx0
      rw [← hbox0]
      clear hbox0
      go_wp2_with fail
      refine (Trk.sz_trick A0 n0 c0 S0 m0 d0 x0 a0 b0 ((1048576 : Int)) _ hx0 hy0 (by omega) (by omega)).mono ?_
      rintro e w2 ⟨rfl, hb⟩
      rw [if_neg (show ¬ ((n0 : Int) + (m0 : Int) ≤ (1048576 : Int)) by omega)]
      have s2 : wp0.heap.size ≤ w2.heap.size := hb.size
      replace T := T.trans (hb.mono (by omega))
      replace f0 := Ins.at_below f0 hb (by omega)
      replace g0 := g0.below (hb.mono (by omega))
      replace f1 := Ins.at_below f1 hb (by omega)
      clear c0_p0 c1_p0 c2_p0 c3_p0 c4_p0
      replace HX_p0 := Lib.hid ((hb.block (w.heap.size) (by omega)).trans HX_p0.out)
      have c0_p0 := (Tst.cell_at HX_p0.out 0).trans rfl
      have c1_p0 := (Tst.cell_at HX_p0.out 1).trans rfl
      have c2_p0 := (Tst.cell_at HX_p0.out 2).trans rfl
      have c3_p0 := (Tst.cell_at HX_p0.out 3).trans rfl
      have c4_p0 := (Tst.cell_at HX_p0.out 4).trans rfl
      clear hb
      go_wp2
      go_ret
      exact ⟨rfl, T⟩
  · have hd1 : (1048576 : Int) < (n1 : Int) := by omega
    go_enter Tryz.func4, Tryz.ntmps4
    obtain ⟨wp0, hbox0⟩ : ∃ W, W = World.alloc w (.cells #[.slice A0 n0 c0, .slice S0 m0 d0, .int .i64 x0, .int .i64 a0, .int .i64 b0] 45) := ⟨_, rfl⟩
    have hbx0 := True.intro
    have hb : Below w.heap.size w wp0 := by rw [hbox0]; exact Tst.box_below _ _
    have sz_p0 : w.heap.size + 1 ≤ wp0.heap.size := by rw [hbox0]; simp
    have HX_p0 : Hid (wp0.heap[w.heap.size]? = some (.cells #[.slice A0 n0 c0, .slice S0 m0 d0, .int .i64 x0, .int .i64 a0, .int .i64 b0] 45 (0, 0))) := Lib.hid (by rw [hbox0]; exact heap_alloc_new _ _)
    have s0 : w.heap.size ≤ wp0.heap.size := hb.size
    replace T := T.trans (hb.mono (by omega))
    replace f0 := Ins.at_below f0 hb (by omega)
    replace g0 := g0.below (hb.mono (by omega))
    replace f1 := Ins.at_below f1 hb (by omega)
    clear hb
    have c0_p0 := (Tst.cell_at HX_p0.out 0).trans rfl
    have c1_p0 := (Tst.cell_at HX_p0.out 1).trans rfl
    have c2_p0 := (Tst.cell_at HX_p0.out 2).trans rfl
    have c3_p0 := (Tst.cell_at HX_p0.out 3).trans rfl
    have c4_p0 := (Tst.cell_at HX_p0.out 4).trans rfl
    go_wp2_with fail
    clear hbx0
    rw [← hbox0]
    clear hbox0
    go_wp2
    go_ret
    exact ⟨rfl, T⟩
set_option maxRecDepth 100000 in
theorem lifted (os : Os) (started : os.Started) (H : Type) (enc : TypeId × Value → H) :
    ReturnsInHanded {} Tryz.checked os 4 .any (Rows.fnExactRunTrickSpec.pre6 enc Tryz.prog Tryz.f4 Rows.fnExactRunTrickRow.domain false) (Rows.fnExactRunTrickSpec.post enc Tryz.prog Tryz.f4 false true false false) := by
  refine returnsInHanded_of_change (C := Tryz.checked) Fr.own started (by kernel_rfl) Tryz.func4
    (ChangeSpec.witness6 (enc := enc) (C := Tryz.checked) false ⟨#[], #[.agg #[.slice none 0 0, .slice none 0 0, .int .i64 0, .int .i64 0, .int .i64 0], .slice none 0 0], []⟩ 8 (by kernel_rfl) (by kernel_rfl) (by kernel_rfl) (by kernel_rfl)) ?_
  intro W base args ds gs before hval0 hW hcnd _
  have hval : ∀ (j : Nat) t v, Tryz.f4.params[j]? = some t → args[j]? = some v → Value.okWide Tryz.prog W .any base t v := hval0
  have hW' := hW
  obtain ⟨p, q, hA0, hV, rfl, hfz, hnd⟩ := hW
  have hA : DataW.TrodAll enc Tryz.prog W 0 (fun _ => true) true Tryz.f4.params.toList args.toList ds p := hA0
  have hAk := hA
  rw [Tryz.params4] at hA hval
  obtain ⟨v0, v1, d0, d1, p0, p1, rfl, rfl, hp, h0, h1⟩ := trodAll_two hA
  obtain ⟨rfl, rfl⟩ := trodVars_none hV
  have hlt : ∀ x ∈ p, x.block < W.heap.size := fun x hx => by simpa using hW'.lt x (List.mem_append_left _ hx)
  obtain ⟨A0, n0, c0, l0, S0, m0, d0, t0, x0, a0, b0, rfl, hn0, hm0, hs0, ha0, hk0, hj0, hw0, hq0, wx0, wa0, wb0⟩ := Trk.view_trick Tryz.underlying45 (by kernel_rfl) (by kernel_rfl) Tryz.underlying22 Tryz.underlying3 (by kernel_rfl) Tryz.underlying43 ⟨Tryz.underlying28, Tryz.underlying26, (by kernel_rfl), (by kernel_rfl), (by kernel_rfl), (by kernel_rfl), (by kernel_rfl), (by kernel_rfl), rfl, rfl, rfl, rfl, rfl, Tryz.underlying3, Tryz.underlying3, Tryz.underlying3, Tryz.underlying3⟩ Tryz.underlying3 Tryz.underlying3 Tryz.underlying3 (hval 0 45 v0 rfl rfl) h0 (fun x hx => hlt x (by rw [hp]; simp [hx]))
  obtain ⟨A1, n1, c1, l1, rfl, hn1, hm1, hs1, ha1⟩ := Fr.view_nums Tryz.underlying22 Tryz.underlying3 (by kernel_rfl) (hval 1 22 v1 rfl rfl) h1 (fun x hx => hlt x (by rw [hp]; simp [hx]))
  clear hA0 hval0
  refine (walk A0 n0 c0 l0 S0 m0 d0 t0 x0 a0 b0 A1 n1 c1 l1 W hn0 hm0 hs0 ha0 hk0 hj0 hw0 hq0 wx0 wa0 wb0 hn1 hm1 hs1 ha1).mono fun e W' ⟨he, hb⟩ => ?_
  subst he
  exact ⟨_, rfl, _, _, _, [], p, [], hW', trodAll_mk1 (shut_bool Tryz.underlying4 _), Fr.below_all Fr.laidOut hb _ _ _ _ (Fr.readB_all (by kernel_rfl)) hAk hlt, rfl, hb.frame _, fun h => by cases h⟩

theorem proved : Rows.FnExactRunTrickSaid :=
  OpenClaim.holds_of_wide 4 Tryz.f4 rfl rfl rfl rfl rfl rfl rfl ⟨rfl, rfl, rfl, rfl, rfl⟩ rfl rfl rfl rfl rfl (by kernel_rfl) Tryz.func4 (by kernel_rfl)
    (of_decide_eq_true (by kernel_rfl)) (by unfold Func.isWrapper; first | (rw [if_pos (by decide +kernel)]; kernel_rfl) | (rw [if_neg (by decide +kernel)]; exact ⟨rfl, rfl⟩))
    (fun os started H enc _ => lifted os started H enc)

end Go.Proofs.YtibephoepkofnaaGreat.LawRunTrick
