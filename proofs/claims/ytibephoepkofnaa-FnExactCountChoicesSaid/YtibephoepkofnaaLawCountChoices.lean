/- The law of CountChoices holds: for every argument the program's CountChoices answers as its model does, changes no argument, and shares no memory. No condition. -/
import Derived.Deep.RegionHeld3
import Derived.Deep.RegionWith
import Derived.BigQuiet
import Derived.Test.YtibephoepkofnaaTsp
import Derived.Test.YtibephoepkofnaaTip
import Derived.Test.YtibephoepkofnaaTrk
import Derived.Test.YtibephoepkofnaaScn
import Derived.Test.YtibephoepkofnaaTst
import Derived.Test.YtibephoepkofnaaPkt
import Derived.Test.YtibephoepkofnaaFrame
set_option linter.unusedVariables false
namespace Go.Proofs.Ytibephoepkofnaa.LawCountChoices
open Go.ChangeShapes Go.WideShapes Go.ChangeAt Go.RowKit Fr _root_.Go.Proofs.Ytibephoepkofnaa.Own

set_option maxHeartbeats 4000000 in
theorem walk (A0 : Option Addr) (n0 c0 : Nat) (l0 : List Int) (S0 : Option Addr) (m0 d0 : Nat) (t0 : List Tst.SR) (x0 a0 b0 : Int) (w : World) (hn0 : l0.length = n0) (hm0 : n0 ≤ maxLen) (hs0 : ∀ z ∈ l0, (Lit.int .i64 z).wf = true) (ha0 : IntsAt w w.heap.size .i64 A0 l0) (hk0 : t0.length = m0) (hj0 : m0 ≤ maxLen) (hw0 : Tst.WfS t0) (hq0 : Tst.StepsAt w w.heap.size S0 t0) (wx0 : (Lit.int .i64 x0).wf = true) (wa0 : (Lit.int .i64 a0).wf = true) (wb0 : (Lit.int .i64 b0).wf = true) :
    Calls Try.prog 7 #[Trk.trV A0 n0 c0 S0 m0 d0 x0 a0 b0] w fun e w' => e = .returned (.bool true) ∧ Below w.heap.size w w' := by
  have hx0 : n0 ≤ 9223372036854775807 := by unfold maxLen at hm0; omega
  have hz0 := Ins.fits_of hs0
  have HN0 := Lib.hid hn0
  clear hn0 hm0 hs0
  have f0 := ha0
  clear ha0
  have hy0 : m0 ≤ 9223372036854775807 := by unfold maxLen at hj0; omega
  have HM0 := Lib.hid hk0
  have HW0 := Lib.hid hw0
  have g0 := hq0
  clear hk0 hj0 hw0 hq0
  obtain ⟨xlo0, xhi0⟩ := Ins.wf_lo wx0
  clear wx0
  obtain ⟨alo0, ahi0⟩ := Ins.wf_lo wa0
  clear wa0
  obtain ⟨blo0, bhi0⟩ := Ins.wf_lo wb0
  clear wb0
  have T : Below w.heap.size w w := Below.refl _ w
  by_cases hg0 : (n0 : Int) + (m0 : Int) ≤ (1048576 : Int)
  · have hL0 : n0 ≤ 1048576 := by omega
    have hM0 : m0 ≤ 1048576 := by omega
    go_enter Try.func7, Try.ntmps7
    obtain ⟨wp0, hbox0⟩ : ∃ W, W = World.alloc w (.cells #[.slice A0 n0 c0, .slice S0 m0 d0, .int .i64 x0, .int .i64 a0, .int .i64 b0] 35) := ⟨_, rfl⟩
    have hbx0 := True.intro
    have hb : Below w.heap.size w wp0 := by rw [hbox0]; exact Tst.box_below _ _
    have sz_p0 : w.heap.size + 1 ≤ wp0.heap.size := by rw [hbox0]; simp
    have HX_p0 : Hid (wp0.heap[w.heap.size]? = some (.cells #[.slice A0 n0 c0, .slice S0 m0 d0, .int .i64 x0, .int .i64 a0, .int .i64 b0] 35 (0, 0))) := Lib.hid (by rw [hbox0]; exact heap_alloc_new _ _)
    have s0 : w.heap.size ≤ wp0.heap.size := hb.size
    replace T := T.trans (hb.mono (by omega))
    replace f0 := Ins.at_below f0 hb (by omega)
    replace g0 := g0.below (hb.mono (by omega))
    clear hb
    have c0_p0 := (Tst.cell_at HX_p0.out 0).trans rfl
    have c1_p0 := (Tst.cell_at HX_p0.out 1).trans rfl
    have c2_p0 := (Tst.cell_at HX_p0.out 2).trans rfl
    have c3_p0 := (Tst.cell_at HX_p0.out 3).trans rfl
    have c4_p0 := (Tst.cell_at HX_p0.out 4).trans rfl
    go_wp2_with fail
    clear hbx0
    rw [← hbox0]
    clear hbox0
    refine (Trk.sz_trick A0 n0 c0 S0 m0 d0 x0 a0 b0 ((1048576 : Int)) _ hx0 hy0 (by omega) (by omega)).mono ?_
    rintro e w2 ⟨rfl, hb⟩
    rw [if_pos (show (n0 : Int) + (m0 : Int) ≤ (1048576 : Int) by omega)]
    have hz_0 : decide ((1048576 : Int) - (n0 : Int) - (m0 : Int) < 0) = false := decide_eq_false (by omega)
    have s2 : wp0.heap.size ≤ w2.heap.size := hb.size
    replace T := T.trans (hb.mono (by omega))
    replace f0 := Ins.at_below f0 hb (by omega)
    replace g0 := g0.below (hb.mono (by omega))
    clear c0_p0 c1_p0 c2_p0 c3_p0 c4_p0
    replace HX_p0 := Lib.hid ((hb.block (w.heap.size) (by omega)).trans HX_p0.out)
    have c0_p0 := (Tst.cell_at HX_p0.out 0).trans rfl
    have c1_p0 := (Tst.cell_at HX_p0.out 1).trans rfl
    have c2_p0 := (Tst.cell_at HX_p0.out 2).trans rfl
    have c3_p0 := (Tst.cell_at HX_p0.out 3).trans rfl
    have c4_p0 := (Tst.cell_at HX_p0.out 4).trans rfl
    clear hb
    go_wp2_with fail
    refine (Trk.to_trick A0 n0 c0 l0 S0 m0 d0 t0 x0 a0 b0 _ HN0.out hL0 (f0.more T.size) HM0.out hM0 (g0.more T.size)).mono ?_
    rintro e w4 ⟨g_t_1, h_t_1, rfl, hown, hst, hgh_t_1, hb⟩
    rw [HN0.out] at hown
    rw [HM0.out] at hst
    rw [HN0.out, HM0.out]
    have s4 : w2.heap.size ≤ w4.heap.size := hb.size
    replace T := T.trans (hb.mono (by omega))
    replace f0 := Ins.at_below f0 hb (by omega)
    replace g0 := g0.below (hb.mono (by omega))
    clear c0_p0 c1_p0 c2_p0 c3_p0 c4_p0
    replace HX_p0 := Lib.hid ((hb.block (w.heap.size) (by omega)).trans HX_p0.out)
    have c0_p0 := (Tst.cell_at HX_p0.out 0).trans rfl
    have c1_p0 := (Tst.cell_at HX_p0.out 1).trans rfl
    have c2_p0 := (Tst.cell_at HX_p0.out 2).trans rfl
    have c3_p0 := (Tst.cell_at HX_p0.out 3).trans rfl
    have c4_p0 := (Tst.cell_at HX_p0.out 4).trans rfl
    clear hb
    have r_t_1 := Ins.Row.mk hown
    have q_t_1 := hst
    clear hown hst
    go_wp2_with fail
    refine (Tsp.spec_choices (some ⟨g_t_1, 0, none⟩) n0 n0 l0 (some ⟨h_t_1, 0, none⟩) m0 m0 t0 x0 a0 b0 _ HN0.out (by omega) hz0 r_t_1.at_ HM0.out (by omega) q_t_1.at_).mono ?_
    rintro e w6 ⟨rfl, hb⟩
    have s6 : w4.heap.size ≤ w6.heap.size := hb.size
    replace T := T.trans (hb.mono (by omega))
    replace f0 := Ins.at_below f0 hb (by omega)
    replace g0 := g0.below (hb.mono (by omega))
    replace r_t_1 := r_t_1.below hb
    replace q_t_1 := q_t_1.below hb
    clear c0_p0 c1_p0 c2_p0 c3_p0 c4_p0
    replace HX_p0 := Lib.hid ((hb.block (w.heap.size) (by omega)).trans HX_p0.out)
    have c0_p0 := (Tst.cell_at HX_p0.out 0).trans rfl
    have c1_p0 := (Tst.cell_at HX_p0.out 1).trans rfl
    have c2_p0 := (Tst.cell_at HX_p0.out 2).trans rfl
    have c3_p0 := (Tst.cell_at HX_p0.out 3).trans rfl
    have c4_p0 := (Tst.cell_at HX_p0.out 4).trans rfl
    clear hb
    go_wp2_with fail
    refine (Trk.to_trick A0 n0 c0 l0 S0 m0 d0 t0 x0 a0 b0 _ HN0.out hL0 (f0.more T.size) HM0.out hM0 (g0.more T.size)).mono ?_
    rintro e w8 ⟨g_x0, h_x0, rfl, hown, hst, hgh_x0, hb⟩
    rw [HN0.out] at hown
    rw [HM0.out] at hst
    rw [HN0.out, HM0.out]
    have s8 : w6.heap.size ≤ w8.heap.size := hb.size
    replace T := T.trans (hb.mono (by omega))
    replace f0 := Ins.at_below f0 hb (by omega)
    replace g0 := g0.below (hb.mono (by omega))
    replace r_t_1 := r_t_1.below hb
    replace q_t_1 := q_t_1.below hb
    clear c0_p0 c1_p0 c2_p0 c3_p0 c4_p0
    replace HX_p0 := Lib.hid ((hb.block (w.heap.size) (by omega)).trans HX_p0.out)
    have c0_p0 := (Tst.cell_at HX_p0.out 0).trans rfl
    have c1_p0 := (Tst.cell_at HX_p0.out 1).trans rfl
    have c2_p0 := (Tst.cell_at HX_p0.out 2).trans rfl
    have c3_p0 := (Tst.cell_at HX_p0.out 3).trans rfl
    have c4_p0 := (Tst.cell_at HX_p0.out 4).trans rfl
    clear hb
    have r_x0 := Ins.Row.mk hown
    have q_x0 := hst
    clear hown hst
    have p0_p0 := (Tst.cell_at (((Tst.box_below w8 (.cells #[.slice (some ⟨g_x0, 0, none⟩) n0 n0, .slice (some ⟨h_x0, 0, none⟩) m0 m0, .int .i64 x0, .int .i64 a0, .int .i64 b0] 40)).block (w.heap.size) (by omega)).trans HX_p0.out) 0).trans rfl
    have p1_p0 := (Tst.cell_at (((Tst.box_below w8 (.cells #[.slice (some ⟨g_x0, 0, none⟩) n0 n0, .slice (some ⟨h_x0, 0, none⟩) m0 m0, .int .i64 x0, .int .i64 a0, .int .i64 b0] 40)).block (w.heap.size) (by omega)).trans HX_p0.out) 1).trans rfl
    have p2_p0 := (Tst.cell_at (((Tst.box_below w8 (.cells #[.slice (some ⟨g_x0, 0, none⟩) n0 n0, .slice (some ⟨h_x0, 0, none⟩) m0 m0, .int .i64 x0, .int .i64 a0, .int .i64 b0] 40)).block (w.heap.size) (by omega)).trans HX_p0.out) 2).trans rfl
    have p3_p0 := (Tst.cell_at (((Tst.box_below w8 (.cells #[.slice (some ⟨g_x0, 0, none⟩) n0 n0, .slice (some ⟨h_x0, 0, none⟩) m0 m0, .int .i64 x0, .int .i64 a0, .int .i64 b0] 40)).block (w.heap.size) (by omega)).trans HX_p0.out) 3).trans rfl
    have p4_p0 := (Tst.cell_at (((Tst.box_below w8 (.cells #[.slice (some ⟨g_x0, 0, none⟩) n0 n0, .slice (some ⟨h_x0, 0, none⟩) m0 m0, .int .i64 x0, .int .i64 a0, .int .i64 b0] 40)).block (w.heap.size) (by omega)).trans HX_p0.out) 4).trans rfl
    go_wp2_with fail
    clear p0_p0 p1_p0 p2_p0 p3_p0 p4_p0
    generalize hbox : World.alloc w8 _ = wb_x0
    have hb : Below w8.heap.size w8 wb_x0 := by rw [← hbox]; exact Tst.box_below _ _
    have sz_x0 : w8.heap.size + 1 ≤ wb_x0.heap.size := by rw [← hbox]; simp
    have HX_x0 : Hid (wb_x0.heap[w8.heap.size]? = some (.cells #[.slice (some ⟨g_x0, 0, none⟩) n0 n0, .slice (some ⟨h_x0, 0, none⟩) m0 m0, .int .i64 x0, .int .i64 a0, .int .i64 b0] 40 (0, 0))) := Lib.hid (by rw [← hbox]; exact heap_alloc_new _ _)
    clear hbox
    have s9 : w8.heap.size ≤ wb_x0.heap.size := hb.size
    replace T := T.trans (hb.mono (by omega))
    replace f0 := Ins.at_below f0 hb (by omega)
    replace g0 := g0.below (hb.mono (by omega))
    replace r_t_1 := r_t_1.below hb
    replace q_t_1 := q_t_1.below hb
    replace r_x0 := r_x0.below hb
    replace q_x0 := q_x0.below hb
    clear c0_p0 c1_p0 c2_p0 c3_p0 c4_p0
    replace HX_p0 := Lib.hid ((hb.block (w.heap.size) (by omega)).trans HX_p0.out)
    have c0_p0 := (Tst.cell_at HX_p0.out 0).trans rfl
    have c1_p0 := (Tst.cell_at HX_p0.out 1).trans rfl
    have c2_p0 := (Tst.cell_at HX_p0.out 2).trans rfl
    have c3_p0 := (Tst.cell_at HX_p0.out 3).trans rfl
    have c4_p0 := (Tst.cell_at HX_p0.out 4).trans rfl
    clear hb
    have c0_x0 := (Tst.cell_at HX_x0.out 0).trans rfl
    have c1_x0 := (Tst.cell_at HX_x0.out 1).trans rfl
    have c2_x0 := (Tst.cell_at HX_x0.out 2).trans rfl
    have c3_x0 := (Tst.cell_at HX_x0.out 3).trans rfl
    have c4_x0 := (Tst.cell_at HX_x0.out 4).trans rfl
    refine (Tip.impl_choices (some ⟨g_x0, 0, none⟩) n0 n0 l0 (some ⟨h_x0, 0, none⟩) m0 m0 t0 x0 a0 b0 _ HN0.out (by omega) hz0 r_x0.at_ HM0.out (by omega) q_x0.at_).mono ?_
    rintro e w11 ⟨rfl, hb⟩
    have s11 : wb_x0.heap.size ≤ w11.heap.size := hb.size
    replace T := T.trans (hb.mono (by omega))
    replace f0 := Ins.at_below f0 hb (by omega)
    replace g0 := g0.below (hb.mono (by omega))
    replace r_t_1 := r_t_1.below hb
    replace q_t_1 := q_t_1.below hb
    replace r_x0 := r_x0.below hb
    replace q_x0 := q_x0.below hb
    clear c0_p0 c1_p0 c2_p0 c3_p0 c4_p0 c0_x0 c1_x0 c2_x0 c3_x0 c4_x0
    replace HX_p0 := Lib.hid ((hb.block (w.heap.size) (by omega)).trans HX_p0.out)
    have c0_p0 := (Tst.cell_at HX_p0.out 0).trans rfl
    have c1_p0 := (Tst.cell_at HX_p0.out 1).trans rfl
    have c2_p0 := (Tst.cell_at HX_p0.out 2).trans rfl
    have c3_p0 := (Tst.cell_at HX_p0.out 3).trans rfl
    have c4_p0 := (Tst.cell_at HX_p0.out 4).trans rfl
    replace HX_x0 := Lib.hid ((hb.block (w8.heap.size) (by omega)).trans HX_x0.out)
    have c0_x0 := (Tst.cell_at HX_x0.out 0).trans rfl
    have c1_x0 := (Tst.cell_at HX_x0.out 1).trans rfl
    have c2_x0 := (Tst.cell_at HX_x0.out 2).trans rfl
    have c3_x0 := (Tst.cell_at HX_x0.out 3).trans rfl
    have c4_x0 := (Tst.cell_at HX_x0.out 4).trans rfl
    clear hb
    have hb := (Below.refl w11.heap.size w11).drew
    have s12 : w11.heap.size ≤ w11.drew.heap.size := hb.size
    replace T := T.trans (hb.mono (by omega))
    replace f0 := Ins.at_below f0 hb (by omega)
    replace g0 := g0.below (hb.mono (by omega))
    replace r_t_1 := r_t_1.below hb
    replace q_t_1 := q_t_1.below hb
    replace r_x0 := r_x0.below hb
    replace q_x0 := q_x0.below hb
    clear c0_p0 c1_p0 c2_p0 c3_p0 c4_p0 c0_x0 c1_x0 c2_x0 c3_x0 c4_x0
    replace HX_p0 := Lib.hid ((hb.block (w.heap.size) (by omega)).trans HX_p0.out)
    have c0_p0 := (Tst.cell_at HX_p0.out 0).trans rfl
    have c1_p0 := (Tst.cell_at HX_p0.out 1).trans rfl
    have c2_p0 := (Tst.cell_at HX_p0.out 2).trans rfl
    have c3_p0 := (Tst.cell_at HX_p0.out 3).trans rfl
    have c4_p0 := (Tst.cell_at HX_p0.out 4).trans rfl
    replace HX_x0 := Lib.hid ((hb.block (w8.heap.size) (by omega)).trans HX_x0.out)
    have c0_x0 := (Tst.cell_at HX_x0.out 0).trans rfl
    have c1_x0 := (Tst.cell_at HX_x0.out 1).trans rfl
    have c2_x0 := (Tst.cell_at HX_x0.out 2).trans rfl
    have c3_x0 := (Tst.cell_at HX_x0.out 3).trans rfl
    have c4_x0 := (Tst.cell_at HX_x0.out 4).trans rfl
    clear hb
    go_wp2_with fail
    go_region_held3 (fun w' => w'.cell? ⟨w.heap.size, 0, none⟩ = some (.slice A0 n0 c0) ∧ w'.cell? ⟨w.heap.size, 1, none⟩ = some (.slice S0 m0 d0) ∧ w'.cell? ⟨w.heap.size, 2, none⟩ = some (.int .i64 x0) ∧ w'.cell? ⟨w.heap.size, 3, none⟩ = some (.int .i64 a0) ∧ w'.cell? ⟨w.heap.size, 4, none⟩ = some (.int .i64 b0) ∧ w'.cell? ⟨w8.heap.size, 0, none⟩ = some (.slice (some ⟨g_x0, 0, none⟩) n0 n0) ∧ w'.cell? ⟨w8.heap.size, 1, none⟩ = some (.slice (some ⟨h_x0, 0, none⟩) m0 m0) ∧ w'.cell? ⟨w8.heap.size, 2, none⟩ = some (.int .i64 x0) ∧ w'.cell? ⟨w8.heap.size, 3, none⟩ = some (.int .i64 a0) ∧ w'.cell? ⟨w8.heap.size, 4, none⟩ = some (.int .i64 b0)) ((first | exact ⟨c0_p0, c1_p0, c2_p0, c3_p0, c4_p0, c0_x0, c1_x0, c2_x0, c3_x0, c4_x0⟩)) ((first | (go_at_call 13; refine (Trk.to_trick A0 n0 c0 l0 S0 m0 d0 t0 x0 a0 b0 _ HN0.out hL0 (f0.more T.size) HM0.out hM0 (g0.more T.size)).mono ?_; rintro e w14 ⟨g_t_2, h_t_2, rfl, hown, hst, hgh_t_2, hb⟩; rw [HN0.out] at hown; rw [HM0.out] at hst; rw [HN0.out, HM0.out]; have s14 : w11.drew.heap.size ≤ w14.heap.size := hb.size; replace T := T.trans (hb.mono (by omega)); replace f0 := Ins.at_below f0 hb (by omega); replace g0 := g0.below (hb.mono (by omega)); replace r_t_1 := r_t_1.below hb; replace q_t_1 := q_t_1.below hb; replace r_x0 := r_x0.below hb; replace q_x0 := q_x0.below hb; clear c0_p0 c1_p0 c2_p0 c3_p0 c4_p0 c0_x0 c1_x0 c2_x0 c3_x0 c4_x0; replace HX_p0 := Lib.hid ((hb.block (w.heap.size) (by omega)).trans HX_p0.out); have c0_p0 := (Tst.cell_at HX_p0.out 0).trans rfl; have c1_p0 := (Tst.cell_at HX_p0.out 1).trans rfl; have c2_p0 := (Tst.cell_at HX_p0.out 2).trans rfl; have c3_p0 := (Tst.cell_at HX_p0.out 3).trans rfl; have c4_p0 := (Tst.cell_at HX_p0.out 4).trans rfl; replace HX_x0 := Lib.hid ((hb.block (w8.heap.size) (by omega)).trans HX_x0.out); have c0_x0 := (Tst.cell_at HX_x0.out 0).trans rfl; have c1_x0 := (Tst.cell_at HX_x0.out 1).trans rfl; have c2_x0 := (Tst.cell_at HX_x0.out 2).trans rfl; have c3_x0 := (Tst.cell_at HX_x0.out 3).trans rfl; have c4_x0 := (Tst.cell_at HX_x0.out 4).trans rfl; clear hb; have r_t_2 := Ins.Row.mk hown; have q_t_2 := hst; clear hown hst) | (go_at_call 15; refine (Trk.eq_trick (some ⟨g_x0, 0, none⟩) (some ⟨g_t_2, 0, none⟩) n0 n0 n0 l0 (some ⟨h_x0, 0, none⟩) (some ⟨h_t_2, 0, none⟩) m0 m0 m0 t0 x0 a0 b0 _ HN0.out (by omega) r_x0.at_ r_t_2.at_ HM0.out (by omega) q_x0.at_ q_t_2.at_).mono ?_; rintro e w16 ⟨rfl, hb⟩; have s16 : w14.heap.size ≤ w16.heap.size := hb.size; replace T := T.trans (hb.mono (by omega)); replace f0 := Ins.at_below f0 hb (by omega); replace g0 := g0.below (hb.mono (by omega)); replace r_t_1 := r_t_1.below hb; replace q_t_1 := q_t_1.below hb; replace r_x0 := r_x0.below hb; replace q_x0 := q_x0.below hb; replace r_t_2 := r_t_2.below hb; replace q_t_2 := q_t_2.below hb; clear c0_p0 c1_p0 c2_p0 c3_p0 c4_p0 c0_x0 c1_x0 c2_x0 c3_x0 c4_x0; replace HX_p0 := Lib.hid ((hb.block (w.heap.size) (by omega)).trans HX_p0.out); have c0_p0 := (Tst.cell_at HX_p0.out 0).trans rfl; have c1_p0 := (Tst.cell_at HX_p0.out 1).trans rfl; have c2_p0 := (Tst.cell_at HX_p0.out 2).trans rfl; have c3_p0 := (Tst.cell_at HX_p0.out 3).trans rfl; have c4_p0 := (Tst.cell_at HX_p0.out 4).trans rfl; replace HX_x0 := Lib.hid ((hb.block (w8.heap.size) (by omega)).trans HX_x0.out); have c0_x0 := (Tst.cell_at HX_x0.out 0).trans rfl; have c1_x0 := (Tst.cell_at HX_x0.out 1).trans rfl; have c2_x0 := (Tst.cell_at HX_x0.out 2).trans rfl; have c3_x0 := (Tst.cell_at HX_x0.out 3).trans rfl; have c4_x0 := (Tst.cell_at HX_x0.out 4).trans rfl; clear hb)))
    go_wp2
    go_ret
    exact ⟨rfl, T⟩
  · have hz_n0 : (-1 : Int) < 0 := by decide
    go_enter Try.func7, Try.ntmps7
    obtain ⟨wp0, hbox0⟩ : ∃ W, W = World.alloc w (.cells #[.slice A0 n0 c0, .slice S0 m0 d0, .int .i64 x0, .int .i64 a0, .int .i64 b0] 35) := ⟨_, rfl⟩
    have hbx0 := True.intro
    have hb : Below w.heap.size w wp0 := by rw [hbox0]; exact Tst.box_below _ _
    have sz_p0 : w.heap.size + 1 ≤ wp0.heap.size := by rw [hbox0]; simp
    have HX_p0 : Hid (wp0.heap[w.heap.size]? = some (.cells #[.slice A0 n0 c0, .slice S0 m0 d0, .int .i64 x0, .int .i64 a0, .int .i64 b0] 35 (0, 0))) := Lib.hid (by rw [hbox0]; exact heap_alloc_new _ _)
    have s0 : w.heap.size ≤ wp0.heap.size := hb.size
    replace T := T.trans (hb.mono (by omega))
    replace f0 := Ins.at_below f0 hb (by omega)
    replace g0 := g0.below (hb.mono (by omega))
    clear hb
    have c0_p0 := (Tst.cell_at HX_p0.out 0).trans rfl
    have c1_p0 := (Tst.cell_at HX_p0.out 1).trans rfl
    have c2_p0 := (Tst.cell_at HX_p0.out 2).trans rfl
    have c3_p0 := (Tst.cell_at HX_p0.out 3).trans rfl
    have c4_p0 := (Tst.cell_at HX_p0.out 4).trans rfl
    go_wp2_with fail
    clear hbx0
    rw [← hbox0]
    clear hbox0
    refine (Trk.sz_trick A0 n0 c0 S0 m0 d0 x0 a0 b0 ((1048576 : Int)) _ hx0 hy0 (by omega) (by omega)).mono ?_
    rintro e w2 ⟨rfl, hb⟩
    rw [if_neg (show ¬ ((n0 : Int) + (m0 : Int) ≤ (1048576 : Int)) by omega)]
    have s2 : wp0.heap.size ≤ w2.heap.size := hb.size
    replace T := T.trans (hb.mono (by omega))
    replace f0 := Ins.at_below f0 hb (by omega)
    replace g0 := g0.below (hb.mono (by omega))
    clear c0_p0 c1_p0 c2_p0 c3_p0 c4_p0
    replace HX_p0 := Lib.hid ((hb.block (w.heap.size) (by omega)).trans HX_p0.out)
    have c0_p0 := (Tst.cell_at HX_p0.out 0).trans rfl
    have c1_p0 := (Tst.cell_at HX_p0.out 1).trans rfl
    have c2_p0 := (Tst.cell_at HX_p0.out 2).trans rfl
    have c3_p0 := (Tst.cell_at HX_p0.out 3).trans rfl
    have c4_p0 := (Tst.cell_at HX_p0.out 4).trans rfl
    clear hb
    go_wp2
    go_ret
    exact ⟨rfl, T⟩
set_option maxRecDepth 100000 in
theorem lifted (os : Os) (started : os.Started) (H : Type) (enc : TypeId × Value → H) :
    ReturnsInHanded {} Try.checked os 7 .any (Rows.fnExactCountChoicesSpec.pre6 enc Try.prog Try.f7 Rows.fnExactCountChoicesRow.domain false) (Rows.fnExactCountChoicesSpec.post enc Try.prog Try.f7 false true false false) := by
  refine returnsInHanded_of_change (C := Try.checked) Fr.own started (by kernel_rfl) Try.func7
    (ChangeSpec.witness6 (enc := enc) (C := Try.checked) false ⟨#[], #[.agg #[.slice none 0 0, .slice none 0 0, .int .i64 0, .int .i64 0, .int .i64 0]], []⟩ 8 (by kernel_rfl) (by kernel_rfl) (by kernel_rfl) (by kernel_rfl)) ?_
  intro W base args ds gs before hval0 hW hcnd _
  have hval : ∀ (j : Nat) t v, Try.f7.params[j]? = some t → args[j]? = some v → Value.okWide Try.prog W .any base t v := hval0
  have hW' := hW
  obtain ⟨p, q, hA0, hV, rfl, hfz, hnd⟩ := hW
  have hA : DataW.TrodAll enc Try.prog W 0 (fun _ => true) true Try.f7.params.toList args.toList ds p := hA0
  have hAk := hA
  rw [Try.params7] at hA hval
  obtain ⟨v0, d0, rfl, rfl, h0⟩ := trodAll_one hA
  obtain ⟨rfl, rfl⟩ := trodVars_none hV
  have hlt : ∀ x ∈ p, x.block < W.heap.size := fun x hx => by simpa using hW'.lt x (List.mem_append_left _ hx)
  obtain ⟨A0, n0, c0, l0, S0, m0, d0, t0, x0, a0, b0, rfl, hn0, hm0, hs0, ha0, hk0, hj0, hw0, hq0, wx0, wa0, wb0⟩ := Trk.view_trick Try.underlying35 (by kernel_rfl) (by kernel_rfl) Try.underlying32 Try.underlying3 (by kernel_rfl) Try.underlying33 ⟨Try.underlying25, Try.underlying23, (by kernel_rfl), (by kernel_rfl), (by kernel_rfl), (by kernel_rfl), (by kernel_rfl), (by kernel_rfl), rfl, rfl, rfl, rfl, rfl, Try.underlying3, Try.underlying3, Try.underlying3, Try.underlying3⟩ Try.underlying3 Try.underlying3 Try.underlying3 (hval 0 35 v0 rfl rfl) h0 hlt
  clear hA0 hval0
  refine (walk A0 n0 c0 l0 S0 m0 d0 t0 x0 a0 b0 W hn0 hm0 hs0 ha0 hk0 hj0 hw0 hq0 wx0 wa0 wb0).mono fun e W' ⟨he, hb⟩ => ?_
  subst he
  exact ⟨_, rfl, _, _, _, [], p, [], hW', trodAll_mk1 (shut_bool Try.underlying4 _), Fr.below_all Fr.laidOut hb _ _ _ _ (Fr.readB_all (by kernel_rfl)) hAk hlt, rfl, hb.frame _, fun h => by cases h⟩

theorem proved : Rows.FnExactCountChoicesSaid :=
  OpenClaim.holds_of_wide 7 Try.f7 rfl rfl rfl rfl rfl rfl rfl ⟨rfl, rfl, rfl, rfl, rfl⟩ rfl rfl rfl rfl rfl (by kernel_rfl) Try.func7 (by kernel_rfl)
    (of_decide_eq_true (by kernel_rfl)) (by unfold Func.isWrapper; first | (rw [if_pos (by decide +kernel)]; kernel_rfl) | (rw [if_neg (by decide +kernel)]; exact ⟨rfl, rfl⟩))
    (fun os started H enc _ => lifted os started H enc)

end Go.Proofs.Ytibephoepkofnaa.LawCountChoices
