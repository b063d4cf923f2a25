/- The law of NextScenes holds: for every argument the program's NextScenes answers as its model does, changes no argument, and shares no memory. No condition. -/
import Derived.Deep.RegionHeld3
import Derived.Deep.RegionWith
import Derived.BigQuiet
import Derived.Test.YtibephoepkofnaaGreatTnp
import Derived.Test.YtibephoepkofnaaGreatTrk
import Derived.Test.YtibephoepkofnaaGreatPkt
import Derived.Test.YtibephoepkofnaaGreatFrame
set_option linter.unusedVariables false
namespace Go.Proofs.YtibephoepkofnaaGreat.LawNextScenes
open Go.ChangeShapes Go.WideShapes Go.ChangeAt Go.RowKit Fr _root_.Go.Proofs.YtibephoepkofnaaGreat.Own

set_option maxHeartbeats 4000000 in
theorem walk (A0 : Option Addr) (n0 c0 : Nat) (l0 : List Int) (y0 : Int) (k1 d1 q1 a1 : Int) (w : World) (hn0 : l0.length = n0) (hm0 : n0 ≤ maxLen) (hs0 : ∀ z ∈ l0, (Lit.int .i64 z).wf = true) (wy0 : (Lit.int .i64 y0).wf = true) (ha0 : IntsAt w w.heap.size .i64 A0 l0) (hw1 : (Tst.SR.mk k1 d1 q1 a1).wf) :
    Calls Tryz.prog 3 #[Scn.scV A0 n0 c0 y0, (Tst.SR.mk k1 d1 q1 a1).v] w fun e w' => e = .returned (.bool true) ∧ Below w.heap.size w w' := by
  have hx0 : n0 ≤ 9223372036854775807 := by unfold maxLen at hm0; omega
  have hz0 := Ins.fits_of hs0
  have HN0 := Lib.hid hn0
  clear hn0 hm0 hs0
  have f0 := ha0
  clear ha0
  obtain ⟨ylo0, yhi0⟩ := Ins.wf_lo wy0
  clear wy0
  have T : Below w.heap.size w w := Below.refl _ w
  by_cases hg0 : (n0 : Int) ≤ (1048576 : Int)
  · have hL0 : n0 ≤ 1048576 := by omega
    obtain ⟨res, hres⟩ : ∃ r, r = Tnx.nxF (l0, y0) ⟨k1, d1, q1, a1⟩ := ⟨_, rfl⟩
    have hlen : res.length ≤ 65536 := by rw [hres]; exact Tnx.nx_few _ _
    have HSH := Lib.hid (show ∀ x ∈ res, x.1.length ≤ 12 by rw [hres]; exact Tnx.nx_short _ _)
    have HR := Lib.hid hres.symm
    clear hres
    go_enter Tryz.func3, Tryz.ntmps3
    obtain ⟨wp0, hbox0⟩ : ∃ W, W = World.alloc w (.cells #[.slice A0 n0 c0, .int .i64 y0] 24) := ⟨_, rfl⟩
    obtain ⟨wp1, hbox1⟩ : ∃ W, W = World.alloc wp0 (.cells #[.int .i64 k1, .int .i64 d1, .int .i64 q1, .int .i64 a1] 28) := ⟨_, rfl⟩
    have hbx0 := True.intro
    have hb : Below w.heap.size w wp0 := by rw [hbox0]; exact Tst.box_below _ _
    have sz_p0 : w.heap.size + 1 ≤ wp0.heap.size := by rw [hbox0]; simp
    have HX_p0 : Hid (wp0.heap[w.heap.size]? = some (.cells #[.slice A0 n0 c0, .int .i64 y0] 24 (0, 0))) := Lib.hid (by rw [hbox0]; exact heap_alloc_new _ _)
    have s0 : w.heap.size ≤ wp0.heap.size := hb.size
    replace T := T.trans (hb.mono (by omega))
    replace f0 := Ins.at_below f0 hb (by omega)
    clear hb
    have c0_p0 := (Tst.cell_at HX_p0.out 0).trans rfl
    have c1_p0 := (Tst.cell_at HX_p0.out 1).trans rfl
    have hb : Below wp0.heap.size wp0 wp1 := by rw [hbox1]; exact Tst.box_below _ _
    have sz_p1 : wp0.heap.size + 1 ≤ wp1.heap.size := by rw [hbox1]; simp
    have hq_p1 : wp0.heap.size = w.heap.size + 1 := by simp [hbox0]
    have HX_p1 : Hid (wp1.heap[w.heap.size + 1]? = some (.cells #[.int .i64 k1, .int .i64 d1, .int .i64 q1, .int .i64 a1] 28 (0, 0))) := Lib.hid (by rw [← hq_p1, hbox1]; exact heap_alloc_new _ _)
    have s1 : wp0.heap.size ≤ wp1.heap.size := hb.size
    replace T := T.trans (hb.mono (by omega))
    replace f0 := Ins.at_below f0 hb (by omega)
    clear c0_p0 c1_p0
    replace HX_p0 := Lib.hid ((hb.block (w.heap.size) (by omega)).trans HX_p0.out)
    have c0_p0 := (Tst.cell_at HX_p0.out 0).trans rfl
    have c1_p0 := (Tst.cell_at HX_p0.out 1).trans rfl
    clear hb
    have c0_p1 := (Tst.cell_at HX_p1.out 0).trans rfl
    have c1_p1 := (Tst.cell_at HX_p1.out 1).trans rfl
    have c2_p1 := (Tst.cell_at HX_p1.out 2).trans rfl
    have c3_p1 := (Tst.cell_at HX_p1.out 3).trans rfl
    go_wp2_with fail
    clear hbx0
    simp only [← hbox0, ← hbox1]
    clear hbox1 hbox0
    refine (Scn.sz_scene A0 n0 c0 y0 ((1048576 : Int)) _ hx0 (by omega) (by omega)).mono ?_
    rintro e w3 ⟨rfl, hb⟩
    rw [if_pos (show (n0 : Int) ≤ (1048576 : Int) by omega)]
    have hz_0 : decide ((1048576 : Int) - (n0 : Int) < 0) = false := decide_eq_false (by omega)
    have s3 : wp1.heap.size ≤ w3.heap.size := hb.size
    replace T := T.trans (hb.mono (by omega))
    replace f0 := Ins.at_below f0 hb (by omega)
    clear c0_p0 c1_p0 c0_p1 c1_p1 c2_p1 c3_p1
    replace HX_p0 := Lib.hid ((hb.block (w.heap.size) (by omega)).trans HX_p0.out)
    have c0_p0 := (Tst.cell_at HX_p0.out 0).trans rfl
    have c1_p0 := (Tst.cell_at HX_p0.out 1).trans rfl
    replace HX_p1 := Lib.hid ((hb.block (w.heap.size + 1) (by omega)).trans HX_p1.out)
    have c0_p1 := (Tst.cell_at HX_p1.out 0).trans rfl
    have c1_p1 := (Tst.cell_at HX_p1.out 1).trans rfl
    have c2_p1 := (Tst.cell_at HX_p1.out 2).trans rfl
    have c3_p1 := (Tst.cell_at HX_p1.out 3).trans rfl
    clear hb
    have hb := (Below.refl w3.heap.size w3).drew
    have s4 : w3.heap.size ≤ w3.drew.heap.size := hb.size
    replace T := T.trans (hb.mono (by omega))
    replace f0 := Ins.at_below f0 hb (by omega)
    clear c0_p0 c1_p0 c0_p1 c1_p1 c2_p1 c3_p1
    replace HX_p0 := Lib.hid ((hb.block (w.heap.size) (by omega)).trans HX_p0.out)
    have c0_p0 := (Tst.cell_at HX_p0.out 0).trans rfl
    have c1_p0 := (Tst.cell_at HX_p0.out 1).trans rfl
    replace HX_p1 := Lib.hid ((hb.block (w.heap.size + 1) (by omega)).trans HX_p1.out)
    have c0_p1 := (Tst.cell_at HX_p1.out 0).trans rfl
    have c1_p1 := (Tst.cell_at HX_p1.out 1).trans rfl
    have c2_p1 := (Tst.cell_at HX_p1.out 2).trans rfl
    have c3_p1 := (Tst.cell_at HX_p1.out 3).trans rfl
    clear hb
    go_wp2_with fail
    go_region_held3 (fun w' => w'.cell? ⟨w.heap.size, 0, none⟩ = some (.slice A0 n0 c0) ∧ w'.cell? ⟨w.heap.size, 1, none⟩ = some (.int .i64 y0) ∧ w'.cell? ⟨w.heap.size + 1, 0, none⟩ = some (.int .i64 k1) ∧ w'.cell? ⟨w.heap.size + 1, 1, none⟩ = some (.int .i64 d1) ∧ w'.cell? ⟨w.heap.size + 1, 2, none⟩ = some (.int .i64 q1) ∧ w'.cell? ⟨w.heap.size + 1, 3, none⟩ = some (.int .i64 a1)) ((first | exact ⟨c0_p0, c1_p0, c0_p1, c1_p1, c2_p1, c3_p1⟩)) ((first | (go_at_call 7; refine (Scn.to_scene A0 n0 c0 l0 y0 _ HN0.out hL0 (f0.more T.size)).mono ?_; rintro e w6 ⟨g_t_1, rfl, hown, hb⟩; rw [HN0.out] at hown; rw [HN0.out]; have s6 : w3.drew.heap.size ≤ w6.heap.size := hb.size; replace T := T.trans (hb.mono (by omega)); replace f0 := Ins.at_below f0 hb (by omega); clear c0_p0 c1_p0 c0_p1 c1_p1 c2_p1 c3_p1; replace HX_p0 := Lib.hid ((hb.block (w.heap.size) (by omega)).trans HX_p0.out); have c0_p0 := (Tst.cell_at HX_p0.out 0).trans rfl; have c1_p0 := (Tst.cell_at HX_p0.out 1).trans rfl; replace HX_p1 := Lib.hid ((hb.block (w.heap.size + 1) (by omega)).trans HX_p1.out); have c0_p1 := (Tst.cell_at HX_p1.out 0).trans rfl; have c1_p1 := (Tst.cell_at HX_p1.out 1).trans rfl; have c2_p1 := (Tst.cell_at HX_p1.out 2).trans rfl; have c3_p1 := (Tst.cell_at HX_p1.out 3).trans rfl; clear hb; have r_t_1 := Ins.Row.mk hown; clear hown) | (go_at_call 8; refine (Tst.to_step ⟨k1, d1, q1, a1⟩ _).mono ?_; rintro e w8 ⟨rfl, hb⟩; have s8 : w6.heap.size ≤ w8.heap.size := hb.size; replace T := T.trans (hb.mono (by omega)); replace f0 := Ins.at_below f0 hb (by omega); replace r_t_1 := r_t_1.below hb; clear c0_p0 c1_p0 c0_p1 c1_p1 c2_p1 c3_p1; replace HX_p0 := Lib.hid ((hb.block (w.heap.size) (by omega)).trans HX_p0.out); have c0_p0 := (Tst.cell_at HX_p0.out 0).trans rfl; have c1_p0 := (Tst.cell_at HX_p0.out 1).trans rfl; replace HX_p1 := Lib.hid ((hb.block (w.heap.size + 1) (by omega)).trans HX_p1.out); have c0_p1 := (Tst.cell_at HX_p1.out 0).trans rfl; have c1_p1 := (Tst.cell_at HX_p1.out 1).trans rfl; have c2_p1 := (Tst.cell_at HX_p1.out 2).trans rfl; have c3_p1 := (Tst.cell_at HX_p1.out 3).trans rfl; clear hb) | (go_at_call 6; refine ((Tnx.spec_nx (some ⟨g_t_1, 0, none⟩) n0 n0 l0 y0 ⟨k1, d1, q1, a1⟩ _ HN0.out (Nat.le_refl _) (by omega) hz0 r_t_1.at_).mono (fun _ _ h => Scs.cast HR.out h)).mono ?_; rintro e w10 ⟨A_w0, c_w0, ds_w0, rfl, hd_w0, hrow, hb⟩; have s10 : w8.heap.size ≤ w10.heap.size := hb.size; replace T := T.trans (hb.mono (by omega)); replace f0 := Ins.at_below f0 hb (by omega); replace r_t_1 := r_t_1.below hb; clear c0_p0 c1_p0 c0_p1 c1_p1 c2_p1 c3_p1; replace HX_p0 := Lib.hid ((hb.block (w.heap.size) (by omega)).trans HX_p0.out); have c0_p0 := (Tst.cell_at HX_p0.out 0).trans rfl; have c1_p0 := (Tst.cell_at HX_p0.out 1).trans rfl; replace HX_p1 := Lib.hid ((hb.block (w.heap.size + 1) (by omega)).trans HX_p1.out); have c0_p1 := (Tst.cell_at HX_p1.out 0).trans rfl; have c1_p1 := (Tst.cell_at HX_p1.out 1).trans rfl; have c2_p1 := (Tst.cell_at HX_p1.out 2).trans rfl; have c3_p1 := (Tst.cell_at HX_p1.out 3).trans rfl; clear hb; have r_w0 := hrow; clear hrow)))
    go_wp2_with fail
    refine (Scn.to_scene A0 n0 c0 l0 y0 _ HN0.out hL0 (f0.more T.size)).mono ?_
    rintro e w12 ⟨g_x0, rfl, hown, hb⟩
    rw [HN0.out] at hown
    rw [HN0.out]
    have s12 : w10.heap.size ≤ w12.heap.size := hb.size
    replace T := T.trans (hb.mono (by omega))
    replace f0 := Ins.at_below f0 hb (by omega)
    replace r_t_1 := r_t_1.below hb
    replace r_w0 := r_w0.below hb
    clear c0_p0 c1_p0 c0_p1 c1_p1 c2_p1 c3_p1
    replace HX_p0 := Lib.hid ((hb.block (w.heap.size) (by omega)).trans HX_p0.out)
    have c0_p0 := (Tst.cell_at HX_p0.out 0).trans rfl
    have c1_p0 := (Tst.cell_at HX_p0.out 1).trans rfl
    replace HX_p1 := Lib.hid ((hb.block (w.heap.size + 1) (by omega)).trans HX_p1.out)
    have c0_p1 := (Tst.cell_at HX_p1.out 0).trans rfl
    have c1_p1 := (Tst.cell_at HX_p1.out 1).trans rfl
    have c2_p1 := (Tst.cell_at HX_p1.out 2).trans rfl
    have c3_p1 := (Tst.cell_at HX_p1.out 3).trans rfl
    clear hb
    have r_x0 := Ins.Row.mk hown
    clear hown
    have p0_p0 := (Tst.cell_at (((Tst.box_below w12 (.cells #[.slice (some ⟨g_x0, 0, none⟩) n0 n0, .int .i64 y0] 32)).block (w.heap.size) (by omega)).trans HX_p0.out) 0).trans rfl
    have p1_p0 := (Tst.cell_at (((Tst.box_below w12 (.cells #[.slice (some ⟨g_x0, 0, none⟩) n0 n0, .int .i64 y0] 32)).block (w.heap.size) (by omega)).trans HX_p0.out) 1).trans rfl
    have p0_p1 := (Tst.cell_at (((Tst.box_below w12 (.cells #[.slice (some ⟨g_x0, 0, none⟩) n0 n0, .int .i64 y0] 32)).block (w.heap.size + 1) (by omega)).trans HX_p1.out) 0).trans rfl
    have p1_p1 := (Tst.cell_at (((Tst.box_below w12 (.cells #[.slice (some ⟨g_x0, 0, none⟩) n0 n0, .int .i64 y0] 32)).block (w.heap.size + 1) (by omega)).trans HX_p1.out) 1).trans rfl
    have p2_p1 := (Tst.cell_at (((Tst.box_below w12 (.cells #[.slice (some ⟨g_x0, 0, none⟩) n0 n0, .int .i64 y0] 32)).block (w.heap.size + 1) (by omega)).trans HX_p1.out) 2).trans rfl
    have p3_p1 := (Tst.cell_at (((Tst.box_below w12 (.cells #[.slice (some ⟨g_x0, 0, none⟩) n0 n0, .int .i64 y0] 32)).block (w.heap.size + 1) (by omega)).trans HX_p1.out) 3).trans rfl
    go_wp2_with fail
    clear p0_p0 p1_p0 p0_p1 p1_p1 p2_p1 p3_p1
    generalize hbox : World.alloc w12 _ = wb_x0
    have hb : Below w12.heap.size w12 wb_x0 := by rw [← hbox]; exact Tst.box_below _ _
    have sz_x0 : w12.heap.size + 1 ≤ wb_x0.heap.size := by rw [← hbox]; simp
    have HX_x0 : Hid (wb_x0.heap[w12.heap.size]? = some (.cells #[.slice (some ⟨g_x0, 0, none⟩) n0 n0, .int .i64 y0] 32 (0, 0))) := Lib.hid (by rw [← hbox]; exact heap_alloc_new _ _)
    clear hbox
    have s13 : w12.heap.size ≤ wb_x0.heap.size := hb.size
    replace T := T.trans (hb.mono (by omega))
    replace f0 := Ins.at_below f0 hb (by omega)
    replace r_t_1 := r_t_1.below hb
    replace r_w0 := r_w0.below hb
    replace r_x0 := r_x0.below hb
    clear c0_p0 c1_p0 c0_p1 c1_p1 c2_p1 c3_p1
    replace HX_p0 := Lib.hid ((hb.block (w.heap.size) (by omega)).trans HX_p0.out)
    have c0_p0 := (Tst.cell_at HX_p0.out 0).trans rfl
    have c1_p0 := (Tst.cell_at HX_p0.out 1).trans rfl
    replace HX_p1 := Lib.hid ((hb.block (w.heap.size + 1) (by omega)).trans HX_p1.out)
    have c0_p1 := (Tst.cell_at HX_p1.out 0).trans rfl
    have c1_p1 := (Tst.cell_at HX_p1.out 1).trans rfl
    have c2_p1 := (Tst.cell_at HX_p1.out 2).trans rfl
    have c3_p1 := (Tst.cell_at HX_p1.out 3).trans rfl
    clear hb
    have c0_x0 := (Tst.cell_at HX_x0.out 0).trans rfl
    have c1_x0 := (Tst.cell_at HX_x0.out 1).trans rfl
    have hb := (Below.refl wb_x0.heap.size wb_x0).drew
    have s14 : wb_x0.heap.size ≤ wb_x0.drew.heap.size := hb.size
    replace T := T.trans (hb.mono (by omega))
    replace f0 := Ins.at_below f0 hb (by omega)
    replace r_t_1 := r_t_1.below hb
    replace r_w0 := r_w0.below hb
    replace r_x0 := r_x0.below hb
    clear c0_p0 c1_p0 c0_p1 c1_p1 c2_p1 c3_p1 c0_x0 c1_x0
    replace HX_p0 := Lib.hid ((hb.block (w.heap.size) (by omega)).trans HX_p0.out)
    have c0_p0 := (Tst.cell_at HX_p0.out 0).trans rfl
    have c1_p0 := (Tst.cell_at HX_p0.out 1).trans rfl
    replace HX_p1 := Lib.hid ((hb.block (w.heap.size + 1) (by omega)).trans HX_p1.out)
    have c0_p1 := (Tst.cell_at HX_p1.out 0).trans rfl
    have c1_p1 := (Tst.cell_at HX_p1.out 1).trans rfl
    have c2_p1 := (Tst.cell_at HX_p1.out 2).trans rfl
    have c3_p1 := (Tst.cell_at HX_p1.out 3).trans rfl
    replace HX_x0 := Lib.hid ((hb.block (w12.heap.size) (by omega)).trans HX_x0.out)
    have c0_x0 := (Tst.cell_at HX_x0.out 0).trans rfl
    have c1_x0 := (Tst.cell_at HX_x0.out 1).trans rfl
    clear hb
    go_region_held3 (fun w' => w'.cell? ⟨w.heap.size, 0, none⟩ = some (.slice A0 n0 c0) ∧ w'.cell? ⟨w.heap.size, 1, none⟩ = some (.int .i64 y0) ∧ w'.cell? ⟨w.heap.size + 1, 0, none⟩ = some (.int .i64 k1) ∧ w'.cell? ⟨w.heap.size + 1, 1, none⟩ = some (.int .i64 d1) ∧ w'.cell? ⟨w.heap.size + 1, 2, none⟩ = some (.int .i64 q1) ∧ w'.cell? ⟨w.heap.size + 1, 3, none⟩ = some (.int .i64 a1) ∧ w'.cell? ⟨w12.heap.size, 0, none⟩ = some (.slice (some ⟨g_x0, 0, none⟩) n0 n0) ∧ w'.cell? ⟨w12.heap.size, 1, none⟩ = some (.int .i64 y0)) ((first | exact ⟨c0_p0, c1_p0, c0_p1, c1_p1, c2_p1, c3_p1, c0_x0, c1_x0⟩)) ((first | (go_at_call 8; refine (Tst.to_step ⟨k1, d1, q1, a1⟩ _).mono ?_; rintro e w16 ⟨rfl, hb⟩; have s16 : wb_x0.drew.heap.size ≤ w16.heap.size := hb.size; replace T := T.trans (hb.mono (by omega)); replace f0 := Ins.at_below f0 hb (by omega); replace r_t_1 := r_t_1.below hb; replace r_w0 := r_w0.below hb; replace r_x0 := r_x0.below hb; clear c0_p0 c1_p0 c0_p1 c1_p1 c2_p1 c3_p1 c0_x0 c1_x0; replace HX_p0 := Lib.hid ((hb.block (w.heap.size) (by omega)).trans HX_p0.out); have c0_p0 := (Tst.cell_at HX_p0.out 0).trans rfl; have c1_p0 := (Tst.cell_at HX_p0.out 1).trans rfl; replace HX_p1 := Lib.hid ((hb.block (w.heap.size + 1) (by omega)).trans HX_p1.out); have c0_p1 := (Tst.cell_at HX_p1.out 0).trans rfl; have c1_p1 := (Tst.cell_at HX_p1.out 1).trans rfl; have c2_p1 := (Tst.cell_at HX_p1.out 2).trans rfl; have c3_p1 := (Tst.cell_at HX_p1.out 3).trans rfl; replace HX_x0 := Lib.hid ((hb.block (w12.heap.size) (by omega)).trans HX_x0.out); have c0_x0 := (Tst.cell_at HX_x0.out 0).trans rfl; have c1_x0 := (Tst.cell_at HX_x0.out 1).trans rfl; clear hb) | (go_at_call 9; refine ((Tnp.impl_nx (some ⟨g_x0, 0, none⟩) n0 n0 l0 y0 ⟨k1, d1, q1, a1⟩ _ HN0.out (Nat.le_refl _) (by omega) hz0 r_x0.at_).mono (fun _ _ h => Scs.cast HR.out h)).mono ?_; rintro e w18 ⟨A_g0, c_g0, ds_g0, rfl, hd_g0, hrow, hb⟩; have s18 : w16.heap.size ≤ w18.heap.size := hb.size; replace T := T.trans (hb.mono (by omega)); replace f0 := Ins.at_below f0 hb (by omega); replace r_t_1 := r_t_1.below hb; replace r_w0 := r_w0.below hb; replace r_x0 := r_x0.below hb; clear c0_p0 c1_p0 c0_p1 c1_p1 c2_p1 c3_p1 c0_x0 c1_x0; replace HX_p0 := Lib.hid ((hb.block (w.heap.size) (by omega)).trans HX_p0.out); have c0_p0 := (Tst.cell_at HX_p0.out 0).trans rfl; have c1_p0 := (Tst.cell_at HX_p0.out 1).trans rfl; replace HX_p1 := Lib.hid ((hb.block (w.heap.size + 1) (by omega)).trans HX_p1.out); have c0_p1 := (Tst.cell_at HX_p1.out 0).trans rfl; have c1_p1 := (Tst.cell_at HX_p1.out 1).trans rfl; have c2_p1 := (Tst.cell_at HX_p1.out 2).trans rfl; have c3_p1 := (Tst.cell_at HX_p1.out 3).trans rfl; replace HX_x0 := Lib.hid ((hb.block (w12.heap.size) (by omega)).trans HX_x0.out); have c0_x0 := (Tst.cell_at HX_x0.out 0).trans rfl; have c1_x0 := (Tst.cell_at HX_x0.out 1).trans rfl; clear hb; have r_g0 := hrow; clear hrow)))
    go_wp2_with fail
    refine (Scs.eq_scenes _ _ _ _ A_g0 A_w0 res.length c_g0 c_w0 ds_g0 ds_w0 _ r_g0 r_w0 (hd_g0.trans hd_w0.symm) (by omega) (fun i _ => Nat.le_trans (Scs.sc_len hd_g0 HSH.out i) (by omega))).mono ?_
    rintro e w20 ⟨rfl, hb⟩
    have s20 : w18.heap.size ≤ w20.heap.size := hb.size
    replace T := T.trans (hb.mono (by omega))
    replace f0 := Ins.at_below f0 hb (by omega)
    replace r_t_1 := r_t_1.below hb
    replace r_w0 := r_w0.below hb
    replace r_x0 := r_x0.below hb
    replace r_g0 := r_g0.below hb
    clear c0_p0 c1_p0 c0_p1 c1_p1 c2_p1 c3_p1 c0_x0 c1_x0
    replace HX_p0 := Lib.hid ((hb.block (w.heap.size) (by omega)).trans HX_p0.out)
    have c0_p0 := (Tst.cell_at HX_p0.out 0).trans rfl
    have c1_p0 := (Tst.cell_at HX_p0.out 1).trans rfl
    replace HX_p1 := Lib.hid ((hb.block (w.heap.size + 1) (by omega)).trans HX_p1.out)
    have c0_p1 := (Tst.cell_at HX_p1.out 0).trans rfl
    have c1_p1 := (Tst.cell_at HX_p1.out 1).trans rfl
    have c2_p1 := (Tst.cell_at HX_p1.out 2).trans rfl
    have c3_p1 := (Tst.cell_at HX_p1.out 3).trans rfl
    replace HX_x0 := Lib.hid ((hb.block (w12.heap.size) (by omega)).trans HX_x0.out)
    have c0_x0 := (Tst.cell_at HX_x0.out 0).trans rfl
    have c1_x0 := (Tst.cell_at HX_x0.out 1).trans rfl
    clear hb
    have hb := (Below.refl w20.heap.size w20).drew
    have s21 : w20.heap.size ≤ w20.drew.heap.size := hb.size
    replace T := T.trans (hb.mono (by omega))
    replace f0 := Ins.at_below f0 hb (by omega)
    replace r_t_1 := r_t_1.below hb
    replace r_w0 := r_w0.below hb
    replace r_x0 := r_x0.below hb
    replace r_g0 := r_g0.below hb
    clear c0_p0 c1_p0 c0_p1 c1_p1 c2_p1 c3_p1 c0_x0 c1_x0
    replace HX_p0 := Lib.hid ((hb.block (w.heap.size) (by omega)).trans HX_p0.out)
    have c0_p0 := (Tst.cell_at HX_p0.out 0).trans rfl
    have c1_p0 := (Tst.cell_at HX_p0.out 1).trans rfl
    replace HX_p1 := Lib.hid ((hb.block (w.heap.size + 1) (by omega)).trans HX_p1.out)
    have c0_p1 := (Tst.cell_at HX_p1.out 0).trans rfl
    have c1_p1 := (Tst.cell_at HX_p1.out 1).trans rfl
    have c2_p1 := (Tst.cell_at HX_p1.out 2).trans rfl
    have c3_p1 := (Tst.cell_at HX_p1.out 3).trans rfl
    replace HX_x0 := Lib.hid ((hb.block (w12.heap.size) (by omega)).trans HX_x0.out)
    have c0_x0 := (Tst.cell_at HX_x0.out 0).trans rfl
    have c1_x0 := (Tst.cell_at HX_x0.out 1).trans rfl
    clear hb
    go_wp2_with fail
    go_region_held3 (fun w' => w'.cell? ⟨w.heap.size, 0, none⟩ = some (.slice A0 n0 c0) ∧ w'.cell? ⟨w.heap.size, 1, none⟩ = some (.int .i64 y0) ∧ w'.cell? ⟨w.heap.size + 1, 0, none⟩ = some (.int .i64 k1) ∧ w'.cell? ⟨w.heap.size + 1, 1, none⟩ = some (.int .i64 d1) ∧ w'.cell? ⟨w.heap.size + 1, 2, none⟩ = some (.int .i64 q1) ∧ w'.cell? ⟨w.heap.size + 1, 3, none⟩ = some (.int .i64 a1) ∧ w'.cell? ⟨w12.heap.size, 0, none⟩ = some (.slice (some ⟨g_x0, 0, none⟩) n0 n0) ∧ w'.cell? ⟨w12.heap.size, 1, none⟩ = some (.int .i64 y0)) ((first | exact ⟨c0_p0, c1_p0, c0_p1, c1_p1, c2_p1, c3_p1, c0_x0, c1_x0⟩)) ((first | (go_at_call 7; refine (Scn.to_scene A0 n0 c0 l0 y0 _ HN0.out hL0 (f0.more T.size)).mono ?_; rintro e w23 ⟨g_t_4, rfl, hown, hb⟩; rw [HN0.out] at hown; rw [HN0.out]; have s23 : w20.drew.heap.size ≤ w23.heap.size := hb.size; replace T := T.trans (hb.mono (by omega)); replace f0 := Ins.at_below f0 hb (by omega); replace r_t_1 := r_t_1.below hb; replace r_w0 := r_w0.below hb; replace r_x0 := r_x0.below hb; replace r_g0 := r_g0.below hb; clear c0_p0 c1_p0 c0_p1 c1_p1 c2_p1 c3_p1 c0_x0 c1_x0; replace HX_p0 := Lib.hid ((hb.block (w.heap.size) (by omega)).trans HX_p0.out); have c0_p0 := (Tst.cell_at HX_p0.out 0).trans rfl; have c1_p0 := (Tst.cell_at HX_p0.out 1).trans rfl; replace HX_p1 := Lib.hid ((hb.block (w.heap.size + 1) (by omega)).trans HX_p1.out); have c0_p1 := (Tst.cell_at HX_p1.out 0).trans rfl; have c1_p1 := (Tst.cell_at HX_p1.out 1).trans rfl; have c2_p1 := (Tst.cell_at HX_p1.out 2).trans rfl; have c3_p1 := (Tst.cell_at HX_p1.out 3).trans rfl; replace HX_x0 := Lib.hid ((hb.block (w12.heap.size) (by omega)).trans HX_x0.out); have c0_x0 := (Tst.cell_at HX_x0.out 0).trans rfl; have c1_x0 := (Tst.cell_at HX_x0.out 1).trans rfl; clear hb; have r_t_4 := Ins.Row.mk hown; clear hown) | (go_at_call 11; refine (Scn.eq_scene (some ⟨g_x0, 0, none⟩) (some ⟨g_t_4, 0, none⟩) n0 n0 n0 l0 y0 _ HN0.out (by omega) r_x0.at_ r_t_4.at_).mono ?_; rintro e w25 ⟨rfl, hb⟩; have s25 : w23.heap.size ≤ w25.heap.size := hb.size; replace T := T.trans (hb.mono (by omega)); replace f0 := Ins.at_below f0 hb (by omega); replace r_t_1 := r_t_1.below hb; replace r_w0 := r_w0.below hb; replace r_x0 := r_x0.below hb; replace r_g0 := r_g0.below hb; replace r_t_4 := r_t_4.below hb; clear c0_p0 c1_p0 c0_p1 c1_p1 c2_p1 c3_p1 c0_x0 c1_x0; replace HX_p0 := Lib.hid ((hb.block (w.heap.size) (by omega)).trans HX_p0.out); have c0_p0 := (Tst.cell_at HX_p0.out 0).trans rfl; have c1_p0 := (Tst.cell_at HX_p0.out 1).trans rfl; replace HX_p1 := Lib.hid ((hb.block (w.heap.size + 1) (by omega)).trans HX_p1.out); have c0_p1 := (Tst.cell_at HX_p1.out 0).trans rfl; have c1_p1 := (Tst.cell_at HX_p1.out 1).trans rfl; have c2_p1 := (Tst.cell_at HX_p1.out 2).trans rfl; have c3_p1 := (Tst.cell_at HX_p1.out 3).trans rfl; replace HX_x0 := Lib.hid ((hb.block (w12.heap.size) (by omega)).trans HX_x0.out); have c0_x0 := (Tst.cell_at HX_x0.out 0).trans rfl; have c1_x0 := (Tst.cell_at HX_x0.out 1).trans rfl; clear hb)))
    go_wp2_with fail
    refine (Scn.mark_scene _ _ n0 (some ⟨g_x0, 0, none⟩) n0 y0 _ _ (by omega) (by omega) r_x0.own).mono ?_
    rintro e w27 ⟨rfl, ho, hgr⟩
    have s27 : w25.heap.size ≤ w27.heap.size := hgr.size
    replace T := T.grown hgr (by omega) (fun k hk => by have h1 := r_x0.lo k hk; omega)
    replace f0 := Ins.at_grown f0 hgr (by omega) (fun k hk => by have h1 := r_x0.lo k hk; omega)
    replace r_t_1 := r_t_1.grown hgr (fun k hk => by have h1 := r_x0.lo k hk; have h2 := r_x0.hi k hk; omega)
    replace r_w0 := r_w0.grown hgr (fun k hk => by have h1 := r_x0.lo k hk; have h2 := r_x0.hi k hk; omega)
    replace r_g0 := r_g0.grown hgr (fun k hk => by have h1 := r_x0.lo k hk; have h2 := r_x0.hi k hk; omega)
    replace r_t_4 := r_t_4.grown hgr (fun k hk => by have h1 := r_x0.lo k hk; have h2 := r_x0.hi k hk; omega)
    clear c0_p0 c1_p0 c0_p1 c1_p1 c2_p1 c3_p1 c0_x0 c1_x0
    replace HX_p0 := Lib.hid ((hgr.block (w.heap.size) (by omega) (fun e => by have h1 := r_x0.lo _ e.symm; have h2 := r_x0.hi _ e.symm; omega)).trans HX_p0.out)
    have c0_p0 := (Tst.cell_at HX_p0.out 0).trans rfl
    have c1_p0 := (Tst.cell_at HX_p0.out 1).trans rfl
    replace HX_p1 := Lib.hid ((hgr.block (w.heap.size + 1) (by omega) (fun e => by have h1 := r_x0.lo _ e.symm; have h2 := r_x0.hi _ e.symm; omega)).trans HX_p1.out)
    have c0_p1 := (Tst.cell_at HX_p1.out 0).trans rfl
    have c1_p1 := (Tst.cell_at HX_p1.out 1).trans rfl
    have c2_p1 := (Tst.cell_at HX_p1.out 2).trans rfl
    have c3_p1 := (Tst.cell_at HX_p1.out 3).trans rfl
    replace HX_x0 := Lib.hid ((hgr.block (w12.heap.size) (by omega) (fun e => by have h1 := r_x0.lo _ e.symm; have h2 := r_x0.hi _ e.symm; omega)).trans HX_x0.out)
    have c0_x0 := (Tst.cell_at HX_x0.out 0).trans rfl
    have c1_x0 := (Tst.cell_at HX_x0.out 1).trans rfl
    replace r_x0 := r_x0.marked ho hgr
    clear ho hgr
    go_wp2_with fail
    refine (Scs.eq_scenes _ _ _ _ A_g0 A_w0 res.length c_g0 c_w0 ds_g0 ds_w0 _ r_g0 r_w0 (hd_g0.trans hd_w0.symm) (by omega) (fun i _ => Nat.le_trans (Scs.sc_len hd_g0 HSH.out i) (by omega))).mono ?_
    rintro e w29 ⟨rfl, hb⟩
    have s29 : w27.heap.size ≤ w29.heap.size := hb.size
    replace T := T.trans (hb.mono (by omega))
    replace f0 := Ins.at_below f0 hb (by omega)
    replace r_t_1 := r_t_1.below hb
    replace r_w0 := r_w0.below hb
    replace r_x0 := r_x0.below hb
    replace r_g0 := r_g0.below hb
    replace r_t_4 := r_t_4.below hb
    clear c0_p0 c1_p0 c0_p1 c1_p1 c2_p1 c3_p1 c0_x0 c1_x0
    replace HX_p0 := Lib.hid ((hb.block (w.heap.size) (by omega)).trans HX_p0.out)
    have c0_p0 := (Tst.cell_at HX_p0.out 0).trans rfl
    have c1_p0 := (Tst.cell_at HX_p0.out 1).trans rfl
    replace HX_p1 := Lib.hid ((hb.block (w.heap.size + 1) (by omega)).trans HX_p1.out)
    have c0_p1 := (Tst.cell_at HX_p1.out 0).trans rfl
    have c1_p1 := (Tst.cell_at HX_p1.out 1).trans rfl
    have c2_p1 := (Tst.cell_at HX_p1.out 2).trans rfl
    have c3_p1 := (Tst.cell_at HX_p1.out 3).trans rfl
    replace HX_x0 := Lib.hid ((hb.block (w12.heap.size) (by omega)).trans HX_x0.out)
    have c0_x0 := (Tst.cell_at HX_x0.out 0).trans rfl
    have c1_x0 := (Tst.cell_at HX_x0.out 1).trans rfl
    clear hb
    have ht_g0 := Scs.stot_le (Scs.sc_len hd_g0 HSH.out) res.length
    go_wp2_with fail
    refine (Scs.mark_scenes _ _ A_g0 res.length c_g0 ds_g0 _ _ (by omega) (by omega) (by omega) r_g0).mono ?_
    rintro e w31 ⟨rfl, hrow, hwi⟩
    clear r_g0
    have r_g0 := hrow
    clear hrow
    have s31 : w29.heap.size ≤ w31.heap.size := hwi.size
    replace T := Rws.below_wi T hwi (by omega) (by omega)
    replace f0 := Rws.at_wi f0 hwi (by omega) (by omega)
    replace r_t_1 := Rws.row_wi r_t_1 hwi (by omega)
    replace r_w0 := r_w0.wi hwi (by omega)
    replace r_x0 := Rws.row_wi r_x0 hwi (by omega)
    replace r_t_4 := Rws.row_wi r_t_4 hwi (by omega)
    clear c0_p0 c1_p0 c0_p1 c1_p1 c2_p1 c3_p1 c0_x0 c1_x0
    replace HX_p0 := Lib.hid ((hwi.block (w.heap.size) (by omega) (by omega)).trans HX_p0.out)
    have c0_p0 := (Tst.cell_at HX_p0.out 0).trans rfl
    have c1_p0 := (Tst.cell_at HX_p0.out 1).trans rfl
    replace HX_p1 := Lib.hid ((hwi.block (w.heap.size + 1) (by omega) (by omega)).trans HX_p1.out)
    have c0_p1 := (Tst.cell_at HX_p1.out 0).trans rfl
    have c1_p1 := (Tst.cell_at HX_p1.out 1).trans rfl
    have c2_p1 := (Tst.cell_at HX_p1.out 2).trans rfl
    have c3_p1 := (Tst.cell_at HX_p1.out 3).trans rfl
    replace HX_x0 := Lib.hid ((hwi.block (w12.heap.size) (by omega) (by omega)).trans HX_x0.out)
    have c0_x0 := (Tst.cell_at HX_x0.out 0).trans rfl
    have c1_x0 := (Tst.cell_at HX_x0.out 1).trans rfl
    clear hwi
    go_wp2_with fail
    refine (Scs.held_scenes _ _ A_g0 res.length c_g0 ds_g0 _ _ (by omega) (by omega) (by omega) r_g0).mono ?_
    rintro e w' ⟨rfl, rfl⟩
    have hb := (Below.refl w31.heap.size w31).drew
    have s32 : w31.heap.size ≤ w31.drew.heap.size := hb.size
    replace T := T.trans (hb.mono (by omega))
    replace f0 := Ins.at_below f0 hb (by omega)
    replace r_t_1 := r_t_1.below hb
    replace r_w0 := r_w0.below hb
    replace r_x0 := r_x0.below hb
    replace r_g0 := r_g0.below hb
    replace r_t_4 := r_t_4.below hb
    clear c0_p0 c1_p0 c0_p1 c1_p1 c2_p1 c3_p1 c0_x0 c1_x0
    replace HX_p0 := Lib.hid ((hb.block (w.heap.size) (by omega)).trans HX_p0.out)
    have c0_p0 := (Tst.cell_at HX_p0.out 0).trans rfl
    have c1_p0 := (Tst.cell_at HX_p0.out 1).trans rfl
    replace HX_p1 := Lib.hid ((hb.block (w.heap.size + 1) (by omega)).trans HX_p1.out)
    have c0_p1 := (Tst.cell_at HX_p1.out 0).trans rfl
    have c1_p1 := (Tst.cell_at HX_p1.out 1).trans rfl
    have c2_p1 := (Tst.cell_at HX_p1.out 2).trans rfl
    have c3_p1 := (Tst.cell_at HX_p1.out 3).trans rfl
    replace HX_x0 := Lib.hid ((hb.block (w12.heap.size) (by omega)).trans HX_x0.out)
    have c0_x0 := (Tst.cell_at HX_x0.out 0).trans rfl
    have c1_x0 := (Tst.cell_at HX_x0.out 1).trans rfl
    clear hb
    go_wp2_with fail
    go_region_held3 (fun w' => w'.cell? ⟨w.heap.size, 0, none⟩ = some (.slice A0 n0 c0) ∧ w'.cell? ⟨w.heap.size, 1, none⟩ = some (.int .i64 y0) ∧ w'.cell? ⟨w.heap.size + 1, 0, none⟩ = some (.int .i64 k1) ∧ w'.cell? ⟨w.heap.size + 1, 1, none⟩ = some (.int .i64 d1) ∧ w'.cell? ⟨w.heap.size + 1, 2, none⟩ = some (.int .i64 q1) ∧ w'.cell? ⟨w.heap.size + 1, 3, none⟩ = some (.int .i64 a1) ∧ w'.cell? ⟨w12.heap.size, 0, none⟩ = some (.slice (some ⟨g_x0, 0, none⟩) n0 n0) ∧ w'.cell? ⟨w12.heap.size, 1, none⟩ = some (.int .i64 y0)) ((first | exact ⟨c0_p0, c1_p0, c0_p1, c1_p1, c2_p1, c3_p1, c0_x0, c1_x0⟩)) ((first | (go_at_call 7; refine (Scn.to_scene A0 n0 c0 l0 y0 _ HN0.out hL0 (f0.more T.size)).mono ?_; rintro e w34 ⟨g_t_5, rfl, hown, hb⟩; rw [HN0.out] at hown; rw [HN0.out]; have s34 : w31.drew.heap.size ≤ w34.heap.size := hb.size; replace T := T.trans (hb.mono (by omega)); replace f0 := Ins.at_below f0 hb (by omega); replace r_t_1 := r_t_1.below hb; replace r_w0 := r_w0.below hb; replace r_x0 := r_x0.below hb; replace r_g0 := r_g0.below hb; replace r_t_4 := r_t_4.below hb; clear c0_p0 c1_p0 c0_p1 c1_p1 c2_p1 c3_p1 c0_x0 c1_x0; replace HX_p0 := Lib.hid ((hb.block (w.heap.size) (by omega)).trans HX_p0.out); have c0_p0 := (Tst.cell_at HX_p0.out 0).trans rfl; have c1_p0 := (Tst.cell_at HX_p0.out 1).trans rfl; replace HX_p1 := Lib.hid ((hb.block (w.heap.size + 1) (by omega)).trans HX_p1.out); have c0_p1 := (Tst.cell_at HX_p1.out 0).trans rfl; have c1_p1 := (Tst.cell_at HX_p1.out 1).trans rfl; have c2_p1 := (Tst.cell_at HX_p1.out 2).trans rfl; have c3_p1 := (Tst.cell_at HX_p1.out 3).trans rfl; replace HX_x0 := Lib.hid ((hb.block (w12.heap.size) (by omega)).trans HX_x0.out); have c0_x0 := (Tst.cell_at HX_x0.out 0).trans rfl; have c1_x0 := (Tst.cell_at HX_x0.out 1).trans rfl; clear hb; have r_t_5 := Ins.Row.mk hown; clear hown) | (go_at_call 8; refine (Tst.to_step ⟨k1, d1, q1, a1⟩ _).mono ?_; rintro e w36 ⟨rfl, hb⟩; have s36 : w34.heap.size ≤ w36.heap.size := hb.size; replace T := T.trans (hb.mono (by omega)); replace f0 := Ins.at_below f0 hb (by omega); replace r_t_1 := r_t_1.below hb; replace r_w0 := r_w0.below hb; replace r_x0 := r_x0.below hb; replace r_g0 := r_g0.below hb; replace r_t_4 := r_t_4.below hb; replace r_t_5 := r_t_5.below hb; clear c0_p0 c1_p0 c0_p1 c1_p1 c2_p1 c3_p1 c0_x0 c1_x0; replace HX_p0 := Lib.hid ((hb.block (w.heap.size) (by omega)).trans HX_p0.out); have c0_p0 := (Tst.cell_at HX_p0.out 0).trans rfl; have c1_p0 := (Tst.cell_at HX_p0.out 1).trans rfl; replace HX_p1 := Lib.hid ((hb.block (w.heap.size + 1) (by omega)).trans HX_p1.out); have c0_p1 := (Tst.cell_at HX_p1.out 0).trans rfl; have c1_p1 := (Tst.cell_at HX_p1.out 1).trans rfl; have c2_p1 := (Tst.cell_at HX_p1.out 2).trans rfl; have c3_p1 := (Tst.cell_at HX_p1.out 3).trans rfl; replace HX_x0 := Lib.hid ((hb.block (w12.heap.size) (by omega)).trans HX_x0.out); have c0_x0 := (Tst.cell_at HX_x0.out 0).trans rfl; have c1_x0 := (Tst.cell_at HX_x0.out 1).trans rfl; clear hb) | (go_at_call 9; refine ((Tnp.impl_nx (some ⟨g_t_5, 0, none⟩) n0 n0 l0 y0 ⟨k1, d1, q1, a1⟩ _ HN0.out (Nat.le_refl _) (by omega) hz0 r_t_5.at_).mono (fun _ _ h => Scs.cast HR.out h)).mono ?_; rintro e w38 ⟨A_h0, c_h0, ds_h0, rfl, hd_h0, hrow, hb⟩; have s38 : w36.heap.size ≤ w38.heap.size := hb.size; replace T := T.trans (hb.mono (by omega)); replace f0 := Ins.at_below f0 hb (by omega); replace r_t_1 := r_t_1.below hb; replace r_w0 := r_w0.below hb; replace r_x0 := r_x0.below hb; replace r_g0 := r_g0.below hb; replace r_t_4 := r_t_4.below hb; replace r_t_5 := r_t_5.below hb; clear c0_p0 c1_p0 c0_p1 c1_p1 c2_p1 c3_p1 c0_x0 c1_x0; replace HX_p0 := Lib.hid ((hb.block (w.heap.size) (by omega)).trans HX_p0.out); have c0_p0 := (Tst.cell_at HX_p0.out 0).trans rfl; have c1_p0 := (Tst.cell_at HX_p0.out 1).trans rfl; replace HX_p1 := Lib.hid ((hb.block (w.heap.size + 1) (by omega)).trans HX_p1.out); have c0_p1 := (Tst.cell_at HX_p1.out 0).trans rfl; have c1_p1 := (Tst.cell_at HX_p1.out 1).trans rfl; have c2_p1 := (Tst.cell_at HX_p1.out 2).trans rfl; have c3_p1 := (Tst.cell_at HX_p1.out 3).trans rfl; replace HX_x0 := Lib.hid ((hb.block (w12.heap.size) (by omega)).trans HX_x0.out); have c0_x0 := (Tst.cell_at HX_x0.out 0).trans rfl; have c1_x0 := (Tst.cell_at HX_x0.out 1).trans rfl; clear hb; have r_h0 := hrow; clear hrow)))
    go_wp2_with fail
    refine (Scs.eq_scenes _ _ _ _ A_h0 A_w0 res.length c_h0 c_w0 ds_h0 ds_w0 _ r_h0 r_w0 (hd_h0.trans hd_w0.symm) (by omega) (fun i _ => Nat.le_trans (Scs.sc_len hd_h0 HSH.out i) (by omega))).mono ?_
    rintro e w40 ⟨rfl, hb⟩
    have s40 : w38.heap.size ≤ w40.heap.size := hb.size
    replace T := T.trans (hb.mono (by omega))
    replace f0 := Ins.at_below f0 hb (by omega)
    replace r_t_1 := r_t_1.below hb
    replace r_w0 := r_w0.below hb
    replace r_x0 := r_x0.below hb
    replace r_g0 := r_g0.below hb
    replace r_t_4 := r_t_4.below hb
    replace r_t_5 := r_t_5.below hb
    replace r_h0 := r_h0.below hb
    clear c0_p0 c1_p0 c0_p1 c1_p1 c2_p1 c3_p1 c0_x0 c1_x0
    replace HX_p0 := Lib.hid ((hb.block (w.heap.size) (by omega)).trans HX_p0.out)
    have c0_p0 := (Tst.cell_at HX_p0.out 0).trans rfl
    have c1_p0 := (Tst.cell_at HX_p0.out 1).trans rfl
    replace HX_p1 := Lib.hid ((hb.block (w.heap.size + 1) (by omega)).trans HX_p1.out)
    have c0_p1 := (Tst.cell_at HX_p1.out 0).trans rfl
    have c1_p1 := (Tst.cell_at HX_p1.out 1).trans rfl
    have c2_p1 := (Tst.cell_at HX_p1.out 2).trans rfl
    have c3_p1 := (Tst.cell_at HX_p1.out 3).trans rfl
    replace HX_x0 := Lib.hid ((hb.block (w12.heap.size) (by omega)).trans HX_x0.out)
    have c0_x0 := (Tst.cell_at HX_x0.out 0).trans rfl
    have c1_x0 := (Tst.cell_at HX_x0.out 1).trans rfl
    clear hb
    go_wp2_with fail
    refine (Scs.held_scenes _ _ A_g0 res.length c_g0 ds_g0 _ _ (by omega) (by omega) (by omega) r_g0).mono ?_
    rintro e w' ⟨rfl, rfl⟩
    go_wp2
    go_ret
    exact ⟨rfl, T⟩
  · have hz_n0 : (-1 : Int) < 0 := by decide
    go_enter Tryz.func3, Tryz.ntmps3
    obtain ⟨wp0, hbox0⟩ : ∃ W, W = World.alloc w (.cells #[.slice A0 n0 c0, .int .i64 y0] 24) := ⟨_, rfl⟩
    obtain ⟨wp1, hbox1⟩ : ∃ W, W = World.alloc wp0 (.cells #[.int .i64 k1, .int .i64 d1, .int .i64 q1, .int .i64 a1] 28) := ⟨_, rfl⟩
    have hbx0 := True.intro
    have hb : Below w.heap.size w wp0 := by rw [hbox0]; exact Tst.box_below _ _
    have sz_p0 : w.heap.size + 1 ≤ wp0.heap.size := by rw [hbox0]; simp
    have HX_p0 : Hid (wp0.heap[w.heap.size]? = some (.cells #[.slice A0 n0 c0, .int .i64 y0] 24 (0, 0))) := Lib.hid (by rw [hbox0]; exact heap_alloc_new _ _)
    have s0 : w.heap.size ≤ wp0.heap.size := hb.size
    replace T := T.trans (hb.mono (by omega))
    replace f0 := Ins.at_below f0 hb (by omega)
    clear hb
    have c0_p0 := (Tst.cell_at HX_p0.out 0).trans rfl
    have c1_p0 := (Tst.cell_at HX_p0.out 1).trans rfl
    have hb : Below wp0.heap.size wp0 wp1 := by rw [hbox1]; exact Tst.box_below _ _
    have sz_p1 : wp0.heap.size + 1 ≤ wp1.heap.size := by rw [hbox1]; simp
    have hq_p1 : wp0.heap.size = w.heap.size + 1 := by simp [hbox0]
    have HX_p1 : Hid (wp1.heap[w.heap.size + 1]? = some (.cells #[.int .i64 k1, .int .i64 d1, .int .i64 q1, .int .i64 a1] 28 (0, 0))) := Lib.hid (by rw [← hq_p1, hbox1]; exact heap_alloc_new _ _)
    have s1 : wp0.heap.size ≤ wp1.heap.size := hb.size
    replace T := T.trans (hb.mono (by omega))
    replace f0 := Ins.at_below f0 hb (by omega)
    clear c0_p0 c1_p0
    replace HX_p0 := Lib.hid ((hb.block (w.heap.size) (by omega)).trans HX_p0.out)
    have c0_p0 := (Tst.cell_at HX_p0.out 0).trans rfl
    have c1_p0 := (Tst.cell_at HX_p0.out 1).trans rfl
    clear hb
    have c0_p1 := (Tst.cell_at HX_p1.out 0).trans rfl
    have c1_p1 := (Tst.cell_at HX_p1.out 1).trans rfl
    have c2_p1 := (Tst.cell_at HX_p1.out 2).trans rfl
    have c3_p1 := (Tst.cell_at HX_p1.out 3).trans rfl
    go_wp2_with fail
    clear hbx0
    simp only [← hbox0, ← hbox1]
    clear hbox1 hbox0
    refine (Scn.sz_scene A0 n0 c0 y0 ((1048576 : Int)) _ hx0 (by omega) (by omega)).mono ?_
    rintro e w3 ⟨rfl, hb⟩
    rw [if_neg (show ¬ ((n0 : Int) ≤ (1048576 : Int)) by omega)]
    have s3 : wp1.heap.size ≤ w3.heap.size := hb.size
    replace T := T.trans (hb.mono (by omega))
    replace f0 := Ins.at_below f0 hb (by omega)
    clear c0_p0 c1_p0 c0_p1 c1_p1 c2_p1 c3_p1
    replace HX_p0 := Lib.hid ((hb.block (w.heap.size) (by omega)).trans HX_p0.out)
    have c0_p0 := (Tst.cell_at HX_p0.out 0).trans rfl
    have c1_p0 := (Tst.cell_at HX_p0.out 1).trans rfl
    replace HX_p1 := Lib.hid ((hb.block (w.heap.size + 1) (by omega)).trans HX_p1.out)
    have c0_p1 := (Tst.cell_at HX_p1.out 0).trans rfl
    have c1_p1 := (Tst.cell_at HX_p1.out 1).trans rfl
    have c2_p1 := (Tst.cell_at HX_p1.out 2).trans rfl
    have c3_p1 := (Tst.cell_at HX_p1.out 3).trans rfl
    clear hb
    go_wp2
    go_ret
    exact ⟨rfl, T⟩
set_option maxRecDepth 100000 in
theorem lifted (os : Os) (started : os.Started) (H : Type) (enc : TypeId × Value → H) :
    ReturnsInHanded {} Tryz.checked os 3 .any (Rows.fnExactNextScenesSpec.pre6 enc Tryz.prog Tryz.f3 Rows.fnExactNextScenesRow.domain false) (Rows.fnExactNextScenesSpec.post enc Tryz.prog Tryz.f3 false true false false) := by
  refine returnsInHanded_of_change (C := Tryz.checked) Fr.own started (by kernel_rfl) Tryz.func3
    (ChangeSpec.witness6 (enc := enc) (C := Tryz.checked) false ⟨#[], #[.agg #[.slice none 0 0, .int .i64 0], .agg #[.int .i64 0, .int .i64 0, .int .i64 0, .int .i64 0]], []⟩ 8 (by kernel_rfl) (by kernel_rfl) (by kernel_rfl) (by kernel_rfl)) ?_
  intro W base args ds gs before hval0 hW hcnd _
  have hval : ∀ (j : Nat) t v, Tryz.f3.params[j]? = some t → args[j]? = some v → Value.okWide Tryz.prog W .any base t v := hval0
  have hW' := hW
  obtain ⟨p, q, hA0, hV, rfl, hfz, hnd⟩ := hW
  have hA : DataW.TrodAll enc Tryz.prog W 0 (fun _ => true) true Tryz.f3.params.toList args.toList ds p := hA0
  have hAk := hA
  rw [Tryz.params3] at hA hval
  obtain ⟨v0, v1, d0, d1, p0, p1, rfl, rfl, hp, h0, h1⟩ := trodAll_two hA
  obtain ⟨rfl, rfl⟩ := trodVars_none hV
  have hlt : ∀ x ∈ p, x.block < W.heap.size := fun x hx => by simpa using hW'.lt x (List.mem_append_left _ hx)
  obtain ⟨A0, n0, c0, l0, y0, rfl, hn0, hm0, hs0, wy0, ha0⟩ := Scn.view_scene Tryz.underlying24 (by kernel_rfl) (by kernel_rfl) Tryz.underlying22 Tryz.underlying3 (by kernel_rfl) Tryz.underlying3 (hval 0 24 v0 rfl rfl) h0 (fun x hx => hlt x (by rw [hp]; simp [hx]))
  obtain ⟨⟨k1, d1, q1, a1⟩, rfl, hw1⟩ := Tst.view_step ⟨Tryz.underlying28, Tryz.underlying26, (by kernel_rfl), (by kernel_rfl), (by kernel_rfl), (by kernel_rfl), (by kernel_rfl), (by kernel_rfl), rfl, rfl, rfl, rfl, rfl, Tryz.underlying3, Tryz.underlying3, Tryz.underlying3, Tryz.underlying3⟩ (hval 1 28 v1 rfl rfl) h1
  clear hA0 hval0
  refine (walk A0 n0 c0 l0 y0 k1 d1 q1 a1 W hn0 hm0 hs0 wy0 ha0 hw1).mono fun e W' ⟨he, hb⟩ => ?_
  subst he
  exact ⟨_, rfl, _, _, _, [], p, [], hW', trodAll_mk1 (shut_bool Tryz.underlying4 _), Fr.below_all Fr.laidOut hb _ _ _ _ (Fr.readB_all (by kernel_rfl)) hAk hlt, rfl, hb.frame _, fun h => by cases h⟩

theorem proved : Rows.FnExactNextScenesSaid :=
  OpenClaim.holds_of_wide 3 Tryz.f3 rfl rfl rfl rfl rfl rfl rfl ⟨rfl, rfl, rfl, rfl, rfl⟩ rfl rfl rfl rfl rfl (by kernel_rfl) Tryz.func3 (by kernel_rfl)
    (of_decide_eq_true (by kernel_rfl)) (by unfold Func.isWrapper; first | (rw [if_pos (by decide +kernel)]; kernel_rfl) | (rw [if_neg (by decide +kernel)]; exact ⟨rfl, rfl⟩))
    (fun os started H enc _ => lifted os started H enc)

end Go.Proofs.YtibephoepkofnaaGreat.LawNextScenes
