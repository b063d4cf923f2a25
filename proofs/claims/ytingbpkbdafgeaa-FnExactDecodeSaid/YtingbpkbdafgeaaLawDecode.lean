/- The law of Decode holds: for every argument the program's Decode answers as its model does, changes no argument, and shares no memory. No condition. -/
import Derived.Deep.RegionHeld3
import Derived.Deep.RegionWith
import Derived.BigQuiet
import Derived.Test.YtingbpkbdafgeaaHed
import Derived.Test.YtingbpkbdafgeaaCde
import Derived.Test.YtingbpkbdafgeaaPkt
import Derived.Test.YtingbpkbdafgeaaFrame
set_option linter.unusedVariables false
namespace Go.Proofs.Ytingbpkbdafgeaa.LawDecode
open Go.ChangeShapes Go.WideShapes Go.ChangeAt Go.RowKit Fr _root_.Go.Proofs.Ytingbpkbdafgeaa.Own

set_option maxHeartbeats 8000000 in
theorem walk (D0 : Int) (A0 : Option Addr) (n0 c0 : Nat) (l0 : List Rws.RD) (E0 : Option Addr) (m0 d0 : Nat) (q0 : List Rws.RD) (A1 : Option Addr) (n1 c1 : Nat) (l1 : List Int) (w : World) (wD0 : (Lit.int .i64 D0).wf = true) (hn0 : l0.length = n0) (hm0 : n0 ≤ maxLen) (hs0 : Sst.WfSS l0) (ha0 : Sst.SSAt w w.heap.size A0 l0) (jn0 : q0.length = m0) (jm0 : m0 ≤ maxLen) (js0 : Sst.WfSS q0) (ja0 : Sst.SSAt w w.heap.size E0 q0) (hn1 : l1.length = n1) (hm1 : n1 ≤ maxLen) (hs1 : ∀ z ∈ l1, (Lit.int .i64 z).wf = true) (ha1 : IntsAt w w.heap.size .i64 A1 l1) :
    Calls Try.prog 10 #[Hco.coV D0 A0 n0 c0 E0 m0 d0, .slice A1 n1 c1] w fun e w' => e = .returned (.bool true) ∧ Below w.heap.size w w' := by
  obtain ⟨wlo0, whi0⟩ := Ins.wf_lo wD0
  have hx0 : n0 ≤ 9223372036854775807 := by unfold maxLen at hm0; omega
  have hy0 : m0 ≤ 9223372036854775807 := by unfold maxLen at jm0; omega
  have HN0 := Lib.hid hn0
  have HM0 := Lib.hid jn0
  have HS0 := Lib.hid hs0
  have HQ0 := Lib.hid js0
  have HFT0 := Lib.hid (Cde.fits_map (rs := q0) (fun i hi => (js0 i hi).2))
  clear wD0 hn0 hm0 hs0 jn0 jm0 js0
  have hx1 : n1 ≤ 9223372036854775807 := by unfold maxLen at hm1; omega
  have hz1 := Ins.fits_of hs1
  have HN1 := Lib.hid hn1
  clear hn1 hm1 hs1
  by_cases hg1 : n1 ≤ 1048576
  · have hk1 : decide ((1048576 : Int) < (n1 : Int)) = false := decide_eq_false (by omega)
    by_cases hg0 : Cde.cTot n0 l0 m0 q0 ≤ 1048576
    · have hgn0 : n0 ≤ 1048576 := by unfold Cde.cTot at hg0; omega
      have hgm0 : m0 ≤ 1048576 := by unfold Cde.cTot at hg0; omega
      have HBG0 := Lib.hid (Big.big_of HN0.out (show n0 + Rws.tot l0 n0 ≤ 1048576 by unfold Cde.cTot at hg0; omega))
      have HBH0 := Lib.hid (Big.big_of HM0.out (show m0 + Rws.tot q0 m0 ≤ 1048576 by unfold Cde.cTot at hg0; omega))
      have HLN0 := Lib.hid (fun i (_ : i < n0) => Big.big_len rfl HBG0.out i)
      have HLM0 := Lib.hid (fun i (_ : i < m0) => Big.big_len rfl HBH0.out i)
      have T : Below w.heap.size w w := Below.refl _ w
      have f0 := ha0
      clear ha0
      have e0 := ja0
      clear ja0
      have f1 := ha1
      clear ha1
      go_enter Try.func10, Try.ntmps10
      unfold Hco.coV
      go_wp2_with fail
      generalize hbox : w.alloc _ = wb_param
      have hb : Below w.heap.size w wb_param := by rw [← hbox]; exact (Below.refl _ _).alloc (Nat.le_refl _) _
      have sz_param : w.heap.size + 1 ≤ wb_param.heap.size := by rw [← hbox]; simp
      obtain ⟨ba_param, bb_param, bc_param⟩ : wb_param.cell? ⟨w.heap.size, 0, none⟩ = some (.int .i64 D0) ∧ wb_param.cell? ⟨w.heap.size, 1, none⟩ = some (.slice A0 n0 c0) ∧ wb_param.cell? ⟨w.heap.size, 2, none⟩ = some (.slice E0 m0 d0) := by rw [← hbox]; exact Cde.cell3 (heap_alloc_new _ _)
      clear hbox
      have s0 : w.heap.size ≤ wb_param.heap.size := hb.size
      replace T := T.trans (hb.mono (by omega))
      replace f0 := f0.below (hb.mono (by omega))
      replace e0 := e0.below (hb.mono (by omega))
      replace f1 := Ins.at_below f1 hb (by omega)
      clear hb
      refine (Cde.sz_code D0 A0 n0 c0 E0 m0 d0 l0 q0 _ HN0.out HM0.out hx0 hy0 HS0.out HQ0.out (f0.more T.size) (e0.more T.size)).mono ?_
      rintro e w2 ⟨rfl, hb⟩
      rw [if_pos hg0]
      have hz_0 : decide ((1048576 : Int) - (Cde.cTot n0 l0 m0 q0 : Nat) < 0) = false := decide_eq_false (by omega)
      have s2 : wb_param.heap.size ≤ w2.heap.size := hb.size
      replace T := T.trans (hb.mono (by omega))
      replace f0 := f0.below (hb.mono (by omega))
      replace e0 := e0.below (hb.mono (by omega))
      replace f1 := Ins.at_below f1 hb (by omega)
      replace ba_param := (hb.cell (p := ⟨w.heap.size, 0, none⟩) (by show w.heap.size < _; omega)).trans ba_param
      replace bb_param := (hb.cell (p := ⟨w.heap.size, 1, none⟩) (by show w.heap.size < _; omega)).trans bb_param
      replace bc_param := (hb.cell (p := ⟨w.heap.size, 2, none⟩) (by show w.heap.size < _; omega)).trans bc_param
      clear hb
      go_wp2_with fail
      refine (Cde.to_code D0 A0 n0 c0 E0 m0 d0 l0 q0 _ HN0.out HM0.out hgn0 hgm0 HLN0.out HLM0.out (f0.more T.size) (e0.more T.size)).mono ?_
      rintro e w4 ⟨g_t1, g2_t1, rs_t1, r2_t1, rfl, hz_t1, hy_t1, hc_t1, hown, hb⟩
      have s4 : w2.heap.size ≤ w4.heap.size := hb.size
      replace T := T.trans (hb.mono (by omega))
      replace f0 := f0.below (hb.mono (by omega))
      replace e0 := e0.below (hb.mono (by omega))
      replace f1 := Ins.at_below f1 hb (by omega)
      replace ba_param := (hb.cell (p := ⟨w.heap.size, 0, none⟩) (by show w.heap.size < _; omega)).trans ba_param
      replace bb_param := (hb.cell (p := ⟨w.heap.size, 1, none⟩) (by show w.heap.size < _; omega)).trans bb_param
      replace bc_param := (hb.cell (p := ⟨w.heap.size, 2, none⟩) (by show w.heap.size < _; omega)).trans bc_param
      clear hb
      have r_t1 := hown
      clear hown
      go_wp2_with fail
      refine (Ins.to_any A1 n1 c1 l1 _ HN1.out hg1 (f1.more T.size)).mono ?_
      rintro e w6 ⟨g_t2, rfl, hgg, hown, hb⟩
      have s6 : w4.heap.size ≤ w6.heap.size := hb.size
      replace T := T.trans (hb.mono (by omega))
      replace f0 := f0.below (hb.mono (by omega))
      replace e0 := e0.below (hb.mono (by omega))
      replace f1 := Ins.at_below f1 hb (by omega)
      replace r_t1 := r_t1.below hb
      replace ba_param := (hb.cell (p := ⟨w.heap.size, 0, none⟩) (by show w.heap.size < _; omega)).trans ba_param
      replace bb_param := (hb.cell (p := ⟨w.heap.size, 1, none⟩) (by show w.heap.size < _; omega)).trans bb_param
      replace bc_param := (hb.cell (p := ⟨w.heap.size, 2, none⟩) (by show w.heap.size < _; omega)).trans bc_param
      clear hb
      have r_t2 := Ins.Row.mk hown
      clear hgg hown
      go_wp2_with fail
      refine (Hed.spec_dec D0 (some ⟨g_t1, 0, none⟩) n0 n0 (some ⟨g2_t1, 0, none⟩) m0 m0 rs_t1 r2_t1 (some ⟨g_t2, 0, none⟩) n1 n1 l1 _ wlo0 whi0 r_t1 hz_t1 hy_t1 hc_t1 HBG0.out HBH0.out HFT0.out (by omega) (by omega) (by omega) HN1.out (by omega) r_t2.at_).mono ?_
      rintro e w8 ⟨rfl, hb⟩
      have s8 : w6.heap.size ≤ w8.heap.size := hb.size
      replace T := T.trans (hb.mono (by omega))
      replace f0 := f0.below (hb.mono (by omega))
      replace e0 := e0.below (hb.mono (by omega))
      replace f1 := Ins.at_below f1 hb (by omega)
      replace r_t1 := r_t1.below hb
      replace r_t2 := r_t2.below hb
      replace ba_param := (hb.cell (p := ⟨w.heap.size, 0, none⟩) (by show w.heap.size < _; omega)).trans ba_param
      replace bb_param := (hb.cell (p := ⟨w.heap.size, 1, none⟩) (by show w.heap.size < _; omega)).trans bb_param
      replace bc_param := (hb.cell (p := ⟨w.heap.size, 2, none⟩) (by show w.heap.size < _; omega)).trans bc_param
      clear hb
      go_wp2_with fail
      refine (Cde.to_code D0 A0 n0 c0 E0 m0 d0 l0 q0 _ HN0.out HM0.out hgn0 hgm0 HLN0.out HLM0.out (f0.more T.size) (e0.more T.size)).mono ?_
      rintro e w10 ⟨g_x0, g2_x0, rs_x0, r2_x0, rfl, hz_x0, hy_x0, hc_x0, hown, hb⟩
      have s10 : w8.heap.size ≤ w10.heap.size := hb.size
      replace T := T.trans (hb.mono (by omega))
      replace f0 := f0.below (hb.mono (by omega))
      replace e0 := e0.below (hb.mono (by omega))
      replace f1 := Ins.at_below f1 hb (by omega)
      replace r_t1 := r_t1.below hb
      replace r_t2 := r_t2.below hb
      replace ba_param := (hb.cell (p := ⟨w.heap.size, 0, none⟩) (by show w.heap.size < _; omega)).trans ba_param
      replace bb_param := (hb.cell (p := ⟨w.heap.size, 1, none⟩) (by show w.heap.size < _; omega)).trans bb_param
      replace bc_param := (hb.cell (p := ⟨w.heap.size, 2, none⟩) (by show w.heap.size < _; omega)).trans bc_param
      clear hb
      have r_x0 := hown
      clear hown
      have pa_param := (((Below.refl w10.heap.size w10).alloc (Nat.le_refl _) (.cells #[.int .i64 D0, .slice (some ⟨g_x0, 0, none⟩) n0 n0, .slice (some ⟨g2_x0, 0, none⟩) m0 m0] 26)).cell (p := ⟨w.heap.size, 0, none⟩) (by show w.heap.size < _; omega)).trans ba_param
      have pb_param := (((Below.refl w10.heap.size w10).alloc (Nat.le_refl _) (.cells #[.int .i64 D0, .slice (some ⟨g_x0, 0, none⟩) n0 n0, .slice (some ⟨g2_x0, 0, none⟩) m0 m0] 26)).cell (p := ⟨w.heap.size, 1, none⟩) (by show w.heap.size < _; omega)).trans bb_param
      have pc_param := (((Below.refl w10.heap.size w10).alloc (Nat.le_refl _) (.cells #[.int .i64 D0, .slice (some ⟨g_x0, 0, none⟩) n0 n0, .slice (some ⟨g2_x0, 0, none⟩) m0 m0] 26)).cell (p := ⟨w.heap.size, 2, none⟩) (by show w.heap.size < _; omega)).trans bc_param
      go_wp2_with fail
      clear pa_param pb_param pc_param
      generalize hbox : w10.alloc _ = wb_x0
      have hb : Below w10.heap.size w10 wb_x0 := by rw [← hbox]; exact (Below.refl _ _).alloc (Nat.le_refl _) _
      have sz_x0 : w10.heap.size + 1 ≤ wb_x0.heap.size := by rw [← hbox]; simp
      obtain ⟨ba_x0, bb_x0, bc_x0⟩ : wb_x0.cell? ⟨w10.heap.size, 0, none⟩ = some (.int .i64 D0) ∧ wb_x0.cell? ⟨w10.heap.size, 1, none⟩ = some (.slice (some ⟨g_x0, 0, none⟩) n0 n0) ∧ wb_x0.cell? ⟨w10.heap.size, 2, none⟩ = some (.slice (some ⟨g2_x0, 0, none⟩) m0 m0) := by rw [← hbox]; exact Cde.cell3 (heap_alloc_new _ _)
      clear hbox
      have s12 : w10.heap.size ≤ wb_x0.heap.size := hb.size
      replace T := T.trans (hb.mono (by omega))
      replace f0 := f0.below (hb.mono (by omega))
      replace e0 := e0.below (hb.mono (by omega))
      replace f1 := Ins.at_below f1 hb (by omega)
      replace r_t1 := r_t1.below hb
      replace r_t2 := r_t2.below hb
      replace r_x0 := r_x0.below hb
      replace ba_param := (hb.cell (p := ⟨w.heap.size, 0, none⟩) (by show w.heap.size < _; omega)).trans ba_param
      replace bb_param := (hb.cell (p := ⟨w.heap.size, 1, none⟩) (by show w.heap.size < _; omega)).trans bb_param
      replace bc_param := (hb.cell (p := ⟨w.heap.size, 2, none⟩) (by show w.heap.size < _; omega)).trans bc_param
      clear hb
      refine (Ins.to_any A1 n1 c1 l1 _ HN1.out hg1 (f1.more T.size)).mono ?_
      rintro e w12 ⟨g_x1, rfl, hgg, hown, hb⟩
      have s13 : wb_x0.heap.size ≤ w12.heap.size := hb.size
      replace T := T.trans (hb.mono (by omega))
      replace f0 := f0.below (hb.mono (by omega))
      replace e0 := e0.below (hb.mono (by omega))
      replace f1 := Ins.at_below f1 hb (by omega)
      replace r_t1 := r_t1.below hb
      replace r_t2 := r_t2.below hb
      replace r_x0 := r_x0.below hb
      replace ba_param := (hb.cell (p := ⟨w.heap.size, 0, none⟩) (by show w.heap.size < _; omega)).trans ba_param
      replace bb_param := (hb.cell (p := ⟨w.heap.size, 1, none⟩) (by show w.heap.size < _; omega)).trans bb_param
      replace bc_param := (hb.cell (p := ⟨w.heap.size, 2, none⟩) (by show w.heap.size < _; omega)).trans bc_param
      replace ba_x0 := (hb.cell (p := ⟨w10.heap.size, 0, none⟩) (by show w10.heap.size < _; omega)).trans ba_x0
      replace bb_x0 := (hb.cell (p := ⟨w10.heap.size, 1, none⟩) (by show w10.heap.size < _; omega)).trans bb_x0
      replace bc_x0 := (hb.cell (p := ⟨w10.heap.size, 2, none⟩) (by show w10.heap.size < _; omega)).trans bc_x0
      clear hb
      have r_x1 := Ins.Row.mk hown
      clear hgg hown
      go_wp2_with fail
      refine (Hed.impl_dec D0 (some ⟨g_x0, 0, none⟩) n0 n0 (some ⟨g2_x0, 0, none⟩) m0 m0 rs_x0 r2_x0 (some ⟨g_x1, 0, none⟩) n1 n1 l1 _ wlo0 whi0 r_x0 hz_x0 hy_x0 hc_x0 HBG0.out HBH0.out HFT0.out (by omega) (by omega) (by omega) HN1.out (by omega) r_x1.at_).mono ?_
      rintro e w15 ⟨rfl, hb⟩
      have s15 : w12.heap.size ≤ w15.heap.size := hb.size
      replace T := T.trans (hb.mono (by omega))
      replace f0 := f0.below (hb.mono (by omega))
      replace e0 := e0.below (hb.mono (by omega))
      replace f1 := Ins.at_below f1 hb (by omega)
      replace r_t1 := r_t1.below hb
      replace r_t2 := r_t2.below hb
      replace r_x0 := r_x0.below hb
      replace r_x1 := r_x1.below hb
      replace ba_param := (hb.cell (p := ⟨w.heap.size, 0, none⟩) (by show w.heap.size < _; omega)).trans ba_param
      replace bb_param := (hb.cell (p := ⟨w.heap.size, 1, none⟩) (by show w.heap.size < _; omega)).trans bb_param
      replace bc_param := (hb.cell (p := ⟨w.heap.size, 2, none⟩) (by show w.heap.size < _; omega)).trans bc_param
      replace ba_x0 := (hb.cell (p := ⟨w10.heap.size, 0, none⟩) (by show w10.heap.size < _; omega)).trans ba_x0
      replace bb_x0 := (hb.cell (p := ⟨w10.heap.size, 1, none⟩) (by show w10.heap.size < _; omega)).trans bb_x0
      replace bc_x0 := (hb.cell (p := ⟨w10.heap.size, 2, none⟩) (by show w10.heap.size < _; omega)).trans bc_x0
      clear hb
      have hb := (Below.refl w15.heap.size w15).drew
      have s16 : w15.heap.size ≤ w15.drew.heap.size := hb.size
      replace T := T.trans (hb.mono (by omega))
      replace f0 := f0.below (hb.mono (by omega))
      replace e0 := e0.below (hb.mono (by omega))
      replace f1 := Ins.at_below f1 hb (by omega)
      replace r_t1 := r_t1.below hb
      replace r_t2 := r_t2.below hb
      replace r_x0 := r_x0.below hb
      replace r_x1 := r_x1.below hb
      replace ba_param := (hb.cell (p := ⟨w.heap.size, 0, none⟩) (by show w.heap.size < _; omega)).trans ba_param
      replace bb_param := (hb.cell (p := ⟨w.heap.size, 1, none⟩) (by show w.heap.size < _; omega)).trans bb_param
      replace bc_param := (hb.cell (p := ⟨w.heap.size, 2, none⟩) (by show w.heap.size < _; omega)).trans bc_param
      replace ba_x0 := (hb.cell (p := ⟨w10.heap.size, 0, none⟩) (by show w10.heap.size < _; omega)).trans ba_x0
      replace bb_x0 := (hb.cell (p := ⟨w10.heap.size, 1, none⟩) (by show w10.heap.size < _; omega)).trans bb_x0
      replace bc_x0 := (hb.cell (p := ⟨w10.heap.size, 2, none⟩) (by show w10.heap.size < _; omega)).trans bc_x0
      clear hb
      go_wp2_with fail
      go_region_held3 (fun w' => w'.cell? ⟨w.heap.size, 0, none⟩ = some (.int .i64 D0) ∧ w'.cell? ⟨w.heap.size, 1, none⟩ = some (.slice A0 n0 c0) ∧ w'.cell? ⟨w.heap.size, 2, none⟩ = some (.slice E0 m0 d0) ∧ w'.cell? ⟨w10.heap.size, 0, none⟩ = some (.int .i64 D0) ∧ w'.cell? ⟨w10.heap.size, 1, none⟩ = some (.slice (some ⟨g_x0, 0, none⟩) n0 n0) ∧ w'.cell? ⟨w10.heap.size, 2, none⟩ = some (.slice (some ⟨g2_x0, 0, none⟩) m0 m0)) ((first | exact ⟨ba_param, bb_param, bc_param, ba_x0, bb_x0, bc_x0⟩)) ((first | (go_at_call 30; refine (Cde.to_code D0 A0 n0 c0 E0 m0 d0 l0 q0 _ HN0.out HM0.out hgn0 hgm0 HLN0.out HLM0.out (f0.more T.size) (e0.more T.size)).mono ?_; rintro e w18 ⟨g_t3, g2_t3, rs_t3, r2_t3, rfl, hz_t3, hy_t3, hc_t3, hown, hb⟩; have s18 : w15.drew.heap.size ≤ w18.heap.size := hb.size; replace T := T.trans (hb.mono (by omega)); replace f0 := f0.below (hb.mono (by omega)); replace e0 := e0.below (hb.mono (by omega)); replace f1 := Ins.at_below f1 hb (by omega); replace r_t1 := r_t1.below hb; replace r_t2 := r_t2.below hb; replace r_x0 := r_x0.below hb; replace r_x1 := r_x1.below hb; replace ba_param := (hb.cell (p := ⟨w.heap.size, 0, none⟩) (by show w.heap.size < _; omega)).trans ba_param; replace bb_param := (hb.cell (p := ⟨w.heap.size, 1, none⟩) (by show w.heap.size < _; omega)).trans bb_param; replace bc_param := (hb.cell (p := ⟨w.heap.size, 2, none⟩) (by show w.heap.size < _; omega)).trans bc_param; replace ba_x0 := (hb.cell (p := ⟨w10.heap.size, 0, none⟩) (by show w10.heap.size < _; omega)).trans ba_x0; replace bb_x0 := (hb.cell (p := ⟨w10.heap.size, 1, none⟩) (by show w10.heap.size < _; omega)).trans bb_x0; replace bc_x0 := (hb.cell (p := ⟨w10.heap.size, 2, none⟩) (by show w10.heap.size < _; omega)).trans bc_x0; clear hb; have r_t3 := hown; clear hown) | (go_at_call 31; refine (Cde.eq_code _ _ _ _ _ _ _ _ D0 (some ⟨g_x0, 0, none⟩) (some ⟨g_t3, 0, none⟩) n0 n0 n0 (some ⟨g2_x0, 0, none⟩) (some ⟨g2_t3, 0, none⟩) m0 m0 m0 rs_x0 rs_t3 r2_x0 r2_t3 _ r_x0.choose_spec.1 r_t3.choose_spec.1 r_x0.choose_spec.2.1 r_t3.choose_spec.2.1 (hz_x0.trans hz_t3.symm) (hy_x0.trans hy_t3.symm) (by omega) (by omega) (fun i _ => Nat.le_trans (Big.big_len hz_x0 HBG0.out i) (by omega)) (fun i _ => Nat.le_trans (Big.big_len hy_x0 HBH0.out i) (by omega))).mono ?_; rintro e w20 ⟨rfl, hb⟩; have s20 : w18.heap.size ≤ w20.heap.size := hb.size; replace T := T.trans (hb.mono (by omega)); replace f0 := f0.below (hb.mono (by omega)); replace e0 := e0.below (hb.mono (by omega)); replace f1 := Ins.at_below f1 hb (by omega); replace r_t1 := r_t1.below hb; replace r_t2 := r_t2.below hb; replace r_x0 := r_x0.below hb; replace r_x1 := r_x1.below hb; replace r_t3 := r_t3.below hb; replace ba_param := (hb.cell (p := ⟨w.heap.size, 0, none⟩) (by show w.heap.size < _; omega)).trans ba_param; replace bb_param := (hb.cell (p := ⟨w.heap.size, 1, none⟩) (by show w.heap.size < _; omega)).trans bb_param; replace bc_param := (hb.cell (p := ⟨w.heap.size, 2, none⟩) (by show w.heap.size < _; omega)).trans bc_param; replace ba_x0 := (hb.cell (p := ⟨w10.heap.size, 0, none⟩) (by show w10.heap.size < _; omega)).trans ba_x0; replace bb_x0 := (hb.cell (p := ⟨w10.heap.size, 1, none⟩) (by show w10.heap.size < _; omega)).trans bb_x0; replace bc_x0 := (hb.cell (p := ⟨w10.heap.size, 2, none⟩) (by show w10.heap.size < _; omega)).trans bc_x0; clear hb)))
      go_wp2_with fail
      refine (Ins.to_any A1 n1 c1 l1 _ HN1.out hg1 (f1.more T.size)).mono ?_
      rintro e w22 ⟨g_t4, rfl, hgg, hown, hb⟩
      have s22 : w20.heap.size ≤ w22.heap.size := hb.size
      replace T := T.trans (hb.mono (by omega))
      replace f0 := f0.below (hb.mono (by omega))
      replace e0 := e0.below (hb.mono (by omega))
      replace f1 := Ins.at_below f1 hb (by omega)
      replace r_t1 := r_t1.below hb
      replace r_t2 := r_t2.below hb
      replace r_x0 := r_x0.below hb
      replace r_x1 := r_x1.below hb
      replace r_t3 := r_t3.below hb
      replace ba_param := (hb.cell (p := ⟨w.heap.size, 0, none⟩) (by show w.heap.size < _; omega)).trans ba_param
      replace bb_param := (hb.cell (p := ⟨w.heap.size, 1, none⟩) (by show w.heap.size < _; omega)).trans bb_param
      replace bc_param := (hb.cell (p := ⟨w.heap.size, 2, none⟩) (by show w.heap.size < _; omega)).trans bc_param
      replace ba_x0 := (hb.cell (p := ⟨w10.heap.size, 0, none⟩) (by show w10.heap.size < _; omega)).trans ba_x0
      replace bb_x0 := (hb.cell (p := ⟨w10.heap.size, 1, none⟩) (by show w10.heap.size < _; omega)).trans bb_x0
      replace bc_x0 := (hb.cell (p := ⟨w10.heap.size, 2, none⟩) (by show w10.heap.size < _; omega)).trans bc_x0
      clear hb
      have r_t4 := Ins.Row.mk hown
      clear hgg hown
      go_wp2_with fail
      refine (Ins.eq_same (some ⟨g_x1, 0, none⟩) (some ⟨g_t4, 0, none⟩) n1 n1 n1 l1 _ HN1.out (by omega) r_x1.at_ r_t4.at_).mono ?_
      rintro e w24 ⟨rfl, hb⟩
      have s24 : w22.heap.size ≤ w24.heap.size := hb.size
      replace T := T.trans (hb.mono (by omega))
      replace f0 := f0.below (hb.mono (by omega))
      replace e0 := e0.below (hb.mono (by omega))
      replace f1 := Ins.at_below f1 hb (by omega)
      replace r_t1 := r_t1.below hb
      replace r_t2 := r_t2.below hb
      replace r_x0 := r_x0.below hb
      replace r_x1 := r_x1.below hb
      replace r_t3 := r_t3.below hb
      replace r_t4 := r_t4.below hb
      replace ba_param := (hb.cell (p := ⟨w.heap.size, 0, none⟩) (by show w.heap.size < _; omega)).trans ba_param
      replace bb_param := (hb.cell (p := ⟨w.heap.size, 1, none⟩) (by show w.heap.size < _; omega)).trans bb_param
      replace bc_param := (hb.cell (p := ⟨w.heap.size, 2, none⟩) (by show w.heap.size < _; omega)).trans bc_param
      replace ba_x0 := (hb.cell (p := ⟨w10.heap.size, 0, none⟩) (by show w10.heap.size < _; omega)).trans ba_x0
      replace bb_x0 := (hb.cell (p := ⟨w10.heap.size, 1, none⟩) (by show w10.heap.size < _; omega)).trans bb_x0
      replace bc_x0 := (hb.cell (p := ⟨w10.heap.size, 2, none⟩) (by show w10.heap.size < _; omega)).trans bc_x0
      clear hb
      go_wp2
      go_ret
      exact ⟨rfl, T⟩
    · have T : Below w.heap.size w w := Below.refl _ w
      have f0 := ha0
      clear ha0
      have e0 := ja0
      clear ja0
      have f1 := ha1
      clear ha1
      go_enter Try.func10, Try.ntmps10
      unfold Hco.coV
      go_wp2_with fail
      generalize hbox : w.alloc _ = wb_param
      have hb : Below w.heap.size w wb_param := by rw [← hbox]; exact (Below.refl _ _).alloc (Nat.le_refl _) _
      have sz_param : w.heap.size + 1 ≤ wb_param.heap.size := by rw [← hbox]; simp
      obtain ⟨ba_param, bb_param, bc_param⟩ : wb_param.cell? ⟨w.heap.size, 0, none⟩ = some (.int .i64 D0) ∧ wb_param.cell? ⟨w.heap.size, 1, none⟩ = some (.slice A0 n0 c0) ∧ wb_param.cell? ⟨w.heap.size, 2, none⟩ = some (.slice E0 m0 d0) := by rw [← hbox]; exact Cde.cell3 (heap_alloc_new _ _)
      clear hbox
      have s25 : w.heap.size ≤ wb_param.heap.size := hb.size
      replace T := T.trans (hb.mono (by omega))
      replace f0 := f0.below (hb.mono (by omega))
      replace e0 := e0.below (hb.mono (by omega))
      replace f1 := Ins.at_below f1 hb (by omega)
      clear hb
      refine (Cde.sz_code D0 A0 n0 c0 E0 m0 d0 l0 q0 _ HN0.out HM0.out hx0 hy0 HS0.out HQ0.out (f0.more T.size) (e0.more T.size)).mono ?_
      rintro e w27 ⟨rfl, hb⟩
      rw [if_neg hg0]
      have s27 : wb_param.heap.size ≤ w27.heap.size := hb.size
      replace T := T.trans (hb.mono (by omega))
      replace f0 := f0.below (hb.mono (by omega))
      replace e0 := e0.below (hb.mono (by omega))
      replace f1 := Ins.at_below f1 hb (by omega)
      replace ba_param := (hb.cell (p := ⟨w.heap.size, 0, none⟩) (by show w.heap.size < _; omega)).trans ba_param
      replace bb_param := (hb.cell (p := ⟨w.heap.size, 1, none⟩) (by show w.heap.size < _; omega)).trans bb_param
      replace bc_param := (hb.cell (p := ⟨w.heap.size, 2, none⟩) (by show w.heap.size < _; omega)).trans bc_param
      clear hb
      go_wp2
      go_ret
      exact ⟨rfl, T⟩
  · have hk1 : (1048576 : Int) < (n1 : Int) := by omega
    unfold Hco.coV
    go_enter Try.func10, Try.ntmps10
    go_wp2
    go_ret
    first | exact ⟨rfl, Below.refl _ w⟩ | exact ⟨rfl, (Below.refl _ w).alloc (Nat.le_refl _) _⟩
set_option maxRecDepth 100000 in
theorem lifted (os : Os) (started : os.Started) (H : Type) (enc : TypeId × Value → H) :
    ReturnsInHanded {} Try.checked os 10 .any (Rows.fnExactDecodeSpec.pre6 enc Try.prog Try.f10 Rows.fnExactDecodeRow.domain false) (Rows.fnExactDecodeSpec.post enc Try.prog Try.f10 false true false false) := by
  refine returnsInHanded_of_change (C := Try.checked) Fr.own started (by kernel_rfl) Try.func10
    (ChangeSpec.witness6 (enc := enc) (C := Try.checked) false ⟨#[], #[.agg #[.int .i64 0, .slice none 0 0, .slice none 0 0], .slice none 0 0], []⟩ 8 (by kernel_rfl) (by kernel_rfl) (by kernel_rfl) (by kernel_rfl)) ?_
  intro W base args ds gs before hval0 hW hcnd _
  have hval : ∀ (j : Nat) t v, Try.f10.params[j]? = some t → args[j]? = some v → Value.okWide Try.prog W .any base t v := hval0
  have hW' := hW
  obtain ⟨p, q, hA0, hV, rfl, hfz, hnd⟩ := hW
  have hA : DataW.TrodAll enc Try.prog W 0 (fun _ => true) true Try.f10.params.toList args.toList ds p := hA0
  have hAk := hA
  rw [Try.params10] at hA hval
  obtain ⟨v0, v1, d0, d1, p0, p1, rfl, rfl, hp, h0, h1⟩ := trodAll_two hA
  obtain ⟨rfl, rfl⟩ := trodVars_none hV
  have hlt : ∀ x ∈ p, x.block < W.heap.size := fun x hx => by simpa using hW'.lt x (List.mem_append_left _ hx)
  obtain ⟨D0, A0, n0, c0, l0, E0, m0, d0, q0, rfl, wD0, hn0, hm0, hs0, ha0, jn0, jm0, js0, ja0⟩ := Cde.view_code Try.underlying43 (by kernel_rfl) (by kernel_rfl) Try.underlying3 Try.underlying24 Try.underlying24 Try.underlying33 Try.underlying3 (by kernel_rfl) (by kernel_rfl) (hval 0 43 v0 rfl rfl) h0 (fun x hx => hlt x (by rw [hp]; simp [hx]))
  obtain ⟨A1, n1, c1, l1, rfl, hn1, hm1, hs1, ha1⟩ := Fr.view_nums Try.underlying33 Try.underlying3 (by kernel_rfl) (hval 1 33 v1 rfl rfl) h1 (fun x hx => hlt x (by rw [hp]; simp [hx]))
  clear hA0 hval0
  refine (walk D0 A0 n0 c0 l0 E0 m0 d0 q0 A1 n1 c1 l1 W wD0 hn0 hm0 hs0 ha0 jn0 jm0 js0 ja0 hn1 hm1 hs1 ha1).mono fun e W' ⟨he, hb⟩ => ?_
  subst he
  exact ⟨_, rfl, _, _, _, [], p, [], hW', trodAll_mk1 (shut_bool Try.underlying4 _), Fr.below_all Fr.laidOut hb _ _ _ _ (Fr.readB_all (by kernel_rfl)) hAk hlt, rfl, hb.frame _, fun h => by cases h⟩

theorem proved : Rows.FnExactDecodeSaid :=
  OpenClaim.holds_of_wide 10 Try.f10 rfl rfl rfl rfl rfl rfl rfl ⟨rfl, rfl, rfl, rfl, rfl⟩ rfl rfl rfl rfl rfl (by kernel_rfl) Try.func10 (by kernel_rfl)
    (of_decide_eq_true (by kernel_rfl)) (by unfold Func.isWrapper; first | (rw [if_pos (by decide +kernel)]; kernel_rfl) | (rw [if_neg (by decide +kernel)]; exact ⟨rfl, rfl⟩))
    (fun os started H enc _ => lifted os started H enc)

end Go.Proofs.Ytingbpkbdafgeaa.LawDecode
