/- The law of FindWindow holds: for every argument the program's FindWindow answers as its model does, changes no argument, and shares no memory. No condition. -/
import Derived.Deep.RegionHeld3
import Derived.Deep.RegionWith
import Derived.BigQuiet
import Derived.Test.YtkonakfbidnfhaaSks
import Derived.Test.YtkonakfbidnfhaaSkj
import Derived.Test.YtkonakfbidnfhaaStk
import Derived.Test.YtkonakfbidnfhaaPkt
import Derived.Test.YtkonakfbidnfhaaFrame
set_option linter.unusedVariables false
namespace Go.Proofs.Ytkonakfbidnfhaa.LawFindWindow
open Go.ChangeShapes Go.WideShapes Go.ChangeAt Go.RowKit Fr _root_.Go.Proofs.Ytkonakfbidnfhaa.Own

set_option maxHeartbeats 4000000 in
theorem walk (A0 : Option Addr) (n0 c0 : Nat) (l0 : List Int) (m0 : Int) (A1 : Option Addr) (n1 c1 : Nat) (l1 : List Int) (w : World) (hn0 : l0.length = n0) (hm0 : n0 ≤ maxLen) (hs0 : ∀ z ∈ l0, (Lit.int .i64 z).wf = true) (wm0 : (Lit.int .i64 m0).wf = true) (ha0 : IntsAt w w.heap.size .i64 A0 l0) (hn1 : l1.length = n1) (hm1 : n1 ≤ maxLen) (hs1 : ∀ z ∈ l1, (Lit.int .i64 z).wf = true) (ha1 : IntsAt w w.heap.size .i64 A1 l1) :
    Calls Try.prog 7 #[Stk.stV A0 n0 c0 m0, .slice A1 n1 c1] w fun e w' => e = .returned (.bool true) ∧ Below w.heap.size w w' := by
  have hx0 : n0 ≤ 9223372036854775807 := by unfold maxLen at hm0; omega
  have hz0 := Ins.fits_of hs0
  obtain ⟨mlo0, mhi0⟩ := Ins.wf_lo wm0
  clear wm0
  have HN0 := Lib.hid hn0
  clear hn0 hm0 hs0
  have hx1 : n1 ≤ 9223372036854775807 := by unfold maxLen at hm1; omega
  have hz1 := Ins.fits_of hs1
  have HN1 := Lib.hid hn1
  clear hn1 hm1 hs1
  by_cases hg1 : n1 ≤ 1048576
  · have hk1 : decide ((1048576 : Int) < (n1 : Int)) = false := decide_eq_false (by omega)
    by_cases hg0 : n0 ≤ 1048576
    · have hk0 : decide ((1048576 : Int) < (n0 : Int)) = false := decide_eq_false (by omega)
      have T : Below w.heap.size w w := Below.refl _ w
      have f0 := ha0
      clear ha0
      have f1 := ha1
      clear ha1
      go_enter Try.func7, Try.ntmps7
      go_wp2_with fail
      generalize hbox : w.alloc _ = wb_param
      have hb : Below w.heap.size w wb_param := by rw [← hbox]; exact (Below.refl _ _).alloc (Nat.le_refl _) _
      have sz_param : w.heap.size + 1 ≤ wb_param.heap.size := by rw [← hbox]; simp
      obtain ⟨ba_param, bb_param⟩ : wb_param.cell? ⟨w.heap.size, 0, none⟩ = some (.slice A0 n0 c0) ∧ wb_param.cell? ⟨w.heap.size, 1, none⟩ = some (.int .i64 m0) := by rw [← hbox]; exact Stk.cell2 (heap_alloc_new _ _)
      clear hbox
      have s0 : w.heap.size ≤ wb_param.heap.size := hb.size
      replace T := T.trans (hb.mono (by omega))
      replace f0 := Ins.at_below f0 hb (by omega)
      replace f1 := Ins.at_below f1 hb (by omega)
      clear hb
      refine (Stk.sz_stack A0 n0 c0 m0 1048576 _ hx0 (by omega) (by omega)).mono ?_
      rintro e w2 ⟨rfl, hb⟩
      rw [if_pos (show (n0 : Int) ≤ 1048576 by omega)]
      have hz_0 : decide ((1048576 : Int) - (n0 : Int) < 0) = false := decide_eq_false (by omega)
      have s2 : wb_param.heap.size ≤ w2.heap.size := hb.size
      replace T := T.trans (hb.mono (by omega))
      replace f0 := Ins.at_below f0 hb (by omega)
      replace f1 := Ins.at_below f1 hb (by omega)
      replace ba_param := (hb.cell (p := ⟨w.heap.size, 0, none⟩) (by show w.heap.size < _; omega)).trans ba_param
      replace bb_param := (hb.cell (p := ⟨w.heap.size, 1, none⟩) (by show w.heap.size < _; omega)).trans bb_param
      clear hb
      go_wp2_with fail
      refine (Stk.to_stack A0 n0 c0 l0 m0 _ HN0.out hg0 (f0.more T.size)).mono ?_
      rintro e w4 ⟨g_t1, rfl, hown, hb⟩
      rw [HN0.out] at hown
      rw [HN0.out]
      have s4 : w2.heap.size ≤ w4.heap.size := hb.size
      replace T := T.trans (hb.mono (by omega))
      replace f0 := Ins.at_below f0 hb (by omega)
      replace f1 := Ins.at_below f1 hb (by omega)
      replace ba_param := (hb.cell (p := ⟨w.heap.size, 0, none⟩) (by show w.heap.size < _; omega)).trans ba_param
      replace bb_param := (hb.cell (p := ⟨w.heap.size, 1, none⟩) (by show w.heap.size < _; omega)).trans bb_param
      clear hb
      have r_t1 := Ins.Row.mk hown
      clear hown
      go_wp2_with fail
      refine (Ins.to_any A1 n1 c1 l1 _ HN1.out hg1 (f1.more T.size)).mono ?_
      rintro e w6 ⟨g_t2, rfl, hgg, hown, hb⟩
      have s6 : w4.heap.size ≤ w6.heap.size := hb.size
      replace T := T.trans (hb.mono (by omega))
      replace f0 := Ins.at_below f0 hb (by omega)
      replace f1 := Ins.at_below f1 hb (by omega)
      replace r_t1 := r_t1.below hb
      replace ba_param := (hb.cell (p := ⟨w.heap.size, 0, none⟩) (by show w.heap.size < _; omega)).trans ba_param
      replace bb_param := (hb.cell (p := ⟨w.heap.size, 1, none⟩) (by show w.heap.size < _; omega)).trans bb_param
      clear hb
      have r_t2 := Ins.Row.mk hown
      clear hgg hown
      go_wp2_with fail
      refine (Sks.spec_find (some ⟨g_t1, 0, none⟩) n0 n0 l0 m0 (some ⟨g_t2, 0, none⟩) n1 n1 l1 _ HN0.out (Nat.le_refl _) (by omega) hz0 r_t1.at_ HN1.out (by omega) hz1 r_t2.at_).mono ?_
      rintro e w8 ⟨rfl, hb⟩
      have s8 : w6.heap.size ≤ w8.heap.size := hb.size
      replace T := T.trans (hb.mono (by omega))
      replace f0 := Ins.at_below f0 hb (by omega)
      replace f1 := Ins.at_below f1 hb (by omega)
      replace r_t1 := r_t1.below hb
      replace r_t2 := r_t2.below hb
      replace ba_param := (hb.cell (p := ⟨w.heap.size, 0, none⟩) (by show w.heap.size < _; omega)).trans ba_param
      replace bb_param := (hb.cell (p := ⟨w.heap.size, 1, none⟩) (by show w.heap.size < _; omega)).trans bb_param
      clear hb
      go_wp2_with fail
      refine (Stk.to_stack A0 n0 c0 l0 m0 _ HN0.out hg0 (f0.more T.size)).mono ?_
      rintro e w10 ⟨g_x0, rfl, hown, hb⟩
      rw [HN0.out] at hown
      rw [HN0.out]
      have s10 : w8.heap.size ≤ w10.heap.size := hb.size
      replace T := T.trans (hb.mono (by omega))
      replace f0 := Ins.at_below f0 hb (by omega)
      replace f1 := Ins.at_below f1 hb (by omega)
      replace r_t1 := r_t1.below hb
      replace r_t2 := r_t2.below hb
      replace ba_param := (hb.cell (p := ⟨w.heap.size, 0, none⟩) (by show w.heap.size < _; omega)).trans ba_param
      replace bb_param := (hb.cell (p := ⟨w.heap.size, 1, none⟩) (by show w.heap.size < _; omega)).trans bb_param
      clear hb
      have r_x0 := Ins.Row.mk hown
      clear hown
      have pa_param := (((Below.refl w10.heap.size w10).alloc (Nat.le_refl _) (.cells #[.slice (some ⟨g_x0, 0, none⟩) n0 n0, .int .i64 m0] 25)).cell (p := ⟨w.heap.size, 0, none⟩) (by show w.heap.size < _; omega)).trans ba_param
      have pb_param := (((Below.refl w10.heap.size w10).alloc (Nat.le_refl _) (.cells #[.slice (some ⟨g_x0, 0, none⟩) n0 n0, .int .i64 m0] 25)).cell (p := ⟨w.heap.size, 1, none⟩) (by show w.heap.size < _; omega)).trans bb_param
      go_wp2_with fail
      clear pa_param pb_param
      generalize hbox : w10.alloc _ = wb_x0
      have hb : Below w10.heap.size w10 wb_x0 := by rw [← hbox]; exact (Below.refl _ _).alloc (Nat.le_refl _) _
      have sz_x0 : w10.heap.size + 1 ≤ wb_x0.heap.size := by rw [← hbox]; simp
      obtain ⟨ba_x0, bb_x0⟩ : wb_x0.cell? ⟨w10.heap.size, 0, none⟩ = some (.slice (some ⟨g_x0, 0, none⟩) n0 n0) ∧ wb_x0.cell? ⟨w10.heap.size, 1, none⟩ = some (.int .i64 m0) := by rw [← hbox]; exact Stk.cell2 (heap_alloc_new _ _)
      clear hbox
      have s12 : w10.heap.size ≤ wb_x0.heap.size := hb.size
      replace T := T.trans (hb.mono (by omega))
      replace f0 := Ins.at_below f0 hb (by omega)
      replace f1 := Ins.at_below f1 hb (by omega)
      replace r_t1 := r_t1.below hb
      replace r_t2 := r_t2.below hb
      replace r_x0 := r_x0.below hb
      replace ba_param := (hb.cell (p := ⟨w.heap.size, 0, none⟩) (by show w.heap.size < _; omega)).trans ba_param
      replace bb_param := (hb.cell (p := ⟨w.heap.size, 1, none⟩) (by show w.heap.size < _; omega)).trans bb_param
      clear hb
      refine (Ins.to_any A1 n1 c1 l1 _ HN1.out hg1 (f1.more T.size)).mono ?_
      rintro e w12 ⟨g_x1, rfl, hgg, hown, hb⟩
      have s13 : wb_x0.heap.size ≤ w12.heap.size := hb.size
      replace T := T.trans (hb.mono (by omega))
      replace f0 := Ins.at_below f0 hb (by omega)
      replace f1 := Ins.at_below f1 hb (by omega)
      replace r_t1 := r_t1.below hb
      replace r_t2 := r_t2.below hb
      replace r_x0 := r_x0.below hb
      replace ba_param := (hb.cell (p := ⟨w.heap.size, 0, none⟩) (by show w.heap.size < _; omega)).trans ba_param
      replace bb_param := (hb.cell (p := ⟨w.heap.size, 1, none⟩) (by show w.heap.size < _; omega)).trans bb_param
      replace ba_x0 := (hb.cell (p := ⟨w10.heap.size, 0, none⟩) (by show w10.heap.size < _; omega)).trans ba_x0
      replace bb_x0 := (hb.cell (p := ⟨w10.heap.size, 1, none⟩) (by show w10.heap.size < _; omega)).trans bb_x0
      clear hb
      have r_x1 := Ins.Row.mk hown
      clear hgg hown
      go_wp2_with fail
      refine (Skj.impl_find (some ⟨g_x0, 0, none⟩) n0 n0 l0 m0 (some ⟨g_x1, 0, none⟩) n1 n1 l1 _ HN0.out (Nat.le_refl _) (by omega) hz0 r_x0.at_ HN1.out (by omega) hz1 r_x1.at_).mono ?_
      rintro e w15 ⟨rfl, hb⟩
      have s15 : w12.heap.size ≤ w15.heap.size := hb.size
      replace T := T.trans (hb.mono (by omega))
      replace f0 := Ins.at_below f0 hb (by omega)
      replace f1 := Ins.at_below f1 hb (by omega)
      replace r_t1 := r_t1.below hb
      replace r_t2 := r_t2.below hb
      replace r_x0 := r_x0.below hb
      replace r_x1 := r_x1.below hb
      replace ba_param := (hb.cell (p := ⟨w.heap.size, 0, none⟩) (by show w.heap.size < _; omega)).trans ba_param
      replace bb_param := (hb.cell (p := ⟨w.heap.size, 1, none⟩) (by show w.heap.size < _; omega)).trans bb_param
      replace ba_x0 := (hb.cell (p := ⟨w10.heap.size, 0, none⟩) (by show w10.heap.size < _; omega)).trans ba_x0
      replace bb_x0 := (hb.cell (p := ⟨w10.heap.size, 1, none⟩) (by show w10.heap.size < _; omega)).trans bb_x0
      clear hb
      have hb := (Below.refl w15.heap.size w15).drew
      have s16 : w15.heap.size ≤ w15.drew.heap.size := hb.size
      replace T := T.trans (hb.mono (by omega))
      replace f0 := Ins.at_below f0 hb (by omega)
      replace f1 := Ins.at_below f1 hb (by omega)
      replace r_t1 := r_t1.below hb
      replace r_t2 := r_t2.below hb
      replace r_x0 := r_x0.below hb
      replace r_x1 := r_x1.below hb
      replace ba_param := (hb.cell (p := ⟨w.heap.size, 0, none⟩) (by show w.heap.size < _; omega)).trans ba_param
      replace bb_param := (hb.cell (p := ⟨w.heap.size, 1, none⟩) (by show w.heap.size < _; omega)).trans bb_param
      replace ba_x0 := (hb.cell (p := ⟨w10.heap.size, 0, none⟩) (by show w10.heap.size < _; omega)).trans ba_x0
      replace bb_x0 := (hb.cell (p := ⟨w10.heap.size, 1, none⟩) (by show w10.heap.size < _; omega)).trans bb_x0
      clear hb
      go_wp2_with fail
      go_region_held3 (fun w' => w'.cell? ⟨w.heap.size, 0, none⟩ = some (.slice A0 n0 c0) ∧ w'.cell? ⟨w.heap.size, 1, none⟩ = some (.int .i64 m0) ∧ w'.cell? ⟨w10.heap.size, 0, none⟩ = some (.slice (some ⟨g_x0, 0, none⟩) n0 n0) ∧ w'.cell? ⟨w10.heap.size, 1, none⟩ = some (.int .i64 m0)) ((first | exact ⟨ba_param, bb_param, ba_x0, bb_x0⟩)) ((first | (go_at_call 23; refine (Stk.to_stack A0 n0 c0 l0 m0 _ HN0.out hg0 (f0.more T.size)).mono ?_; rintro e w18 ⟨g_t3, rfl, hown, hb⟩; rw [HN0.out] at hown; rw [HN0.out]; have s18 : w15.drew.heap.size ≤ w18.heap.size := hb.size; replace T := T.trans (hb.mono (by omega)); replace f0 := Ins.at_below f0 hb (by omega); replace f1 := Ins.at_below f1 hb (by omega); replace r_t1 := r_t1.below hb; replace r_t2 := r_t2.below hb; replace r_x0 := r_x0.below hb; replace r_x1 := r_x1.below hb; replace ba_param := (hb.cell (p := ⟨w.heap.size, 0, none⟩) (by show w.heap.size < _; omega)).trans ba_param; replace bb_param := (hb.cell (p := ⟨w.heap.size, 1, none⟩) (by show w.heap.size < _; omega)).trans bb_param; replace ba_x0 := (hb.cell (p := ⟨w10.heap.size, 0, none⟩) (by show w10.heap.size < _; omega)).trans ba_x0; replace bb_x0 := (hb.cell (p := ⟨w10.heap.size, 1, none⟩) (by show w10.heap.size < _; omega)).trans bb_x0; clear hb; have r_t3 := Ins.Row.mk hown; clear hown) | (go_at_call 24; refine (Stk.eq_stack (some ⟨g_x0, 0, none⟩) (some ⟨g_t3, 0, none⟩) n0 n0 n0 l0 m0 _ HN0.out (by omega) r_x0.at_ r_t3.at_).mono ?_; rintro e w20 ⟨rfl, hb⟩; have s20 : w18.heap.size ≤ w20.heap.size := hb.size; replace T := T.trans (hb.mono (by omega)); replace f0 := Ins.at_below f0 hb (by omega); replace f1 := Ins.at_below f1 hb (by omega); replace r_t1 := r_t1.below hb; replace r_t2 := r_t2.below hb; replace r_x0 := r_x0.below hb; replace r_x1 := r_x1.below hb; replace r_t3 := r_t3.below hb; replace ba_param := (hb.cell (p := ⟨w.heap.size, 0, none⟩) (by show w.heap.size < _; omega)).trans ba_param; replace bb_param := (hb.cell (p := ⟨w.heap.size, 1, none⟩) (by show w.heap.size < _; omega)).trans bb_param; replace ba_x0 := (hb.cell (p := ⟨w10.heap.size, 0, none⟩) (by show w10.heap.size < _; omega)).trans ba_x0; replace bb_x0 := (hb.cell (p := ⟨w10.heap.size, 1, none⟩) (by show w10.heap.size < _; omega)).trans bb_x0; clear hb)))
      go_wp2_with fail
      refine (Ins.to_any A1 n1 c1 l1 _ HN1.out hg1 (f1.more T.size)).mono ?_
      rintro e w22 ⟨g_t4, rfl, hgg, hown, hb⟩
      have s22 : w20.heap.size ≤ w22.heap.size := hb.size
      replace T := T.trans (hb.mono (by omega))
      replace f0 := Ins.at_below f0 hb (by omega)
      replace f1 := Ins.at_below f1 hb (by omega)
      replace r_t1 := r_t1.below hb
      replace r_t2 := r_t2.below hb
      replace r_x0 := r_x0.below hb
      replace r_x1 := r_x1.below hb
      replace r_t3 := r_t3.below hb
      replace ba_param := (hb.cell (p := ⟨w.heap.size, 0, none⟩) (by show w.heap.size < _; omega)).trans ba_param
      replace bb_param := (hb.cell (p := ⟨w.heap.size, 1, none⟩) (by show w.heap.size < _; omega)).trans bb_param
      replace ba_x0 := (hb.cell (p := ⟨w10.heap.size, 0, none⟩) (by show w10.heap.size < _; omega)).trans ba_x0
      replace bb_x0 := (hb.cell (p := ⟨w10.heap.size, 1, none⟩) (by show w10.heap.size < _; omega)).trans bb_x0
      clear hb
      have r_t4 := Ins.Row.mk hown
      clear hgg hown
      go_wp2_with fail
      refine (Ins.eq_same (some ⟨g_x1, 0, none⟩) (some ⟨g_t4, 0, none⟩) n1 n1 n1 l1 _ HN1.out (by omega) r_x1.at_ r_t4.at_).mono ?_
      rintro e w24 ⟨rfl, hb⟩
      have s24 : w22.heap.size ≤ w24.heap.size := hb.size
      replace T := T.trans (hb.mono (by omega))
      replace f0 := Ins.at_below f0 hb (by omega)
      replace f1 := Ins.at_below f1 hb (by omega)
      replace r_t1 := r_t1.below hb
      replace r_t2 := r_t2.below hb
      replace r_x0 := r_x0.below hb
      replace r_x1 := r_x1.below hb
      replace r_t3 := r_t3.below hb
      replace r_t4 := r_t4.below hb
      replace ba_param := (hb.cell (p := ⟨w.heap.size, 0, none⟩) (by show w.heap.size < _; omega)).trans ba_param
      replace bb_param := (hb.cell (p := ⟨w.heap.size, 1, none⟩) (by show w.heap.size < _; omega)).trans bb_param
      replace ba_x0 := (hb.cell (p := ⟨w10.heap.size, 0, none⟩) (by show w10.heap.size < _; omega)).trans ba_x0
      replace bb_x0 := (hb.cell (p := ⟨w10.heap.size, 1, none⟩) (by show w10.heap.size < _; omega)).trans bb_x0
      clear hb
      go_wp2
      go_ret
      exact ⟨rfl, T⟩
    · have hk0 : (1048576 : Int) < (n0 : Int) := by omega
      have hk20 : (1048576 : Int) - (n0 : Int) < 0 := by omega
      go_enter Try.func7, Try.ntmps7
      go_wp2_with fail
      refine (Stk.sz_stack A0 n0 c0 m0 1048576 _ hx0 (by omega) (by omega)).mono ?_
      rintro e wz ⟨rfl, hb⟩
      rw [if_neg (show ¬ (n0 : Int) ≤ 1048576 by omega)]
      go_wp2
      go_ret
      exact ⟨rfl, ((Below.refl _ w).alloc (Nat.le_refl _) _).trans (hb.mono (by simp))⟩
  · have hk1 : (1048576 : Int) < (n1 : Int) := by omega
    go_enter Try.func7, Try.ntmps7
    go_wp2
    go_ret
    first | exact ⟨rfl, Below.refl _ w⟩ | exact ⟨rfl, (Below.refl _ w).alloc (Nat.le_refl _) _⟩
set_option maxRecDepth 100000 in
theorem lifted (os : Os) (started : os.Started) (H : Type) (enc : TypeId × Value → H) :
    ReturnsInHanded {} Try.checked os 7 .any (Rows.fnExactFindWindowSpec.pre6 enc Try.prog Try.f7 Rows.fnExactFindWindowRow.domain false) (Rows.fnExactFindWindowSpec.post enc Try.prog Try.f7 false true false false) := by
  refine returnsInHanded_of_change (C := Try.checked) Fr.own started (by kernel_rfl) Try.func7
    (ChangeSpec.witness6 (enc := enc) (C := Try.checked) false ⟨#[], #[.agg #[.slice none 0 0, .int .i64 0], .slice none 0 0], []⟩ 8 (by kernel_rfl) (by kernel_rfl) (by kernel_rfl) (by kernel_rfl)) ?_
  intro W base args ds gs before hval0 hW hcnd _
  have hval : ∀ (j : Nat) t v, Try.f7.params[j]? = some t → args[j]? = some v → Value.okWide Try.prog W .any base t v := hval0
  have hW' := hW
  obtain ⟨p, q, hA0, hV, rfl, hfz, hnd⟩ := hW
  have hA : DataW.TrodAll enc Try.prog W 0 (fun _ => true) true Try.f7.params.toList args.toList ds p := hA0
  have hAk := hA
  rw [Try.params7] at hA hval
  obtain ⟨v0, v1, d0, d1, p0, p1, rfl, rfl, hp, h0, h1⟩ := trodAll_two hA
  obtain ⟨rfl, rfl⟩ := trodVars_none hV
  have hlt : ∀ x ∈ p, x.block < W.heap.size := fun x hx => by simpa using hW'.lt x (List.mem_append_left _ hx)
  obtain ⟨A0, n0, c0, l0, m0, rfl, hn0, hm0, hs0, wm0, ha0⟩ := Stk.view_stack Try.underlying38 (by kernel_rfl) (by kernel_rfl) Try.underlying23 Try.underlying3 (by kernel_rfl) Try.underlying3 (hval 0 38 v0 rfl rfl) h0 (fun x hx => hlt x (by rw [hp]; simp [hx]))
  obtain ⟨A1, n1, c1, l1, rfl, hn1, hm1, hs1, ha1⟩ := Fr.view_nums Try.underlying23 Try.underlying3 (by kernel_rfl) (hval 1 23 v1 rfl rfl) h1 (fun x hx => hlt x (by rw [hp]; simp [hx]))
  clear hA0 hval0
  refine (walk A0 n0 c0 l0 m0 A1 n1 c1 l1 W hn0 hm0 hs0 wm0 ha0 hn1 hm1 hs1 ha1).mono fun e W' ⟨he, hb⟩ => ?_
  subst he
  exact ⟨_, rfl, _, _, _, [], p, [], hW', trodAll_mk1 (shut_bool Try.underlying4 _), Fr.below_all Fr.laidOut hb _ _ _ _ (Fr.readB_all (by kernel_rfl)) hAk hlt, rfl, hb.frame _, fun h => by cases h⟩

theorem proved : Rows.FnExactFindWindowSaid :=
  OpenClaim.holds_of_wide 7 Try.f7 rfl rfl rfl rfl rfl rfl rfl ⟨rfl, rfl, rfl, rfl, rfl⟩ rfl rfl rfl rfl rfl (by kernel_rfl) Try.func7 (by kernel_rfl)
    (of_decide_eq_true (by kernel_rfl)) (by unfold Func.isWrapper; first | (rw [if_pos (by decide +kernel)]; kernel_rfl) | (rw [if_neg (by decide +kernel)]; exact ⟨rfl, rfl⟩))
    (fun os started H enc _ => lifted os started H enc)

end Go.Proofs.Ytkonakfbidnfhaa.LawFindWindow
