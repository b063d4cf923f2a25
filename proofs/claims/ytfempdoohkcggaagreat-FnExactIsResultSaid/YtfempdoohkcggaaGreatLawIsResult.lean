/- The law of IsResult holds: for every argument the program's IsResult answers as its model does, changes no argument, and shares no memory. No condition. -/
import Derived.Test.YtfempdoohkcggaaGreatRcx
import Derived.Test.YtfempdoohkcggaaGreatRo
import Derived.Test.YtfempdoohkcggaaGreatPkt
import Derived.Test.YtfempdoohkcggaaGreatFrame
set_option linter.unusedVariables false
namespace Go.Proofs.YtfempdoohkcggaaGreat.LawIsResult
open Go.ChangeShapes Go.WideShapes Go.ChangeAt Go.RowKit Fr _root_.Go.Proofs.YtfempdoohkcggaaGreat.Own

set_option maxHeartbeats 4000000 in
theorem walk (A0 : Option Addr) (n0 c0 : Nat) (l0 : List Int) (n1 : Int) (A2 : Option Addr) (n2 c2 : Nat) (l2 : List Int) (w : World) (hn0 : l0.length = n0) (hm0 : n0 ≤ maxLen) (hs0 : ∀ z ∈ l0, (Lit.int .i64 z).wf = true) (ha0 : IntsAt w w.heap.size .i64 A0 l0) (wf1 : (Lit.int .i64 n1).wf = true) (hn2 : l2.length = n2) (hm2 : n2 ≤ maxLen) (hs2 : ∀ z ∈ l2, (Lit.int .i64 z).wf = true) (ha2 : IntsAt w w.heap.size .i64 A2 l2) :
    Calls Tryz.prog 3 #[.slice A0 n0 c0, .int .i64 n1, .slice A2 n2 c2] w fun e w' => e = .returned (.bool true) ∧ Below w.heap.size w w' := by
  have hx0 : n0 ≤ 9223372036854775807 := by unfold maxLen at hm0; omega
  have hz0 := Ins.fits_of hs0
  have HN0 := Lib.hid hn0
  clear hn0 hm0 hs0
  obtain ⟨lo1, hi1⟩ := Ins.wf_lo wf1
  clear wf1
  have hx2 : n2 ≤ 9223372036854775807 := by unfold maxLen at hm2; omega
  have hz2 := Ins.fits_of hs2
  have HN2 := Lib.hid hn2
  clear hn2 hm2 hs2
  by_cases hg0 : n0 ≤ 1048576
  · have hk0 : decide ((1048576 : Int) < (n0 : Int)) = false := decide_eq_false (by omega)
    by_cases hg2 : n2 ≤ 1048576
    · have hk2 : decide ((1048576 : Int) < (n2 : Int)) = false := decide_eq_false (by omega)
      have T : Below w.heap.size w w := Below.refl _ w
      have f0 := ha0
      clear ha0
      have f2 := ha2
      clear ha2
      go_enter Tryz.func3, Tryz.ntmps3
      go_wp2_with fail
      refine (Ins.to_any A0 n0 c0 l0 _ HN0.out hg0 (f0.more T.size)).mono ?_
      rintro e w1 ⟨g_t1, rfl, hgg, hown, hb⟩
      have s1 : w.heap.size ≤ w1.heap.size := hb.size
      replace T := T.trans (hb.mono (by omega))
      replace f0 := Ins.at_below f0 hb (by omega)
      replace f2 := Ins.at_below f2 hb (by omega)
      clear hb
      have r_t1 := Ins.Row.mk hown
      clear hgg hown
      go_wp2_with fail
      refine (Ins.to_any A2 n2 c2 l2 _ HN2.out hg2 (f2.more T.size)).mono ?_
      rintro e w2 ⟨g_t2, rfl, hgg, hown, hb⟩
      have s2 : w1.heap.size ≤ w2.heap.size := hb.size
      replace T := T.trans (hb.mono (by omega))
      replace f0 := Ins.at_below f0 hb (by omega)
      replace f2 := Ins.at_below f2 hb (by omega)
      replace r_t1 := r_t1.below hb
      clear hb
      have r_t2 := Ins.Row.mk hown
      clear hgg hown
      go_wp2_with fail
      refine (Rcw.spec_isr (some ⟨g_t1, 0, none⟩) (some ⟨g_t2, 0, none⟩) n0 n0 n2 n2 l0 l2 n1 _ HN0.out (Nat.le_refl _) hz0 (by omega) r_t1.at_ HN2.out (by omega) r_t2.at_).mono ?_
      rintro e w3 ⟨rfl, hb⟩
      have s3 : w2.heap.size ≤ w3.heap.size := hb.size
      replace T := T.trans (hb.mono (by omega))
      replace f0 := Ins.at_below f0 hb (by omega)
      replace f2 := Ins.at_below f2 hb (by omega)
      replace r_t1 := r_t1.below hb
      replace r_t2 := r_t2.below hb
      clear hb
      go_wp2_with fail
      refine (Ins.to_any A0 n0 c0 l0 _ HN0.out hg0 (f0.more T.size)).mono ?_
      rintro e w4 ⟨g_x0, rfl, hgg, hown, hb⟩
      have s4 : w3.heap.size ≤ w4.heap.size := hb.size
      replace T := T.trans (hb.mono (by omega))
      replace f0 := Ins.at_below f0 hb (by omega)
      replace f2 := Ins.at_below f2 hb (by omega)
      replace r_t1 := r_t1.below hb
      replace r_t2 := r_t2.below hb
      clear hb
      have r_x0 := Ins.Row.mk hown
      clear hgg hown
      go_wp2_with fail
      refine (Ins.to_any A2 n2 c2 l2 _ HN2.out hg2 (f2.more T.size)).mono ?_
      rintro e w5 ⟨g_x2, rfl, hgg, hown, hb⟩
      have s5 : w4.heap.size ≤ w5.heap.size := hb.size
      replace T := T.trans (hb.mono (by omega))
      replace f0 := Ins.at_below f0 hb (by omega)
      replace f2 := Ins.at_below f2 hb (by omega)
      replace r_t1 := r_t1.below hb
      replace r_t2 := r_t2.below hb
      replace r_x0 := r_x0.below hb
      clear hb
      have r_x2 := Ins.Row.mk hown
      clear hgg hown
      go_wp2_with fail
      refine (Ro.impl_isr (some ⟨g_x0, 0, none⟩) (some ⟨g_x2, 0, none⟩) n0 n0 n2 n2 l0 l2 n1 _ HN0.out hz0 (by omega) r_x0.at_ HN2.out (by omega) r_x2.at_).mono ?_
      rintro e w6 ⟨rfl, hb⟩
      have s6 : w5.heap.size ≤ w6.heap.size := hb.size
      replace T := T.trans (hb.mono (by omega))
      replace f0 := Ins.at_below f0 hb (by omega)
      replace f2 := Ins.at_below f2 hb (by omega)
      replace r_t1 := r_t1.below hb
      replace r_t2 := r_t2.below hb
      replace r_x0 := r_x0.below hb
      replace r_x2 := r_x2.below hb
      clear hb
      go_wp2_with fail
      refine (Ins.to_any A0 n0 c0 l0 _ HN0.out hg0 (f0.more T.size)).mono ?_
      rintro e w7 ⟨g_t3, rfl, hgg, hown, hb⟩
      have s7 : w6.heap.size ≤ w7.heap.size := hb.size
      replace T := T.trans (hb.mono (by omega))
      replace f0 := Ins.at_below f0 hb (by omega)
      replace f2 := Ins.at_below f2 hb (by omega)
      replace r_t1 := r_t1.below hb
      replace r_t2 := r_t2.below hb
      replace r_x0 := r_x0.below hb
      replace r_x2 := r_x2.below hb
      clear hb
      have r_t3 := Ins.Row.mk hown
      clear hgg hown
      go_wp2_with fail
      refine (Ins.eq_same (some ⟨g_x0, 0, none⟩) (some ⟨g_t3, 0, none⟩) n0 n0 n0 l0 _ HN0.out (by omega) r_x0.at_ r_t3.at_).mono ?_
      rintro e w8 ⟨rfl, hb⟩
      have s8 : w7.heap.size ≤ w8.heap.size := hb.size
      replace T := T.trans (hb.mono (by omega))
      replace f0 := Ins.at_below f0 hb (by omega)
      replace f2 := Ins.at_below f2 hb (by omega)
      replace r_t1 := r_t1.below hb
      replace r_t2 := r_t2.below hb
      replace r_x0 := r_x0.below hb
      replace r_x2 := r_x2.below hb
      replace r_t3 := r_t3.below hb
      clear hb
      go_wp2_with fail
      refine (Ins.to_any A2 n2 c2 l2 _ HN2.out hg2 (f2.more T.size)).mono ?_
      rintro e w9 ⟨g_t4, rfl, hgg, hown, hb⟩
      have s9 : w8.heap.size ≤ w9.heap.size := hb.size
      replace T := T.trans (hb.mono (by omega))
      replace f0 := Ins.at_below f0 hb (by omega)
      replace f2 := Ins.at_below f2 hb (by omega)
      replace r_t1 := r_t1.below hb
      replace r_t2 := r_t2.below hb
      replace r_x0 := r_x0.below hb
      replace r_x2 := r_x2.below hb
      replace r_t3 := r_t3.below hb
      clear hb
      have r_t4 := Ins.Row.mk hown
      clear hgg hown
      go_wp2_with fail
      refine (Ins.eq_same (some ⟨g_x2, 0, none⟩) (some ⟨g_t4, 0, none⟩) n2 n2 n2 l2 _ HN2.out (by omega) r_x2.at_ r_t4.at_).mono ?_
      rintro e w10 ⟨rfl, hb⟩
      have s10 : w9.heap.size ≤ w10.heap.size := hb.size
      replace T := T.trans (hb.mono (by omega))
      replace f0 := Ins.at_below f0 hb (by omega)
      replace f2 := Ins.at_below f2 hb (by omega)
      replace r_t1 := r_t1.below hb
      replace r_t2 := r_t2.below hb
      replace r_x0 := r_x0.below hb
      replace r_x2 := r_x2.below hb
      replace r_t3 := r_t3.below hb
      replace r_t4 := r_t4.below hb
      clear hb
      go_wp2
      go_ret
      exact ⟨rfl, T⟩
    · have hk2 : (1048576 : Int) < (n2 : Int) := by omega
      go_enter Tryz.func3, Tryz.ntmps3
      go_wp2
      go_ret
      first | exact ⟨rfl, Below.refl _ w⟩ | exact ⟨rfl, (Below.refl _ w).alloc (Nat.le_refl _) _⟩
  · have hk0 : (1048576 : Int) < (n0 : Int) := by omega
    go_enter Tryz.func3, Tryz.ntmps3
    go_wp2
    go_ret
    first | exact ⟨rfl, Below.refl _ w⟩ | exact ⟨rfl, (Below.refl _ w).alloc (Nat.le_refl _) _⟩
set_option maxRecDepth 100000 in
theorem lifted (os : Os) (started : os.Started) (H : Type) (enc : TypeId × Value → H) :
    ReturnsInHanded {} Tryz.checked os 3 .any (Rows.fnExactIsResultSpec.pre6 enc Tryz.prog Tryz.f3 Rows.fnExactIsResultRow.domain false) (Rows.fnExactIsResultSpec.post enc Tryz.prog Tryz.f3 false true false false) := by
  refine returnsInHanded_of_change (C := Tryz.checked) Fr.own started (by kernel_rfl) Tryz.func3
    (ChangeSpec.witness6 (enc := enc) (C := Tryz.checked) false ⟨#[], #[.slice none 0 0, .int .i64 0, .slice none 0 0], []⟩ 8 (by kernel_rfl) (by kernel_rfl) (by kernel_rfl) (by kernel_rfl)) ?_
  intro W base args ds gs before hval0 hW hcnd _
  have hval : ∀ (j : Nat) t v, Tryz.f3.params[j]? = some t → args[j]? = some v → Value.okWide Tryz.prog W .any base t v := hval0
  have hW' := hW
  obtain ⟨p, q, hA0, hV, rfl, hfz, hnd⟩ := hW
  have hA : DataW.TrodAll enc Tryz.prog W 0 (fun _ => true) true Tryz.f3.params.toList args.toList ds p := hA0
  have hAk := hA
  rw [Tryz.params3] at hA hval
  obtain ⟨v0, v1, v2, d0, d1, d2, p0, p1, p2, rfl, rfl, hp, h0, h1, h2⟩ := trodAll_three hA
  obtain ⟨rfl, rfl⟩ := trodVars_none hV
  have hlt : ∀ x ∈ p, x.block < W.heap.size := fun x hx => by simpa using hW'.lt x (List.mem_append_left _ hx)
  obtain ⟨A0, n0, c0, l0, rfl, hn0, hm0, hs0, ha0⟩ := Fr.view_nums Tryz.underlying22 Tryz.underlying3 (by kernel_rfl) (hval 0 22 v0 rfl rfl) h0 (fun x hx => hlt x (by rw [hp]; simp [hx]))
  obtain ⟨n1, rfl, wf1⟩ := Fr.view_int Tryz.underlying3 (hval 1 3 v1 rfl rfl) h1
  obtain ⟨A2, n2, c2, l2, rfl, hn2, hm2, hs2, ha2⟩ := Fr.view_nums Tryz.underlying22 Tryz.underlying3 (by kernel_rfl) (hval 2 22 v2 rfl rfl) h2 (fun x hx => hlt x (by rw [hp]; simp [hx]))
  clear hA0 hval0
  refine (walk A0 n0 c0 l0 n1 A2 n2 c2 l2 W hn0 hm0 hs0 ha0 wf1 hn2 hm2 hs2 ha2).mono fun e W' ⟨he, hb⟩ => ?_
  subst he
  exact ⟨_, rfl, _, _, _, [], p, [], hW', trodAll_mk1 (shut_bool Tryz.underlying4 _), Fr.below_all Fr.laidOut hb _ _ _ _ (Fr.readB_all (by kernel_rfl)) hAk hlt, rfl, hb.frame _, fun h => by cases h⟩

theorem proved : Rows.FnExactIsResultSaid :=
  OpenClaim.holds_of_wide 3 Tryz.f3 rfl rfl rfl rfl rfl rfl rfl ⟨rfl, rfl, rfl, rfl, rfl⟩ rfl rfl rfl rfl rfl (by kernel_rfl) Tryz.func3 (by kernel_rfl)
    (of_decide_eq_true (by kernel_rfl)) (by unfold Func.isWrapper; first | (rw [if_pos (by decide +kernel)]; kernel_rfl) | (rw [if_neg (by decide +kernel)]; exact ⟨rfl, rfl⟩))
    (fun os started H enc _ => lifted os started H enc)

end Go.Proofs.YtfempdoohkcggaaGreat.LawIsResult
