/- The law of StepOk holds: for every argument the program's StepOk answers as its model does, changes no argument, and shares no memory. No condition. -/
import Derived.Deep.RegionHeld3
import Derived.Deep.RegionWith
import Derived.BigQuiet
import Derived.Test.YtibephoepkofnaaTso
import Derived.Test.YtibephoepkofnaaTip
import Derived.Test.YtibephoepkofnaaTrk
import Derived.Test.YtibephoepkofnaaScn
import Derived.Test.YtibephoepkofnaaTst
import Derived.Test.YtibephoepkofnaaPkt
import Derived.Test.YtibephoepkofnaaFrame
set_option linter.unusedVariables false
namespace Go.Proofs.Ytibephoepkofnaa.LawStepOk
open Go.ChangeShapes Go.WideShapes Go.ChangeAt Go.RowKit Fr _root_.Go.Proofs.Ytibephoepkofnaa.Own

set_option maxHeartbeats 4000000 in
theorem walk (n0 : Int) (k1 d1 q1 a1 : Int) (w : World) (wf0 : (Lit.int .i64 n0).wf = true) (hw1 : (Tst.SR.mk k1 d1 q1 a1).wf) :
    Calls Try.prog 3 #[.int .i64 n0, (Tst.SR.mk k1 d1 q1 a1).v] w fun e w' => e = .returned (.bool true) ∧ Below w.heap.size w w' := by
  obtain ⟨lo0, hi0⟩ := Ins.wf_lo wf0
  clear wf0
  have T : Below w.heap.size w w := Below.refl _ w
  go_enter Try.func3, Try.ntmps3
  obtain ⟨wp1, hbox1⟩ : ∃ W, W = World.alloc w (.cells #[.int .i64 k1, .int .i64 d1, .int .i64 q1, .int .i64 a1] 25) := ⟨_, rfl⟩
  have hbx0 := True.intro
  have hb : Below w.heap.size w wp1 := by rw [hbox1]; exact Tst.box_below _ _
  have sz_p1 : w.heap.size + 1 ≤ wp1.heap.size := by rw [hbox1]; simp
  have HX_p1 : Hid (wp1.heap[w.heap.size]? = some (.cells #[.int .i64 k1, .int .i64 d1, .int .i64 q1, .int .i64 a1] 25 (0, 0))) := Lib.hid (by rw [hbox1]; exact heap_alloc_new _ _)
  have s0 : w.heap.size ≤ wp1.heap.size := hb.size
  replace T := T.trans (hb.mono (by omega))
  clear hb
  have c0_p1 := (Tst.cell_at HX_p1.out 0).trans rfl
  have c1_p1 := (Tst.cell_at HX_p1.out 1).trans rfl
  have c2_p1 := (Tst.cell_at HX_p1.out 2).trans rfl
  have c3_p1 := (Tst.cell_at HX_p1.out 3).trans rfl
  go_wp2_with fail
  clear hbx0
  rw [← hbox1]
  clear hbox1
  refine (Tst.to_step ⟨k1, d1, q1, a1⟩ _).mono ?_
  rintro e w2 ⟨rfl, hb⟩
  have s2 : wp1.heap.size ≤ w2.heap.size := hb.size
  replace T := T.trans (hb.mono (by omega))
  clear c0_p1 c1_p1 c2_p1 c3_p1
  replace HX_p1 := Lib.hid ((hb.block (w.heap.size) (by omega)).trans HX_p1.out)
  have c0_p1 := (Tst.cell_at HX_p1.out 0).trans rfl
  have c1_p1 := (Tst.cell_at HX_p1.out 1).trans rfl
  have c2_p1 := (Tst.cell_at HX_p1.out 2).trans rfl
  have c3_p1 := (Tst.cell_at HX_p1.out 3).trans rfl
  clear hb
  go_wp2_with fail
  refine (Tso.spec_step n0 ⟨k1, d1, q1, a1⟩ _).mono ?_
  rintro e w4 ⟨rfl, hb⟩
  have s4 : w2.heap.size ≤ w4.heap.size := hb.size
  replace T := T.trans (hb.mono (by omega))
  clear c0_p1 c1_p1 c2_p1 c3_p1
  replace HX_p1 := Lib.hid ((hb.block (w.heap.size) (by omega)).trans HX_p1.out)
  have c0_p1 := (Tst.cell_at HX_p1.out 0).trans rfl
  have c1_p1 := (Tst.cell_at HX_p1.out 1).trans rfl
  have c2_p1 := (Tst.cell_at HX_p1.out 2).trans rfl
  have c3_p1 := (Tst.cell_at HX_p1.out 3).trans rfl
  clear hb
  go_wp2_with fail
  refine (Tst.to_step ⟨k1, d1, q1, a1⟩ _).mono ?_
  rintro e w6 ⟨rfl, hb⟩
  have s6 : w4.heap.size ≤ w6.heap.size := hb.size
  replace T := T.trans (hb.mono (by omega))
  clear c0_p1 c1_p1 c2_p1 c3_p1
  replace HX_p1 := Lib.hid ((hb.block (w.heap.size) (by omega)).trans HX_p1.out)
  have c0_p1 := (Tst.cell_at HX_p1.out 0).trans rfl
  have c1_p1 := (Tst.cell_at HX_p1.out 1).trans rfl
  have c2_p1 := (Tst.cell_at HX_p1.out 2).trans rfl
  have c3_p1 := (Tst.cell_at HX_p1.out 3).trans rfl
  clear hb
  go_wp2_with fail
  refine (Tip.impl_step n0 ⟨k1, d1, q1, a1⟩ _).mono ?_
  rintro e w8 ⟨rfl, hb⟩
  have s8 : w6.heap.size ≤ w8.heap.size := hb.size
  replace T := T.trans (hb.mono (by omega))
  clear c0_p1 c1_p1 c2_p1 c3_p1
  replace HX_p1 := Lib.hid ((hb.block (w.heap.size) (by omega)).trans HX_p1.out)
  have c0_p1 := (Tst.cell_at HX_p1.out 0).trans rfl
  have c1_p1 := (Tst.cell_at HX_p1.out 1).trans rfl
  have c2_p1 := (Tst.cell_at HX_p1.out 2).trans rfl
  have c3_p1 := (Tst.cell_at HX_p1.out 3).trans rfl
  clear hb
  go_wp2
  go_ret
  exact ⟨rfl, T⟩
set_option maxRecDepth 100000 in
theorem lifted (os : Os) (started : os.Started) (H : Type) (enc : TypeId × Value → H) :
    ReturnsInHanded {} Try.checked os 3 .any (Rows.fnExactStepOkSpec.pre6 enc Try.prog Try.f3 Rows.fnExactStepOkRow.domain false) (Rows.fnExactStepOkSpec.post enc Try.prog Try.f3 false true false false) := by
  refine returnsInHanded_of_change (C := Try.checked) Fr.own started (by kernel_rfl) Try.func3
    (ChangeSpec.witness6 (enc := enc) (C := Try.checked) false ⟨#[], #[.int .i64 0, .agg #[.int .i64 0, .int .i64 0, .int .i64 0, .int .i64 0]], []⟩ 8 (by kernel_rfl) (by kernel_rfl) (by kernel_rfl) (by kernel_rfl)) ?_
  intro W base args ds gs before hval0 hW hcnd _
  have hval : ∀ (j : Nat) t v, Try.f3.params[j]? = some t → args[j]? = some v → Value.okWide Try.prog W .any base t v := hval0
  have hW' := hW
  obtain ⟨p, q, hA0, hV, rfl, hfz, hnd⟩ := hW
  have hA : DataW.TrodAll enc Try.prog W 0 (fun _ => true) true Try.f3.params.toList args.toList ds p := hA0
  have hAk := hA
  rw [Try.params3] at hA hval
  obtain ⟨v0, v1, d0, d1, p0, p1, rfl, rfl, hp, h0, h1⟩ := trodAll_two hA
  obtain ⟨rfl, rfl⟩ := trodVars_none hV
  have hlt : ∀ x ∈ p, x.block < W.heap.size := fun x hx => by simpa using hW'.lt x (List.mem_append_left _ hx)
  obtain ⟨n0, rfl, wf0⟩ := Fr.view_int Try.underlying3 (hval 0 3 v0 rfl rfl) h0
  obtain ⟨⟨k1, d1, q1, a1⟩, rfl, hw1⟩ := Tst.view_step ⟨Try.underlying25, Try.underlying23, (by kernel_rfl), (by kernel_rfl), (by kernel_rfl), (by kernel_rfl), (by kernel_rfl), (by kernel_rfl), rfl, rfl, rfl, rfl, rfl, Try.underlying3, Try.underlying3, Try.underlying3, Try.underlying3⟩ (hval 1 25 v1 rfl rfl) h1
  clear hA0 hval0
  refine (walk n0 k1 d1 q1 a1 W wf0 hw1).mono fun e W' ⟨he, hb⟩ => ?_
  subst he
  exact ⟨_, rfl, _, _, _, [], p, [], hW', trodAll_mk1 (shut_bool Try.underlying4 _), Fr.below_all Fr.laidOut hb _ _ _ _ (Fr.readB_all (by kernel_rfl)) hAk hlt, rfl, hb.frame _, fun h => by cases h⟩

theorem proved : Rows.FnExactStepOkSaid :=
  OpenClaim.holds_of_wide 3 Try.f3 rfl rfl rfl rfl rfl rfl rfl ⟨rfl, rfl, rfl, rfl, rfl⟩ rfl rfl rfl rfl rfl (by kernel_rfl) Try.func3 (by kernel_rfl)
    (of_decide_eq_true (by kernel_rfl)) (by unfold Func.isWrapper; first | (rw [if_pos (by decide +kernel)]; kernel_rfl) | (rw [if_neg (by decide +kernel)]; exact ⟨rfl, rfl⟩))
    (fun os started H enc _ => lifted os started H enc)

end Go.Proofs.Ytibephoepkofnaa.LawStepOk
