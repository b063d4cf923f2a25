/- The law of FixedIndex holds: for every argument the program's FixedIndex answers as its model does, changes no argument, and shares no memory. No condition. -/
import Derived.Test.YtpfbjbakcfmngaaRns
import Derived.Test.YtpfbjbakcfmngaaRne
import Derived.Test.YtpfbjbakcfmngaaPkt
import Derived.Test.YtpfbjbakcfmngaaFrame
set_option linter.unusedVariables false
namespace Go.Proofs.Ytpfbjbakcfmngaa.LawFixedIndex
open Go.ChangeShapes Go.WideShapes Go.ChangeAt Go.RowKit Fr _root_.Go.Proofs.Ytpfbjbakcfmngaa.Own

set_option maxHeartbeats 4000000 in
theorem walk (n0 : Int) (n1 : Int) (n2 : Int) (w : World) (wf0 : (Lit.int .i64 n0).wf = true) (wf1 : (Lit.int .i64 n1).wf = true) (wf2 : (Lit.int .i64 n2).wf = true) :
    Calls Try.prog 11 #[.int .i64 n0, .int .i64 n1, .int .i64 n2] w fun e w' => e = .returned (.bool true) ∧ Below w.heap.size w w' := by
  obtain ⟨lo0, hi0⟩ := Ins.wf_lo wf0
  clear wf0
  obtain ⟨lo1, hi1⟩ := Ins.wf_lo wf1
  clear wf1
  obtain ⟨lo2, hi2⟩ := Ins.wf_lo wf2
  clear wf2
  have T : Below w.heap.size w w := Below.refl _ w
  go_enter Try.func11, Try.ntmps11
  go_wp2_with fail
  refine (Rns.spec_fixed n0 n1 n2 _ lo0 hi0 lo1 hi1).mono ?_
  rintro e w1 ⟨rfl, hb⟩
  have s1 : w.heap.size ≤ w1.heap.size := hb.size
  replace T := T.trans (hb.mono (by omega))
  clear hb
  go_wp2_with fail
  refine (Rne.impl_fixed n0 n1 n2 _ lo0 hi0 lo1 hi1).mono ?_
  rintro e w2 ⟨rfl, hb⟩
  have s2 : w1.heap.size ≤ w2.heap.size := hb.size
  replace T := T.trans (hb.mono (by omega))
  clear hb
  go_wp2
  go_ret
  exact ⟨rfl, T⟩
set_option maxRecDepth 100000 in
theorem lifted (os : Os) (started : os.Started) (H : Type) (enc : TypeId × Value → H) :
    ReturnsInHanded {} Try.checked os 11 .any (Rows.fnExactFixedIndexSpec.pre6 enc Try.prog Try.f11 Rows.fnExactFixedIndexRow.domain false) (Rows.fnExactFixedIndexSpec.post enc Try.prog Try.f11 false true false false) := by
  refine returnsInHanded_of_change (C := Try.checked) Fr.own started (by kernel_rfl) Try.func11
    (ChangeSpec.witness6 (enc := enc) (C := Try.checked) false ⟨#[], #[.int .i64 0, .int .i64 0, .int .i64 0], []⟩ 8 (by kernel_rfl) (by kernel_rfl) (by kernel_rfl) (by kernel_rfl)) ?_
  intro W base args ds gs before hval0 hW hcnd _
  have hval : ∀ (j : Nat) t v, Try.f11.params[j]? = some t → args[j]? = some v → Value.okWide Try.prog W .any base t v := hval0
  have hW' := hW
  obtain ⟨p, q, hA0, hV, rfl, hfz, hnd⟩ := hW
  have hA : DataW.TrodAll enc Try.prog W 0 (fun _ => true) true Try.f11.params.toList args.toList ds p := hA0
  have hAk := hA
  rw [Try.params11] at hA hval
  obtain ⟨v0, v1, v2, d0, d1, d2, p0, p1, p2, rfl, rfl, hp, h0, h1, h2⟩ := trodAll_three hA
  obtain ⟨rfl, rfl⟩ := trodVars_none hV
  have hlt : ∀ x ∈ p, x.block < W.heap.size := fun x hx => by simpa using hW'.lt x (List.mem_append_left _ hx)
  obtain ⟨n0, rfl, wf0⟩ := Fr.view_int Try.underlying3 (hval 0 3 v0 rfl rfl) h0
  obtain ⟨n1, rfl, wf1⟩ := Fr.view_int Try.underlying3 (hval 1 3 v1 rfl rfl) h1
  obtain ⟨n2, rfl, wf2⟩ := Fr.view_int Try.underlying3 (hval 2 3 v2 rfl rfl) h2
  clear hA0 hval0
  refine (walk n0 n1 n2 W wf0 wf1 wf2).mono fun e W' ⟨he, hb⟩ => ?_
  subst he
  exact ⟨_, rfl, _, _, _, [], p, [], hW', trodAll_mk1 (shut_bool Try.underlying4 _), Fr.below_all Fr.laidOut hb _ _ _ _ (Fr.readB_all (by kernel_rfl)) hAk hlt, rfl, hb.frame _, fun h => by cases h⟩

theorem proved : Rows.FnExactFixedIndexSaid :=
  OpenClaim.holds_of_wide 11 Try.f11 rfl rfl rfl rfl rfl rfl rfl ⟨rfl, rfl, rfl, rfl, rfl⟩ rfl rfl rfl rfl rfl (by kernel_rfl) Try.func11 (by kernel_rfl)
    (of_decide_eq_true (by kernel_rfl)) (by unfold Func.isWrapper; first | (rw [if_pos (by decide +kernel)]; kernel_rfl) | (rw [if_neg (by decide +kernel)]; exact ⟨rfl, rfl⟩))
    (fun os started H enc _ => lifted os started H enc)

end Go.Proofs.Ytpfbjbakcfmngaa.LawFixedIndex
