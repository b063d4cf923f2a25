/- The law of SplitAny holds: for all strings the program's SplitAny answers as its model does, and its answers own their memory. No condition. -/
import Derived.Test.YtaphphelimpgmaaSplit
import Derived.Test.YtaphphelimpgmaaFrame
set_option linter.unusedVariables false
namespace Go.Proofs.Ytaphphelimpgmaa.LawSplit
open Go.ChangeShapes Go.WideShapes Go.ChangeAt Go.RowKit Joi Str Fr Own Spl

theorem own_len {w : World} {B g n c : Nat} {ss : List ByteArray} (h : w.ownsRow B 9 1 (.slice (some ⟨g, 0, none⟩) n c) n (ss.map Value.string)) : ss.length = n := by
  have := h.1; simpa using this

set_option maxHeartbeats 4000000 in
theorem walk (s by_ : ByteArray) (w : World) (hs : s.size ≤ maxLen) (hby : by_.size ≤ maxLen) :
    Calls Try.prog 5 #[.string s, .string by_] w fun e w' => e = .returned (.bool true) ∧ Below w.heap.size w w' := by
  have hs0 : s.size ≤ 9223372036854775807 := by unfold maxLen at hs; omega
  have hb0 : by_.size ≤ 9223372036854775807 := by unfold maxLen at hby; omega
  by_cases h1 : s.size ≤ 1048576
  · have h1' : decide ((1048576 : Int) < (s.size : Int)) = false := decide_eq_false (by omega)
    by_cases h2 : by_.size ≤ 1048576
    · have h2' : decide ((1048576 : Int) < (by_.size : Int)) = false := decide_eq_false (by omega)
      have hpl := parts_len s by_
      have hpl2 := splitTo_len s by_ s.size
      have hn : (parts s by_).length ≤ 1048577 := by omega
      clear hpl hpl2
      generalize hpp : parts s by_ = ss at hn
      have HPP := Lib.hid hpp
      clear hpp
      go_enter Try.func5, Try.ntmps5
      go_wp2_with fail
      refine (spec_any s by_ _ h1 h2).mono ?_
      rintro e w1 ⟨g1, c1, rfl, hown1, hb1⟩
      rw [HPP.out] at hown1
      rw [HPP.out]
      have hg1 := hown1.lt g1 rfl
      have hz1 := hb1.size
      go_wp2_with fail
      refine (impl_any s by_ _ h1 h2).mono ?_
      rintro e w2 ⟨g2, c2, rfl, hown2, hb2⟩
      rw [HPP.out] at hown2
      rw [HPP.out]
      have hg2 := hown2.lt g2 rfl
      have hz2 := hb2.size
      have ha1 : StrsAt w2 w1.heap.size (some ⟨g1, 0, none⟩) ss := ((own_strs hown1).more (by omega)).below hb2
      go_wp2_with fail
      refine (eq_same _ _ ss.length c2 c1 ss _ rfl (by omega) ((own_strs hown2).more (by omega)) (ha1.more hz2)).mono ?_
      rintro e w3 ⟨rfl, hb3⟩
      have hz3 := hb3.size
      have hown3 := own_below hown2 hb3
      go_wp2_with fail
      refine (Mrk.mark_any w1.heap.size 1 ss.length g2 c2 _ _ (by omega) (by omega) (by omega) hown3).mono ?_
      rintro e w4 ⟨rfl, hown4, hb4⟩
      have hz4 := hb4.size
      have hml := Mrk.marks_length 1 ss.length
      have hx4 : StrsAt w4 w4.heap.size (some ⟨g2, 0, none⟩) (Mrk.marks 1 ss.length) := (own_strs hown4).more (by omega)
      go_wp2_with fail
      refine (Mrk.held_any 1 ss.length c2 _ _ (by omega) (by omega) hx4).mono ?_
      rintro e w5 ⟨rfl, hb5⟩
      have hz5 := hb5.size
      have hown5 := own_below hown4 hb5
      have hb04 : Below w1.heap.size w2 w5 := ((hb3.mono hz2).trans hb4).trans (hb5.mono (by omega))
      go_wp2_with fail
      refine (impl_any s by_ _ h1 h2).mono ?_
      rintro e w6 ⟨g3, c3, rfl, hown6, hb6⟩
      rw [HPP.out] at hown6
      rw [HPP.out]
      have hg6 := hown6.lt g3 rfl
      have hz6 := hb6.size
      have hb06 : Below w1.heap.size w2 w6 := hb04.trans (hb6.mono (by omega))
      have ha6 : StrsAt w6 w6.heap.size (some ⟨g1, 0, none⟩) ss := (ha1.below hb06).more (by omega)
      go_wp2_with fail
      refine (eq_same _ _ ss.length c3 c1 ss _ rfl (by omega) ((own_strs hown6).more (by omega)) ha6).mono ?_
      rintro e w7 ⟨rfl, hb7⟩
      have hz7 := hb7.size
      have hown7 := own_under (own_under hown5 hb6 (by omega)) hb7 (by omega)
      have hx7 : StrsAt w7 w7.heap.size (some ⟨g2, 0, none⟩) (Mrk.marks 1 ss.length) := (own_strs hown7).more (by omega)
      go_wp2_with fail
      refine (Mrk.held_any 1 ss.length c2 _ _ (by omega) (by omega) hx7).mono ?_
      rintro e w8 ⟨rfl, hb8⟩
      have hbz : Below w.heap.size w w8 := hb1.trans (((hb2.trans hb06).trans ((hb7.mono (by omega)).trans (hb8.mono (by omega)))).mono hz1)
      go_wp2
      go_ret
      exact ⟨rfl, hbz⟩
    · have h2' : (1048576 : Int) < (by_.size : Int) := by omega
      go_enter Try.func5, Try.ntmps5
      go_wp2
      go_ret
      exact ⟨rfl, Below.refl _ w⟩
  · have h1' : (1048576 : Int) < (s.size : Int) := by omega
    go_enter Try.func5, Try.ntmps5
    go_wp2
    go_ret
    exact ⟨rfl, Below.refl _ w⟩

set_option maxRecDepth 100000 in
theorem lifted (os : Os) (started : os.Started) (H : Type) (enc : TypeId × Value → H) :
    ReturnsInHanded {} Try.checked os 5 .any (Rows.fnExactSplitAnySpec.pre6 enc Try.prog Try.f5 Rows.fnExactSplitAnyRow.domain false) (Rows.fnExactSplitAnySpec.post enc Try.prog Try.f5 false true false false) := by
  refine returnsInHanded_of_change (C := Try.checked) Fr.own started (by kernel_rfl) Try.func5
    (ChangeSpec.witness6 (enc := enc) (C := Try.checked) false ⟨#[], #[.string ⟨#[]⟩, .string ⟨#[]⟩], []⟩ 8 (by kernel_rfl) (by kernel_rfl) (by kernel_rfl) (by kernel_rfl)) ?_
  intro W base args ds gs before hval0 hW hcnd _
  have hval : ∀ (j : Nat) t v, Try.f5.params[j]? = some t → args[j]? = some v → Value.okWide Try.prog W .any base t v := hval0
  have hW' := hW
  obtain ⟨p, q, hA0, hV, rfl, hfz, hnd⟩ := hW
  have hA : DataW.TrodAll enc Try.prog W 0 (fun _ => true) true Try.f5.params.toList args.toList ds p := hA0
  have hAk := hA
  rw [Try.params5] at hA hval
  obtain ⟨v0, v1, d0, d1, p0, p1, rfl, rfl, hp, h0, h1⟩ := trodAll_two hA
  obtain ⟨rfl, rfl⟩ := trodVars_none hV
  have hlt : ∀ x ∈ p, x.block < W.heap.size := fun x hx => by simpa using hW'.lt x (List.mem_append_left _ hx)
  obtain ⟨s0, rfl, hs0⟩ := Fr.view_string Try.underlying9 (hval 0 9 v0 rfl rfl) h0
  obtain ⟨s1, rfl, hs1⟩ := Fr.view_string Try.underlying9 (hval 1 9 v1 rfl rfl) h1
  clear hA0 hval0
  refine (walk s0 s1 W hs0 hs1).mono fun e W' ⟨he, hb⟩ => ?_
  subst he
  exact ⟨_, rfl, _, _, _, [], p, [], hW', trodAll_mk1 (shut_bool Try.underlying4 _), Fr.below_all Fr.laidOut hb _ _ _ _ (Fr.readB_all (by kernel_rfl)) hAk hlt, rfl, hb.frame _, fun h => by cases h⟩

theorem proved : Rows.FnExactSplitAnySaid :=
  OpenClaim.holds_of_wide 5 Try.f5 rfl rfl rfl rfl rfl rfl rfl ⟨rfl, rfl, rfl, rfl, rfl⟩ rfl rfl rfl rfl rfl (by kernel_rfl) Try.func5 (by kernel_rfl)
    (of_decide_eq_true (by kernel_rfl)) (by unfold Func.isWrapper; first | (rw [if_pos (by decide +kernel)]; kernel_rfl) | (rw [if_neg (by decide +kernel)]; exact ⟨rfl, rfl⟩))
    (fun os started H enc _ => lifted os started H enc)

end Go.Proofs.Ytaphphelimpgmaa.LawSplit
