/- The law of KnowOk holds: for every argument the program's KnowOk answers as its model does, changes no argument, and shares no memory. No condition. -/
import Derived.Test.YthcggkhpamjjbaaBig
import Derived.Test.YthcggkhpamjjbaaKno
import Derived.Test.YthcggkhpamjjbaaKni
import Derived.Test.YthcggkhpamjjbaaPkt
import Derived.Test.YthcggkhpamjjbaaFrame
set_option linter.unusedVariables false
namespace Go.Proofs.Ythcggkhpamjjbaa.LawKnowOk
open Go.ChangeShapes Go.WideShapes Go.ChangeAt Go.RowKit Fr _root_.Go.Proofs.Ythcggkhpamjjbaa.Own

set_option maxHeartbeats 4000000 in
theorem walk (A0 : Option Addr) (n0 c0 : Nat) (l0 : List Rws.RD) (w : World) (hn0 : l0.length = n0) (hm0 : n0 ≤ maxLen) (hs0 : Sst.WfSS l0) (ha0 : Sst.SSAt w w.heap.size A0 l0) :
    Calls Try.prog 3 #[.slice A0 n0 c0] w fun e w' => e = .returned (.bool true) ∧ Below w.heap.size w w' := by
  have hx0 : n0 ≤ 9223372036854775807 := by unfold maxLen at hm0; omega
  have HN0 := Lib.hid hn0
  have HS0 := Lib.hid hs0
  clear hn0 hm0 hs0
  by_cases hg0 : n0 + Rws.tot l0 n0 ≤ 1048576
  · have hgn0 : n0 ≤ 1048576 := by omega
    have HBG0 := Lib.hid (Big.big_of HN0.out hg0)
    have HLN0 := Lib.hid (fun i (_ : i < n0) => Big.big_len rfl HBG0.out i)
    have T : Below w.heap.size w w := Below.refl _ w
    have f0 := ha0
    clear ha0
    go_enter Try.func3, Try.ntmps3
    go_wp2_with fail
    refine (Sst.sz_ss A0 n0 c0 l0 1048576 _ HN0.out hx0 HS0.out (by omega) f0).mono ?_
    rintro e w' ⟨rfl, rfl⟩
    rw [if_pos hg0]
    have hz_0 : decide ((1048576 : Int) - (n0 : Int) - (Rws.tot l0 n0 : Int) < 0) = false := decide_eq_false (by omega)
    go_wp2_with fail
    refine (Sst.to_ss A0 n0 c0 l0 _ HN0.out hgn0 HLN0.out (f0.more T.size)).mono ?_
    rintro e w1 ⟨g_t1, rs_t1, rfl, hz_t1, hnn_t1, hown, hb⟩
    clear hnn_t1
    have s1 : w.heap.size ≤ w1.heap.size := hb.size
    replace T := T.trans (hb.mono (by omega))
    replace f0 := f0.below (hb.mono (by omega))
    clear hb
    have r_t1 := hown
    clear hown
    go_wp2_with fail
    refine (Kno.spec_know (some ⟨g_t1, 0, none⟩) n0 n0 rs_t1 _ r_t1.len (Sst.at_of r_t1) (Kno.fits_of HS0.out hz_t1 r_t1.len) (fun i _ => Big.big_len hz_t1 HBG0.out i) (by omega)).mono ?_
    rintro e w2 ⟨rfl, hb⟩
    have s2 : w1.heap.size ≤ w2.heap.size := hb.size
    replace T := T.trans (hb.mono (by omega))
    replace f0 := f0.below (hb.mono (by omega))
    replace r_t1 := r_t1.below hb
    clear hb
    go_wp2_with fail
    refine (Sst.to_ss A0 n0 c0 l0 _ HN0.out hgn0 HLN0.out (f0.more T.size)).mono ?_
    rintro e w3 ⟨g_x0, rs_x0, rfl, hz_x0, hnn_x0, hown, hb⟩
    clear hnn_x0
    have s3 : w2.heap.size ≤ w3.heap.size := hb.size
    replace T := T.trans (hb.mono (by omega))
    replace f0 := f0.below (hb.mono (by omega))
    replace r_t1 := r_t1.below hb
    clear hb
    have r_x0 := hown
    clear hown
    go_wp2_with fail
    refine (Kni.impl_know (some ⟨g_x0, 0, none⟩) n0 n0 rs_x0 _ r_x0.len (Sst.at_of r_x0) (Kno.fits_of HS0.out hz_x0 r_x0.len) (fun i _ => Big.big_len hz_x0 HBG0.out i) (by omega)).mono ?_
    rintro e w4 ⟨rfl, hb⟩
    have s4 : w3.heap.size ≤ w4.heap.size := hb.size
    replace T := T.trans (hb.mono (by omega))
    replace f0 := f0.below (hb.mono (by omega))
    replace r_t1 := r_t1.below hb
    replace r_x0 := r_x0.below hb
    clear hb
    go_wp2_with fail
    refine (Sst.to_ss A0 n0 c0 l0 _ HN0.out hgn0 HLN0.out (f0.more T.size)).mono ?_
    rintro e w5 ⟨g_t2, rs_t2, rfl, hz_t2, hnn_t2, hown, hb⟩
    clear hnn_t2
    have s5 : w4.heap.size ≤ w5.heap.size := hb.size
    replace T := T.trans (hb.mono (by omega))
    replace f0 := f0.below (hb.mono (by omega))
    replace r_t1 := r_t1.below hb
    replace r_x0 := r_x0.below hb
    clear hb
    have r_t2 := hown
    clear hown
    go_wp2_with fail
    refine (Rws.eq_ss _ _ _ _ (some ⟨g_x0, 0, none⟩) (some ⟨g_t2, 0, none⟩) n0 n0 n0 rs_x0 rs_t2 _ r_x0 r_t2 (hz_x0.trans hz_t2.symm) (by omega) (fun i _ => Nat.le_trans (Big.big_len hz_x0 HBG0.out i) (by omega))).mono ?_
    rintro e w6 ⟨rfl, hb⟩
    have s6 : w5.heap.size ≤ w6.heap.size := hb.size
    replace T := T.trans (hb.mono (by omega))
    replace f0 := f0.below (hb.mono (by omega))
    replace r_t1 := r_t1.below hb
    replace r_x0 := r_x0.below hb
    replace r_t2 := r_t2.below hb
    clear hb
    go_wp2
    go_ret
    exact ⟨rfl, T⟩
  · go_enter Try.func3, Try.ntmps3
    go_wp2_with fail
    refine (Sst.sz_ss A0 n0 c0 l0 1048576 _ HN0.out hx0 HS0.out (by omega) ha0).mono ?_
    rintro e w' ⟨rfl, rfl⟩
    rw [if_neg hg0]
    go_wp2
    go_ret
    exact ⟨rfl, Below.refl _ w⟩
set_option maxRecDepth 100000 in
theorem lifted (os : Os) (started : os.Started) (H : Type) (enc : TypeId × Value → H) :
    ReturnsInHanded {} Try.checked os 3 .any (Rows.fnExactKnowOkSpec.pre6 enc Try.prog Try.f3 Rows.fnExactKnowOkRow.domain false) (Rows.fnExactKnowOkSpec.post enc Try.prog Try.f3 false true false false) := by
  refine returnsInHanded_of_change (C := Try.checked) Fr.own started (by kernel_rfl) Try.func3
    (ChangeSpec.witness6 (enc := enc) (C := Try.checked) false ⟨#[], #[.slice none 0 0], []⟩ 8 (by kernel_rfl) (by kernel_rfl) (by kernel_rfl) (by kernel_rfl)) ?_
  intro W base args ds gs before hval0 hW hcnd _
  have hval : ∀ (j : Nat) t v, Try.f3.params[j]? = some t → args[j]? = some v → Value.okWide Try.prog W .any base t v := hval0
  have hW' := hW
  obtain ⟨p, q, hA0, hV, rfl, hfz, hnd⟩ := hW
  have hA : DataW.TrodAll enc Try.prog W 0 (fun _ => true) true Try.f3.params.toList args.toList ds p := hA0
  have hAk := hA
  rw [Try.params3] at hA hval
  obtain ⟨v0, d0, rfl, rfl, h0⟩ := trodAll_one hA
  obtain ⟨rfl, rfl⟩ := trodVars_none hV
  have hlt : ∀ x ∈ p, x.block < W.heap.size := fun x hx => by simpa using hW'.lt x (List.mem_append_left _ hx)
  obtain ⟨A0, n0, c0, l0, rfl, hn0, hm0, hs0, ha0⟩ := Sst.view_intss Try.underlying22 Try.underlying31 Try.underlying3 (by kernel_rfl) (by kernel_rfl) (hval 0 22 v0 rfl rfl) h0 hlt
  clear hA0 hval0
  refine (walk A0 n0 c0 l0 W hn0 hm0 hs0 ha0).mono fun e W' ⟨he, hb⟩ => ?_
  subst he
  exact ⟨_, rfl, _, _, _, [], p, [], hW', trodAll_mk1 (shut_bool Try.underlying4 _), Fr.below_all Fr.laidOut hb _ _ _ _ (Fr.readB_all (by kernel_rfl)) hAk hlt, rfl, hb.frame _, fun h => by cases h⟩

theorem proved : Rows.FnExactKnowOkSaid :=
  OpenClaim.holds_of_wide 3 Try.f3 rfl rfl rfl rfl rfl rfl rfl ⟨rfl, rfl, rfl, rfl, rfl⟩ rfl rfl rfl rfl rfl (by kernel_rfl) Try.func3 (by kernel_rfl)
    (of_decide_eq_true (by kernel_rfl)) (by unfold Func.isWrapper; first | (rw [if_pos (by decide +kernel)]; kernel_rfl) | (rw [if_neg (by decide +kernel)]; exact ⟨rfl, rfl⟩))
    (fun os started H enc _ => lifted os started H enc)

end Go.Proofs.Ythcggkhpamjjbaa.LawKnowOk
