/- The law of IsForced holds: for every argument the program's IsForced answers as its model does, changes no argument, and shares no memory. No condition. -/
import Derived.Test.YtjmfdflhplobmaaNob
import Derived.Test.YtjmfdflhplobmaaFes
import Derived.Test.YtjmfdflhplobmaaFen
import Derived.Test.YtjmfdflhplobmaaPkt
import Derived.Test.YtjmfdflhplobmaaFrame
set_option linter.unusedVariables false
namespace Go.Proofs.Ytjmfdflhplobmaa.LawIsForced
open Go.ChangeShapes Go.WideShapes Go.ChangeAt Go.RowKit Fr _root_.Go.Proofs.Ytjmfdflhplobmaa.Own

set_option maxHeartbeats 4000000 in
theorem walk (A0 : Option Addr) (n0 c0 : Nat) (l0 : List Nod.NR) (n1 : Int) (w : World) (hn0 : l0.length = n0) (hm0 : n0 ≤ maxLen) (hs0 : Nod.WfN l0) (ha0 : Nod.NodesAt w w.heap.size A0 l0) (wf1 : (Lit.int .i64 n1).wf = true) :
    Calls Try.prog 7 #[.slice A0 n0 c0, .int .i64 n1] w fun e w' => e = .returned (.bool true) ∧ Below w.heap.size w w' := by
  have hx0 : n0 ≤ 9223372036854775807 := by unfold maxLen at hm0; omega
  have HN0 := Lib.hid hn0
  have HS0 := Lib.hid hs0
  clear hn0 hm0 hs0
  obtain ⟨lo1, hi1⟩ := Ins.wf_lo wf1
  clear wf1
  by_cases hg0 : n0 + Nod.btot l0 n0 ≤ 1048576
  · have hgn0 : n0 ≤ 1048576 := by omega
    have HBG0 := Lib.hid (Nob.big_of HN0.out hg0)
    have HFT0 := Lib.hid (Nob.fit_of HS0.out)
    have HLN0 := Lib.hid (fun i (_ : i < n0) => Nob.big_len rfl HBG0.out i)
    have T : Below w.heap.size w w := Below.refl _ w
    have f0 := ha0
    clear ha0
    go_enter Try.func7, Try.ntmps7
    go_wp2_with fail
    refine (Nod.sz_nodes A0 n0 c0 l0 1048576 _ HN0.out hx0 HS0.out (by omega) f0).mono ?_
    rintro e w1 ⟨rfl, hb⟩
    rw [if_pos hg0]
    have s1 : w.heap.size ≤ w1.heap.size := hb.size
    replace T := T.trans (hb.mono (by omega))
    replace f0 := f0.below (hb.mono (by omega))
    clear hb
    have hz_0 : decide (((1048576 : Nat) : Int) - ((n0 + Nod.btot l0 n0 : Nat) : Int) < 0) = false := decide_eq_false (by omega)
    go_wp2_with fail
    refine (Nod.to_nodes A0 n0 c0 l0 _ HN0.out hgn0 HLN0.out (f0.more T.size)).mono ?_
    rintro e w2 ⟨g_t1, rs_t1, rfl, hz_t1, hown, hb⟩
    have s2 : w1.heap.size ≤ w2.heap.size := hb.size
    replace T := T.trans (hb.mono (by omega))
    replace f0 := f0.below (hb.mono (by omega))
    clear hb
    have r_t1 := hown
    clear hown
    go_wp2_with fail
    refine (Fes.spec_forced (some ⟨g_t1, 0, none⟩) n0 n0 rs_t1 _ n1 _ hz_t1 r_t1.2 (Nat.le_refl _) HFT0.out HBG0.out r_t1.at_).mono ?_
    rintro e w3 ⟨rfl, hb⟩
    have s3 : w2.heap.size ≤ w3.heap.size := hb.size
    replace T := T.trans (hb.mono (by omega))
    replace f0 := f0.below (hb.mono (by omega))
    replace r_t1 := r_t1.below hb
    clear hb
    go_wp2_with fail
    refine (Nod.to_nodes A0 n0 c0 l0 _ HN0.out hgn0 HLN0.out (f0.more T.size)).mono ?_
    rintro e w4 ⟨g_x0, rs_x0, rfl, hz_x0, hown, hb⟩
    have s4 : w3.heap.size ≤ w4.heap.size := hb.size
    replace T := T.trans (hb.mono (by omega))
    replace f0 := f0.below (hb.mono (by omega))
    replace r_t1 := r_t1.below hb
    clear hb
    have r_x0 := hown
    clear hown
    go_wp2_with fail
    refine (Fen.impl_forced (some ⟨g_x0, 0, none⟩) n0 n0 rs_x0 _ n1 _ hz_x0 r_x0.2 (Nat.le_refl _) HFT0.out HBG0.out r_x0.at_).mono ?_
    rintro e w5 ⟨rfl, hb⟩
    have s5 : w4.heap.size ≤ w5.heap.size := hb.size
    replace T := T.trans (hb.mono (by omega))
    replace f0 := f0.below (hb.mono (by omega))
    replace r_t1 := r_t1.below hb
    replace r_x0 := r_x0.below hb
    clear hb
    go_wp2_with fail
    refine (Nod.to_nodes A0 n0 c0 l0 _ HN0.out hgn0 HLN0.out (f0.more T.size)).mono ?_
    rintro e w6 ⟨g_t2, rs_t2, rfl, hz_t2, hown, hb⟩
    have s6 : w5.heap.size ≤ w6.heap.size := hb.size
    replace T := T.trans (hb.mono (by omega))
    replace f0 := f0.below (hb.mono (by omega))
    replace r_t1 := r_t1.below hb
    replace r_x0 := r_x0.below hb
    clear hb
    have r_t2 := hown
    clear hown
    go_wp2_with fail
    refine (Nod.eq_nodes (some ⟨g_x0, 0, none⟩) (some ⟨g_t2, 0, none⟩) n0 n0 n0 rs_x0 rs_t2 _ r_x0.2 (hz_x0.trans hz_t2.symm) (by omega) (fun j _ => Nat.le_trans (Nob.big_len hz_x0 HBG0.out j) (by omega)) r_x0.at_ r_t2.at_).mono ?_
    rintro e w7 ⟨rfl, hb⟩
    have s7 : w6.heap.size ≤ w7.heap.size := hb.size
    replace T := T.trans (hb.mono (by omega))
    replace f0 := f0.below (hb.mono (by omega))
    replace r_t1 := r_t1.below hb
    replace r_x0 := r_x0.below hb
    replace r_t2 := r_t2.below hb
    clear hb
    go_wp2
    go_ret
    exact ⟨rfl, T⟩
  · go_enter Try.func7, Try.ntmps7
    go_wp2_with fail
    refine (Nod.sz_nodes A0 n0 c0 l0 1048576 _ HN0.out hx0 HS0.out (by omega) ha0).mono ?_
    rintro e w' ⟨rfl, hb⟩
    rw [if_neg hg0]
    go_wp2
    go_ret
    exact ⟨rfl, hb⟩
set_option maxRecDepth 100000 in
theorem lifted (os : Os) (started : os.Started) (H : Type) (enc : TypeId × Value → H) :
    ReturnsInHanded {} Try.checked os 7 .any (Rows.fnExactIsForcedSpec.pre6 enc Try.prog Try.f7 Rows.fnExactIsForcedRow.domain false) (Rows.fnExactIsForcedSpec.post enc Try.prog Try.f7 false true false false) := by
  refine returnsInHanded_of_change (C := Try.checked) Fr.own started (by kernel_rfl) Try.func7
    (ChangeSpec.witness6 (enc := enc) (C := Try.checked) false ⟨#[], #[.slice none 0 0, .int .i64 0], []⟩ 8 (by kernel_rfl) (by kernel_rfl) (by kernel_rfl) (by kernel_rfl)) ?_
  intro W base args ds gs before hval0 hW hcnd _
  have hval : ∀ (j : Nat) t v, Try.f7.params[j]? = some t → args[j]? = some v → Value.okWide Try.prog W .any base t v := hval0
  have hW' := hW
  obtain ⟨p, q, hA0, hV, rfl, hfz, hnd⟩ := hW
  have hA : DataW.TrodAll enc Try.prog W 0 (fun _ => true) true Try.f7.params.toList args.toList ds p := hA0
  have hAk := hA
  rw [Try.params7] at hA hval
  obtain ⟨v0, v1, d0, d1, p0, p1, rfl, rfl, hp, h0, h1⟩ := trodAll_two hA
  obtain ⟨rfl, rfl⟩ := trodVars_none hV
  have hlt : ∀ x ∈ p, x.block < W.heap.size := fun x hx => by simpa using hW'.lt x (List.mem_append_left _ hx)
  obtain ⟨A0, n0, c0, l0, rfl, hn0, hm0, hs0, ha0⟩ := Nod.view_nodes Try.underlying43 Try.underlying71 (by kernel_rfl) rfl rfl rfl (by kernel_rfl) (by kernel_rfl) (by kernel_rfl) Try.underlying9 Try.underlying26 Try.underlying3 (by kernel_rfl) Try.underlying3 (hval 0 43 v0 rfl rfl) h0 (fun x hx => hlt x (by rw [hp]; simp [hx]))
  obtain ⟨n1, rfl, wf1⟩ := Fr.view_int Try.underlying3 (hval 1 3 v1 rfl rfl) h1
  clear hA0 hval0
  refine (walk A0 n0 c0 l0 n1 W hn0 hm0 hs0 ha0 wf1).mono fun e W' ⟨he, hb⟩ => ?_
  subst he
  exact ⟨_, rfl, _, _, _, [], p, [], hW', trodAll_mk1 (shut_bool Try.underlying4 _), Fr.below_all Fr.laidOut hb _ _ _ _ (Fr.readB_all (by kernel_rfl)) hAk hlt, rfl, hb.frame _, fun h => by cases h⟩

theorem proved : Rows.FnExactIsForcedSaid :=
  OpenClaim.holds_of_wide 7 Try.f7 rfl rfl rfl rfl rfl rfl rfl ⟨rfl, rfl, rfl, rfl, rfl⟩ rfl rfl rfl rfl rfl (by kernel_rfl) Try.func7 (by kernel_rfl)
    (of_decide_eq_true (by kernel_rfl)) (by unfold Func.isWrapper; first | (rw [if_pos (by decide +kernel)]; kernel_rfl) | (rw [if_neg (by decide +kernel)]; exact ⟨rfl, rfl⟩))
    (fun os started H enc _ => lifted os started H enc)

end Go.Proofs.Ytjmfdflhplobmaa.LawIsForced
