/- The law of EndsOf holds: for every argument the program's EndsOf answers as its model does, changes no argument, and shares no memory. No condition. -/
import Derived.Test.YtjmfdflhplobmaaNob
import Derived.Test.YtjmfdflhplobmaaFes
import Derived.Test.YtjmfdflhplobmaaFen
import Derived.Test.YtjmfdflhplobmaaPkt
import Derived.Test.YtjmfdflhplobmaaFrame
set_option linter.unusedVariables false
namespace Go.Proofs.Ytjmfdflhplobmaa.LawEndsOf
open Go.ChangeShapes Go.WideShapes Go.ChangeAt Go.RowKit Fr _root_.Go.Proofs.Ytjmfdflhplobmaa.Own

set_option maxHeartbeats 4000000 in
theorem walk (A0 : Option Addr) (n0 c0 : Nat) (l0 : List Nod.NR) (w : World) (hn0 : l0.length = n0) (hm0 : n0 ≤ maxLen) (hs0 : Nod.WfN l0) (ha0 : Nod.NodesAt w w.heap.size A0 l0) :
    Calls Try.prog 6 #[.slice A0 n0 c0] w fun e w' => e = .returned (.bool true) ∧ Below w.heap.size w w' := by
  have hx0 : n0 ≤ 9223372036854775807 := by unfold maxLen at hm0; omega
  have HN0 := Lib.hid hn0
  have HS0 := Lib.hid hs0
  clear hn0 hm0 hs0
  by_cases hg0 : n0 + Nod.btot l0 n0 ≤ 1048576
  · have hgn0 : n0 ≤ 1048576 := by omega
    have HBG0 := Lib.hid (Nob.big_of HN0.out hg0)
    have HFT0 := Lib.hid (Nob.fit_of HS0.out)
    have HLN0 := Lib.hid (fun i (_ : i < n0) => Nob.big_len rfl HBG0.out i)
    obtain ⟨res, hres⟩ : ∃ r, r = Fpl.endsI (l0.map Nod.NR.nv) := ⟨_, rfl⟩
    have hlen : res.length ≤ 1048576 := by rw [hres]; exact Fen.ends_len (l0.map Nod.NR.nv) HBG0.out
    have HR := Lib.hid hres.symm
    clear hres
    have T : Below w.heap.size w w := Below.refl _ w
    have f0 := ha0
    clear ha0
    go_enter Try.func6, Try.ntmps6
    go_wp2_with fail
    refine (Nod.sz_nodes A0 n0 c0 l0 1048576 _ HN0.out hx0 HS0.out (by omega) f0).mono ?_
    rintro e w1 ⟨rfl, hb⟩
    rw [if_pos hg0]
    have s1 : w.heap.size ≤ w1.heap.size := hb.size
    replace T := T.trans (hb.mono (by omega))
    replace f0 := f0.below (hb.mono (by omega))
    clear hb
    have hz_0 : decide (((1048576 : Nat) : Int) - ((n0 + Nod.btot l0 n0 : Nat) : Int) < 0) = false := decide_eq_false (by omega)
    go_wp2_with fail
    refine (Nod.to_nodes A0 n0 c0 l0 _ HN0.out hgn0 HLN0.out (f0.more T.size)).mono ?_
    rintro e w2 ⟨g_t1, rs_t1, rfl, hz_t1, hown, hb⟩
    have s2 : w1.heap.size ≤ w2.heap.size := hb.size
    replace T := T.trans (hb.mono (by omega))
    replace f0 := f0.below (hb.mono (by omega))
    clear hb
    have r_t1 := hown
    clear hown
    go_wp2_with fail
    refine (Fes.spec_ends (some ⟨g_t1, 0, none⟩) n0 n0 rs_t1 _ _ hz_t1 r_t1.2 (Nat.le_refl _) HFT0.out HBG0.out r_t1.at_).mono ?_
    rintro e w3 ⟨A_w0, c_w0, rfl, hown, hb⟩
    rw [HR.out] at hown
    rw [HR.out]
    have s3 : w2.heap.size ≤ w3.heap.size := hb.size
    replace T := T.trans (hb.mono (by omega))
    replace f0 := f0.below (hb.mono (by omega))
    replace r_t1 := r_t1.below hb
    clear hb
    have r_w0 := Ins.Row.mk hown
    clear hown
    go_wp2_with fail
    refine (Nod.to_nodes A0 n0 c0 l0 _ HN0.out hgn0 HLN0.out (f0.more T.size)).mono ?_
    rintro e w4 ⟨g_x0, rs_x0, rfl, hz_x0, hown, hb⟩
    have s4 : w3.heap.size ≤ w4.heap.size := hb.size
    replace T := T.trans (hb.mono (by omega))
    replace f0 := f0.below (hb.mono (by omega))
    replace r_t1 := r_t1.below hb
    replace r_w0 := r_w0.below hb
    clear hb
    have r_x0 := hown
    clear hown
    go_wp2_with fail
    refine (Fen.impl_ends (some ⟨g_x0, 0, none⟩) n0 n0 rs_x0 _ _ hz_x0 r_x0.2 (Nat.le_refl _) HFT0.out HBG0.out r_x0.at_).mono ?_
    rintro e w5 ⟨A_g0, c_g0, rfl, hown, hb⟩
    rw [HR.out] at hown
    rw [HR.out]
    have s5 : w4.heap.size ≤ w5.heap.size := hb.size
    replace T := T.trans (hb.mono (by omega))
    replace f0 := f0.below (hb.mono (by omega))
    replace r_t1 := r_t1.below hb
    replace r_w0 := r_w0.below hb
    replace r_x0 := r_x0.below hb
    clear hb
    have r_g0 := Ins.Row.mk hown
    clear hown
    go_wp2_with fail
    refine (Ins.eq_same A_g0 A_w0 res.length c_g0 c_w0 res _ rfl (by omega) r_g0.at_ r_w0.at_).mono ?_
    rintro e w6 ⟨rfl, hb⟩
    have s6 : w5.heap.size ≤ w6.heap.size := hb.size
    replace T := T.trans (hb.mono (by omega))
    replace f0 := f0.below (hb.mono (by omega))
    replace r_t1 := r_t1.below hb
    replace r_w0 := r_w0.below hb
    replace r_x0 := r_x0.below hb
    replace r_g0 := r_g0.below hb
    clear hb
    go_wp2_with fail
    refine (Nod.to_nodes A0 n0 c0 l0 _ HN0.out hgn0 HLN0.out (f0.more T.size)).mono ?_
    rintro e w7 ⟨g_t2, rs_t2, rfl, hz_t2, hown, hb⟩
    have s7 : w6.heap.size ≤ w7.heap.size := hb.size
    replace T := T.trans (hb.mono (by omega))
    replace f0 := f0.below (hb.mono (by omega))
    replace r_t1 := r_t1.below hb
    replace r_w0 := r_w0.below hb
    replace r_x0 := r_x0.below hb
    replace r_g0 := r_g0.below hb
    clear hb
    have r_t2 := hown
    clear hown
    go_wp2_with fail
    refine (Nod.eq_nodes (some ⟨g_x0, 0, none⟩) (some ⟨g_t2, 0, none⟩) n0 n0 n0 rs_x0 rs_t2 _ r_x0.2 (hz_x0.trans hz_t2.symm) (by omega) (fun j _ => Nat.le_trans (Nob.big_len hz_x0 HBG0.out j) (by omega)) r_x0.at_ r_t2.at_).mono ?_
    rintro e w8 ⟨rfl, hb⟩
    have s8 : w7.heap.size ≤ w8.heap.size := hb.size
    replace T := T.trans (hb.mono (by omega))
    replace f0 := f0.below (hb.mono (by omega))
    replace r_t1 := r_t1.below hb
    replace r_w0 := r_w0.below hb
    replace r_x0 := r_x0.below hb
    replace r_g0 := r_g0.below hb
    replace r_t2 := r_t2.below hb
    clear hb
    have ht_x0 := Nob.big_mpos hz_x0 HBG0.out r_x0.2
    go_wp2_with fail
    refine (Nom.mark_nodes _ _ (some ⟨g_x0, 0, none⟩) n0 n0 rs_x0 1 _ (by omega) (by omega) (by omega) r_x0).mono ?_
    rintro e w9 ⟨rfl, hrow, hwi⟩
    have hk_x0 : decide (((1 + Nom.mpos rs_x0 n0 : Nat) : Int) < 0) = false := decide_eq_false (by omega)
    clear r_x0
    have r_x0 := hrow
    clear hrow
    have s9 : w8.heap.size ≤ w9.heap.size := hwi.size
    replace T := Rws.below_wi T hwi (by omega) (by omega)
    replace f0 := f0.below (Rws.below_wi (Below.refl w.heap.size _) hwi (by omega) (by omega))
    replace r_t1 := r_t1.wi hwi (by omega)
    replace r_w0 := Rws.row_wi r_w0 hwi (by omega)
    replace r_g0 := Rws.row_wi r_g0 hwi (by omega)
    replace r_t2 := r_t2.wi hwi (by omega)
    clear hwi
    go_wp2_with fail
    refine (Ins.eq_same A_g0 A_w0 res.length c_g0 c_w0 res _ rfl (by omega) r_g0.at_ r_w0.at_).mono ?_
    rintro e w10 ⟨rfl, hb⟩
    have s10 : w9.heap.size ≤ w10.heap.size := hb.size
    replace T := T.trans (hb.mono (by omega))
    replace f0 := f0.below (hb.mono (by omega))
    replace r_t1 := r_t1.below hb
    replace r_w0 := r_w0.below hb
    replace r_x0 := r_x0.below hb
    replace r_g0 := r_g0.below hb
    replace r_t2 := r_t2.below hb
    clear hb
    go_wp2_with fail
    refine (Ins.mark_any _ _ res.length A_g0 c_g0 _ _ (by omega) (by omega) r_g0.own).mono ?_
    rintro e w11 ⟨rfl, ho, hgr⟩
    have s11 : w10.heap.size ≤ w11.heap.size := hgr.size
    replace T := T.grown hgr (by omega) (fun k hk => by have h1 := r_g0.lo k hk; omega)
    replace f0 := f0.below ((Below.refl w.heap.size _).grown hgr (by omega) (fun k hk => by have h1 := r_g0.lo k hk; omega))
    replace r_t1 := r_t1.grown hgr (fun k hk => by have h1 := r_g0.lo k hk; have h2 := r_g0.hi k hk; omega)
    replace r_w0 := r_w0.grown hgr (fun k hk => by have h1 := r_g0.lo k hk; have h2 := r_g0.hi k hk; omega)
    replace r_x0 := r_x0.grown hgr (fun k hk => by have h1 := r_g0.lo k hk; have h2 := r_g0.hi k hk; omega)
    replace r_t2 := r_t2.grown hgr (fun k hk => by have h1 := r_g0.lo k hk; have h2 := r_g0.hi k hk; omega)
    replace r_g0 := r_g0.marked ho hgr
    clear ho hgr
    go_wp2_with fail
    refine (Ins.held_any _ res.length c_g0 A_g0 _ (by omega) (by omega) r_g0.at_).mono ?_
    rintro e w' ⟨rfl, rfl⟩
    go_wp2_with fail
    refine (Nod.to_nodes A0 n0 c0 l0 _ HN0.out hgn0 HLN0.out (f0.more T.size)).mono ?_
    rintro e w12 ⟨g_t3, rs_t3, rfl, hz_t3, hown, hb⟩
    have s12 : w11.heap.size ≤ w12.heap.size := hb.size
    replace T := T.trans (hb.mono (by omega))
    replace f0 := f0.below (hb.mono (by omega))
    replace r_t1 := r_t1.below hb
    replace r_w0 := r_w0.below hb
    replace r_x0 := r_x0.below hb
    replace r_g0 := r_g0.below hb
    replace r_t2 := r_t2.below hb
    clear hb
    have r_t3 := hown
    clear hown
    go_wp2_with fail
    refine (Fen.impl_ends (some ⟨g_t3, 0, none⟩) n0 n0 rs_t3 _ _ hz_t3 r_t3.2 (Nat.le_refl _) HFT0.out HBG0.out r_t3.at_).mono ?_
    rintro e w13 ⟨A_h0, c_h0, rfl, hown, hb⟩
    rw [HR.out] at hown
    rw [HR.out]
    have s13 : w12.heap.size ≤ w13.heap.size := hb.size
    replace T := T.trans (hb.mono (by omega))
    replace f0 := f0.below (hb.mono (by omega))
    replace r_t1 := r_t1.below hb
    replace r_w0 := r_w0.below hb
    replace r_x0 := r_x0.below hb
    replace r_g0 := r_g0.below hb
    replace r_t2 := r_t2.below hb
    replace r_t3 := r_t3.below hb
    clear hb
    have r_h0 := Ins.Row.mk hown
    clear hown
    go_wp2_with fail
    refine (Ins.eq_same A_h0 A_w0 res.length c_h0 c_w0 res _ rfl (by omega) r_h0.at_ r_w0.at_).mono ?_
    rintro e w14 ⟨rfl, hb⟩
    have s14 : w13.heap.size ≤ w14.heap.size := hb.size
    replace T := T.trans (hb.mono (by omega))
    replace f0 := f0.below (hb.mono (by omega))
    replace r_t1 := r_t1.below hb
    replace r_w0 := r_w0.below hb
    replace r_x0 := r_x0.below hb
    replace r_g0 := r_g0.below hb
    replace r_t2 := r_t2.below hb
    replace r_t3 := r_t3.below hb
    replace r_h0 := r_h0.below hb
    clear hb
    go_wp2_with fail
    refine (Ins.held_any _ res.length c_g0 A_g0 _ (by omega) (by omega) r_g0.at_).mono ?_
    rintro e w' ⟨rfl, rfl⟩
    go_wp2
    go_ret
    exact ⟨rfl, T⟩
  · go_enter Try.func6, Try.ntmps6
    go_wp2_with fail
    refine (Nod.sz_nodes A0 n0 c0 l0 1048576 _ HN0.out hx0 HS0.out (by omega) ha0).mono ?_
    rintro e w' ⟨rfl, hb⟩
    rw [if_neg hg0]
    go_wp2
    go_ret
    exact ⟨rfl, hb⟩
set_option maxRecDepth 100000 in
theorem lifted (os : Os) (started : os.Started) (H : Type) (enc : TypeId × Value → H) :
    ReturnsInHanded {} Try.checked os 6 .any (Rows.fnExactEndsOfSpec.pre6 enc Try.prog Try.f6 Rows.fnExactEndsOfRow.domain false) (Rows.fnExactEndsOfSpec.post enc Try.prog Try.f6 false true false false) := by
  refine returnsInHanded_of_change (C := Try.checked) Fr.own started (by kernel_rfl) Try.func6
    (ChangeSpec.witness6 (enc := enc) (C := Try.checked) false ⟨#[], #[.slice none 0 0], []⟩ 8 (by kernel_rfl) (by kernel_rfl) (by kernel_rfl) (by kernel_rfl)) ?_
  intro W base args ds gs before hval0 hW hcnd _
  have hval : ∀ (j : Nat) t v, Try.f6.params[j]? = some t → args[j]? = some v → Value.okWide Try.prog W .any base t v := hval0
  have hW' := hW
  obtain ⟨p, q, hA0, hV, rfl, hfz, hnd⟩ := hW
  have hA : DataW.TrodAll enc Try.prog W 0 (fun _ => true) true Try.f6.params.toList args.toList ds p := hA0
  have hAk := hA
  rw [Try.params6] at hA hval
  obtain ⟨v0, d0, rfl, rfl, h0⟩ := trodAll_one hA
  obtain ⟨rfl, rfl⟩ := trodVars_none hV
  have hlt : ∀ x ∈ p, x.block < W.heap.size := fun x hx => by simpa using hW'.lt x (List.mem_append_left _ hx)
  obtain ⟨A0, n0, c0, l0, rfl, hn0, hm0, hs0, ha0⟩ := Nod.view_nodes Try.underlying43 Try.underlying71 (by kernel_rfl) rfl rfl rfl (by kernel_rfl) (by kernel_rfl) (by kernel_rfl) Try.underlying9 Try.underlying26 Try.underlying3 (by kernel_rfl) Try.underlying3 (hval 0 43 v0 rfl rfl) h0 hlt
  clear hA0 hval0
  refine (walk A0 n0 c0 l0 W hn0 hm0 hs0 ha0).mono fun e W' ⟨he, hb⟩ => ?_
  subst he
  exact ⟨_, rfl, _, _, _, [], p, [], hW', trodAll_mk1 (shut_bool Try.underlying4 _), Fr.below_all Fr.laidOut hb _ _ _ _ (Fr.readB_all (by kernel_rfl)) hAk hlt, rfl, hb.frame _, fun h => by cases h⟩

theorem proved : Rows.FnExactEndsOfSaid :=
  OpenClaim.holds_of_wide 6 Try.f6 rfl rfl rfl rfl rfl rfl rfl ⟨rfl, rfl, rfl, rfl, rfl⟩ rfl rfl rfl rfl rfl (by kernel_rfl) Try.func6 (by kernel_rfl)
    (of_decide_eq_true (by kernel_rfl)) (by unfold Func.isWrapper; first | (rw [if_pos (by decide +kernel)]; kernel_rfl) | (rw [if_neg (by decide +kernel)]; exact ⟨rfl, rfl⟩))
    (fun os started H enc _ => lifted os started H enc)

end Go.Proofs.Ytjmfdflhplobmaa.LawEndsOf
