/- The law of the forces holds: the functions agree on a drawn force, and the wrong answers lead to another end. No condition. -/
import Derived.Test.YtjmfdflhplobmaaFfo
import Derived.Test.YtjmfdflhplobmaaCur
import Derived.Test.YtjmfdflhplobmaaFrame
set_option linter.unusedVariables false
namespace Go.Proofs.Ytjmfdflhplobmaa.LawForces
open Go.ChangeShapes Go.WideShapes Go.ChangeAt Go.RowKit Fr _root_.Go.Proofs.Ytjmfdflhplobmaa.Own Pk Ins Rws Pfn Fpl Nod Nob Frc Fdr

theorem more_bytes {w : World} {B B' : Nat} {A : Option Addr} {n : Nat} (h : Cur.BytesAt w B A n) (hB : B ≤ B') : Cur.BytesAt w B' A n := by
  intro k hk
  obtain ⟨b, o, x, hA, hlt, r⟩ := h k hk
  exact ⟨b, o, x, hA, by omega, r⟩
set_option maxHeartbeats 4000000 in
set_option maxRecDepth 20000 in
theorem walk (A : Option Addr) (n c : Nat) (zs : List Int) (w : World) (hn : zs.length = n) (hm : n ≤ maxLen) (hs : ∀ z ∈ zs, (Lit.int .u8 z).wf = true) (ha : Fr.IntsAt w w.heap.size .u8 A zs) :
    Calls Try.prog 3 #[.slice A n c] w fun e w' => e = .returned (.bool true) ∧ Below w.heap.size w w' := by
  have hm0 : n ≤ 9223372036854775807 := by unfold maxLen at hm; omega
  have hby := Cur.bytes_of hn hs ha
  clear hn hs ha zs hm
  by_cases h1 : n ≤ 1048576
  · have h1' : decide ((1048576 : Int) < (n : Int)) = false := decide_eq_false (by omega)
    have HBY := Lib.hid hby
    clear hby
    go_enter Try.func3, Try.ntmps3
    go_wp2_with fail
    refine (Fdw.make_force A n c w h1 HBY.out).mono ?_
    rintro e w1 ⟨A1, N, c1, rs, rfl, hr, hg, hb1⟩
    have HGD := Lib.hid hg
    have RL1 := Lib.hid (Fdw.nrow_top hr)
    have HB1 := Lib.hid hb1
    have hs1 := hb1.size
    clear hr hg hb1
    go_wp2_with fail
    refine (Cur.num_any A n c 60 w1 h1 (by omega) (more_bytes (HBY.out.below HB1.out) hs1)).mono ?_
    rintro e w2 ⟨x, rfl, hx0, hx1, hb2⟩
    obtain ⟨ob, hob⟩ : ∃ ob : Int, x % 3 = ob := ⟨_, rfl⟩
    have hob3 : 0 ≤ ob ∧ ob < 3 := by omega
    have RL := Lib.hid (RL1.out.below hb2)
    have T := HB1.out.trans (hb2.mono hs1)
    obtain ⟨xa, hxa, _⟩ := RL.out.1.1
    have hcl := Pfn.own_cap hxa
    have HFT := Lib.hid HGD.out.fit
    have HBG := Lib.hid HGD.out.big
    have HOK := Lib.hid HGD.out.ok
    have HNV := Lib.hid (nv_at (rs := rs) (L := rs.map NR.nv) rfl)
    have HSH := Lib.hid (Ffo.wrong_short HGD.out ob)
    have HWF := Lib.hid (Ffo.wrong_fits HGD.out ob)
    have HWL := Lib.hid (Fan.wrong_len (rs.map NR.nv) ob)
    have HEL := Lib.hid (Fen.ends_len (rs.map NR.nv) HGD.out.big)
    have HNE := Lib.hid HGD.out.ends
    have HPL := Lib.hid (fun hb => @Ffo.wrong_play (rs.map NR.nv) HGD.out ob hb)
    obtain ⟨ws, hws⟩ : ∃ ws, Fan.wrongL (rs.map NR.nv) ob = ws := ⟨_, rfl⟩
    obtain ⟨es, hes⟩ : ∃ es, endsI (rs.map NR.nv) = es := ⟨_, rfl⟩
    rw [hws] at HSH HWF HWL
    rw [hes] at HEL HNE
    have HWS := Lib.hid hws
    have HES := Lib.hid hes
    clear hws hes hb2 RL1 HB1 hxa hs1
    cases hwb : Fan.wrongB (rs.map NR.nv) ob with
    | false =>
      have HB := Lib.hid hwb
      have HFB := Lib.hid (show forcedB (rs.map NR.nv) ob = true by rw [Ffo.forced_wrong HGD.out, hwb]; rfl)
      have HSM := Lib.hid (show Sam.sameB es [ob] = true by rw [← HES.out, Fen.forced_is]; exact HFB.out)
      go_wp2_with fail
      refine (Fan.impl_answers A1 N c1 rs (rs.map NR.nv) ob _ rfl RL.out.2 hcl HFT.out HBG.out RL.out.at_).mono ?_
      rintro e w3 ⟨A2, c2, rfl, hown, hb⟩
      rw [HB.out]
      replace T := T.trans (hb.mono T.size)
      replace RL := Lib.hid (RL.out.below hb)
      clear hb
      have RA := Lib.hid hown
      clear hown
      go_wp2_with fail
      refine (Fen.impl_ends A1 N c1 rs (rs.map NR.nv) _ rfl RL.out.2 hcl HFT.out HBG.out RL.out.at_).mono ?_
      rintro e w4 ⟨A3, c3, rfl, hown, hb⟩
      replace T := T.trans (hb.mono T.size)
      replace RL := Lib.hid (RL.out.below hb)
      replace RA := Lib.hid (Own.own_below RA.out hb)
      clear hb
      have RE := Lib.hid hown
      clear hown
      rw [HES.out] at RE ⊢
      rw [HWS.out] at RA ⊢
      have hel : ((es.length : Int) == 0) = false := by simpa using HNE.out
      have hwl : ws.length ≤ 1048576 := HWL.out
      have hell : es.length ≤ 1048576 := HEL.out
      go_wp2_with fail
      refine (Frc.impl_ok A1 N c1 rs (rs.map NR.nv) _ rfl RL.out.2 hcl HFT.out HBG.out RL.out.at_).mono ?_
      rintro e w5 ⟨rfl, hb⟩
      rw [ok_yes HOK.out]
      replace T := T.trans (hb.mono T.size)
      replace RL := Lib.hid (RL.out.below hb)
      replace RA := Lib.hid (Own.own_below RA.out hb)
      replace RE := Lib.hid (Own.own_below RE.out hb)
      clear hb
      go_wp2_with fail
      refine (Fen.impl_forced A1 N c1 rs (rs.map NR.nv) ob _ rfl RL.out.2 hcl HFT.out HBG.out RL.out.at_).mono ?_
      rintro e w6 ⟨rfl, hb⟩
      rw [HFB.out]
      replace T := T.trans (hb.mono T.size)
      replace RL := Lib.hid (RL.out.below hb)
      replace RA := Lib.hid (Own.own_below RA.out hb)
      replace RE := Lib.hid (Own.own_below RE.out hb)
      clear hb
      go_wp2_with fail
      refine (Fen.impl_forced A1 N c1 rs (rs.map NR.nv) ob _ rfl RL.out.2 hcl HFT.out HBG.out RL.out.at_).mono ?_
      rintro e w7 ⟨rfl, hb⟩
      rw [HFB.out]
      replace T := T.trans (hb.mono T.size)
      replace RL := Lib.hid (RL.out.below hb)
      replace RA := Lib.hid (Own.own_below RA.out hb)
      replace RE := Lib.hid (Own.own_below RE.out hb)
      clear hb
      have hbx := box_below w7 (.cells #[.int .i64 ob] 3)
      have HI1 := Lib.hid (ints_of (n := 1) (c := 1) (zs := [ob]) (World.ownsRow_lit (base := w7.heap.size) (e := 3) (size := 1) w7 #[.int .i64 ob] 1 (Nat.le_refl _) (by decide) rfl))
      replace T := T.trans (hbx.mono T.size)
      replace RL := Lib.hid (RL.out.below hbx)
      replace RA := Lib.hid (Own.own_below RA.out hbx)
      replace RE := Lib.hid (Own.own_below RE.out hbx)
      clear hbx
      go_wp2_with fail
      refine (Mkp.same_any A3 (some ⟨w7.heap.size, 0, none⟩) es.length 1 c3 1 es [ob] _ rfl rfl (by omega) (by omega) (ints_of RE.out) HI1.out).mono ?_
      rintro e w8 ⟨rfl, rfl⟩
      rw [HSM.out]
      go_wp2_with fail
      refine (Fde.impl_depth A1 N c1 rs (rs.map NR.nv) _ rfl RL.out.2 hcl HFT.out HBG.out RL.out.at_).mono ?_
      rintro e w9 ⟨rfl, hb⟩
      replace T := T.trans (hb.mono T.size)
      replace RL := Lib.hid (RL.out.below hb)
      replace RA := Lib.hid (Own.own_below RA.out hb)
      replace RE := Lib.hid (Own.own_below RE.out hb)
      clear hb
      have hdp : decide (depthI (rs.map NR.nv) < (ws.length : Int)) = false := decide_eq_false (by have := HSH.out; omega)
      generalize depthI (rs.map NR.nv) = dp at *
      go_wp2
      go_ret
      exact ⟨rfl, T⟩
    | true =>
      have HB := Lib.hid hwb
      have HFB := Lib.hid (show forcedB (rs.map NR.nv) ob = false by rw [Ffo.forced_wrong HGD.out, hwb]; rfl)
      have HSM := Lib.hid (show Sam.sameB es [ob] = false by rw [← HES.out, Fen.forced_is]; exact HFB.out)
      go_wp2_with fail
      refine (Fan.impl_answers A1 N c1 rs (rs.map NR.nv) ob _ rfl RL.out.2 hcl HFT.out HBG.out RL.out.at_).mono ?_
      rintro e w3 ⟨A2, c2, rfl, hown, hb⟩
      rw [HB.out]
      replace T := T.trans (hb.mono T.size)
      replace RL := Lib.hid (RL.out.below hb)
      clear hb
      have RA := Lib.hid hown
      clear hown
      go_wp2_with fail
      refine (Fen.impl_ends A1 N c1 rs (rs.map NR.nv) _ rfl RL.out.2 hcl HFT.out HBG.out RL.out.at_).mono ?_
      rintro e w4 ⟨A3, c3, rfl, hown, hb⟩
      replace T := T.trans (hb.mono T.size)
      replace RL := Lib.hid (RL.out.below hb)
      replace RA := Lib.hid (Own.own_below RA.out hb)
      clear hb
      have RE := Lib.hid hown
      clear hown
      rw [HES.out] at RE ⊢
      rw [HWS.out] at RA ⊢
      have hel : ((es.length : Int) == 0) = false := by simpa using HNE.out
      have hwl : ws.length ≤ 1048576 := HWL.out
      have hell : es.length ≤ 1048576 := HEL.out
      go_wp2_with fail
      refine (Frc.impl_ok A1 N c1 rs (rs.map NR.nv) _ rfl RL.out.2 hcl HFT.out HBG.out RL.out.at_).mono ?_
      rintro e w5 ⟨rfl, hb⟩
      rw [ok_yes HOK.out]
      replace T := T.trans (hb.mono T.size)
      replace RL := Lib.hid (RL.out.below hb)
      replace RA := Lib.hid (Own.own_below RA.out hb)
      replace RE := Lib.hid (Own.own_below RE.out hb)
      clear hb
      go_wp2_with fail
      refine (Fen.impl_forced A1 N c1 rs (rs.map NR.nv) ob _ rfl RL.out.2 hcl HFT.out HBG.out RL.out.at_).mono ?_
      rintro e w6 ⟨rfl, hb⟩
      rw [HFB.out]
      replace T := T.trans (hb.mono T.size)
      replace RL := Lib.hid (RL.out.below hb)
      replace RA := Lib.hid (Own.own_below RA.out hb)
      replace RE := Lib.hid (Own.own_below RE.out hb)
      clear hb
      go_wp2_with fail
      refine (Fen.impl_forced A1 N c1 rs (rs.map NR.nv) ob _ rfl RL.out.2 hcl HFT.out HBG.out RL.out.at_).mono ?_
      rintro e w7 ⟨rfl, hb⟩
      rw [HFB.out]
      replace T := T.trans (hb.mono T.size)
      replace RL := Lib.hid (RL.out.below hb)
      replace RA := Lib.hid (Own.own_below RA.out hb)
      replace RE := Lib.hid (Own.own_below RE.out hb)
      clear hb
      have hbx := box_below w7 (.cells #[.int .i64 ob] 3)
      have HI1 := Lib.hid (ints_of (n := 1) (c := 1) (zs := [ob]) (World.ownsRow_lit (base := w7.heap.size) (e := 3) (size := 1) w7 #[.int .i64 ob] 1 (Nat.le_refl _) (by decide) rfl))
      replace T := T.trans (hbx.mono T.size)
      replace RL := Lib.hid (RL.out.below hbx)
      replace RA := Lib.hid (Own.own_below RA.out hbx)
      replace RE := Lib.hid (Own.own_below RE.out hbx)
      clear hbx
      go_wp2_with fail
      refine (Mkp.same_any A3 (some ⟨w7.heap.size, 0, none⟩) es.length 1 c3 1 es [ob] _ rfl rfl (by omega) (by omega) (ints_of RE.out) HI1.out).mono ?_
      rintro e w8 ⟨rfl, rfl⟩
      rw [HSM.out]
      go_wp2_with fail
      refine (Fde.impl_depth A1 N c1 rs (rs.map NR.nv) _ rfl RL.out.2 hcl HFT.out HBG.out RL.out.at_).mono ?_
      rintro e w9 ⟨rfl, hb⟩
      replace T := T.trans (hb.mono T.size)
      replace RL := Lib.hid (RL.out.below hb)
      replace RA := Lib.hid (Own.own_below RA.out hb)
      replace RE := Lib.hid (Own.own_below RE.out hb)
      clear hb
      have hdp : decide (depthI (rs.map NR.nv) < (ws.length : Int)) = false := decide_eq_false (by have := HSH.out; omega)
      generalize depthI (rs.map NR.nv) = dp at *
      obtain ⟨j, z1, z2, z3, z4, z5, z6⟩ := HPL.out hwb
      rw [HWS.out] at z2 z3
      rw [HES.out] at z6
      have HZ2 := Lib.hid z2
      have HZ3 := Lib.hid z3
      have HZ4 := Lib.hid z4
      have HZ6 := Lib.hid z6
      rw [List.length_map] at z1
      clear z2 z3 z4 z6
      go_wp2_with fail
      refine (Frc.impl_play A1 N c1 rs (rs.map NR.nv) A2 ws.length c2 ws _ rfl RL.out.2 hcl HFT.out HBG.out RL.out.at_ rfl hwl HWF.out (ints_of RA.out)).mono ?_
      rintro e w10 ⟨rfl, hb⟩
      rw [HZ2.out, HZ3.out]
      replace T := T.trans (hb.mono T.size)
      replace RL := Lib.hid (RL.out.below hb)
      replace RA := Lib.hid (Own.own_below RA.out hb)
      replace RE := Lib.hid (Own.own_below RE.out hb)
      clear hb
      obtain ⟨b4, o4, rfl, hb4, _, q1, q2, _⟩ := RL.out.at_ j z1
      obtain ⟨y1, y2⟩ := HNV.out j
      unfold NR.sv at q1
      rw [y1, HZ4.out] at q1
      rw [y2] at q2
      have hjn : j < N := by have := RL.out.2; omega
      have d1 : decide ((0 : Int) ≤ (j : Int)) = true := decide_eq_true (by omega)
      have d2 : decide ((j : Int) < (N : Int)) = true := decide_eq_true (by omega)
      have HCN := Lib.hid (Ffo.law_has A3 es.length c3 es (fi (rs.map NR.nv) j) w10 rfl (by omega) (ints_of RE.out))
      have hhb : Pok.hasB es (fi (rs.map NR.nv) j) = true := decide_eq_true HZ6.out
      rw [hhb] at HCN
      clear hhb y1 y2 HZ6
      generalize fi (rs.map NR.nv) j = fj at *
      generalize (rs.getD j nr0).A = A9 at q1
      generalize (rs.getD j nr0).c = c9 at q1
      have d3 : (fj != ob) = true := by simpa using z5
      go_wp2_with fail
      refine HCN.out.mono ?_
      rintro e w' ⟨rfl, rfl⟩
      go_wp2
      go_ret
      exact ⟨rfl, T⟩
  · have h1' : (1048576 : Int) < (n : Int) := by omega
    go_enter Try.func3, Try.ntmps3
    go_wp2
    go_ret
    exact ⟨rfl, Below.refl _ w⟩

set_option maxRecDepth 100000 in
theorem lifted (os : Os) (started : os.Started) (H : Type) (enc : TypeId × Value → H) :
    ReturnsInHanded {} Try.checked os 3 .any (Rows.fnForcesSpec.pre6 enc Try.prog Try.f3 Rows.fnForcesRow.domain false) (Rows.fnForcesSpec.post enc Try.prog Try.f3 false true false false) := by
  refine returnsInHanded_of_change (C := Try.checked) Fr.own started (by kernel_rfl) Try.func3
    (ChangeSpec.witness6 (enc := enc) (C := Try.checked) false ⟨#[], #[.slice none 0 0], []⟩ 8 (by kernel_rfl) (by kernel_rfl) (by kernel_rfl) (by kernel_rfl)) ?_
  intro W base args ds gs before hval0 hW hcnd _
  have hval : ∀ (j : Nat) t v, Try.f3.params[j]? = some t → args[j]? = some v → Value.okWide Try.prog W .any base t v := hval0
  have hW' := hW
  obtain ⟨p, q, hA0, hV, rfl, hfz, hnd⟩ := hW
  have hA : DataW.TrodAll enc Try.prog W 0 (fun _ => true) true Try.f3.params.toList args.toList ds p := hA0
  have hAk := hA
  rw [Try.params3] at hA hval
  obtain ⟨v0, d0, rfl, rfl, h0⟩ := trodAll_one hA
  obtain ⟨rfl, rfl⟩ := trodVars_none hV
  have hlt : ∀ x ∈ p, x.block < W.heap.size := fun x hx => by simpa using hW'.lt x (List.mem_append_left _ hx)
  obtain ⟨A0, n0, c0, l0, rfl, hn0, hm0, hs0, ha0⟩ := Fr.view_nums Try.underlying22 Try.underlying5 (by kernel_rfl) (hval 0 22 v0 rfl rfl) h0 hlt
  clear hA0 hval0
  refine (walk A0 n0 c0 l0 W hn0 hm0 hs0 ha0).mono fun e W' ⟨he, hb⟩ => ?_
  subst he
  exact ⟨_, rfl, _, _, _, [], p, [], hW', trodAll_mk1 (shut_bool Try.underlying4 _), Fr.below_all Fr.laidOut hb _ _ _ _ (Fr.readB_all (by kernel_rfl)) hAk hlt, rfl, hb.frame _, fun h => by cases h⟩

theorem proved : Rows.FnForcesSaid :=
  OpenClaim.holds_of_wide 3 Try.f3 rfl rfl rfl rfl rfl rfl rfl ⟨rfl, rfl, rfl, rfl, rfl⟩ rfl rfl rfl rfl rfl (by kernel_rfl) Try.func3 (by kernel_rfl)
    (of_decide_eq_true (by kernel_rfl)) (by unfold Func.isWrapper; first | (rw [if_pos (by decide +kernel)]; kernel_rfl) | (rw [if_neg (by decide +kernel)]; exact ⟨rfl, rfl⟩))
    (fun os started H enc _ => lifted os started H enc)

end Go.Proofs.Ytjmfdflhplobmaa.LawForces
