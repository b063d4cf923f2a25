/- The law of the two equivoques holds: the forces with two and four objects end with the wanted one whatever is answered. No condition. -/
import Derived.Test.YtjmfdflhplobmaaFeq
import Derived.Test.YtjmfdflhplobmaaCur
import Derived.Test.YtjmfdflhplobmaaFrame
set_option linter.unusedVariables false
namespace Go.Proofs.Ytjmfdflhplobmaa.LawEquivocal
open Go.ChangeShapes Go.WideShapes Go.ChangeAt Go.RowKit Fr _root_.Go.Proofs.Ytjmfdflhplobmaa.Own Pk Ins Prm Rws Pfn Fpl Nod Nob Obc Pfo Frc Feq

theorem more_bytes {w : World} {B B' : Nat} {A : Option Addr} {n : Nat} (h : Cur.BytesAt w B A n) (hB : B ≤ B') : Cur.BytesAt w B' A n := by
  intro k hk
  obtain ⟨b, o, x, hA, hlt, r⟩ := h k hk
  exact ⟨b, o, x, hA, by omega, r⟩
/-- two ints, laid by the call -/
theorem two_ints (W : World) (a b : Int) : Fr.IntsAt (W.alloc (.cells #[.int .i64 a, .int .i64 b] 3)) (W.alloc (.cells #[.int .i64 a, .int .i64 b] 3)).heap.size .i64 (some ⟨W.heap.size, 0, none⟩) [a, b] :=
  ints_of (n := 2) (c := 2) (World.ownsRow_lit (base := W.heap.size) (e := 3) (size := 1) W #[.int .i64 a, .int .i64 b] 2 (Nat.le_refl _) (by decide) rfl)
theorem two_fits {a b : Int} (ha : 0 ≤ a ∧ a ≤ 99) (hb : 0 ≤ b ∧ b ≤ 99) : Fits [a, b] := by
  intro i hi
  have : i = 0 ∨ i = 1 := by simp at hi; omega
  rcases this with e | e <;> subst e <;> simp <;> omega
set_option maxHeartbeats 4000000 in
set_option maxRecDepth 20000 in
theorem walk (A : Option Addr) (n c : Nat) (zs : List Int) (w : World) (hn : zs.length = n) (hm : n ≤ maxLen) (hs : ∀ z ∈ zs, (Lit.int .u8 z).wf = true) (ha : Fr.IntsAt w w.heap.size .u8 A zs) :
    Calls Try.prog 4 #[.slice A n c] w fun e w' => e = .returned (.bool true) ∧ Below w.heap.size w w' := by
  have hm0 : n ≤ 9223372036854775807 := by unfold maxLen at hm; omega
  have hby := Cur.bytes_of hn hs ha
  clear hn hs ha zs hm
  by_cases h1 : n ≤ 1048576
  · have h1' : decide ((1048576 : Int) < (n : Int)) = false := decide_eq_false (by omega)
    have HBY := Lib.hid hby
    clear hby
    go_enter Try.func4, Try.ntmps4
    go_wp2_with fail
    refine (Mkp.make_perm A n c 3 4 w h1 (by omega) (by omega) (by omega) HBY.out).mono ?_
    rintro e w1 ⟨A1, c1, ps, rfl, hl, hp, ho1, hb1⟩
    have HP := Lib.hid hp
    have HL := Lib.hid hl
    have HB1 := Lib.hid hb1
    have HO1 := Lib.hid ho1
    have hs1 := hb1.size
    clear hp hl hb1 ho1
    go_wp2_with fail
    refine (Cur.num_any A n c 20 w1 h1 (by omega) (more_bytes (HBY.out.below HB1.out) hs1)).mono ?_
    rintro e w2 ⟨x, rfl, hx0, hx1, hb2⟩
    obtain ⟨j, hj⟩ : ∃ j : Nat, x % 4 = (j : Int) := ⟨(x % 4).toNat, by omega⟩
    have hj4 : j < 4 := by omega
    have HO2 := Lib.hid (Own.own_below HO1.out hb2)
    have HB2 := Lib.hid (HB1.out.trans (hb2.mono hs1))
    obtain ⟨g1, rfl⟩ := own3_shape HO2.out (by omega)
    have hcj := HO2.out.cellAt j (by omega)
    have hc0 := HO2.out.cellAt 0 (by omega)
    rw [show Pfn.vals ps = ps.map (Value.int .i64) from rfl, Fes.val_get (by rw [HL.out]; exact hj4)] at hcj
    rw [show Pfn.vals ps = ps.map (Value.int .i64) from rfl, Fes.val_get (by rw [HL.out]; omega)] at hc0
    have hcap := Pfn.own_cap HO2.out
    have hlt1 := (HO2.out.lt g1 rfl).2
    obtain ⟨q1, q2, q3, q4, q5⟩ := perm_four HP.out HL.out hj4
    obtain ⟨_, p2, p3, _, _⟩ := perm_four HP.out HL.out (show 0 < 4 by omega)
    have HX9 := Lib.hid (ch_mem (n := 4) q4)
    have HFT := Lib.hid q5
    have HCH := Lib.hid q1
    have HX2 := Lib.hid (ch_len (n := 2) (x := ps.getD j 0) (show ps.length ≠ 2 by rw [HL.out]; omega))
    generalize ps.getD j 0 = t at *
    generalize ps.getD 0 0 = t0 at *
    have T := HB2.out
    have hs2 := T.size
    have rp := HO2
    clear q1 q4 q5 hb2 HO2 HO1 HB1 HB2 HP
    go_wp2_with fail
    clear hj hx0 hx1
    refine (Pff.impl_four (some ⟨g1, 0, none⟩) 4 c1 ps t w2 HL.out hcap (by omega) HFT.out (ints_of rp.out)).mono ?_
    rintro e w3 ⟨Aa, ca, ra, rfl, hza, hra, hb⟩
    rw [HCH.out, four_yes HCH.out]
    rw [four_yes HCH.out] at hza hra
    have e7 : (fourL t).length = 7 := rfl
    rw [e7] at hra ⊢
    have HZA := Lib.hid hza
    have s3 := hb.size
    replace T := T.trans (hb.mono T.size)
    replace rp := Lib.hid (Own.own_below rp.out hb)
    replace hc0 := (hb.cell (p := ⟨g1, 0, none⟩) hlt1).trans hc0
    clear hza hb hcj
    obtain ⟨y1, y2⟩ := two_yes (a := t0) (x := t) ⟨p2, p3⟩ ⟨q2, q3⟩
    have HY1 := Lib.hid y1
    have HY2 := Lib.hid y2
    have HI2 := Lib.hid (two_ints w3 t0 (t + 20))
    have hbx := box_below w3 (.cells #[.int .i64 t0, .int .i64 (t + 20)] 3)
    replace T := T.trans (hbx.mono T.size)
    replace rp := Lib.hid (Own.own_below rp.out hbx)
    have RA := Lib.hid (hra.below hbx)
    clear y1 y2 hra hbx
    have h20 : IntKind.i64.wrap (t + 20) = t + 20 := IntWalk.i64_in _ (by omega)
    go_wp2_with fail
    refine (Pfo.impl_pair (some ⟨w3.heap.size, 0, none⟩) 2 2 [t0, t + 20] (t + 20) _ rfl (Nat.le_refl _) (by omega) (two_fits (by omega) (by omega)) HI2.out).mono ?_
    rintro e w4 ⟨Ab, cb, rb, rfl, hzb, hrb, hb⟩
    rw [HY1.out, HY2.out]
    rw [HY2.out] at hzb hrb
    have e3 : (two t0 (t + 20)).length = 3 := rfl
    rw [e3] at hrb ⊢
    have HZB := Lib.hid hzb
    have RB := Lib.hid hrb
    have s4 := hb.size
    replace T := T.trans (hb.mono T.size)
    replace rp := Lib.hid (Own.own_below rp.out hb)
    replace RA := Lib.hid (RA.out.below hb)
    clear hzb hrb hb HI2 hc0
    go_wp2_with fail
    refine (Pfo.impl_pair (some ⟨g1, 0, none⟩) 4 c1 ps t _ HL.out hcap (by omega) HFT.out (ints_of rp.out)).mono ?_
    rintro e w5 ⟨Ac, cc, rc, rfl, _, _, hb⟩
    rw [HX2.out]
    generalize (pairF ps t).length = lc
    replace T := T.trans (hb.mono T.size)
    replace rp := Lib.hid (Own.own_below rp.out hb)
    replace RA := Lib.hid (RA.out.below hb)
    replace RB := Lib.hid (RB.out.below hb)
    clear hb
    go_wp2_with fail
    refine (Pff.impl_four (some ⟨g1, 0, none⟩) 4 c1 ps 9 _ HL.out hcap (by omega) HFT.out (ints_of rp.out)).mono ?_
    rintro e w6 ⟨Ad, cd, rd, rfl, _, _, hb⟩
    rw [HX9.out]
    generalize (fourF ps 9).length = ld
    replace T := T.trans (hb.mono T.size)
    replace RA := Lib.hid (RA.out.below hb)
    replace RB := Lib.hid (RB.out.below hb)
    clear hb
    obtain ⟨xa, hxa, _⟩ := RA.out.1.1
    obtain ⟨xb, hxb, _⟩ := RB.out.1.1
    have hca := Pfn.own_cap hxa
    have hcb := Pfn.own_cap hxb
    have HKA := Lib.hid (four_ok q2)
    have HKB := Lib.hid (two_ok (a := t0) (x := t + 20) (by omega))
    have HTA := Lib.hid (four_fit (x := t) (by omega))
    have HTB := Lib.hid (two_fit (a := t0) (x := t + 20) (by omega))
    have HGA := Lib.hid (show BigN (fourL t) by have h := Pff.four_big ps t; rw [four_yes HCH.out] at h; exact h)
    have HGB := Lib.hid (show BigN (two t0 (t + 20)) by have h := Pff.pair_big [t0, t + 20] (t + 20); rw [HY2.out] at h; exact h)
    have HFA := Lib.hid (four_forced q2)
    have HFB := Lib.hid (two_forced (a := t0) (x := t + 20) (by omega))
    have HDA := Lib.hid (four_depth q2)
    have HDB := Lib.hid (two_depth (a := t0) (x := t + 20) (by omega))
    have HPL := Lib.hid (fun k (hk : k < 4) => four_play q2 hk)
    clear hxa hxb HX2 HX9 HFT HCH HL rp HY1 HY2
    go_wp2_with fail
    refine (Frc.impl_ok Aa 7 ca ra (fourL t) _ HZA.out RA.out.2 hca HTA.out HGA.out RA.out.at_).mono ?_
    rintro e w7 ⟨rfl, hb⟩
    rw [ok_yes HKA.out]
    replace T := T.trans (hb.mono T.size)
    replace RA := Lib.hid (RA.out.below hb)
    replace RB := Lib.hid (RB.out.below hb)
    clear hb
    go_wp2_with fail
    refine (Frc.impl_ok Ab 3 cb rb (two t0 (t + 20)) _ HZB.out RB.out.2 hcb HTB.out HGB.out RB.out.at_).mono ?_
    rintro e w8 ⟨rfl, hb⟩
    rw [ok_yes HKB.out]
    replace T := T.trans (hb.mono T.size)
    replace RA := Lib.hid (RA.out.below hb)
    replace RB := Lib.hid (RB.out.below hb)
    clear hb
    go_wp2_with fail
    refine (Fen.impl_forced Aa 7 ca ra (fourL t) t _ HZA.out RA.out.2 hca HTA.out HGA.out RA.out.at_).mono ?_
    rintro e w9 ⟨rfl, hb⟩
    rw [HFA.out]
    replace T := T.trans (hb.mono T.size)
    replace RA := Lib.hid (RA.out.below hb)
    replace RB := Lib.hid (RB.out.below hb)
    clear hb
    go_wp2_with fail
    refine (Fen.impl_forced Ab 3 cb rb (two t0 (t + 20)) (t + 20) _ HZB.out RB.out.2 hcb HTB.out HGB.out RB.out.at_).mono ?_
    rintro e w10 ⟨rfl, hb⟩
    rw [HFB.out]
    replace T := T.trans (hb.mono T.size)
    replace RA := Lib.hid (RA.out.below hb)
    replace RB := Lib.hid (RB.out.below hb)
    clear hb
    clear HKA HKB HFA HFB
    have HRA := Lib.hid (nv_at HZA.out)
    go_wp2
    go_loopw [13] (fun q wr => ∃ k : Nat, k ≤ 4 ∧ q = .int .i64 k ∧ Hid (Below w10.heap.size w10 wr)) (fun q _ => 4 - (intOf q).toNat)
    case atStart => exact ⟨0, by omega, rfl, Lib.hid (Below.refl _ _)⟩
    case round =>
      obtain ⟨k, hk, rfl, HB⟩ := hrel
      by_cases hlt : k < 4
      · have hk4 : decide ((k : Int) < 4) = true := decide_eq_true (by omega)
        obtain ⟨j2, z1, z2, z3, z4⟩ := HPL.out k hlt
        have RA2 := RA.out.below HB.out
        have hbx := box_below wr (.cells #[.int .i64 ((k : Int) / 2), .int .i64 ((k : Int) % 2)] 3)
        have HI2 := Lib.hid (two_ints wr ((k : Int) / 2) ((k : Int) % 2))
        have HBX := Lib.hid (HB.out.trans (hbx.mono HB.out.size))
        have RA3 := Lib.hid (RA2.below hbx)
        have HZ1 := Lib.hid z1
        have HZ2 := Lib.hid z2
        clear z1 z2 RA2 hbx
        go_wp2_with fail
        refine (Frc.impl_play Aa 7 ca ra (fourL t) (some ⟨wr.heap.size, 0, none⟩) 2 2 [(k : Int) / 2, (k : Int) % 2] _ HZA.out RA3.out.2 hca HTA.out HGA.out RA3.out.at_ rfl (by omega) (two_fits (by omega) (by omega)) HI2.out).mono ?_
        rintro e w11 ⟨rfl, hb⟩
        rw [HZ1.out, HZ2.out]
        have HB11 := Lib.hid (HBX.out.trans (hb.mono HBX.out.size))
        have RA4 := Lib.hid (RA3.out.below hb)
        clear hb
        obtain ⟨b4, o4, rfl, hb4, c0, c1', c2, _⟩ := RA4.out.at_ j2 (by rw [RA4.out.2]; exact z4)
        obtain ⟨y1, y2⟩ := HRA.out j2
        unfold NR.sv at c1'
        rw [y1, four_nx z4, if_neg (by omega), if_neg (by omega), if_neg (by omega)] at c1'
        rw [y2, four_fi z4, if_neg (by omega)] at c2
        have d1 : decide ((j2 : Int) < 0) = false := decide_eq_false (by omega)
        have d2 : decide ((7 : Int) ≤ (j2 : Int)) = false := decide_eq_false (by omega)
        have d3 : (t != t) = false := by simp
        generalize (ra.getD j2 nr0).A = A9 at c1'
        generalize (ra.getD j2 nr0).c = c9 at c1'
        clear y1 y2 c0
        go_wp2
        go_roundw
        case rel => exact ⟨k + 1, by omega, by go_num, HB11⟩
        case measure => simp [intOf]; omega
      · have hk5 : k = 4 := by omega
        subst hk5
        replace T := T.trans (HB.out.mono T.size)
        replace RA := Lib.hid (RA.out.below HB.out)
        replace RB := Lib.hid (RB.out.below HB.out)
        clear HB
        go_wp2_with fail
        refine (Fde.impl_depth Aa 7 ca ra (fourL t) _ HZA.out RA.out.2 hca HTA.out HGA.out RA.out.at_).mono ?_
        rintro e w12 ⟨rfl, hb⟩
        rw [HDA.out]
        replace T := T.trans (hb.mono T.size)
        replace RA := Lib.hid (RA.out.below hb)
        replace RB := Lib.hid (RB.out.below hb)
        clear hb
        go_wp2_with fail
        refine (Fde.impl_depth Ab 3 cb rb (two t0 (t + 20)) _ HZB.out RB.out.2 hcb HTB.out HGB.out RB.out.at_).mono ?_
        rintro e w13 ⟨rfl, hb⟩
        rw [HDB.out]
        replace T := T.trans (hb.mono T.size)
        replace RA := Lib.hid (RA.out.below hb)
        replace RB := Lib.hid (RB.out.below hb)
        clear hb
        go_wp2
        go_ret
        exact ⟨rfl, T⟩
  · have h1' : (1048576 : Int) < (n : Int) := by omega
    go_enter Try.func4, Try.ntmps4
    go_wp2
    go_ret
    exact ⟨rfl, Below.refl _ w⟩

set_option maxRecDepth 100000 in
theorem lifted (os : Os) (started : os.Started) (H : Type) (enc : TypeId × Value → H) :
    ReturnsInHanded {} Try.checked os 4 .any (Rows.fnEquivocalSpec.pre6 enc Try.prog Try.f4 Rows.fnEquivocalRow.domain false) (Rows.fnEquivocalSpec.post enc Try.prog Try.f4 false true false false) := by
  refine returnsInHanded_of_change (C := Try.checked) Fr.own started (by kernel_rfl) Try.func4
    (ChangeSpec.witness6 (enc := enc) (C := Try.checked) false ⟨#[], #[.slice none 0 0], []⟩ 8 (by kernel_rfl) (by kernel_rfl) (by kernel_rfl) (by kernel_rfl)) ?_
  intro W base args ds gs before hval0 hW hcnd _
  have hval : ∀ (j : Nat) t v, Try.f4.params[j]? = some t → args[j]? = some v → Value.okWide Try.prog W .any base t v := hval0
  have hW' := hW
  obtain ⟨p, q, hA0, hV, rfl, hfz, hnd⟩ := hW
  have hA : DataW.TrodAll enc Try.prog W 0 (fun _ => true) true Try.f4.params.toList args.toList ds p := hA0
  have hAk := hA
  rw [Try.params4] at hA hval
  obtain ⟨v0, d0, rfl, rfl, h0⟩ := trodAll_one hA
  obtain ⟨rfl, rfl⟩ := trodVars_none hV
  have hlt : ∀ x ∈ p, x.block < W.heap.size := fun x hx => by simpa using hW'.lt x (List.mem_append_left _ hx)
  obtain ⟨A0, n0, c0, l0, rfl, hn0, hm0, hs0, ha0⟩ := Fr.view_nums Try.underlying22 Try.underlying5 (by kernel_rfl) (hval 0 22 v0 rfl rfl) h0 hlt
  clear hA0 hval0
  refine (walk A0 n0 c0 l0 W hn0 hm0 hs0 ha0).mono fun e W' ⟨he, hb⟩ => ?_
  subst he
  exact ⟨_, rfl, _, _, _, [], p, [], hW', trodAll_mk1 (shut_bool Try.underlying4 _), Fr.below_all Fr.laidOut hb _ _ _ _ (Fr.readB_all (by kernel_rfl)) hAk hlt, rfl, hb.frame _, fun h => by cases h⟩

theorem proved : Rows.FnEquivocalSaid :=
  OpenClaim.holds_of_wide 4 Try.f4 rfl rfl rfl rfl rfl rfl rfl ⟨rfl, rfl, rfl, rfl, rfl⟩ rfl rfl rfl rfl rfl (by kernel_rfl) Try.func4 (by kernel_rfl)
    (of_decide_eq_true (by kernel_rfl)) (by unfold Func.isWrapper; first | (rw [if_pos (by decide +kernel)]; kernel_rfl) | (rw [if_neg (by decide +kernel)]; exact ⟨rfl, rfl⟩))
    (fun os started H enc _ => lifted os started H enc)

end Go.Proofs.Ytjmfdflhplobmaa.LawEquivocal
