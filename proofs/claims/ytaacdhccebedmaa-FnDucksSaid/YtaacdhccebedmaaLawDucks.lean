/- The law of ducking deals holds: the last card is where the binary formula says, and a prepared packet is dealt as wanted. No condition. -/
import Derived.Deep.RegionHeld3
import Derived.Deep.RegionWith
import Derived.Deep.Cut
import Derived.Deep.CutRange
import Derived.BigQuiet
import Derived.Test.YtaacdhccebedmaaDfx
import Derived.Test.YtaacdhccebedmaaMkq
import Derived.Test.YtaacdhccebedmaaMkp
import Derived.Test.YtaacdhccebedmaaCur
import Derived.Test.YtaacdhccebedmaaFrame
set_option linter.unusedVariables false
namespace Go.Proofs.Ytaacdhccebedmaa.LawDucks
open Go.ChangeShapes Go.WideShapes Go.ChangeAt Go.RowKit Fr Cur _root_.Go.Proofs.Ytaacdhccebedmaa.Own Pok Ins Prm Rws Pfn Mvp Pf Pa Duk Duc Duq Dfx

theorem bytes_more {w : World} {B B2 : Nat} {A : Option Addr} {n : Nat} (h : BytesAt w B A n) (hB : B ≤ B2) : BytesAt w B2 A n := fun i hi => by
  obtain ⟨b, o, k, h1, h2, r⟩ := h i hi
  exact ⟨b, o, k, h1, by omega, r⟩
set_option maxHeartbeats 4000000 in
set_option maxRecDepth 20000 in
theorem walk (A : Option Addr) (n c : Nat) (zs : List Int) (w : World) (hn : zs.length = n) (hm : n ≤ maxLen) (hs : ∀ z ∈ zs, (Lit.int .u8 z).wf = true) (ha : Fr.IntsAt w w.heap.size .u8 A zs) :
    Calls Try.prog 3 #[.slice A n c] w fun e w' => e = .returned (.bool true) ∧ Below w.heap.size w w' := by
  have hm0 : n ≤ 9223372036854775807 := by unfold maxLen at hm; omega
  have hby := Cur.bytes_of hn hs ha
  clear hn hs ha zs hm
  by_cases h1 : n ≤ 1048576
  · have h1' : decide ((1048576 : Int) < (n : Int)) = false := decide_eq_false (by omega)
    go_enter Try.func3, Try.ntmps3
    go_wp2_with fail
    refine (Dfx.make_packet12 A n c 0 _ h1 (by omega) hby).mono ?_
    rintro e w1 ⟨A1, m, c1, p, rfl, hl, hm1, hm12, hok, hown, T⟩
    have s1 := T.size
    replace hby := BytesAt.below hby T
    have HO1 := Lib.hid hown
    clear hown
    go_wp2_with fail
    refine (Cur.num_any A n c 40 _ h1 (by omega) (bytes_more hby s1)).mono ?_
    rintro e w2 ⟨x, rfl, hx0, hx1, hb⟩
    obtain ⟨j, hj⟩ : ∃ j : Nat, x % 2 = (j : Int) := ⟨(x % 2).toNat, by omega⟩
    have hj1 : j ≤ 1 := by omega
    replace T := T.trans (hb.mono s1)
    have s2 : w.heap.size ≤ w2.heap.size := T.size
    have HO2 := Lib.hid (own_below HO1.out hb)
    clear hb HO1 hby
    have hdk := dk_of hm1 hm12 hj1
    obtain ⟨a, ha, ham, hqa⟩ := duck_law hl hok hm1 hj1
    have HLA := Lib.hid ((last_yes hdk).trans ha)
    obtain ⟨q1, q2, q3, q4⟩ := duck_at hl hok hm1 hj1
    obtain ⟨r1, r2, r3, r4, r5, r6⟩ := prep_law hl hok hm1 hj1
    have HOL := Lib.hid (fun i (hi : i < m) => ord_law hl hok hm1 hj1 i hi)
    obtain ⟨q, hq⟩ : ∃ q, q = moveF 7 j p := ⟨_, rfl⟩
    rw [← hq] at q2 q3 q4 hqa
    have HQ := Lib.hid hq
    have Q1 := Lib.hid q1
    have Q2 := Lib.hid q2
    have Q3 := Lib.hid q3
    have Q4 := Lib.hid hqa
    obtain ⟨r, hr⟩ : ∃ r, r = prepL p j := ⟨_, rfl⟩
    rw [← hr] at r2 r3 r4 r5 r6
    have R1 := Lib.hid r1
    have R2 := Lib.hid r2
    have R3 := Lib.hid r3
    have R4 := Lib.hid (ok_fits r4)
    have R5 := Lib.hid r5
    have R6 := Lib.hid r6
    obtain ⟨o, ho⟩ : ∃ o, o = (dkL m j).reverse := ⟨_, rfl⟩
    have HOO := Lib.hid ((ord_yes hdk).trans ho.symm)
    have HOE := Lib.hid ho
    have HOLEN := Lib.hid (show o.length = m by rw [ho, List.length_reverse, dkL_len hm1 hm12 hj1])
    have HL := Lib.hid hl
    have HF := Lib.hid (ok_fits hok)
    have HRD := Lib.hid (rnd_yes hm1 hm12)
    clear hl hok hdk ha hqa q1 q2 q3 q4 r1 r2 r3 r4 r5 r6 hq hr ho hx1
    go_wp2_with fail
    refine (impl_last (m : Int) (j : Int) _ (by omega) (by omega) (by omega) (by omega)).mono ?_
    rintro e w3 ⟨rfl, hb⟩
    rw [HLA.out]
    replace T := T.trans (hb.mono s2)
    have s3 : w.heap.size ≤ w3.heap.size := T.size
    have HO3 := Lib.hid (own_below HO2.out hb)
    clear hb HO2
    go_wp2_with fail
    refine (impl_perform A1 m c1 7 (j : Int) p _ HL.out (row_cap HO3.out) (by omega) HF.out (ints_of HO3.out)).mono ?_
    rintro e w4 ⟨A4, c4, rfl, hown, hb⟩
    rw [Q2.out, Q3.out] at hown
    rw [Q1.out, Q2.out, Q3.out]
    replace T := T.trans (hb.mono s3)
    have s4 : w.heap.size ≤ w4.heap.size := T.size
    have HO4 := Lib.hid (own_below HO3.out hb)
    have HQ4 := Lib.hid (own_mono hown s3)
    clear hb hown HO3
    obtain ⟨g1, hg1⟩ := own_shape HO4.out (by omega)
    obtain ⟨g4, hg4⟩ := own_shape HQ4.out (by omega)
    subst hg1 hg4
    have hc1 : w4.drew.cell? ⟨g1, a, none⟩ = some (.int .i64 (p.getD a 0)) := by
      show w4.cell? _ = _
      rw [HO4.out.cellAt a (by omega), vals_get (by rw [HL.out]; exact ham)]
    have hc4 : w4.drew.cell? ⟨g4, 0, none⟩ = some (.int .i64 (p.getD a 0)) := by
      show w4.cell? _ = _
      exact (HQ4.out.cellAt 0 (by omega)).trans ((vals_get (zs := q) (k := 0) (by rw [Q3.out]; omega)).trans (by rw [Q4.out]))
    generalize p.getD a 0 = x0 at hc1 hc4
    have hmm : ((m : Int) != (m : Int)) = false := by simp
    have hmp : 0 < m := hm1
    have haa : ((a : Int) != (a : Int)) = false := by simp
    have hxx : (x0 != x0) = false := by simp
    have ha0 : decide ((a : Int) < 0) = false := decide_eq_false (by omega)
    have ha1 : decide ((m : Int) ≤ (a : Int)) = false := decide_eq_false (by omega)
    have ha2 : decide (m ≤ a) = false := decide_eq_false (by omega)
    have hb4 := Lib.hid ((Below.refl w4.heap.size w4).drew)
    have l1 := (HO4.out.lt g1 rfl).2
    have l4 := (HQ4.out.lt g4 rfl).2
    go_upto_region 8 with fail
    go_cut [70] from 37 (fun s wx => s = .bool false ∧ Below w4.heap.size w4 wx)
    case first =>
      clear T
      go_region_held3 (fun w' => w'.cell? ⟨g1, a, none⟩ = some (.int .i64 x0) ∧ w'.cell? ⟨g4, 0, none⟩ = some (.int .i64 x0)) ((first | exact ⟨hc1, hc4⟩)) ((first | (go_at_call 13; refine (impl_power (m : Int) (j : Int) _ (by omega) (by omega) (by omega) (by omega)).mono ?_; rintro e w5 ⟨rfl, hb⟩; rw [HLA.out]; replace hc1 := (hb.cell (p := ⟨g1, a, none⟩) l1).trans hc1; replace hc4 := (hb.cell (p := ⟨g4, 0, none⟩) l4).trans hc4; replace hb4 := Lib.hid (hb4.out.trans hb); clear hb)))
      go_wp2_with fail
      go_meet
      exact ⟨rfl, hb4.out⟩
    case rest =>
    obtain ⟨rfl, hb⟩ := hcut
    replace T := T.trans (hb.mono s4)
    have s5 : w.heap.size ≤ wc.heap.size := T.size
    have HO5 := Lib.hid (own_below HO4.out hb)
    have HQ5 := Lib.hid (own_below HQ4.out hb)
    clear hb hc1 hc4 hb4 hxx haa ha0 ha1 ha2 HO4 HQ4 l1 l4 HLA Q1 Q2 Q4
    go_wp2_with fail
    refine (Dch.impl_order (m : Int) (j : Int) _ (by omega) (by omega) (by omega) (by omega)).mono ?_
    rintro e w6 ⟨A6, c6, rfl, hown, hb⟩
    rw [HOO.out, HOLEN.out] at hown
    rw [HOO.out, HOLEN.out]
    replace T := T.trans (hb.mono s5)
    have s6 : w.heap.size ≤ w6.heap.size := T.size
    have HO6 := Lib.hid (own_below HO5.out hb)
    have HQ6 := Lib.hid (own_below HQ5.out hb)
    have HD6 := Lib.hid (own_mono hown s5)
    clear hb hown HO5 HQ5
    go_wp2_with fail
    refine (impl_prep (some ⟨g1, 0, none⟩) m c1 p (j : Int) _ HL.out (by omega) HF.out (ints_of HO6.out) (by omega) (by omega)).mono ?_
    rintro e w7 ⟨A7, c7, rfl, hown, hb⟩
    rw [R2.out, R3.out] at hown
    rw [R1.out, R2.out, R3.out]
    replace T := T.trans (hb.mono s6)
    have s7 : w.heap.size ≤ w7.heap.size := T.size
    have HO7 := Lib.hid (own_below HO6.out hb)
    have HQ7 := Lib.hid (own_below HQ6.out hb)
    have HD7 := Lib.hid (own_below HD6.out hb)
    have HR7 := Lib.hid hown
    clear hb hown HO6 HQ6 HD6
    go_wp2_with fail
    refine (impl_perform A7 m c7 7 (j : Int) r _ R3.out (row_cap HR7.out) (by omega) R4.out (ints_of HR7.out)).mono ?_
    rintro e w8 ⟨A8, c8, rfl, hown, hb⟩
    rw [R6.out, HL.out] at hown
    rw [R5.out, R6.out, HL.out]
    replace T := T.trans (hb.mono s7)
    have s8 : w.heap.size ≤ w8.heap.size := T.size
    have HO8 := Lib.hid (own_below HO7.out hb)
    have HQ8 := Lib.hid (own_below HQ7.out hb)
    have HD8 := Lib.hid (own_below HD7.out hb)
    have HX8 := Lib.hid hown
    have HSP := Lib.hid (show Sam.sameB p p = true from decide_eq_true rfl)
    clear hb hown HO7 HQ7 HD7 HR7 R1 R2 R3 R4 R5 R6
    go_wp2_with fail
    refine (Mkp.same_any A8 (some ⟨g1, 0, none⟩) m m c8 c1 p p _ HL.out HL.out (by omega) (by omega) (ints_of HX8.out) (ints_of HO8.out)).mono ?_
    rintro e w9 ⟨rfl, rfl⟩
    rw [HSP.out]
    obtain ⟨g6, hg6⟩ := own_shape HD8.out (by omega)
    subst hg6
    have HT8 := Lib.hid T
    clear T HX8 HSP
    have HBW := Lib.hid (Below.refl w8.heap.size w8)
    go_wp2
    go_loopw [107] (fun i wr => ∃ t : Nat, t ≤ m ∧ i = .int .i64 (t : Int) ∧ Hid (Below w8.heap.size w8 wr)) (fun i _ => m - (intOf i).toNat)
    case atStart => exact ⟨0, Nat.zero_le _, rfl, HBW⟩
    case round =>
      obtain ⟨t, ht, rfl, HB⟩ := hrel
      by_cases hlt : t < m
      · obtain ⟨a, ha, ham, hqa⟩ := HOL.out t hlt
        rw [← HOE.out] at ha
        rw [← HQ.out] at hqa
        have HOr := own_below HO8.out HB.out
        have HQr := own_below HQ8.out HB.out
        have HDr := own_below HD8.out HB.out
        have hc6 : wr.cell? ⟨g6, t, none⟩ = some (.int .i64 (a : Int)) := (HDr.cellAt t (by omega)).trans ((vals_get (zs := o) (k := t) (by rw [HOLEN.out]; omega)).trans (by rw [ha]))
        have hc4 : wr.cell? ⟨g4, m - 1 - t, none⟩ = some (.int .i64 (p.getD a 0)) := (HQr.cellAt (m - 1 - t) (by omega)).trans ((vals_get (zs := q) (k := m - 1 - t) (by rw [Q3.out]; omega)).trans (by rw [hqa]))
        have hc1 : wr.cell? ⟨g1, a, none⟩ = some (.int .i64 (p.getD a 0)) := (HOr.cellAt a (by omega)).trans (vals_get (by rw [HL.out]; exact ham))
        generalize p.getD a 0 = x0 at hc1 hc4
        clear HOr HQr HDr ha hqa
        have hxx : (x0 != x0) = false := by simp
        have ha0 : decide ((a : Int) < 0) = false := decide_eq_false (by omega)
        have ha1 : decide ((m : Int) ≤ (a : Int)) = false := decide_eq_false (by omega)
        have ha2 : decide (m ≤ a) = false := decide_eq_false (by omega)
        have hs1 : (m : Int) - 1 = ((m - 1 : Nat) : Int) := by omega
        have hs2 : ((m - 1 : Nat) : Int) - (t : Int) = ((m - 1 - t : Nat) : Int) := by omega
        have hlt2 : m - 1 - t < m := by omega
        go_upto_region 18 with fail
        go_quiet (fail)
        clear hc1 hc4 hc6 hxx ha0 ha1 ha2 hs1 hs2 hlt2 HOL HO8 HQ8 HD8 HT8 HBW
        go_wp2
        go_roundw
        case rel => exact ⟨t + 1, hlt, by go_num, below_drewN HB _⟩
        case measure => simp [intOf]; omega
      · have htm : t = m := by omega
        have hr3 := rl_le m
        obtain ⟨u1, u2, u3⟩ := rounds_law hm1 hm12
        generalize rl m = R at HRD u1 u2 u3
        have HTB := Lib.hid (HT8.out.trans (HB.out.mono s8))
        clear HT8 HB
        go_wp2_with fail
        refine (impl_rounds (m : Int) _ (by omega) (by omega)).mono ?_
        rintro e wz ⟨rfl, rfl⟩
        rw [HRD.out]
        go_upto_region 22 with fail
        clear HRD HOL HO8 HQ8 HD8 HBW
        rcases (show R = 0 ∨ R = 1 ∨ R = 2 ∨ R = 3 by omega) with rfl | rfl | rfl | rfl
        all_goals
          simp only [Int.reducePow, Int.reduceMul, Int.pow_zero, Int.mul_one] at u1 u2
          go_wp2
          go_ret
          exact ⟨rfl, HTB.out⟩
  · have h1' : (1048576 : Int) < (n : Int) := by omega
    go_enter Try.func3, Try.ntmps3
    go_wp2
    go_ret
    exact ⟨rfl, Below.refl _ w⟩

set_option maxRecDepth 100000 in
theorem lifted (os : Os) (started : os.Started) (H : Type) (enc : TypeId × Value → H) :
    ReturnsInHanded {} Try.checked os 3 .any (Rows.fnDucksSpec.pre6 enc Try.prog Try.f3 Rows.fnDucksRow.domain false) (Rows.fnDucksSpec.post enc Try.prog Try.f3 false true false false) := by
  refine returnsInHanded_of_change (C := Try.checked) Fr.own started (by kernel_rfl) Try.func3
    (ChangeSpec.witness6 (enc := enc) (C := Try.checked) false ⟨#[], #[.slice none 0 0], []⟩ 8 (by kernel_rfl) (by kernel_rfl) (by kernel_rfl) (by kernel_rfl)) ?_
  intro W base args ds gs before hval0 hW hcnd _
  have hval : ∀ (j : Nat) t v, Try.f3.params[j]? = some t → args[j]? = some v → Value.okWide Try.prog W .any base t v := hval0
  have hW' := hW
  obtain ⟨p, q, hA0, hV, rfl, hfz, hnd⟩ := hW
  have hA : DataW.TrodAll enc Try.prog W 0 (fun _ => true) true Try.f3.params.toList args.toList ds p := hA0
  have hAk := hA
  rw [Try.params3] at hA hval
  obtain ⟨v0, d0, rfl, rfl, h0⟩ := trodAll_one hA
  obtain ⟨rfl, rfl⟩ := trodVars_none hV
  have hlt : ∀ x ∈ p, x.block < W.heap.size := fun x hx => by simpa using hW'.lt x (List.mem_append_left _ hx)
  obtain ⟨A0, n0, c0, l0, rfl, hn0, hm0, hs0, ha0⟩ := Fr.view_nums Try.underlying22 Try.underlying5 (by kernel_rfl) (hval 0 22 v0 rfl rfl) h0 hlt
  clear hA0 hval0
  refine (walk A0 n0 c0 l0 W hn0 hm0 hs0 ha0).mono fun e W' ⟨he, hb⟩ => ?_
  subst he
  exact ⟨_, rfl, _, _, _, [], p, [], hW', trodAll_mk1 (shut_bool Try.underlying4 _), Fr.below_all Fr.laidOut hb _ _ _ _ (Fr.readB_all (by kernel_rfl)) hAk hlt, rfl, hb.frame _, fun h => by cases h⟩

theorem proved : Rows.FnDucksSaid :=
  OpenClaim.holds_of_wide 3 Try.f3 rfl rfl rfl rfl rfl rfl rfl ⟨rfl, rfl, rfl, rfl, rfl⟩ rfl rfl rfl rfl rfl (by kernel_rfl) Try.func3 (by kernel_rfl)
    (of_decide_eq_true (by kernel_rfl)) (by unfold Func.isWrapper; first | (rw [if_pos (by decide +kernel)]; kernel_rfl) | (rw [if_neg (by decide +kernel)]; exact ⟨rfl, rfl⟩))
    (fun os started H enc _ => lifted os started H enc)

end Go.Proofs.Ytaacdhccebedmaa.LawDucks
