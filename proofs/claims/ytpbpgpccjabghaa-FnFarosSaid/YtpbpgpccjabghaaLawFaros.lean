/- The law of the perfect shuffles holds: they bring the top card to every position by binary digits, and keep pairs of opposite cards. No condition. -/
import Derived.Deep.RegionHeld3
import Derived.Deep.RegionWith
import Derived.Deep.Cut
import Derived.BigQuiet
import Derived.Test.YtpbpgpccjabghaaFfx
import Derived.Test.YtpbpgpccjabghaaMkq
import Derived.Test.YtpbpgpccjabghaaMkp
import Derived.Test.YtpbpgpccjabghaaCur
import Derived.Test.YtpbpgpccjabghaaFrame
set_option linter.unusedVariables false
namespace Go.Proofs.Ytpbpgpccjabghaa.LawFaros
open Go.ChangeShapes Go.WideShapes Go.ChangeAt Go.RowKit Fr Cur _root_.Go.Proofs.Ytpbpgpccjabghaa.Own Ins Prm Rws Pfn Pok Sv Fsz Pa Fpm Fto Frn Cen Ffx

theorem bytes_more {w : World} {B B2 : Nat} {A : Option Addr} {n : Nat} (h : BytesAt w B A n) (hB : B ≤ B2) : BytesAt w B2 A n := fun i hi => by
  obtain ⟨b, o, k, h1, h2, r⟩ := h i hi
  exact ⟨b, o, k, h1, by omega, r⟩
set_option maxHeartbeats 4000000 in
set_option maxRecDepth 20000 in
theorem walk (A : Option Addr) (n c : Nat) (zs : List Int) (w : World) (hn : zs.length = n) (hm : n ≤ maxLen) (hs : ∀ z ∈ zs, (Lit.int .u8 z).wf = true) (ha : Fr.IntsAt w w.heap.size .u8 A zs) :
    Calls Try.prog 3 #[.slice A n c] w fun e w' => e = .returned (.bool true) ∧ Below w.heap.size w w' := by
  have hm0 : n ≤ 9223372036854775807 := by unfold maxLen at hm; omega
  have hby := Cur.bytes_of hn hs ha
  clear hn hs ha zs hm
  by_cases h1 : n ≤ 1048576
  · have h1' : decide ((1048576 : Int) < (n : Int)) = false := decide_eq_false (by omega)
    go_enter Try.func3, Try.ntmps3
    go_wp2_with fail
    refine (Cur.num_any A n c 1 _ h1 (by omega) hby).mono ?_
    rintro e w1 ⟨x, rfl, hx0, hx1, T⟩
    have s1 := T.size
    obtain ⟨m, hm⟩ : ∃ m : Nat, 2 + 2 * (x % 6) = (m : Int) := ⟨(2 + 2 * (x % 6)).toNat, by omega⟩
    have hm2 : 2 ≤ m := by omega
    have hm12 : m ≤ 12 := by omega
    have hme : m % 2 = 0 := by omega
    have hwr : IntKind.i64.wrap (2 * (x % 6)) = 2 * (x % 6) := IntWalk.i64_in _ (by omega)
    have hwr2 : IntKind.i64.wrap (2 + 2 * (x % 6)) = 2 + 2 * (x % 6) := IntWalk.i64_in _ (by omega)
    replace hby := BytesAt.below hby T
    go_wp2_with fail
    refine (Cur.num_any A n c 3 _ h1 (by omega) (bytes_more hby s1)).mono ?_
    rintro e w2 ⟨y, rfl, hy0, hy1, hb⟩
    have s2 := hb.size
    replace T := T.trans (hb.mono s1)
    replace hby := BytesAt.below hby (hb.mono s1)
    clear hb
    obtain ⟨a, ha⟩ : ∃ a : Nat, y % (m : Int) = (a : Int) := ⟨(y % (m : Int)).toNat, by have := Int.emod_nonneg y (show (m : Int) ≠ 0 by omega); omega⟩
    have ham : a < m := by have := Int.emod_lt_of_pos y (show (0 : Int) < (m : Int) by omega); omega
    have hmne : ((m : Int) == 0) = false := beq_eq_false_iff_ne.2 (by omega)
    have hm0' : 0 < m := by omega
    have hmz : ¬ (m : Int) = 0 := by omega
    have hmz2 : ¬ m = 0 := by omega
    have htm : y.tmod (m : Int) = (a : Int) := by rw [Int.tmod_eq_emod_of_nonneg hy0]; exact ha
    clear hm hy1 hx0 hx1 hwr hwr2
    have s12 : w.heap.size ≤ w2.heap.size := T.size
    go_wp2_with fail
    refine (Mkp.make_perm A n c 20 m _ h1 (by omega) (by omega) hm12 (bytes_more hby s12)).mono ?_
    rintro e w3 ⟨A3, c3, zs, rfl, hl, hp, hown, hb⟩
    obtain ⟨t1, t2, t3, t4, t5, t6⟩ := top_at hm2 hm12 hme ham hl (Mkq.perm_ok hp)
    replace T := T.trans (hb.mono s12)
    have s3 : w.heap.size ≤ w3.heap.size := T.size
    have HL := Lib.hid hl
    have HZ := Lib.hid (perm_fits hp)
    have HO3 := Lib.hid hown
    clear hb hown hl hp hby
    obtain ⟨D, hD⟩ : ∃ D, D = bhi a 0 := ⟨_, rfl⟩
    rw [← hD] at t2 t3 t4 t5 t6
    obtain ⟨q, hq⟩ : ∃ q, q = frF zs D := ⟨_, rfl⟩
    rw [← hq] at t5 t6
    have HT1 := Lib.hid t1
    have HT2 := Lib.hid t2
    have HT4 := Lib.hid t4
    have HQ := Lib.hid hq.symm
    have HQL := Lib.hid t5
    have HX := Lib.hid t6
    clear hD hq t1 t2 t4 t5 t6
    go_wp2_with fail
    refine (impl_to m a _ (by omega) (by omega) (by omega) (by omega)).mono ?_
    rintro e w4 ⟨A4, c4, rfl, hown, hb⟩
    rw [HT2.out] at hown
    rw [HT2.out, HT1.out]
    replace T := T.trans (hb.mono s3)
    have s4 : w.heap.size ≤ w4.heap.size := T.size
    have HO4 := Lib.hid hown
    have HO3b := Lib.hid (own_below HO3.out hb)
    clear hb hown HO3
    go_wp2_with fail
    refine (impl_fr A3 m c3 zs A4 D.length c4 D _ HL.out (by omega) HZ.out (ints_of HO3b.out) rfl (by omega) (ints_of HO4.out)).mono ?_
    rintro e w5 ⟨A5, c5, rfl, hown, hb⟩
    rw [HQ.out, HQL.out] at hown
    rw [HQ.out, HQL.out, HT4.out]
    replace T := T.trans (hb.mono s4)
    have s5 : w.heap.size ≤ w5.heap.size := T.size
    have HO3c := Lib.hid (own_below HO3b.out hb)
    obtain ⟨g3, hg3⟩ := own_shape HO3c.out (by omega)
    obtain ⟨g5, hg5⟩ := own_shape hown (by omega)
    subst hg3 hg5
    have hc3 : w5.cell? ⟨g3, 0, none⟩ = some (.int .i64 (zs.getD 0 0)) := by rw [HO3c.out.cellAt 0 (by omega), vals_get (by rw [HL.out]; omega)]
    have hc5 : w5.cell? ⟨g5, a, none⟩ = some (.int .i64 (zs.getD 0 0)) := (hown.cellAt a (by omega)).trans ((vals_get (zs := q) (k := a) (by rw [HQL.out]; exact ham)).trans (by rw [HX.out]))
    generalize zs.getD 0 0 = x0 at hc3 hc5
    have hmm : ((m : Int) != (m : Int)) = false := by simp
    have hxx : (x0 != x0) = false := by simp
    have ham' : (a : Int) < (m : Int) := by omega
    clear hb hown HO3b HO3c HO4 HL HZ HT1 HT2 HT4 HQ HQL HX
    go_upto_region 8 with fail
    go_cut [64] from 43 (fun s wx => s = .bool false ∧ Below w5.heap.size w5 wx)
    case first =>
      clear T
      go_quiet (fail)
      go_wp2_with fail
      go_meet
      first
        | exact ⟨rfl, below_drewN (Below.refl _ _) _⟩
        | exact ⟨rfl, (Below.refl _ _).drew⟩
    case rest =>
    obtain ⟨rfl, hb⟩ := hcut
    replace T := T.trans (hb.mono s5)
    clear hb hc3 hc5 hmm hxx ham' hmne htm ha hmz hmz2
    have HT0 := Lib.hid T
    clear T
    go_wp2
    go_loopw [10] (fun i wr => ∃ k : Nat, k ≤ 2 ∧ i = .int .i64 (k : Int) ∧ Hid (Below w.heap.size w wr)) (fun i _ => 2 - (intOf i).toNat)
    case atStart => exact ⟨0, by omega, rfl, HT0⟩
    case round =>
      obtain ⟨k, hk, rfl, HT⟩ := hrel
      clear HT0
      have sr : w.heap.size ≤ wr.heap.size := HT.out.size
      by_cases hk2 : k < 2
      · have hk2' : (k : Int) < 2 := by omega
        obtain ⟨f1, f2, f3, f4, f5, f6, f7, f8, f9, f10⟩ := fro_at hm2 hm12 hme (show k ≤ 1 by omega)
        obtain ⟨P, hP⟩ : ∃ P, P = pomF (m : Int) 4 (k : Int) := ⟨_, rfl⟩
        obtain ⟨o, ho⟩ : ∃ o : Nat, o = _root_.Go.Proofs.Ytpbpgpccjabghaa.Ord.ordF P := ⟨_, rfl⟩
        rw [← hP] at f2 f3 f4 f5 f6 f7 f8 f9 f10
        rw [← ho] at f5 f6 f7 f9 f10
        have F1 := Lib.hid f1
        have F2 := Lib.hid f2
        have F3 := Lib.hid f3
        have F4 := Lib.hid (perm_fits f4)
        have F5 := Lib.hid f5
        have F8 := Lib.hid f8
        have F9 := Lib.hid f9
        have F10 := Lib.hid f10
        have ho1 : decide ((o : Int) < 1) = false := decide_eq_false (by omega)
        have ho2 : (o : Int) ≤ 1000 := by omega
        have HLI := Lib.hid (imarks_length 0 m)
        have HNEW := Lib.hid (Nwp.newF_yes m hm12)
        have HSA := Lib.hid (show Sam.sameB (imarks 0 m) (imarks 0 m) = true from decide_eq_true rfl)
        clear f1 f2 f3 f4 f5 f8 f9 f10 hP ho f7
        go_wp2_with fail
        refine (impl_fp m k _ (by omega) (by omega)).mono ?_
        rintro e w6 ⟨A6, c6, rfl, hown, hb⟩
        rw [F2.out, F3.out] at hown
        rw [F2.out, F3.out, F1.out]
        have T6 := Lib.hid (HT.out.trans (hb.mono sr))
        have s6 : w.heap.size ≤ w6.heap.size := T6.out.size
        have HO6 := Lib.hid hown
        clear hb hown HT
        go_wp2_with fail
        refine (impl_fo m k _ (by omega) (by omega)).mono ?_
        rintro e w7 ⟨rfl, hb⟩
        rw [F5.out]
        have T7 := Lib.hid (T6.out.trans (hb.mono s6))
        have s7 : w.heap.size ≤ w7.heap.size := T7.out.size
        have HO7 := Lib.hid (own_below HO6.out hb)
        clear hb HO6 T6
        go_wp2_with fail
        refine (Pfn.impl_pow A6 m c6 P (o : Int) _ F3.out (by omega) F4.out (ints_of HO7.out)).mono ?_
        rintro e w8 ⟨A8, c8, rfl, hown, hb⟩
        rw [F10.out, HLI.out] at hown
        rw [F10.out, HLI.out, F9.out]
        have T8 := Lib.hid (T7.out.trans (hb.mono s7))
        have s8 : w.heap.size ≤ w8.heap.size := T8.out.size
        have HO8 := Lib.hid hown
        have HO7b := Lib.hid (own_below HO7.out hb)
        clear hb hown HO7 T7
        go_wp2_with fail
        refine (impl_cen A6 m c6 P _ F3.out (by omega) F4.out (ints_of HO7b.out)).mono ?_
        rintro e w9 ⟨rfl, hb⟩
        rw [F8.out]
        have T9 := Lib.hid (T8.out.trans (hb.mono s8))
        have s9 : w.heap.size ≤ w9.heap.size := T9.out.size
        have HO9 := Lib.hid (own_below HO8.out hb)
        clear hb HO8 HO7b T8
        go_wp2_with fail
        refine (Pfn.impl_id (m : Int) _ (by omega) (by omega)).mono ?_
        rintro e w10 ⟨A10, c10, rfl, hown, hb⟩
        rw [HNEW.out, HLI.out] at hown
        rw [HNEW.out, HLI.out]
        have T10 := Lib.hid (T9.out.trans (hb.mono s9))
        have HO10 := Lib.hid hown
        have HO9b := Lib.hid (own_below HO9.out hb)
        clear hb hown HO9 T9
        go_wp2_with fail
        refine (Mkp.same_any A8 A10 m m c8 c10 (imarks 0 m) (imarks 0 m) _ HLI.out HLI.out (by omega) (by omega) (ints_of HO9b.out) (ints_of HO10.out)).mono ?_
        rintro e w11 ⟨rfl, rfl⟩
        rw [HSA.out]
        clear HO9b HO10
        go_wp2
        go_roundw
        case rel => exact ⟨k + 1, by omega, by go_num, T10⟩
        case measure => simp [intOf]; omega
      · have hk3 : k = 2 := by omega
        subst hk3
        by_cases h12 : m = 12
        · have h12b : ((m : Int) == 12) = true := beq_iff_eq.2 (by omega)
          go_wp2
          go_ret
          exact ⟨rfl, HT.out⟩
        · have h12b : ((m : Int) == 12) = false := beq_eq_false_iff_ne.2 (by omega)
          have HN := Lib.hid (fro_next hm2 (by omega) hme)
          have hw2 : IntKind.i64.wrap ((m : Int) + 2) = (m : Int) + 2 := IntWalk.i64_in _ (by omega)
          go_wp2_with fail
          refine (impl_fo ((m : Int) + 2) 0 _ (by omega) (by omega)).mono ?_
          rintro e w6 ⟨rfl, hb⟩
          have T6 := Lib.hid (HT.out.trans (hb.mono sr))
          have s6 : w.heap.size ≤ w6.heap.size := T6.out.size
          rw [HN.out]
          clear hb
          go_wp2_with fail
          refine (impl_fo (m : Int) 1 _ (by omega) (by omega)).mono ?_
          rintro e w7 ⟨rfl, hb⟩
          have T7 := Lib.hid (T6.out.trans (hb.mono s6))
          clear hb
          generalize foF (m : Int) 1 = z
          have hzz : ((z : Int) == (z : Int)) = true := by simp
          go_wp2
          go_ret
          exact ⟨rfl, T7.out⟩
  · have h1' : (1048576 : Int) < (n : Int) := by omega
    go_enter Try.func3, Try.ntmps3
    go_wp2
    go_ret
    exact ⟨rfl, Below.refl _ w⟩

set_option maxRecDepth 100000 in
theorem lifted (os : Os) (started : os.Started) (H : Type) (enc : TypeId × Value → H) :
    ReturnsInHanded {} Try.checked os 3 .any (Rows.fnFarosSpec.pre6 enc Try.prog Try.f3 Rows.fnFarosRow.domain false) (Rows.fnFarosSpec.post enc Try.prog Try.f3 false true false false) := by
  refine returnsInHanded_of_change (C := Try.checked) Fr.own started (by kernel_rfl) Try.func3
    (ChangeSpec.witness6 (enc := enc) (C := Try.checked) false ⟨#[], #[.slice none 0 0], []⟩ 8 (by kernel_rfl) (by kernel_rfl) (by kernel_rfl) (by kernel_rfl)) ?_
  intro W base args ds gs before hval0 hW hcnd _
  have hval : ∀ (j : Nat) t v, Try.f3.params[j]? = some t → args[j]? = some v → Value.okWide Try.prog W .any base t v := hval0
  have hW' := hW
  obtain ⟨p, q, hA0, hV, rfl, hfz, hnd⟩ := hW
  have hA : DataW.TrodAll enc Try.prog W 0 (fun _ => true) true Try.f3.params.toList args.toList ds p := hA0
  have hAk := hA
  rw [Try.params3] at hA hval
  obtain ⟨v0, d0, rfl, rfl, h0⟩ := trodAll_one hA
  obtain ⟨rfl, rfl⟩ := trodVars_none hV
  have hlt : ∀ x ∈ p, x.block < W.heap.size := fun x hx => by simpa using hW'.lt x (List.mem_append_left _ hx)
  obtain ⟨A0, n0, c0, l0, rfl, hn0, hm0, hs0, ha0⟩ := Fr.view_nums Try.underlying22 Try.underlying5 (by kernel_rfl) (hval 0 22 v0 rfl rfl) h0 hlt
  clear hA0 hval0
  refine (walk A0 n0 c0 l0 W hn0 hm0 hs0 ha0).mono fun e W' ⟨he, hb⟩ => ?_
  subst he
  exact ⟨_, rfl, _, _, _, [], p, [], hW', trodAll_mk1 (shut_bool Try.underlying4 _), Fr.below_all Fr.laidOut hb _ _ _ _ (Fr.readB_all (by kernel_rfl)) hAk hlt, rfl, hb.frame _, fun h => by cases h⟩

theorem proved : Rows.FnFarosSaid :=
  OpenClaim.holds_of_wide 3 Try.f3 rfl rfl rfl rfl rfl rfl rfl ⟨rfl, rfl, rfl, rfl, rfl⟩ rfl rfl rfl rfl rfl (by kernel_rfl) Try.func3 (by kernel_rfl)
    (of_decide_eq_true (by kernel_rfl)) (by unfold Func.isWrapper; first | (rw [if_pos (by decide +kernel)]; kernel_rfl) | (rw [if_neg (by decide +kernel)]; exact ⟨rfl, rfl⟩))
    (fun os started H enc _ => lifted os started H enc)

end Go.Proofs.Ytpbpgpccjabghaa.LawFaros
