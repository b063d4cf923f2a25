/- The law of moves undone holds: cuts add up, and dealing and flipping twice change nothing. No condition. -/
import Derived.Test.YtdelaoegfooaoaaUn
import Derived.Test.YtdelaoegfooaoaaMkq
import Derived.Test.YtdelaoegfooaoaaFrame
set_option linter.unusedVariables false
namespace Go.Proofs.Ytdelaoegfooaoaa.LawUndone
open Go.ChangeShapes Go.WideShapes Go.ChangeAt Go.RowKit Fr Own Ins Pl Pok Sam Rws Mvp Mok2 Pf Pa Pal Un

theorem more_bytes {w : World} {B B' : Nat} {A : Option Addr} {n : Nat} (h : Cur.BytesAt w B A n) (hB : B ≤ B') : Cur.BytesAt w B' A n := by
  intro k hk
  obtain ⟨b, o, x, hA, hlt, r⟩ := h k hk
  exact ⟨b, o, x, hA, by omega, r⟩

set_option maxHeartbeats 4000000 in
set_option maxRecDepth 20000 in
theorem walk (A : Option Addr) (n c : Nat) (zs : List Int) (w : World) (hn : zs.length = n) (hm : n ≤ maxLen) (hs : ∀ z ∈ zs, (Lit.int .u8 z).wf = true) (ha : Fr.IntsAt w w.heap.size .u8 A zs) :
    Calls Try.prog 4 #[.slice A n c] w fun e w' => e = .returned (.bool true) ∧ Below w.heap.size w w' := by
  have hm0 : n ≤ 9223372036854775807 := by unfold maxLen at hm; omega
  have hby := Cur.bytes_of hn hs ha
  clear hn hs ha zs hm
  by_cases h1 : n ≤ 1048576
  · have h1' : decide ((1048576 : Int) < (n : Int)) = false := decide_eq_false (by omega)
    have T : Below w.heap.size w w := Below.refl _ w
    have h9 : (9 : Int) = (9 : Nat) := rfl
    clear h9
    go_enter Try.func4, Try.ntmps4
    go_wp2_with fail
    refine (Mkq.make_packet A n c 0 9 9 _ rfl h1 (by omega) (by omega) (by omega) hby).mono ?_
    rintro e w1 ⟨A_p, m, c_p, p, rfl, hl, hm1, hm9, hok, hown, hb⟩
    have s1 : w.heap.size ≤ w1.heap.size := hb.size
    replace T := T.trans (hb.mono (by omega))
    replace hby := (hby).below (hb.mono (by omega))
    clear hb
    have r_p := Ins.Row.mk hown
    clear hown
    have HL := Lib.hid hl
    have HK := Lib.hid hok
    have HF := Lib.hid (ok_fits hok)
    clear hl hok
    go_wp2_with fail
    refine (Cur.num_any A n c 30 _ h1 (by omega) (more_bytes hby (by omega))).mono ?_
    rintro e w2 ⟨x, rfl, hx0, hx1, hb⟩
    have s2 : w1.heap.size ≤ w2.heap.size := hb.size
    replace T := T.trans (hb.mono (by omega))
    replace hby := (hby).below (hb.mono (by omega))
    replace r_p := r_p.below hb
    clear hb
    obtain ⟨k, hk⟩ : ∃ k : Nat, x.tmod ((m : Int) + 1) = (k : Int) := ⟨(x % ((m : Int) + 1)).toNat, by rw [Int.tmod_eq_emod_of_nonneg hx0]; have := Int.emod_nonneg x (show (m : Int) + 1 ≠ 0 by omega); omega⟩
    have hkm : k ≤ m := by rw [Int.tmod_eq_emod_of_nonneg hx0] at hk; have := Int.emod_lt_of_pos x (show 0 < (m : Int) + 1 by omega); omega
    have hk2 : k ≤ m := hkm
    have K1 : kOk 1 k m = true := by unfold kOk; simp [hkm]
    have K2 : kOk 1 (m - k) m = true := by unfold kOk; simp
    have K3 : kOk 2 k m = true := by unfold kOk; simp [hkm]
    have K4 : kOk 3 k m = true := by unfold kOk; simp [hkm]
    have K5 : kOk 3 m m = true := by unfold kOk; simp
    have hsub : ((m - k : Nat) : Int) = (m : Int) - (k : Int) := by omega
    have U0 := two_go HL.out HK.out hm1 K1 K2 (cut_cut HL.out hkm)
    rw [hsub] at U0
    have U1 : allB p [((1 : Int), (k : Int)), (1, (m : Int) - (k : Int))] = true ∧ allF p [((1 : Int), (k : Int)), (1, (m : Int) - (k : Int))] = p := U0
    clear U0
    have U2 : allB p [((2 : Int), (k : Int)), (2, (k : Int))] = true ∧ allF p [((2 : Int), (k : Int)), (2, (k : Int))] = p := two_go HL.out HK.out hm1 K3 K3 (deal_deal HL.out hkm)
    have U3 : allB p [((3 : Int), (k : Int)), (3, (k : Int))] = true ∧ allF p [((3 : Int), (k : Int)), (3, (k : Int))] = p := two_go HL.out HK.out hm1 K4 K4 (flip_flip HK.out HL.out hkm)
    have U4 : allB p [] = true ∧ allF p [] = p := all_at HK.out (by decide) rfl
    have U5 : perfB p 3 (m : Int) = true ∧ perfF p 3 (m : Int) = moveF 3 m p ∧ (moveF 3 m p).length = m ∧ okB (moveF 3 m p) = true := mv_at HL.out HK.out hm1 K5
    have U6 := up_flip HK.out HL.out
    have HF5 := Lib.hid (ok_fits U5.2.2.2)
    have B1 := Lib.hid U1.1
    have F1 := Lib.hid U1.2
    have B2 := Lib.hid U2.1
    have F2 := Lib.hid U2.2
    have B3 := Lib.hid U3.1
    have F3 := Lib.hid U3.2
    have B4 := Lib.hid U4.1
    have F4 := Lib.hid U4.2
    have B5 := Lib.hid U5.1
    have F5 := Lib.hid U5.2.1
    have L5 := Lib.hid U5.2.2.1
    have SP := Lib.hid (show sameB p p = true from decide_eq_true rfl)
    have HU := Lib.hid U6
    clear U1 U2 U3 U4 U5 U6 hsub K1 K2 K3 K4 K5 hx0 hx1
    obtain ⟨q5, hq5⟩ : ∃ q, q = moveF 3 m p := ⟨_, rfl⟩
    rw [← hq5] at F5 L5 HF5 HU
    clear hq5
    have hb := (Below.refl w2.heap.size w2).alloc (Nat.le_refl _) (.cells #[.int .i64 1, .int .i64 (k : Int), .int .i64 1, .int .i64 ((m : Int) - (k : Int))] 26)
    have hpl1 := Lib.hid (pairs_lit w2 1 (k : Int) 1 ((m : Int) - (k : Int)) 26)
    have s3 : w2.heap.size ≤ (w2.alloc (.cells #[.int .i64 1, .int .i64 (k : Int), .int .i64 1, .int .i64 ((m : Int) - (k : Int))] 26)).heap.size := hb.size
    replace T := T.trans (hb.mono (by omega))
    replace hby := (hby).below (hb.mono (by omega))
    replace r_p := r_p.below hb
    clear hb
    go_wp2_with fail
    refine (Pal.impl_all A_p m c_p p (some ⟨w2.heap.size, 0, none⟩) 2 2 [((1 : Int), ((k : Int) : Int)), ((1 : Int), (((m : Int) - (k : Int)) : Int))] (w2.alloc (.cells #[.int .i64 1, .int .i64 (k : Int), .int .i64 1, .int .i64 ((m : Int) - (k : Int))] 26)) HL.out (by omega) HF.out r_p.at_ rfl (by decide) hpl1.out).mono ?_
    rintro e w4 ⟨A_a, c_a, rfl, hown, hb⟩
    rw [F1.out, HL.out] at hown
    rw [F1.out, B1.out, HL.out]
    have s4 : (w2.alloc (.cells #[.int .i64 1, .int .i64 (k : Int), .int .i64 1, .int .i64 ((m : Int) - (k : Int))] 26)).heap.size ≤ w4.heap.size := hb.size
    replace T := T.trans (hb.mono (by omega))
    replace hby := (hby).below (hb.mono (by omega))
    replace r_p := r_p.below hb
    clear hb
    have r_a := Ins.Row.mk hown
    clear hown
    have hb := (Below.refl w4.heap.size w4).alloc (Nat.le_refl _) (.cells #[.int .i64 2, .int .i64 (k : Int), .int .i64 2, .int .i64 (k : Int)] 26)
    have hpl2 := Lib.hid (pairs_lit w4 2 (k : Int) 2 (k : Int) 26)
    have s5 : w4.heap.size ≤ (w4.alloc (.cells #[.int .i64 2, .int .i64 (k : Int), .int .i64 2, .int .i64 (k : Int)] 26)).heap.size := hb.size
    replace T := T.trans (hb.mono (by omega))
    replace hby := (hby).below (hb.mono (by omega))
    replace r_p := r_p.below hb
    replace r_a := r_a.below hb
    clear hb
    go_wp2_with fail
    refine (Pal.impl_all A_p m c_p p (some ⟨w4.heap.size, 0, none⟩) 2 2 [((2 : Int), ((k : Int) : Int)), ((2 : Int), ((k : Int) : Int))] (w4.alloc (.cells #[.int .i64 2, .int .i64 (k : Int), .int .i64 2, .int .i64 (k : Int)] 26)) HL.out (by omega) HF.out r_p.at_ rfl (by decide) hpl2.out).mono ?_
    rintro e w6 ⟨A_b, c_b, rfl, hown, hb⟩
    rw [F2.out, HL.out] at hown
    rw [F2.out, B2.out, HL.out]
    have s6 : (w4.alloc (.cells #[.int .i64 2, .int .i64 (k : Int), .int .i64 2, .int .i64 (k : Int)] 26)).heap.size ≤ w6.heap.size := hb.size
    replace T := T.trans (hb.mono (by omega))
    replace hby := (hby).below (hb.mono (by omega))
    replace r_p := r_p.below hb
    replace r_a := r_a.below hb
    clear hb
    have r_b := Ins.Row.mk hown
    clear hown
    have hb := (Below.refl w6.heap.size w6).alloc (Nat.le_refl _) (.cells #[.int .i64 3, .int .i64 (k : Int), .int .i64 3, .int .i64 (k : Int)] 26)
    have hpl3 := Lib.hid (pairs_lit w6 3 (k : Int) 3 (k : Int) 26)
    have s7 : w6.heap.size ≤ (w6.alloc (.cells #[.int .i64 3, .int .i64 (k : Int), .int .i64 3, .int .i64 (k : Int)] 26)).heap.size := hb.size
    replace T := T.trans (hb.mono (by omega))
    replace hby := (hby).below (hb.mono (by omega))
    replace r_p := r_p.below hb
    replace r_a := r_a.below hb
    replace r_b := r_b.below hb
    clear hb
    go_wp2_with fail
    refine (Pal.impl_all A_p m c_p p (some ⟨w6.heap.size, 0, none⟩) 2 2 [((3 : Int), ((k : Int) : Int)), ((3 : Int), ((k : Int) : Int))] (w6.alloc (.cells #[.int .i64 3, .int .i64 (k : Int), .int .i64 3, .int .i64 (k : Int)] 26)) HL.out (by omega) HF.out r_p.at_ rfl (by decide) hpl3.out).mono ?_
    rintro e w8 ⟨A_c, c_c, rfl, hown, hb⟩
    rw [F3.out, HL.out] at hown
    rw [F3.out, B3.out, HL.out]
    have s8 : (w6.alloc (.cells #[.int .i64 3, .int .i64 (k : Int), .int .i64 3, .int .i64 (k : Int)] 26)).heap.size ≤ w8.heap.size := hb.size
    replace T := T.trans (hb.mono (by omega))
    replace hby := (hby).below (hb.mono (by omega))
    replace r_p := r_p.below hb
    replace r_a := r_a.below hb
    replace r_b := r_b.below hb
    clear hb
    have r_c := Ins.Row.mk hown
    clear hown
    go_wp2_with fail
    refine (Pal.impl_all A_p m c_p p none 0 0 [] _ HL.out (by omega) HF.out r_p.at_ rfl (by decide) (pairs_none _ _)).mono ?_
    rintro e w9 ⟨A_d, c_d, rfl, hown, hb⟩
    rw [F4.out, HL.out] at hown
    rw [F4.out, B4.out, HL.out]
    have s9 : w8.heap.size ≤ w9.heap.size := hb.size
    replace T := T.trans (hb.mono (by omega))
    replace hby := (hby).below (hb.mono (by omega))
    replace r_p := r_p.below hb
    replace r_a := r_a.below hb
    replace r_b := r_b.below hb
    replace r_c := r_c.below hb
    clear hb
    have r_d := Ins.Row.mk hown
    clear hown
    go_wp2_with fail
    refine (Pf.impl_perform A_p m c_p 3 (m : Int) p _ HL.out (Pa.row_cap r_p.own) (by omega) HF.out r_p.at_).mono ?_
    rintro e w10 ⟨A_u, c_u, rfl, hown, hb⟩
    rw [F5.out, L5.out] at hown
    rw [F5.out, B5.out, L5.out]
    have s10 : w9.heap.size ≤ w10.heap.size := hb.size
    replace T := T.trans (hb.mono (by omega))
    replace hby := (hby).below (hb.mono (by omega))
    replace r_p := r_p.below hb
    replace r_a := r_a.below hb
    replace r_b := r_b.below hb
    replace r_c := r_c.below hb
    replace r_d := r_d.below hb
    clear hb
    have r_u := Ins.Row.mk hown
    clear hown
    go_wp2_with fail
    refine (Mkp.same_any A_a A_p m m c_a c_p p p _ HL.out HL.out (by omega) (by omega) r_a.at_ r_p.at_).mono ?_
    rintro e w' ⟨rfl, rfl⟩
    rw [SP.out]
    go_wp2_with fail
    refine (Mkp.same_any A_b A_p m m c_b c_p p p _ HL.out HL.out (by omega) (by omega) r_b.at_ r_p.at_).mono ?_
    rintro e w' ⟨rfl, rfl⟩
    rw [SP.out]
    go_wp2_with fail
    refine (Mkp.same_any A_c A_p m m c_c c_p p p _ HL.out HL.out (by omega) (by omega) r_c.at_ r_p.at_).mono ?_
    rintro e w' ⟨rfl, rfl⟩
    rw [SP.out]
    go_wp2_with fail
    refine (Mkp.same_any A_d A_p m m c_d c_p p p _ HL.out HL.out (by omega) (by omega) r_d.at_ r_p.at_).mono ?_
    rintro e w' ⟨rfl, rfl⟩
    rw [SP.out]
    go_wp2_with fail
    refine (Pl.impl_count A_u m c_u q5 _ L5.out (by omega) HF5.out r_u.at_).mono ?_
    rintro e w' ⟨rfl, rfl⟩
    go_wp2_with fail
    refine (Pl.impl_count A_p m c_p p _ HL.out (by omega) HF.out r_p.at_).mono ?_
    rintro e w' ⟨rfl, rfl⟩
    have hu := HU.out
    have hbb : (((upTo q5 m : Nat) : Int) == (m : Int) - ((upTo p m : Nat) : Int)) = true := by rw [beq_iff_eq]; omega
    go_wp2
    go_ret
    exact ⟨rfl, T⟩
  · have h1' : (1048576 : Int) < (n : Int) := by omega
    go_enter Try.func4, Try.ntmps4
    go_wp2
    go_ret
    exact ⟨rfl, Below.refl _ w⟩

set_option maxRecDepth 100000 in
theorem lifted (os : Os) (started : os.Started) (H : Type) (enc : TypeId × Value → H) :
    ReturnsInHanded {} Try.checked os 4 .any (Rows.fnUndoneSpec.pre6 enc Try.prog Try.f4 Rows.fnUndoneRow.domain false) (Rows.fnUndoneSpec.post enc Try.prog Try.f4 false true false false) := by
  refine returnsInHanded_of_change (C := Try.checked) Fr.own started (by kernel_rfl) Try.func4
    (ChangeSpec.witness6 (enc := enc) (C := Try.checked) false ⟨#[], #[.slice none 0 0], []⟩ 8 (by kernel_rfl) (by kernel_rfl) (by kernel_rfl) (by kernel_rfl)) ?_
  intro W base args ds gs before hval0 hW hcnd _
  have hval : ∀ (j : Nat) t v, Try.f4.params[j]? = some t → args[j]? = some v → Value.okWide Try.prog W .any base t v := hval0
  have hW' := hW
  obtain ⟨p, q, hA0, hV, rfl, hfz, hnd⟩ := hW
  have hA : DataW.TrodAll enc Try.prog W 0 (fun _ => true) true Try.f4.params.toList args.toList ds p := hA0
  have hAk := hA
  rw [Try.params4] at hA hval
  obtain ⟨v0, d0, rfl, rfl, h0⟩ := trodAll_one hA
  obtain ⟨rfl, rfl⟩ := trodVars_none hV
  have hlt : ∀ x ∈ p, x.block < W.heap.size := fun x hx => by simpa using hW'.lt x (List.mem_append_left _ hx)
  obtain ⟨A0, n0, c0, l0, rfl, hn0, hm0, hs0, ha0⟩ := Fr.view_nums Try.underlying22 Try.underlying5 (by kernel_rfl) (hval 0 22 v0 rfl rfl) h0 hlt
  clear hA0 hval0
  refine (walk A0 n0 c0 l0 W hn0 hm0 hs0 ha0).mono fun e W' ⟨he, hb⟩ => ?_
  subst he
  exact ⟨_, rfl, _, _, _, [], p, [], hW', trodAll_mk1 (shut_bool Try.underlying4 _), Fr.below_all Fr.laidOut hb _ _ _ _ (Fr.readB_all (by kernel_rfl)) hAk hlt, rfl, hb.frame _, fun h => by cases h⟩

theorem proved : Rows.FnUndoneSaid :=
  OpenClaim.holds_of_wide 4 Try.f4 rfl rfl rfl rfl rfl rfl rfl ⟨rfl, rfl, rfl, rfl, rfl⟩ rfl rfl rfl rfl rfl (by kernel_rfl) Try.func4 (by kernel_rfl)
    (of_decide_eq_true (by kernel_rfl)) (by unfold Func.isWrapper; first | (rw [if_pos (by decide +kernel)]; kernel_rfl) | (rw [if_neg (by decide +kernel)]; exact ⟨rfl, rfl⟩))
    (fun os started H enc _ => lifted os started H enc)

end Go.Proofs.Ytdelaoegfooaoaa.LawUndone
