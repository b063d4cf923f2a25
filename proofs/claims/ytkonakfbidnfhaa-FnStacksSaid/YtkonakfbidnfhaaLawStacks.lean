/- The law of stacks holds: every window of a stack names its position, also after a cut. No condition. -/
import Derived.Deep.RegionHeld3
import Derived.Deep.RegionWith
import Derived.Deep.Cut
import Derived.Deep.CutRange
import Derived.BigQuiet
import Derived.Test.YtkonakfbidnfhaaMks
import Derived.Test.YtkonakfbidnfhaaCur
import Derived.Test.YtkonakfbidnfhaaFrame
set_option linter.unusedVariables false
namespace Go.Proofs.Ytkonakfbidnfhaa.LawStacks
open Go.ChangeShapes Go.WideShapes Go.ChangeAt Go.RowKit Fr Cur _root_.Go.Proofs.Ytkonakfbidnfhaa.Own Pk Ins Pfn Rws Lb Map Cat Cut Stk Skp Sks Skw Skv Ski Skj Skk Stp Skg Skq Mks

theorem bytes_more {w : World} {B B2 : Nat} {A : Option Addr} {n : Nat} (h : BytesAt w B A n) (hB : B ≤ B2) : BytesAt w B2 A n := fun i hi => by
  obtain ⟨b, o, k, h1, h2, r⟩ := h i hi
  exact ⟨b, o, k, h1, by omega, r⟩
theorem law_parts {zs : List Int} {m k a : Nat} (h : lawB zs m = true) (hk : k < zs.length) (ha : a < zs.length) : stkB zs m = true ∧ stkB (cutF zs k) m = true ∧ findI zs m (winF zs m a) = (a : Int) ∧ findI (cutF zs k) m (winF zs m a) = (((a + zs.length - k) % zs.length : Nat) : Int) := by
  unfold lawB at h
  rw [Bool.and_eq_true] at h
  have h2 := List.all_eq_true.1 h.2 k (List.mem_range.2 hk)
  rw [Bool.and_eq_true] at h2
  have h3 := List.all_eq_true.1 h2.2 a (List.mem_range.2 ha)
  simp only [Bool.and_eq_true, decide_eq_true_eq] at h3
  exact ⟨h.1, h2.1, h3.1, h3.2⟩
theorem fits_cut {zs : List Int} (h : Fits zs) (k : Nat) : Fits (cutF zs k) := by
  intro i hi
  unfold cutF at hi ⊢
  rw [List.length_append, List.length_drop, List.length_take] at hi
  by_cases e : i < (zs.drop k).length
  · rw [List.getD_eq_getElem?_getD, List.getElem?_append_left e, List.getElem?_drop, ← List.getD_eq_getElem?_getD]
    rw [List.length_drop] at e
    exact h _ (by omega)
  · rw [List.getD_eq_getElem?_getD, List.getElem?_append_right (by omega), List.getElem?_take, if_pos (by rw [List.length_drop] at *; omega), ← List.getD_eq_getElem?_getD]
    rw [List.length_drop] at *
    exact h _ (by omega)
theorem cut_len (zs : List Int) (k : Nat) : (cutF zs k).length = zs.length := by
  unfold cutF
  rw [List.length_append, List.length_drop, List.length_take]
  omega
set_option maxHeartbeats 8000000 in
set_option maxRecDepth 20000 in
theorem walk (A : Option Addr) (n c : Nat) (zs : List Int) (w : World) (hn : zs.length = n) (hm : n ≤ maxLen) (hs : ∀ z ∈ zs, (Lit.int .u8 z).wf = true) (ha : Fr.IntsAt w w.heap.size .u8 A zs) :
    Calls Try.prog 3 #[.slice A n c] w fun e w' => e = .returned (.bool true) ∧ Below w.heap.size w w' := by
  have hm0 : n ≤ 9223372036854775807 := by unfold maxLen at hm; omega
  have hby := Cur.bytes_of hn hs ha
  clear hn hs ha zs hm
  by_cases h1 : n ≤ 1048576
  · have h1' : decide ((1048576 : Int) < (n : Int)) = false := decide_eq_false (by omega)
    go_enter Try.func3, Try.ntmps3
    go_wp2_with fail
    refine (make_stack A n c _ h1 hby).mono ?_
    rintro e w1 ⟨A2, P, c2, zs, m, rfl, hl, hgd, hown, T⟩
    obtain ⟨hlaw, hm1, hm6, hP2, hP64, hfit⟩ := hgd
    rw [hl] at hP2 hP64
    have hs1 := T.size
    obtain ⟨W, hW, q1, q2, hb, hsW⟩ := box1 w1 (.slice A2 P c2) (.int .i64 (m : Int))
    replace T := T.trans (hb.mono hs1)
    have HBY := Lib.hid (bytes_more (BytesAt.below hby T) T.size)
    have HO := Lib.hid (own_below hown hb)
    have HL := Lib.hid hl
    have HF := Lib.hid hfit
    have HLAW := Lib.hid hlaw
    have hsT := T.size
    have hPz : ((P : Int) == 0) = false := beq_eq_false_iff_ne.2 (by omega)
    have hPz2 : (P == 0) = false := beq_eq_false_iff_ne.2 (by omega)
    clear hby hb hown hl hfit hlaw hs1
    go_wp2_with fail
    rw [← hW]
    clear hW
    refine (Cur.num_any A n c 20 _ h1 (by omega) HBY.out).mono ?_
    rintro e w2 ⟨x, rfl, hx0, hx1, hb⟩
    obtain ⟨a, haa⟩ : ∃ a : Nat, x % (P : Int) = (a : Int) := ⟨(x % (P : Int)).toNat, by have := Int.emod_nonneg x (show (P : Int) ≠ 0 by omega); omega⟩
    have hap : a < P := by have := Int.emod_lt_of_pos x (show (0 : Int) < (P : Int) by omega); omega
    have htx : Int.tmod x (P : Int) = (a : Int) := by rw [Int.tmod_eq_emod_of_nonneg hx0]; exact haa
    have q1b := (hb.cell (p := ⟨w1.heap.size, 0, none⟩) hsW).trans q1
    have q2b := (hb.cell (p := ⟨w1.heap.size, 1, none⟩) hsW).trans q2
    have HBY2 := Lib.hid (bytes_more (BytesAt.below HBY.out hb) hb.size)
    have HO2 := Lib.hid (own_below HO.out hb)
    have hl2 : w1.heap.size < w2.heap.size := Nat.lt_of_lt_of_le hsW hb.size
    replace T := T.trans (hb.mono hsT)
    have hsT2 := T.size
    clear hb HBY HO q1 q2 hsW hx1 hsT
    go_wp2_with fail
    refine (Cur.num_any A n c 22 _ h1 (by omega) HBY2.out).mono ?_
    rintro e w3 ⟨y, rfl, hy0, hy1, hb⟩
    clear haa htx hx0
    obtain ⟨k, hkk⟩ : ∃ a : Nat, y % (P : Int) = (a : Int) := ⟨(y % (P : Int)).toNat, by have := Int.emod_nonneg y (show (P : Int) ≠ 0 by omega); omega⟩
    have hkp : k < P := by have := Int.emod_lt_of_pos y (show (0 : Int) < (P : Int) by omega); omega
    have hty : Int.tmod y (P : Int) = (k : Int) := by rw [Int.tmod_eq_emod_of_nonneg hy0]; exact hkk
    have q1c := (hb.cell (p := ⟨w1.heap.size, 0, none⟩) hl2).trans q1b
    have q2c := (hb.cell (p := ⟨w1.heap.size, 1, none⟩) hl2).trans q2b
    have HO3 := Lib.hid (own_below HO2.out hb)
    have hl3 : w1.heap.size < w3.heap.size := Nat.lt_of_lt_of_le hl2 hb.size
    replace T := T.trans (hb.mono hsT2)
    have hsT3 := T.size
    clear hb HBY2 HO2 q1b q2b hl2 hy1 hsT2
    obtain ⟨p1, p2, p3, p4⟩ := law_parts (k := k) (a := a) HLAW.out (by rw [HL.out]; exact hkp) (by rw [HL.out]; exact hap)
    rw [HL.out] at p4
    obtain ⟨V, hV⟩ : ∃ V, V = winF zs m a := ⟨_, rfl⟩
    obtain ⟨D, hD⟩ : ∃ D, D = cutF zs k := ⟨_, rfl⟩
    obtain ⟨r, hr⟩ : ∃ r, r = (a + P - k) % P := ⟨_, rfl⟩
    have hwb : winB zs (m : Int) (a : Int) = true := win_yes p1 (by rw [HL.out]; omega)
    have hcb : cutB zs (m : Int) (k : Int) = true := win_yes p1 (by rw [HL.out]; omega)
    have HWN := Lib.hid (show winA zs (m : Int) (a : Int) = V ∧ winB zs (m : Int) (a : Int) = true from ⟨by rw [winA_yes hwb, hV]; rfl, hwb⟩)
    have HCN := Lib.hid (show cutS zs (m : Int) (k : Int) = D ∧ cutM zs (m : Int) (k : Int) = m ∧ cutB zs (m : Int) (k : Int) = true from ⟨by rw [(cut_yes hcb).1, hD]; rfl, (cut_yes hcb).2, hcb⟩)
    have HVL := Lib.hid (show V.length = m by rw [hV, winF_len])
    have HVF := Lib.hid (show Fits V by rw [hV]; exact fits_win HF.out m a)
    have HDL := Lib.hid (show D.length = P by rw [hD, cut_len, HL.out])
    have HDF := Lib.hid (show Fits D by rw [hD]; exact fits_cut HF.out k)
    rw [← hV] at p3 p4
    rw [← hD] at p2 p4
    rw [← hr] at p4
    have P1 := Lib.hid p1
    have P2 := Lib.hid p2
    have P3 := Lib.hid p3
    have P4 := Lib.hid p4
    have hrI : ((a : Int) - (k : Int) + (P : Int)) % (P : Int) = (r : Int) := by
      rw [show (a : Int) - (k : Int) + (P : Int) = ((a + P - k : Nat) : Int) by omega, hr]
      rfl
    have HRI := Lib.hid hrI
    clear p1 p2 p3 p4 hwb hcb hV hD hr hrI
    go_wp2_with fail
    clear hkk hty hy0
    refine (Skj.impl_win A2 P c2 zs (m : Int) (a : Int) _ HL.out (own_cap HO3.out) (by omega) HF.out (ints_of HO3.out) (by omega) (by omega)).mono ?_
    rintro e w4 ⟨A4, c4, rfl, ho, hb⟩
    rw [HWN.out.1, HVL.out] at ho
    rw [HWN.out.1, HWN.out.2, HVL.out]
    have q1d := (hb.cell (p := ⟨w1.heap.size, 0, none⟩) hl3).trans q1c
    have q2d := (hb.cell (p := ⟨w1.heap.size, 1, none⟩) hl3).trans q2c
    have HO4 := Lib.hid (own_below HO3.out hb)
    have HV4 := Lib.hid ho
    have hl4 : w1.heap.size < w4.heap.size := Nat.lt_of_lt_of_le hl3 hb.size
    replace T := T.trans (hb.mono hsT3)
    have hsT4 := T.size
    clear hb ho HO3 q1c q2c hl3 HWN hsT3
    go_wp2_with fail
    refine (Skk.impl_cut A2 P c2 zs (m : Int) (k : Int) _ HL.out (own_cap HO4.out) (by omega) HF.out (ints_of HO4.out) (by omega) (by omega)).mono ?_
    rintro e w5 ⟨A5, c5, rfl, ho, hb⟩
    rw [HCN.out.1, HDL.out] at ho
    rw [HCN.out.1, HCN.out.2.1, HCN.out.2.2, HDL.out]
    have q1e := (hb.cell (p := ⟨w1.heap.size, 0, none⟩) hl4).trans q1d
    have q2e := (hb.cell (p := ⟨w1.heap.size, 1, none⟩) hl4).trans q2d
    have HO5 := Lib.hid (own_below HO4.out hb)
    have HV5 := Lib.hid (own_below HV4.out hb)
    have HD5 := Lib.hid ho
    have hl5 : w1.heap.size < w5.heap.size := Nat.lt_of_lt_of_le hl4 hb.size
    replace T := T.trans (hb.mono hsT4)
    have hsT5 := T.size
    clear hb ho HO4 HV4 q1d q2d hl4 HCN hsT4
    obtain ⟨W6, hW6, r1, r2, hb, hsW6⟩ := box1 w5 (.slice A5 P c5) (.int .i64 (m : Int))
    have q1f := (hb.cell (p := ⟨w1.heap.size, 0, none⟩) hl5).trans q1e
    have q2f := (hb.cell (p := ⟨w1.heap.size, 1, none⟩) hl5).trans q2e
    have HO6 := Lib.hid (own_below HO5.out hb)
    have HV6 := Lib.hid (own_below HV5.out hb)
    have HD6 := Lib.hid (own_below HD5.out hb)
    have hl6 : w1.heap.size < W6.heap.size := Nat.lt_of_lt_of_le hl5 hb.size
    replace T := T.trans (hb.mono hsT5)
    have hsT6 := T.size
    replace hW6 := hW6.symm
    clear hb HO5 HV5 HD5 q1e q2e hsT5
    have hmm : ((m : Int) != (m : Int)) = false := by simp
    have haa2 : ((a : Int) != (a : Int)) = false := by simp
    go_wp2_with fail
    clear hW6
    refine (Skj.impl_ok A2 P c2 zs (m : Int) _ HL.out (own_cap HO6.out) (by omega) HF.out (ints_of HO6.out)).mono ?_
    rintro e w7 ⟨rfl, hb⟩
    rw [P1.out]
    have q1g := (hb.cell (p := ⟨w1.heap.size, 0, none⟩) hl6).trans q1f
    have q2g := (hb.cell (p := ⟨w1.heap.size, 1, none⟩) hl6).trans q2f
    have r1g := (hb.cell (p := ⟨w5.heap.size, 0, none⟩) hsW6).trans r1
    have r2g := (hb.cell (p := ⟨w5.heap.size, 1, none⟩) hsW6).trans r2
    have HO7 := Lib.hid (own_below HO6.out hb)
    have HV7 := Lib.hid (own_below HV6.out hb)
    have HD7 := Lib.hid (own_below HD6.out hb)
    have hl7 : w1.heap.size < w7.heap.size := Nat.lt_of_lt_of_le hl6 hb.size
    have hn7 : w5.heap.size < w7.heap.size := Nat.lt_of_lt_of_le hsW6 hb.size
    replace T := T.trans (hb.mono hsT6)
    have hsT7 := T.size
    clear hb HO6 HV6 HD6 q1f q2f r1 r2 hl6 hsW6 hsT6
    go_wp2_with fail
    refine (Skj.impl_ok A5 P c5 D (m : Int) _ HDL.out (own_cap HD7.out) (by omega) HDF.out (ints_of HD7.out)).mono ?_
    rintro e w8 ⟨rfl, hb⟩
    rw [P2.out]
    have q1h := (hb.cell (p := ⟨w1.heap.size, 0, none⟩) hl7).trans q1g
    have q2h := (hb.cell (p := ⟨w1.heap.size, 1, none⟩) hl7).trans q2g
    have r1h := (hb.cell (p := ⟨w5.heap.size, 0, none⟩) hn7).trans r1g
    have r2h := (hb.cell (p := ⟨w5.heap.size, 1, none⟩) hn7).trans r2g
    have HO8 := Lib.hid (own_below HO7.out hb)
    have HV8 := Lib.hid (own_below HV7.out hb)
    have HD8 := Lib.hid (own_below HD7.out hb)
    have hn8 : w5.heap.size < w8.heap.size := Nat.lt_of_lt_of_le hn7 hb.size
    replace T := T.trans (hb.mono hsT7)
    have hsT8 := T.size
    clear hb HO7 HV7 HD7 q1g q2g r1g r2g hl7 hn7 hsT7
    go_wp2_with fail
    refine (Skj.impl_find A2 P c2 zs (m : Int) A4 m c4 V _ HL.out (own_cap HO8.out) (by omega) HF.out (ints_of HO8.out) HVL.out (by omega) HVF.out (ints_of HV8.out)).mono ?_
    rintro e w9 ⟨rfl, hb⟩
    rw [P3.out]
    have r1i := (hb.cell (p := ⟨w5.heap.size, 0, none⟩) hn8).trans r1h
    have r2i := (hb.cell (p := ⟨w5.heap.size, 1, none⟩) hn8).trans r2h
    have HV9 := Lib.hid (own_below HV8.out hb)
    have HD9 := Lib.hid (own_below HD8.out hb)
    have hn9 : w5.heap.size < w9.heap.size := Nat.lt_of_lt_of_le hn8 hb.size
    replace T := T.trans (hb.mono hsT8)
    have hsT9 := T.size
    have HT := Lib.hid T.drew
    clear T hb HO8 HV8 HD8 q1h q2h r1h r2h hn8 hsT8 P1 P2 P3
    have HFC := Lib.hid (Skj.impl_find A5 P c5 D (m : Int) A4 m c4 V w9.drew HDL.out (own_cap HD9.out) (by omega) HDF.out ((ints_of HD9.out).below (Below.refl _ w9).drew) HVL.out (by omega) HVF.out ((ints_of HV9.out).below (Below.refl _ w9).drew))
    have s1 : w9.drew.cell? ⟨w5.heap.size, 0, none⟩ = some (.slice A5 P c5) := r1i
    have s2 : w9.drew.cell? ⟨w5.heap.size, 1, none⟩ = some (.int .i64 (m : Int)) := r2i
    have hn9' : w5.heap.size < w9.drew.heap.size := hn9
    have hsT9' : w.heap.size ≤ w9.drew.heap.size := hsT9
    have hri := HRI.out
    have hpos : 0 ≤ (a : Int) - (k : Int) + (P : Int) := by omega
    have hwr : IntKind.i64.wrap ((a : Int) - (k : Int)) = (a : Int) - (k : Int) := by rw [IntWalk.i64_in] <;> omega
    have hwr2 : IntKind.i64.wrap ((a : Int) - (k : Int) + (P : Int)) = (a : Int) - (k : Int) + (P : Int) := by rw [IntWalk.i64_in] <;> omega
    have htm2 : Int.tmod ((a : Int) - (k : Int) + (P : Int)) (P : Int) = (r : Int) := by rw [Int.tmod_eq_emod_of_nonneg hpos]; exact hri
    have hrr : ((r : Int) == (r : Int)) = true := by simp
    have hpp : ((P : Int) == (P : Int)) = true := by simp
    have hPn : ¬ P = 0 := by omega
    have hPn2 : ¬ (P : Int) = 0 := by omega
    clear r1i r2i
    go_upto_region 11 with fail
    go_region_held3 (fun w' => w'.cell? ⟨w5.heap.size, 0, none⟩ = some (.slice A5 P c5) ∧ w'.cell? ⟨w5.heap.size, 1, none⟩ = some (.int .i64 (m : Int))) ((first | exact ⟨s1, s2⟩)) ((first | (go_at_call 17; refine HFC.out.mono ?_; rintro e wz ⟨rfl, hb⟩; rw [P4.out]; replace s1 := (hb.cell (p := ⟨w5.heap.size, 0, none⟩) hn9').trans s1; replace s2 := (hb.cell (p := ⟨w5.heap.size, 1, none⟩) hn9').trans s2; replace HT := Lib.hid (HT.out.trans (hb.mono hsT9')); clear hb)))
    all_goals
      first
        | (exfalso; omega)
        | (go_wp2; go_ret; exact ⟨rfl, HT.out⟩)
  · have h1' : (1048576 : Int) < (n : Int) := by omega
    go_enter Try.func3, Try.ntmps3
    go_wp2
    go_ret
    exact ⟨rfl, Below.refl _ w⟩

set_option maxRecDepth 100000 in
theorem lifted (os : Os) (started : os.Started) (H : Type) (enc : TypeId × Value → H) :
    ReturnsInHanded {} Try.checked os 3 .any (Rows.fnStacksSpec.pre6 enc Try.prog Try.f3 Rows.fnStacksRow.domain false) (Rows.fnStacksSpec.post enc Try.prog Try.f3 false true false false) := by
  refine returnsInHanded_of_change (C := Try.checked) Fr.own started (by kernel_rfl) Try.func3
    (ChangeSpec.witness6 (enc := enc) (C := Try.checked) false ⟨#[], #[.slice none 0 0], []⟩ 8 (by kernel_rfl) (by kernel_rfl) (by kernel_rfl) (by kernel_rfl)) ?_
  intro W base args ds gs before hval0 hW hcnd _
  have hval : ∀ (j : Nat) t v, Try.f3.params[j]? = some t → args[j]? = some v → Value.okWide Try.prog W .any base t v := hval0
  have hW' := hW
  obtain ⟨p, q, hA0, hV, rfl, hfz, hnd⟩ := hW
  have hA : DataW.TrodAll enc Try.prog W 0 (fun _ => true) true Try.f3.params.toList args.toList ds p := hA0
  have hAk := hA
  rw [Try.params3] at hA hval
  obtain ⟨v0, d0, rfl, rfl, h0⟩ := trodAll_one hA
  obtain ⟨rfl, rfl⟩ := trodVars_none hV
  have hlt : ∀ x ∈ p, x.block < W.heap.size := fun x hx => by simpa using hW'.lt x (List.mem_append_left _ hx)
  obtain ⟨A0, n0, c0, l0, rfl, hn0, hm0, hs0, ha0⟩ := Fr.view_nums Try.underlying22 Try.underlying5 (by kernel_rfl) (hval 0 22 v0 rfl rfl) h0 hlt
  clear hA0 hval0
  refine (walk A0 n0 c0 l0 W hn0 hm0 hs0 ha0).mono fun e W' ⟨he, hb⟩ => ?_
  subst he
  exact ⟨_, rfl, _, _, _, [], p, [], hW', trodAll_mk1 (shut_bool Try.underlying4 _), Fr.below_all Fr.laidOut hb _ _ _ _ (Fr.readB_all (by kernel_rfl)) hAk hlt, rfl, hb.frame _, fun h => by cases h⟩

theorem proved : Rows.FnStacksSaid :=
  OpenClaim.holds_of_wide 3 Try.f3 rfl rfl rfl rfl rfl rfl rfl ⟨rfl, rfl, rfl, rfl, rfl⟩ rfl rfl rfl rfl rfl (by kernel_rfl) Try.func3 (by kernel_rfl)
    (of_decide_eq_true (by kernel_rfl)) (by unfold Func.isWrapper; first | (rw [if_pos (by decide +kernel)]; kernel_rfl) | (rw [if_neg (by decide +kernel)]; exact ⟨rfl, rfl⟩))
    (fun os started H enc _ => lifted os started H enc)

end Go.Proofs.Ytkonakfbidnfhaa.LawStacks
