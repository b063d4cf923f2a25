/- The law of registers holds: the greedy word has all windows, and a shift register gives a stack that is as long as possible exactly if it is maximal. No condition. -/
import Derived.Deep.RegionHeld3
import Derived.Deep.RegionWith
import Derived.Deep.Cut
import Derived.Deep.CutRange
import Derived.BigQuiet
import Derived.Test.YtkonakfbidnfhaaSkx
import Derived.Test.YtkonakfbidnfhaaCur
import Derived.Test.YtkonakfbidnfhaaFrame
set_option linter.unusedVariables false
namespace Go.Proofs.Ytkonakfbidnfhaa.LawRegisters
open Go.ChangeShapes Go.WideShapes Go.ChangeAt Go.RowKit Fr Cur _root_.Go.Proofs.Ytkonakfbidnfhaa.Own Pk Ins Pfn Rws Lb Map Cat Cut Stk Skp Sks Skw Skv Ski Skj Skk Stp Skg Skq Skm Skn Sko Skx

theorem bytes_more {w : World} {B B2 : Nat} {A : Option Addr} {n : Nat} (h : BytesAt w B A n) (hB : B ≤ B2) : BytesAt w B2 A n := fun i hi => by
  obtain ⟨b, o, k, h1, h2, r⟩ := h i hi
  exact ⟨b, o, k, h1, by omega, r⟩
theorem fits_app {l : List Int} (h : Fits l) (x : Int) (h1 : -9223372036854775808 ≤ x) (h2 : x ≤ 9223372036854775807) : Fits (l ++ [x]) := by
  intro i hi
  by_cases e : i < l.length
  · rw [List.getD_eq_getElem?_getD, List.getElem?_append_left e, ← List.getD_eq_getElem?_getD]
    exact h i e
  · rw [List.length_append, List.length_singleton] at hi
    obtain rfl : i = l.length := by omega
    rw [List.getD_eq_getElem?_getD, List.getElem?_append_right (Nat.le_refl _), Nat.sub_self]
    exact ⟨h1, h2⟩
theorem lit00 (w : World) : (w.alloc (.cells #[] 3)).ownsRow w.heap.size 3 1 (.slice (some ⟨w.heap.size, 0, none⟩) 0 0) 0 (vals []) := World.ownsRow_lit (base := w.heap.size) (e := 3) (size := 1) w #[] 0 (Nat.le_refl _) (Nat.zero_le _) rfl
theorem lit00_below (w : World) : Below w.heap.size w (w.alloc (.cells #[] 3)) := box_below w _
theorem fits_part0 {C : List Int} (h : Fits C) (a : Nat) : Fits (C.take a) := by
  have := Skm.fits_part h a 0
  rwa [List.drop_zero] at this
theorem shl_of {m P : Nat} (hP : P = 2 ^ m) (hs : P ≤ 64) : IntKind.i64.wrap ((2 : Int) ^ m) = (P : Int) := by
  have q : ((2 : Int) ^ m) = ((2 ^ m : Nat) : Int) := by simp
  rw [q, ← hP, IntWalk.i64_in] <;> omega
set_option maxHeartbeats 8000000 in
set_option maxRecDepth 20000 in
theorem walk (A : Option Addr) (n c : Nat) (zs : List Int) (w : World) (hn : zs.length = n) (hm : n ≤ maxLen) (hs : ∀ z ∈ zs, (Lit.int .u8 z).wf = true) (ha : Fr.IntsAt w w.heap.size .u8 A zs) :
    Calls Try.prog 4 #[.slice A n c] w fun e w' => e = .returned (.bool true) ∧ Below w.heap.size w w' := by
  have hm0 : n ≤ 9223372036854775807 := by unfold maxLen at hm; omega
  have hby := Cur.bytes_of hn hs ha
  clear hn hs ha zs hm
  obtain ⟨i0, hi, hz0, hz1, hz2⟩ := info_parts infoInt
  by_cases h1 : n ≤ 1048576
  · have h1' : decide ((1048576 : Int) < (n : Int)) = false := decide_eq_false (by omega)
    go_enter Try.func4, Try.ntmps4
    go_wp2_with fail
    refine (Cur.num_any A n c 1 _ h1 (by omega) hby).mono ?_
    rintro e w1 ⟨x, rfl, hx0, hx1, hb⟩
    have htm : Int.tmod x 6 = x % 6 := Int.tmod_eq_emod_of_nonneg hx0
    obtain ⟨m, hmm⟩ : ∃ m : Nat, 1 + x % 6 = (m : Int) := ⟨(1 + x % 6).toNat, by omega⟩
    have hm16 : 1 ≤ m ∧ m ≤ 6 := by omega
    have hmw : 1 + Int.tmod x 6 = (m : Int) := by rw [htm]; exact hmm
    have T := hb
    have HBY := Lib.hid (bytes_more (BytesAt.below hby hb) hb.size)
    have hd : dbB (m : Int) = true := decide_eq_true ⟨by omega, by omega⟩
    obtain ⟨P, hP⟩ : ∃ P : Nat, P = 2 ^ m := ⟨_, rfl⟩
    obtain ⟨hG, _, _, hok⟩ := cb_all hm16.1 hm16.2
    have hPs := (pow_small hm16.1 hm16.2).2
    rw [← hP] at hG hok hPs
    obtain ⟨C, hC⟩ : ∃ C, C = (cbL m).take P := ⟨_, rfl⟩
    have HCL := Lib.hid (show C.length = P by rw [hC, List.length_take, hG.len]; omega)
    have HCF := Lib.hid (show Fits C by rw [hC]; exact fits_part0 hG.fits P)
    have HDB := Lib.hid (show dbS (m : Int) = C ∧ dbM (m : Int) = m ∧ dbB (m : Int) = true from ⟨by rw [(db_yes hd).1, hC, hP]; rfl, (db_yes hd).2, hd⟩)
    have HOK := Lib.hid (show stkB C (m : Int) = true by rw [hC]; exact hok)
    have HSHL := Lib.hid (shl_of hP hPs)
    have HPP := Lib.hid hP
    have hP1 : 1 ≤ P := by have := hG.t1; omega
    clear hb hby hd hG hok hP hC hx1
    go_wp2_with fail
    clear hmm hmw htm
    refine (Skm.impl_db (m : Int) _ (by omega) (by omega)).mono ?_
    rintro e w2 ⟨A2, c2, rfl, ho, hb⟩
    rw [HDB.out.1, HCL.out] at ho
    rw [HDB.out.1, HDB.out.2.1, HDB.out.2.2, HCL.out]
    have hs1 := T.size
    replace T := T.trans (hb.mono hs1)
    have HBY2 := Lib.hid (bytes_more (BytesAt.below HBY.out hb) hb.size)
    have HO2 := Lib.hid (own_mono ho hs1)
    clear ho hb HBY HDB
    obtain ⟨W, hW, q1, q2, hb, hsW⟩ := box1 w2 (.slice A2 P c2) (.int .i64 (m : Int))
    have hs2 := T.size
    replace T := T.trans (hb.mono hs2)
    have HBY3 := Lib.hid (bytes_more (BytesAt.below HBY2.out hb) hb.size)
    have HO3 := Lib.hid (own_below HO2.out hb)
    clear hb HBY2 HO2
    go_upto_region 5 with fail
    rw [← hW]
    clear hW
    have HOKC := Lib.hid (Skj.impl_ok A2 P c2 C (m : Int) W.drew HCL.out (own_cap HO3.out) (by omega) HCF.out ((ints_of HO3.out).below (Below.refl _ W).drew))
    rw [HOK.out] at HOKC
    have hdW : Below W.heap.size W W.drew := (Below.refl _ W).drew
    have hb3 := Lib.hid hdW
    have l0 : w2.heap.size < W.heap.size := hsW
    have hshl := HSHL.out
    have hPP : ((P : Int) != (P : Int)) = false := by simp
    have hmm2 : ((m : Int) != (m : Int)) = false := by simp
    have q1' : W.drew.cell? ⟨w2.heap.size, 0, none⟩ = some (.slice A2 P c2) := q1
    have q2' : W.drew.cell? ⟨w2.heap.size, 1, none⟩ = some (.int .i64 (m : Int)) := q2
    go_cut [43] from 23 (fun s wx => s = .bool false ∧ Below W.heap.size W wx)
    case first =>
      clear T
      go_region_held3 (fun w' => w'.cell? ⟨w2.heap.size, 0, none⟩ = some (.slice A2 P c2) ∧ w'.cell? ⟨w2.heap.size, 1, none⟩ = some (.int .i64 (m : Int))) ((first | exact ⟨q1', q2'⟩)) ((first | (go_at_call 16; refine HOKC.out.mono ?_; rintro e w5 ⟨rfl, hb⟩; replace q1' := (hb.cell (p := ⟨w2.heap.size, 0, none⟩) l0).trans q1'; replace q2' := (hb.cell (p := ⟨w2.heap.size, 1, none⟩) l0).trans q2'; replace hb3 := Lib.hid (hb3.out.trans hb); clear hb)))
      go_wp2_with fail
      go_meet
      exact ⟨rfl, hb3.out⟩
    case rest =>
    obtain ⟨rfl, hb⟩ := hcut
    have hs3 := T.size
    replace T := T.trans (hb.mono hs3)
    have HBY4 := Lib.hid (bytes_more (BytesAt.below HBY3.out hb) hb.size)
    clear hb hb3 hdW HOKC q1 q2 q1' q2' hPP hmm2 HO3 HBY3 hshl l0 hsW HOK HCF HCL
    have hs4 := T.size
    have HT4 := Lib.hid T
    have hl0 := lit00 wc
    have HL0 := Lib.hid hl0
    have HBL := Lib.hid (lit00_below wc)
    clear T hl0
    go_wp2
    go_loopw [6, 7] (fun v i wr => ∃ (t : Nat) (l : List Int), 1 ≤ t ∧ t ≤ m + 1 ∧ i = .int .i64 (t : Int) ∧ (∃ A6 k c6, v = .slice A6 k c6 ∧ Hid (l.length = k) ∧ k + 1 ≤ t ∧ Hid (wr.ownsRow wc.heap.size 3 1 (.slice A6 k c6) k (vals l))) ∧ Hid (t ≤ m → Pre m t l) ∧ Hid (t = m + 1 → ascB m 0 l = true) ∧ Hid (Fits l) ∧ Hid (Below wc.heap.size wc wr)) (fun _ i _ => m + 1 - (intOf i).toNat)
    case atStart => exact ⟨1, [], Nat.le_refl _, by omega, rfl, ⟨_, 0, 0, rfl, Lib.hid rfl, Nat.le_refl _, HL0⟩, Lib.hid (fun _ => pre_start m), Lib.hid (fun h => by omega), Lib.hid (fun i hi => absurd hi (Nat.not_lt_zero _)), HBL⟩
    case round =>
      obtain ⟨t, l, ht1, htm, rfl, ⟨A6, k, c6, rfl, HLK, hkt, HO6⟩, HPR, HEN, HFL, HB6⟩ := hrel
      clear HL0 HBL
      have hsz6 := HB6.out.size
      have hown6 := HO6.out
      by_cases hle : t ≤ m
      · by_cases e : t = m
        · subst e
          have hcm : decide ((t : Int) ≤ (t : Int)) = true := by simp
          go_wp2_with (at_builtin; refine app_more rfl (.tmp 61) (.tmp 63) 23 rfl wc.heap.size 3 i0 (.int .i64 0) 8 Try.underlying23 hi hz0 hz1 hz2 (by decide) rfl _ _ _ _ rfl hown6 (.int .i64 (t : Int)) rfl _ rfl rfl (by omega) hsz6 ?_; intro g7 c7 w7 hown7 hgr7)
          have HO7 := Lib.hid (show w7.ownsRow wc.heap.size 3 1 (.slice (some ⟨g7, 0, none⟩) (k + 1) c7) (k + 1) (vals (l ++ [(t : Int)])) by unfold vals; rw [List.map_append]; exact hown7)
          have HB7 := Lib.hid (HB6.out.grown hgr7 hsz6 (fun k hk => (own_lo hown6 k hk).1))
          have HLK7 := Lib.hid (show (l ++ [(t : Int)]).length = k + 1 by rw [List.length_append, HLK.out]; rfl)
          have HEN7 := Lib.hid (fun (_ : t + 1 = t + 1) => pre_end (HPR.out (Nat.le_refl _)))
          have HFL7 := Lib.hid (fits_app HFL.out (t : Int) (by omega) (by omega))
          clear hown7 hgr7 hown6
          go_roundw
          case rel => exact ⟨t + 1, l ++ [(t : Int)], by omega, by omega, by go_num, ⟨_, k + 1, c7, rfl, HLK7, by omega, HO7⟩, Lib.hid (fun h => by omega), HEN7, HFL7, HB7⟩
          case measure => simp [intOf]
        · have hne : ((t : Int) == (m : Int)) = false := by simp; omega
          have hne2 : (t == m) = false := by simp; omega
          have hcm : decide ((t : Int) ≤ (m : Int)) = true := decide_eq_true (by omega)
          have CN := Cur.num_any A n c (10 + t) wr h1 (by omega) (bytes_more (BytesAt.below HBY4.out HB6.out) hsz6)
          rw [show ((10 + t : Nat) : Int) = 10 + (t : Int) by omega] at CN
          have HCN := Lib.hid CN
          clear CN
          go_wp2_with fail
          refine HCN.out.mono ?_
          rintro e w7 ⟨y, rfl, hy0, hy1, hb⟩
          have HB7 := Lib.hid (HB6.out.trans (hb.mono hsz6))
          have hown7 := own_below hown6 hb
          have hsz7 := HB7.out.size
          clear hb hown6 hy1
          by_cases hy : y % 2 = 1
          · have hy2 : ((y : Int) % 2 == 1) = true := by simp [hy]
            clear hy
            go_wp2_with (at_builtin; refine app_more rfl (.tmp 61) (.tmp 63) 23 rfl wc.heap.size 3 i0 (.int .i64 0) 8 Try.underlying23 hi hz0 hz1 hz2 (by decide) rfl _ _ _ _ rfl hown7 (.int .i64 (t : Int)) rfl _ rfl rfl (by omega) hsz7 ?_; intro g8 c8 w8 hown8 hgr8)
            have HO8 := Lib.hid (show w8.ownsRow wc.heap.size 3 1 (.slice (some ⟨g8, 0, none⟩) (k + 1) c8) (k + 1) (vals (l ++ [(t : Int)])) by unfold vals; rw [List.map_append]; exact hown8)
            have HB8 := Lib.hid (HB7.out.grown hgr8 hsz7 (fun k hk => (own_lo hown7 k hk).1))
            have HLK8 := Lib.hid (show (l ++ [(t : Int)]).length = k + 1 by rw [List.length_append, HLK.out]; rfl)
            have HPR8 := Lib.hid (fun (_ : t + 1 ≤ m) => pre_take (HPR.out hle))
            have HFL8 := Lib.hid (fits_app HFL.out (t : Int) (by omega) (by omega))
            clear hown8 hgr8 hown7
            go_roundw
            case rel => exact ⟨t + 1, l ++ [(t : Int)], by omega, by omega, by go_num, ⟨_, k + 1, c8, rfl, HLK8, by omega, HO8⟩, HPR8, Lib.hid (fun h => by omega), HFL8, HB8⟩
            case measure => simp [intOf]; omega
          · have hy2 : ((y : Int) % 2 == 1) = false := by simp [hy]
            have HO8 := Lib.hid hown7
            have HPR8 := Lib.hid (fun (_ : t + 1 ≤ m) => pre_skip (HPR.out hle))
            clear hy hown7
            go_wp2
            go_roundw
            case rel => exact ⟨t + 1, l, by omega, by omega, by go_num, ⟨A6, k, c6, rfl, HLK, by omega, HO8⟩, HPR8, Lib.hid (fun h => by omega), HFL, HB7⟩
            case measure => simp [intOf]; omega
      · have htm1 : t = m + 1 := by omega
        subst htm1
        have hcm : decide (((m + 1 : Nat) : Int) ≤ (m : Int)) = false := decide_eq_false (by omega)
        have HASC := Lib.hid (HEN.out rfl)
        clear HPR HEN hcm
        obtain ⟨hsh, hp1, hp2, hst, hsS, hsl, hsM⟩ := reg_law hm16.1 hm16.2 HASC.out
        obtain ⟨T9, hT9⟩ : ∃ T9, T9 = perT l (eN m) := ⟨_, rfl⟩
        rw [← hT9] at hp1 hp2 hst hsS hsl
        obtain ⟨S9, hS9⟩ : ∃ S9, S9 = shS l (eN m) := ⟨_, rfl⟩
        rw [← hS9] at hsS hsl
        rw [← hsS] at hst
        have HSH := Lib.hid (show shS l (eN m) = S9 ∧ shM l (eN m) = m ∧ shB l (eN m) = true from ⟨hS9.symm, hsM, hsh⟩)
        have HSL := Lib.hid hsl
        have hpp : T9 + 1 ≤ P := by have := HPP.out; omega
        have HST := Lib.hid hst
        have HMX := Lib.hid (show maxB l (m : Int) = decide (T9 = P - 1) by
          unfold maxB
          rw [decide_eq_true (show 1 ≤ (m : Int) ∧ (m : Int) ≤ 6 by omega), Bool.true_and, show ((m : Int)).toNat = m from rfl, ← hS9, hsl, HPP.out])
        have HFS := Lib.hid (show Fits S9 by rw [hsS, hT9]; exact fits_part0 (reg_all hsh).1.fits _)
        clear hst hsS hsl hsM hsh hT9 hS9
        obtain ⟨Z, hms, hcc, hcf, ho1, hb1, hsz1⟩ := make_seed m hm16.1 hm16.2 wr
        obtain ⟨W5, hW5⟩ : ∃ W5, W5 = (wr.alloc (.cells Z 3)).setCell ⟨wr.heap.size, m - 1, none⟩ (.int .i64 1) := ⟨_, rfl⟩
        have HO5 := Lib.hid (show W5.ownsRow wr.heap.size 3 1 (.slice (some ⟨wr.heap.size, 0, none⟩) m m) m (vals (eN m)) by rw [hW5]; exact ho1)
        have HB5 := Lib.hid (show Below wr.heap.size wr W5 by rw [hW5]; exact hb1)
        rw [World.setCell_alloc_at _ _ _ _ _ rfl] at hW5
        have HT5 := Lib.hid (own_below hown6 HB5.out)
        have HSHC := Lib.hid (Skn.impl_shift A6 k c6 l (some ⟨wr.heap.size, 0, none⟩) m m (eN m) W5 HLK.out (own_cap HT5.out) (by omega) HFL.out (ints_of HT5.out) (eN_len hm16.1) (Nat.le_refl _) (by omega) (eN_fits m) (ints_of HO5.out))
        have HB5c := Lib.hid (HB6.out.trans (HB5.out.mono hsz6))
        clear ho1 hb1 hsz1 hown6
        go_wp2_with fail
        rw [← hW5]
        clear hW5 hcc hcf hms
        refine HSHC.out.mono ?_
        rintro e w9 ⟨A9, c9, rfl, ho, hb⟩
        rw [HSH.out.1, HSL.out] at ho
        rw [HSH.out.1, HSH.out.2.1, HSH.out.2.2, HSL.out]
        have HB9 := Lib.hid (HB5c.out.trans (hb.mono HB5c.out.size))
        have HT9r := Lib.hid (own_below HT5.out hb)
        have HO9 := Lib.hid ho
        clear ho hb HSHC HSH HT5 HO5
        obtain ⟨W9, hW9, q1, q2, hb, hsW⟩ := box1 w9 (.slice A9 T9 c9) (.int .i64 (m : Int))
        have HB10 := Lib.hid (HB9.out.trans (hb.mono HB9.out.size))
        have HT10 := Lib.hid (own_below HT9r.out hb)
        have HO10 := Lib.hid (own_below HO9.out hb)
        clear hb HT9r HO9
        go_upto_region 16 with fail
        rw [← hW9]
        clear hW9
        have HXK := Lib.hid (Skj.impl_ok A9 T9 c9 S9 (m : Int) W9.drew HSL.out (own_cap HO10.out) (by omega) HFS.out ((ints_of HO10.out).below (Below.refl _ W9).drew))
        have hdW : Below W9.heap.size W9 W9.drew := (Below.refl _ W9).drew
        have hb3 := Lib.hid hdW
        have l0 : w9.heap.size < W9.heap.size := hsW
        have hshl := HSHL.out
        have hwr : IntKind.i64.wrap ((P : Int) - 1) = (P : Int) - 1 := by rw [IntWalk.i64_in] <;> omega
        have hc1 : decide ((T9 : Int) < 1) = false := decide_eq_false (by omega)
        have hc2 : decide ((P : Int) - 1 < (T9 : Int)) = false := decide_eq_false (by omega)
        have hc3 : ((m : Int) != (m : Int)) = false := by simp
        have q1' : W9.drew.cell? ⟨w9.heap.size, 0, none⟩ = some (.slice A9 T9 c9) := q1
        have q2' : W9.drew.cell? ⟨w9.heap.size, 1, none⟩ = some (.int .i64 (m : Int)) := q2
        have HTW := Lib.hid (HT4.out.trans (HB10.out.mono hs4))
        have hsTW := HTW.out.size
        go_cut [111] from 77 (fun s wx => s = .bool false ∧ Below W9.heap.size W9 wx)
        case first =>
          by_cases hge : m ≤ T9
          · have hc4 : decide ((m : Int) ≤ (T9 : Int)) = true := decide_eq_true (by omega)
            have hc5 : decide (m ≤ T9) = true := decide_eq_true hge
            rw [HST.out hge] at HXK
            go_region_held3 (fun w' => w'.cell? ⟨w9.heap.size, 0, none⟩ = some (.slice A9 T9 c9) ∧ w'.cell? ⟨w9.heap.size, 1, none⟩ = some (.int .i64 (m : Int))) ((first | exact ⟨q1', q2'⟩)) ((first | (go_at_call 16; refine HXK.out.mono ?_; rintro e w5 ⟨rfl, hb⟩; replace q1' := (hb.cell (p := ⟨w9.heap.size, 0, none⟩) l0).trans q1'; replace q2' := (hb.cell (p := ⟨w9.heap.size, 1, none⟩) l0).trans q2'; replace hb3 := Lib.hid (hb3.out.trans hb); clear hb)))
            go_wp2_with fail
            go_meet
            exact ⟨rfl, hb3.out⟩
          · have hc4 : decide ((m : Int) ≤ (T9 : Int)) = false := decide_eq_false (by omega)
            have hc5 : decide (m ≤ T9) = false := decide_eq_false hge
            go_quiet (fail)
            go_wp2_with fail
            go_meet
            exact ⟨rfl, below_drewN (Below.refl _ W9) _⟩
        case rest =>
        obtain ⟨rfl, hb⟩ := hcut
        have HTX := Lib.hid (own_below HT10.out hb)
        have HF := Lib.hid (HTW.out.trans (hb.mono hsTW)).drew
        have hsF : w.heap.size ≤ wc.drew.heap.size := HF.out.size
        have r1 : wc.drew.cell? ⟨w9.heap.size, 0, none⟩ = some (.slice A9 T9 c9) := (hb.cell (p := ⟨w9.heap.size, 0, none⟩) l0).trans q1
        have l1 : w9.heap.size < wc.drew.heap.size := Nat.lt_of_lt_of_le l0 hb.size
        have HMC := Lib.hid (impl_max A6 k c6 l (m : Int) wc.drew HLK.out (own_cap HTX.out) (by omega) HFL.out ((ints_of HTX.out).below (Below.refl _ wc).drew) (by omega) (by omega))
        clear hb q1 q2 q1' q2' hb3 hdW HXK hc1 hc2 hc3 HTX HT10 HO10
        by_cases hE : T9 = P - 1
        · skip
          have hE1 : ((T9 : Int) == (P : Int) - 1) = true := by rw [beq_iff_eq]; omega
          have hEM := HMX.out
          rw [decide_eq_true hE] at hEM
          rw [hEM] at HMC
          clear hEM hE
          go_upto_region 18 with fail
          go_region_held3 (fun w' => w'.cell? ⟨w9.heap.size, 0, none⟩ = some (.slice A9 T9 c9)) ((first | exact r1)) ((first | (go_at_call 20; refine HMC.out.mono ?_; rintro e w5 ⟨rfl, hb⟩; replace r1 := (hb.cell (p := ⟨w9.heap.size, 0, none⟩) l1).trans r1; replace HF := Lib.hid (HF.out.trans (hb.mono hsF)); clear hb)))
          go_wp2
          go_ret
          exact ⟨rfl, HF.out⟩
        · skip
          have hE1 : ((T9 : Int) == (P : Int) - 1) = false := beq_eq_false_iff_ne.2 (by omega)
          have hEM := HMX.out
          rw [decide_eq_false hE] at hEM
          rw [hEM] at HMC
          clear hEM hE
          go_upto_region 18 with fail
          go_region_held3 (fun w' => w'.cell? ⟨w9.heap.size, 0, none⟩ = some (.slice A9 T9 c9)) ((first | exact r1)) ((first | (go_at_call 20; refine HMC.out.mono ?_; rintro e w5 ⟨rfl, hb⟩; replace r1 := (hb.cell (p := ⟨w9.heap.size, 0, none⟩) l1).trans r1; replace HF := Lib.hid (HF.out.trans (hb.mono hsF)); clear hb)))
          go_wp2
          go_ret
          exact ⟨rfl, HF.out⟩
  · have h1' : (1048576 : Int) < (n : Int) := by omega
    go_enter Try.func4, Try.ntmps4
    go_wp2
    go_ret
    exact ⟨rfl, Below.refl _ w⟩

set_option maxRecDepth 100000 in
theorem lifted (os : Os) (started : os.Started) (H : Type) (enc : TypeId × Value → H) :
    ReturnsInHanded {} Try.checked os 4 .any (Rows.fnRegistersSpec.pre6 enc Try.prog Try.f4 Rows.fnRegistersRow.domain false) (Rows.fnRegistersSpec.post enc Try.prog Try.f4 false true false false) := by
  refine returnsInHanded_of_change (C := Try.checked) Fr.own started (by kernel_rfl) Try.func4
    (ChangeSpec.witness6 (enc := enc) (C := Try.checked) false ⟨#[], #[.slice none 0 0], []⟩ 8 (by kernel_rfl) (by kernel_rfl) (by kernel_rfl) (by kernel_rfl)) ?_
  intro W base args ds gs before hval0 hW hcnd _
  have hval : ∀ (j : Nat) t v, Try.f4.params[j]? = some t → args[j]? = some v → Value.okWide Try.prog W .any base t v := hval0
  have hW' := hW
  obtain ⟨p, q, hA0, hV, rfl, hfz, hnd⟩ := hW
  have hA : DataW.TrodAll enc Try.prog W 0 (fun _ => true) true Try.f4.params.toList args.toList ds p := hA0
  have hAk := hA
  rw [Try.params4] at hA hval
  obtain ⟨v0, d0, rfl, rfl, h0⟩ := trodAll_one hA
  obtain ⟨rfl, rfl⟩ := trodVars_none hV
  have hlt : ∀ x ∈ p, x.block < W.heap.size := fun x hx => by simpa using hW'.lt x (List.mem_append_left _ hx)
  obtain ⟨A0, n0, c0, l0, rfl, hn0, hm0, hs0, ha0⟩ := Fr.view_nums Try.underlying22 Try.underlying5 (by kernel_rfl) (hval 0 22 v0 rfl rfl) h0 hlt
  clear hA0 hval0
  refine (walk A0 n0 c0 l0 W hn0 hm0 hs0 ha0).mono fun e W' ⟨he, hb⟩ => ?_
  subst he
  exact ⟨_, rfl, _, _, _, [], p, [], hW', trodAll_mk1 (shut_bool Try.underlying4 _), Fr.below_all Fr.laidOut hb _ _ _ _ (Fr.readB_all (by kernel_rfl)) hAk hlt, rfl, hb.frame _, fun h => by cases h⟩

theorem proved : Rows.FnRegistersSaid :=
  OpenClaim.holds_of_wide 4 Try.f4 rfl rfl rfl rfl rfl rfl rfl ⟨rfl, rfl, rfl, rfl, rfl⟩ rfl rfl rfl rfl rfl (by kernel_rfl) Try.func4 (by kernel_rfl)
    (of_decide_eq_true (by kernel_rfl)) (by unfold Func.isWrapper; first | (rw [if_pos (by decide +kernel)]; kernel_rfl) | (rw [if_neg (by decide +kernel)]; exact ⟨rfl, rfl⟩))
    (fun os started H enc _ => lifted os started H enc)

end Go.Proofs.Ytkonakfbidnfhaa.LawRegisters
