/- The law of the converse holds: a permutation all of whose prefixes have consecutive cards results from dealing and riffling, and no other does. No condition. -/
import Derived.Deep.RegionHeld3
import Derived.Deep.RegionWith
import Derived.Deep.Cut
import Derived.Deep.CutRange
import Derived.BigQuiet
import Derived.Test.YtpmfiflpipcojaaCvm
import Derived.Test.YtpmfiflpipcojaaCur
import Derived.Test.YtpmfiflpipcojaaFrame
set_option linter.unusedVariables false
namespace Go.Proofs.Ytpmfiflpipcojaa.LawConverse
open Go.ChangeShapes Go.WideShapes Go.ChangeAt Go.RowKit Fr _root_.Go.Proofs.Ytpmfiflpipcojaa.Own Pk Pl Ins Prm Rws Pfn Arr Gic Gip Gir Gib Mgb Cvm Rsm Pf Mvp

theorem fits_perm {zs : List Int} (h : permB zs = true) : Fits zs := by
  intro i hi
  have h1 := (permB_yes h).1
  have h2 := ((permB_yes h).2 i hi).1
  omega
theorem more_bytes {w : World} {B B' : Nat} {A : Option Addr} {n : Nat} (h : Cur.BytesAt w B A n) (hB : B ≤ B') : Cur.BytesAt w B' A n := by
  intro k hk
  obtain ⟨b, o, x, hA, hlt, r⟩ := h k hk
  exact ⟨b, o, x, hA, by omega, r⟩
theorem im_fits (m : Nat) (hm : m ≤ 12) : Fits (imarks 0 m) := by
  intro i hi
  rw [imarks_length] at hi
  rw [imarks_get 0 m i hi]
  omega
theorem deal_fits {m k : Nat} (hm : m ≤ 7) (hk : k ≤ m) : Fits (dealF m k) := by
  have : ((List.range 8).all fun m => (List.range 8).all fun k => (dealF m k).all fun x => decide (-20 ≤ x ∧ x ≤ 20)) = true := by kernel_rfl
  have h := List.all_eq_true.1 (List.all_eq_true.1 this m (List.mem_range.2 (by omega))) k (List.mem_range.2 (by omega))
  intro i hi
  have := of_decide_eq_true (List.all_eq_true.1 h ((dealF m k).getD i 0) (by rw [List.getD_eq_getElem?_getD, List.getElem?_eq_getElem hi]; exact List.getElem_mem _))
  omega
theorem bet_fits (ps qs : List Int) : Fits (betF ps qs) := by
  intro i hi
  unfold betF at *
  split at hi
  · rename_i h
    rw [if_pos h]
    rw [btw_len] at hi
    rw [btw_get ps qs i hi]
    have := posF_range ps (cardF (qs.getD i 0))
    have h2 := arr_short h
    have h3 : ps.length ≤ 12 := by
      unfold arrB at h
      rw [Bool.and_eq_true, Bool.and_eq_true, Bool.and_eq_true] at h
      exact (Pok.okB_yes h.1.1.1).1
    omega
  · exact absurd hi (Nat.not_lt_zero _)
def someT (m : Nat) (q : List Int) (k : Nat) : Bool := (List.range k).any fun k => goodK m k q
theorem some_next (m : Nat) (q : List Int) (k : Nat) : someT m q (k + 1) = (someT m q k || goodK m k q) := by
  unfold someT; rw [List.range_succ, List.any_append]; simp
theorem gcut_pos {q : List Int} (h : gilB q = true) (h1 : 1 ≤ q.length) : 1 ≤ gcutF q := by
  unfold gcutF
  rw [h, decide_eq_true h1]
  have := inR_perm (gil_parts h).1 0 (by omega)
  simp only [Bool.and_self, if_true]
  omega
theorem Raf_get {ls : List RD} {L : List (List Int)} (hz : ls.map RD.zs = L) {i : Nat} (h : i < ls.length) : (ls.getD i rd0).zs = L.getD i [] := (Gis.map_get hz h).1

set_option maxHeartbeats 4000000 in
set_option maxRecDepth 20000 in
theorem walk (A : Option Addr) (n c : Nat) (zs : List Int) (w : World) (hn : zs.length = n) (hm : n ≤ maxLen) (hs : ∀ z ∈ zs, (Lit.int .u8 z).wf = true) (ha : Fr.IntsAt w w.heap.size .u8 A zs) :
    Calls Try.prog 4 #[.slice A n c] w fun e w' => e = .returned (.bool true) ∧ Below w.heap.size w w' := by
  have hm0 : n ≤ 9223372036854775807 := by unfold maxLen at hm; omega
  have hby := Cur.bytes_of hn hs ha
  clear hn hs ha zs hm
  by_cases h1 : n ≤ 1048576
  · have h1' : decide ((1048576 : Int) < (n : Int)) = false := decide_eq_false (by omega)
    go_enter Try.func4, Try.ntmps4
    go_wp2_with fail
    refine (Cur.num_any A n c 1 _ h1 (by omega) hby).mono ?_
    rintro e w1 ⟨x, rfl, hx0, hx1, hb⟩
    have s1 := hb.size
    have T := hb
    replace hby := hby.below hb
    clear hb
    obtain ⟨m, hm⟩ : ∃ m : Nat, 1 + x % 6 = (m : Int) := ⟨(1 + x % 6).toNat, by omega⟩
    have hm1 : 1 ≤ m := by omega
    have hm6 : m ≤ 6 := by omega
    go_wp2_with fail
    clear hm hx0 hx1
    refine (Mkp.make_perm A n c 3 m _ h1 (by omega) hm1 (by omega) (more_bytes hby s1)).mono ?_
    rintro e w2 ⟨A_b, c_b, zb, rfl, hl_b, hp_b, hown, hb⟩
    have s2 := hb.size
    replace T := T.trans (hb.mono s1)
    replace hby := hby.below (hb.mono s1)
    have r_b := Ins.Row.mk hown
    clear hown hb
    go_wp2_with fail
    refine (Cur.num_any A n c 40 _ h1 (by omega) (more_bytes hby (by omega))).mono ?_
    rintro e w3 ⟨y, rfl, hy0, hy1, hb⟩
    have s3 := hb.size
    replace T := T.trans (hb.mono (by omega))
    replace hby := hby.below (hb.mono (by omega))
    replace r_b := r_b.below hb
    have HLB := Lib.hid hl_b
    have HPB := Lib.hid hp_b
    clear hb hl_b hp_b
    go_upto_if 26 with fail
    go_cut [3, 4] from 26 (fun s3 s4 wx => ∃ (A_a : Option Addr) (m c_a : Nat) (q : List Int), s3 = .int .i64 (m : Int) ∧ s4 = .slice A_a m c_a ∧ Hid (q.length = m) ∧ 1 ≤ m ∧ m ≤ 8 ∧ Hid ((permB q = true ∧ m ≤ 6) ∨ q ∈ gilsF (m : Int)) ∧ Row wx w.heap.size wx.heap.size A_a m c_a q ∧ Below w.heap.size w wx)
    case first =>
      have hr_b : Row w3 w.heap.size w3.heap.size A_b m c_b zb := Ins.Row.mk (own_mono r_b.own (by omega))
      by_cases hyy : y % 2 = 0
      · have hye : (y % 2 == 0) = true := by simpa using hyy
        clear hyy
        go_wp2_with fail
        refine (Mgb.make_gil A n c _ h1 (more_bytes hby (by omega))).mono ?_
        rintro e w4 ⟨A_a, m2, c_a, q, rfl, hl, q1, q8, hq, hown, hb⟩
        have HQ := Lib.hid (show (permB q = true ∧ m2 ≤ 6) ∨ q ∈ gilsF (m2 : Int) from Or.inr hq)
        have HL := Lib.hid hl
        have HO := Lib.hid (Ins.Row.mk (own_mono hown (show w.heap.size ≤ w3.heap.size by omega)))
        have HT := Lib.hid (T.trans (hb.mono (by omega)))
        clear hl hq hown hb
        go_wp2_with fail
        go_meet
        exact ⟨A_a, m2, c_a, q, rfl, rfl, HL.out, q1, q8, HQ.out, HO.out, HT.out⟩
      · have hye : (y % 2 == 0) = false := by simpa using hyy
        clear hyy
        have HO := Lib.hid hr_b
        have HT := Lib.hid T
        clear hr_b T
        go_wp2_with fail
        go_meet
        exact ⟨A_b, m, c_b, zb, rfl, rfl, HLB.out, hm1, by omega, Or.inl ⟨HPB.out, hm6⟩, HO.out, HT.out⟩
    case rest =>
    clear hy0 hy1 r_b T hm1 hm6 HLB HPB hby s1 s2 s3
    obtain ⟨A_a, m, c_a, q, rfl, rfl, HL, hm1, hm8, HQ, r_a, T⟩ := hcut
    have hp : permB q = true := by
      rcases HQ.out with h | h
      · exact h.1
      · exact (gil_parts (gils_good hm1 hm8 h).1).1
    have HF := Lib.hid (fits_perm hp)
    have s4 := T.size
    by_cases hm7 : m ≤ 7
    · have hcv := conv_parts (conv_ok hm1 HL.out (by
        rcases HQ.out with h | h
        · exact Or.inl h
        · exact Or.inr ⟨h, hm7⟩))
      have HCV := Lib.hid hcv
      have HDK := Lib.hid (fun k hk => deal_ok (k := k) hm1 hm7 hk)
      have HNEW := Lib.hid (Nwp.newF_yes m (by omega))
      have HLI := Lib.hid (imarks_length 0 m)
      have HFI := Lib.hid (im_fits m (by omega))
      have hm7i : (m : Int) ≤ 7 := by omega
      clear hcv hp HQ
      go_wp2
      go_loopw [5, 6] (fun s v wr => ∃ k : Nat, k ≤ m + 1 ∧ v = .int .i64 (k : Int) ∧ s = .bool (someT m q k) ∧ Below wc.heap.size wc wr) (fun _ v _ => m + 1 - (intOf v).toNat)
      case atStart => exact ⟨0, Nat.zero_le _, rfl, rfl, Below.refl _ _⟩
      case round =>
        obtain ⟨k, hk, rfl, rfl, hbV⟩ := hrel
        have hsV := hbV.size
        by_cases hkm : k ≤ m
        · have hkmi : (k : Int) ≤ (m : Int) := by omega
          go_wp2_with fail
          refine (Nwp.impl_new (m : Int) _ (by omega) (by omega)).mono ?_
          rintro e w2 ⟨A2, c2, rfl, hown, hb⟩
          rw [HNEW.out, HLI.out] at hown
          rw [HNEW.out, HLI.out]
          have s2 := hb.size
          have U2 := hbV.trans (hb.mono hsV)
          have r_2 := Ins.Row.mk hown
          clear hown hb
          go_wp2_with fail
          refine (Pf.impl_perform A2 m c2 2 (k : Int) (imarks 0 m) _ HLI.out (own_cap r_2.own) (by omega) HFI.out r_2.at_).mono ?_
          rintro e w3 ⟨A3, c3, rfl, hown, hb⟩
          have hD := HDK.out k hkm
          rw [show perfF (imarks 0 m) 2 (k : Int) = dealF m k from rfl, hD.2] at hown
          rw [show perfF (imarks 0 m) 2 (k : Int) = dealF m k from rfl, hD.2, hD.1]
          have s3 := hb.size
          have U3 := U2.trans (hb.mono (by omega))
          have r_3 := Ins.Row.mk hown
          have HDL := Lib.hid hD.2
          have HFD := Lib.hid (deal_fits (m := m) (k := k) hm7 hkm)
          have ra3 := r_a.below U3
          clear hown hb r_2 U2 hD
          go_wp2_with fail
          refine (Pfn.impl_bet A3 m c3 (dealF m k) A_a m c_a q _ HDL.out (by omega) HFD.out r_3.at_ HL.out (by omega) HF.out ra3.at_).mono ?_
          rintro e w4 ⟨A4, c4, rfl, hown, hb⟩
          have hA := (HCV.out.1 k hkm).2
          have hXL : (betF (dealF m k) q).length = m := by rw [betF_yes hA, btw_len]; exact HL.out
          have HXF := Lib.hid (bet_fits (dealF m k) q)
          obtain ⟨X, hX⟩ : ∃ X, X = betF (dealF m k) q := ⟨_, rfl⟩
          rw [← hX] at hown hXL HXF
          rw [← hX]
          rw [hXL] at hown
          rw [hXL, hA]
          have s4 := hb.size
          have U4 := U3.trans (hb.mono (by omega))
          have r_4 := Ins.Row.mk hown
          have HXL := Lib.hid hXL
          have HX := Lib.hid hX
          clear hown hb r_3 U3 ra3 hA hX hXL
          go_wp2_with fail
          refine (Rsc.impl_rise A4 m c4 X _ HXL.out (by omega) HXF.out r_4.at_).mono ?_
          rintro e w5 ⟨A5, c5, r5, rfl, hz5, h5, hb⟩
          have s5 := hb.size
          have U5 := U4.trans (hb.mono (by omega))
          have ra5 := r_a.below U5
          obtain ⟨g, hg⟩ : ∃ g, g = goodK m k q := ⟨_, rfl⟩
          have HG := Lib.hid hg
          have HGX := Lib.hid (show g = (decide ((riseI X).length ≤ 1) || (decide ((riseI X).length = 2) && decide (((riseI X).getD 0 []).length = k))) by rw [hg, HX.out]; rfl)
          obtain ⟨R, hR⟩ : ∃ R, R = (riseI X).length := ⟨_, rfl⟩
          rw [← hR] at h5 HGX
          rw [← hR]
          have HR := Lib.hid hR
          have H5 := Lib.hid h5
          have HZ5 := Lib.hid hz5
          clear hb r_4 U4 hg hR h5 hz5
          go_upto_region 19 with fail
          go_cut [12] from 66 to 91 (fun s wx => s = .bool g ∧ w5 = wx)
          case first =>
            by_cases hR1 : R ≤ 1
            · have E := Lib.hid (show g = true by rw [HGX.out, decide_eq_true hR1]; rfl)
              have hR2 : (R : Int) ≤ 1 := by omega
              go_wp2_with fail
              go_meet
              exact ⟨by rw [E.out], rfl⟩
            · have hR1' : decide ((R : Int) ≤ 1) = false := decide_eq_false (by omega)
              have hR1'' : decide (R ≤ 1) = false := decide_eq_false hR1
              by_cases hR2 : R = 2
              · obtain ⟨g5, hg5, hc5⟩ := H5.out.cell 0 (by omega)
                subst hg5
                have hzl := (Raf_get HZ5.out (i := 0) (by rw [H5.out.len]; omega))
                have E := Lib.hid (show g = decide (((riseI X).getD 0 []).length = k) by rw [HGX.out, decide_eq_false hR1, decide_eq_true hR2]; rfl)
                simp only [RD.v] at hc5
                rw [hzl] at hc5
                generalize ((riseI X).getD 0 []).length = d at *
                have hb0 : (0 : Int) < (R : Int) := by omega
                have hb0n : 0 < R := by omega
                have hR2e : ((R : Int) == 2) = true := by simp; omega
                have hR2n : (R == 2) = true := by simp; omega
                clear hR2 hzl
                by_cases hdk : d = k
                · have E2 := Lib.hid (show g = true by rw [E.out]; exact decide_eq_true hdk)
                  have hde : ((d : Int) == (k : Int)) = true := by simp; omega
                  have hdn : (d == k) = true := by simp; omega
                  clear hdk
                  go_wp2_with fail
                  go_meet
                  exact ⟨by rw [E2.out], rfl⟩
                · have E2 := Lib.hid (show g = false by rw [E.out]; exact decide_eq_false hdk)
                  have hde : ((d : Int) == (k : Int)) = false := by simp; omega
                  have hdn : (d == k) = false := by simp; omega
                  clear hdk
                  go_wp2_with fail
                  go_meet
                  exact ⟨by rw [E2.out], rfl⟩
              · have E := Lib.hid (show g = false by rw [HGX.out, decide_eq_false hR1, decide_eq_false hR2]; rfl)
                have hR2e : ((R : Int) == 2) = false := by simp; omega
                have hR2n : (R == 2) = false := by simp; omega
                clear hR2
                go_wp2_with fail
                go_meet
                exact ⟨by rw [E.out], rfl⟩
          case rest =>
          obtain ⟨rfl, rfl⟩ := hcut
          clear H5 HZ5 HGX HR
          have HSN := Lib.hid (some_next m q k)
          rw [← HG.out] at HSN
          cases hgg : g with
          | true =>
            have hgil := (HCV.out.1 k hkm).1 (by rw [← HG.out]; exact hgg)
            have hcut0 := gcut_pos hgil (by rw [HL.out]; exact hm1)
            have HS0 := Lib.hid (show someT m q (k + 1) = (someT m q k || true) by rw [HSN.out, hgg])
            clear hgil hgg HSN HG
            cases hsm : someT m q k with
            | true =>
              have HS := Lib.hid (show someT m q (k + 1) = true by rw [HS0.out, hsm]; rfl)
              clear hsm HS0
              go_wp2_with fail
              refine (Gip.impl_gcut A_a m c_a q w5 HL.out (own_cap r_a.own) (by omega) HF.out ra5.at_).mono ?_
              rintro e w6 ⟨rfl, hb⟩
              have U6 := Lib.hid (U5.trans (hb.mono (by omega)))
              generalize gcutF q = gc at *
              have hgc : (gc == -1) = false := by simp; omega
              clear hb
              go_wp2
              refine ⟨⟨k + 1, by omega, by go_num, by rw [HS.out], U6.out⟩, ?_⟩
              simp [intOf]; omega
            | false =>
              have HS := Lib.hid (show someT m q (k + 1) = true by rw [HS0.out, hsm]; rfl)
              clear hsm HS0
              go_wp2_with fail
              refine (Gip.impl_gcut A_a m c_a q w5 HL.out (own_cap r_a.own) (by omega) HF.out ra5.at_).mono ?_
              rintro e w6 ⟨rfl, hb⟩
              have U6 := Lib.hid (U5.trans (hb.mono (by omega)))
              generalize gcutF q = gc at *
              have hgc : (gc == -1) = false := by simp; omega
              clear hb
              go_wp2
              refine ⟨⟨k + 1, by omega, by go_num, by rw [HS.out], U6.out⟩, ?_⟩
              simp [intOf]; omega
          | false =>
            have HS0 := Lib.hid (show someT m q (k + 1) = (someT m q k || false) by rw [HSN.out, hgg])
            clear hgg HSN HG
            cases hsm : someT m q k with
            | true =>
              have HS := Lib.hid (show someT m q (k + 1) = true by rw [HS0.out, hsm]; rfl)
              clear hsm HS0
              go_wp2
              refine ⟨⟨k + 1, by omega, by go_num, by rw [HS.out], U5⟩, ?_⟩
              simp [intOf]; omega
            | false =>
              have HS := Lib.hid (show someT m q (k + 1) = false by rw [HS0.out, hsm]; rfl)
              clear hsm HS0
              go_wp2
              refine ⟨⟨k + 1, by omega, by go_num, by rw [HS.out], U5⟩, ?_⟩
              simp [intOf]; omega
        · have hkm1 : k = m + 1 := by omega
          have hkd : decide ((k : Int) ≤ (m : Int)) = false := decide_eq_false (by omega)
          have hkn : decide (k ≤ m) = false := decide_eq_false hkm
          have h7d : decide ((7 : Int) < (m : Int)) = false := decide_eq_false (by omega)
          have h7n : decide (7 < m) = false := decide_eq_false (by omega)
          have HSM := Lib.hid (show someT m q k = gilB q by rw [hkm1]; exact HCV.out.2)
          rw [HSM.out]
          replace T := T.trans (hbV.mono (by omega))
          have ra5 := r_a.below hbV
          clear hkm1
          go_wp2_with fail
          refine (Gip.impl_gil A_a m c_a q _ HL.out (own_cap r_a.own) (by omega) HF.out ra5.at_).mono ?_
          rintro e w6 ⟨rfl, hb⟩
          replace T := T.trans (hb.mono (by omega))
          clear hb ra5 HSM
          cases gilB q with
          | true =>
            go_wp2
            go_ret
            exact ⟨rfl, T⟩
          | false =>
            go_wp2
            go_ret
            exact ⟨rfl, T⟩
    · have hg : gilB q = true := by
        rcases HQ.out with h | h
        · omega
        · exact (gils_good hm1 hm8 h).1
      have HG := Lib.hid hg
      have h7d : decide ((m : Int) ≤ 7) = false := decide_eq_false (by omega)
      have h7n : decide (m ≤ 7) = false := decide_eq_false hm7
      have h7 : (7 : Int) < (m : Int) := by omega
      have h70 : (0 : Int) ≤ (m : Int) := by omega
      clear hg hp HQ
      go_wp2
      go_loopw [5, 6] (fun s v wr => v = .int .i64 0 ∧ s = .bool false ∧ wr = wc) (fun _ _ _ => 0)
      case atStart => exact ⟨rfl, rfl, rfl⟩
      case round =>
        obtain ⟨rfl, rfl, hwr⟩ := hrel
        replace hwr := hwr.symm
        subst hwr
        go_wp2_with fail
        refine (Gip.impl_gil A_a m c_a q _ HL.out (own_cap r_a.own) (by omega) HF.out r_a.at_).mono ?_
        rintro e w6 ⟨rfl, hb⟩
        rw [HG.out]
        replace T := T.trans (hb.mono (by omega))
        clear hb
        go_wp2
        go_ret
        exact ⟨rfl, T⟩
  · have h1' : (1048576 : Int) < (n : Int) := by omega
    go_enter Try.func4, Try.ntmps4
    go_wp2
    go_ret
    exact ⟨rfl, Below.refl _ w⟩

set_option maxRecDepth 100000 in
theorem lifted (os : Os) (started : os.Started) (H : Type) (enc : TypeId × Value → H) :
    ReturnsInHanded {} Try.checked os 4 .any (Rows.fnConverseSpec.pre6 enc Try.prog Try.f4 Rows.fnConverseRow.domain false) (Rows.fnConverseSpec.post enc Try.prog Try.f4 false true false false) := by
  refine returnsInHanded_of_change (C := Try.checked) Fr.own started (by kernel_rfl) Try.func4
    (ChangeSpec.witness6 (enc := enc) (C := Try.checked) false ⟨#[], #[.slice none 0 0], []⟩ 8 (by kernel_rfl) (by kernel_rfl) (by kernel_rfl) (by kernel_rfl)) ?_
  intro W base args ds gs before hval0 hW hcnd _
  have hval : ∀ (j : Nat) t v, Try.f4.params[j]? = some t → args[j]? = some v → Value.okWide Try.prog W .any base t v := hval0
  have hW' := hW
  obtain ⟨p, q, hA0, hV, rfl, hfz, hnd⟩ := hW
  have hA : DataW.TrodAll enc Try.prog W 0 (fun _ => true) true Try.f4.params.toList args.toList ds p := hA0
  have hAk := hA
  rw [Try.params4] at hA hval
  obtain ⟨v0, d0, rfl, rfl, h0⟩ := trodAll_one hA
  obtain ⟨rfl, rfl⟩ := trodVars_none hV
  have hlt : ∀ x ∈ p, x.block < W.heap.size := fun x hx => by simpa using hW'.lt x (List.mem_append_left _ hx)
  obtain ⟨A0, n0, c0, l0, rfl, hn0, hm0, hs0, ha0⟩ := Fr.view_nums Try.underlying22 Try.underlying5 (by kernel_rfl) (hval 0 22 v0 rfl rfl) h0 hlt
  clear hA0 hval0
  refine (walk A0 n0 c0 l0 W hn0 hm0 hs0 ha0).mono fun e W' ⟨he, hb⟩ => ?_
  subst he
  exact ⟨_, rfl, _, _, _, [], p, [], hW', trodAll_mk1 (shut_bool Try.underlying4 _), Fr.below_all Fr.laidOut hb _ _ _ _ (Fr.readB_all (by kernel_rfl)) hAk hlt, rfl, hb.frame _, fun h => by cases h⟩

theorem proved : Rows.FnConverseSaid :=
  OpenClaim.holds_of_wide 4 Try.f4 rfl rfl rfl rfl rfl rfl rfl ⟨rfl, rfl, rfl, rfl, rfl⟩ rfl rfl rfl rfl rfl (by kernel_rfl) Try.func4 (by kernel_rfl)
    (of_decide_eq_true (by kernel_rfl)) (by unfold Func.isWrapper; first | (rw [if_pos (by decide +kernel)]; kernel_rfl) | (rw [if_neg (by decide +kernel)]; exact ⟨rfl, rfl⟩))
    (fun os started H enc _ => lifted os started H enc)

end Go.Proofs.Ytpmfiflpipcojaa.LawConverse
