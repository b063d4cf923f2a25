/- The law of the hidden card holds: a code is found exactly where there are messages enough, and it works. No condition. -/
import Derived.Deep.Cut
import Derived.Test.YtefgcnjbiaileaaFcl
import Derived.Test.YtefgcnjbiaileaaCur
import Derived.Test.YtefgcnjbiaileaaFrame
set_option linter.unusedVariables false
namespace Go.Proofs.Ytefgcnjbiaileaa.LawCodes
open Go.ChangeShapes Go.WideShapes Go.ChangeAt Go.RowKit Fr _root_.Go.Proofs.Ytefgcnjbiaileaa.Own Pk Ins

theorem more_bytes {w : World} {B B' : Nat} {A : Option Addr} {n : Nat} (h : Cur.BytesAt w B A n) (hB : B ≤ B') : Cur.BytesAt w B' A n := by
  intro k hk
  obtain ⟨b, o, x, hA, hlt, r⟩ := h k hk
  exact ⟨b, o, x, hA, by omega, r⟩
theorem mod_nat {x : Int} {m : Nat} (h0 : 0 ≤ x) (hm : 0 < m) : ∃ j : Nat, x % (m : Int) = (j : Int) ∧ x.tmod (m : Int) = (j : Int) ∧ j < m := by
  refine ⟨(x % (m : Int)).toNat, ?_, ?_, ?_⟩
  · have := Int.emod_nonneg x (show (m : Int) ≠ 0 by omega)
    omega
  · rw [Int.tmod_eq_emod_of_nonneg h0]
    have := Int.emod_nonneg x (show (m : Int) ≠ 0 by omega)
    omega
  · have h1 := Int.emod_nonneg x (show (m : Int) ≠ 0 by omega)
    have h2 := Int.emod_lt_of_pos x (show (0 : Int) < (m : Int) by omega)
    omega
set_option maxHeartbeats 8000000 in
set_option maxRecDepth 20000 in
theorem walk (A : Option Addr) (nn c : Nat) (zs : List Int) (w : World) (hn : zs.length = nn) (hm : nn ≤ maxLen) (hs : ∀ z ∈ zs, (Lit.int .u8 z).wf = true) (ha : Fr.IntsAt w w.heap.size .u8 A zs) :
    Calls Try.prog 3 #[.slice A nn c] w fun e w' => e = .returned (.bool true) ∧ Below w.heap.size w w' := by
  have hm0 : nn ≤ 9223372036854775807 := by unfold maxLen at hm; omega
  have hby := Cur.bytes_of hn hs ha
  clear hn hs ha zs hm
  by_cases h1 : nn ≤ 1048576
  · have h1' : decide ((1048576 : Int) < (nn : Int)) = false := decide_eq_false (by omega)
    have HBY := Lib.hid hby
    clear hby
    go_enter Try.func3, Try.ntmps3
    go_wp2_with fail
    refine (Cur.num_any A nn c 1 w h1 (by omega) HBY.out).mono ?_
    rintro e w1 ⟨x, rfl, hx0, hx1, hb1⟩
    obtain ⟨k, hkx⟩ : ∃ k : Int, 1 + x % 3 = k := ⟨_, rfl⟩
    have hk : 1 ≤ k ∧ k ≤ 3 := by omega
    have HK := Lib.hid hk
    have T1 := Lib.hid hb1
    clear hb1
    go_wp2_with fail
    clear hkx hx0 hx1
    refine (Cur.num_any A nn c 3 w1 h1 (by omega) (more_bytes (HBY.out.below T1.out) T1.out.size)).mono ?_
    rintro e w2 ⟨x2, rfl, hx20, hx21, hb⟩
    have T2 := Lib.hid (T1.out.trans (hb.mono T1.out.size))
    obtain ⟨n0, hn0⟩ : ∃ n : Int, k + x2 % 4 = n := ⟨_, rfl⟩
    have hnb : k ≤ n0 ∧ n0 ≤ k + 3 := by omega
    have hwr : IntKind.i64.wrap (k + x2 % 4) = n0 := by rw [IntWalk.i64_in _ (by omega)]; exact hn0
    clear hb T1
    go_upto_region 5 with fail
    clear hn0 hwr hx20 hx21
    go_cut [38] from 27 (fun s wx => ∃ c0 : Bool, s = .bool c0 ∧ Hid (c0 = true → k ≤ 5 ∧ 5 ≤ k + 3) ∧ Hid (Below w.heap.size w wx))
    case first =>
      by_cases h3 : k = 3
      · have hk3 : (k == 3) = true := by rw [h3]; rfl
        have H5 := Lib.hid (show k ≤ 5 ∧ 5 ≤ k + 3 by omega)
        clear h3
        by_cases h5 : 5 < n0
        · have hn5 : decide ((5 : Int) < n0) = true := decide_eq_true h5
          go_wp2_with fail
          refine (Cur.num_any A nn c 5 w2 h1 (by omega) (more_bytes (HBY.out.below T2.out) T2.out.size)).mono ?_
          rintro e w3 ⟨x3, rfl, hx30, hx31, hb⟩
          have T3 := Lib.hid (T2.out.trans (hb.mono T2.out.size))
          clear hb
          obtain ⟨z8, hz8⟩ : ∃ z8 : Int, x3 % 8 = z8 := ⟨_, rfl⟩
          by_cases hz0 : z8 = 0
          · have hz0' : (z8 != 0) = false := by rw [hz0]; rfl
            clear hz0
            go_wp2_with fail
            go_meet
            exact ⟨false, rfl, (fun h => by cases h), T3⟩
          · have hz0' : (z8 != 0) = true := by simpa using hz0
            clear hz0
            go_wp2_with fail
            go_meet
            exact ⟨true, rfl, (fun _ => H5.out), T3⟩
        · have hn5 : decide ((5 : Int) < n0) = false := decide_eq_false h5
          go_wp2_with fail
          go_meet
          exact ⟨false, rfl, (fun h => by cases h), T2⟩
      · have hk3 : (k == 3) = false := by simpa using h3
        go_wp2_with fail
        go_meet
        exact ⟨false, rfl, (fun h => by cases h), T2⟩
    case rest =>
    obtain ⟨c0, rfl, HC0, T3⟩ := hcut
    clear T2
    go_upto_if 38 with fail
    go_cut [4] from 39 (fun s wx => ∃ n : Int, s = .int .i64 n ∧ k ≤ n ∧ n ≤ k + 3 ∧ Hid (Below w.heap.size w wx))
    case first =>
      cases c0 with
      | true =>
        go_wp2_with fail
        go_meet
        exact ⟨5, rfl, (HC0.out (by trivial)).1, (HC0.out (by trivial)).2, T3⟩
      | false =>
        go_wp2_with fail
        go_meet
        exact ⟨n0, rfl, hnb.1, hnb.2, T3⟩
    case rest =>
    obtain ⟨n, rfl, hn1, hn2, T⟩ := hcut
    have hn : k ≤ n ∧ n ≤ k + 3 := ⟨hn1, hn2⟩
    clear hn1 hn2 T3 hnb HK HC0
    cases hfb : Fcd.fndB n k with
    | false =>
      obtain ⟨Lg, lh, lm, HF, HLG, HHA, HHO, HME, g1, g2, g3⟩ := Fcl.no_law hk hn hfb
      have HF := Lib.hid HF
      have HLG := Lib.hid HLG
      have HHA := Lib.hid HHA
      have HHO := Lib.hid HHO
      have HME := Lib.hid HME
      have l1 : decide (n ≤ Lg) = false := decide_eq_false (by omega)
      have l2 : decide (Lg < n) = true := decide_eq_true g1
      have l3 : decide (Lg < k) = false := decide_eq_false (by omega)
      clear hfb
      go_wp2_with fail
      refine (HF.out _).mono ?_
      rintro e w20 ⟨A9, c9, B9, d9, rfl, hb⟩
      replace T := Lib.hid (T.out.trans (hb.mono T.out.size))
      clear hb HF
      unfold Hco.coV
      go_wp2_with fail
      generalize hV : World.alloc w20 _ = V
      have hbV : Below w20.heap.size w20 V := by rw [← hV]; exact (Below.refl _ _).alloc (Nat.le_refl _) _
      have hBX : V.heap[w20.heap.size]? = some (.cells #[.int .i64 0, .slice A9 0 c9, .slice B9 0 d9] 26 (0, 0)) := by rw [← hV]; exact heap_alloc_new _ _
      obtain ⟨bx, hbxe⟩ : ∃ bx, bx = w20.heap.size := ⟨_, rfl⟩
      rw [← hbxe] at hBX
      try rw [← hbxe]
      replace T := Lib.hid (T.out.trans (hbV.mono T.out.size))
      have HBX := Lib.hid fun W (h : Below V.heap.size V W) => Cde.cell3 ((h.block bx (Array.getElem?_eq_some_iff.1 hBX).1).trans hBX)
      clear hV hbxe hBX
      refine (HLG.out _).mono ?_
      rintro e w' ⟨rfl, rfl⟩
      go_wp2_with fail
      refine (HHA.out _).mono ?_
      rintro e w21 ⟨rfl, hb⟩
      have U := Lib.hid hb
      clear hb
      go_wp2_with fail
      refine (HLG.out _).mono ?_
      rintro e w' ⟨rfl, rfl⟩
      go_wp2_with fail
      refine (HLG.out _).mono ?_
      rintro e w' ⟨rfl, rfl⟩
      obtain ⟨k0, k1, k2⟩ := HBX.out _ U.out
      go_wp2_with fail
      refine (HHO.out _).mono ?_
      rintro e w22 ⟨A4, c4, rfl, hb⟩
      replace U := Lib.hid (U.out.trans (hb.mono U.out.size))
      clear hb k0 k1 k2
      go_wp2_with fail
      refine (HME.out _).mono ?_
      rintro e w23 ⟨A5, c5, rfl, hb⟩
      replace U := Lib.hid (U.out.trans (hb.mono U.out.size))
      clear hb
      have HEND := Lib.hid (T.out.trans (U.out.mono T.out.size))
      have hgt : decide ((lm : Int) < (lh : Int)) = true := decide_eq_true (by omega)
      have hgtn : decide (lm < lh) = true := decide_eq_true g3
      go_wp2
      go_ret
      exact ⟨rfl, HEND.out⟩
    | true =>
      obtain ⟨Lg, lh, lm, nh, ns, H, S, HF, HLG, HHA, HHO, HME, g1, g2, g3, g4, g5, g6, g7, g8, HCO, HQ⟩ := Fcl.yes_law hk hn hfb
      have HF := Lib.hid HF
      have HLG := Lib.hid HLG
      have HHA := Lib.hid HHA
      have HHO := Lib.hid HHO
      have HME := Lib.hid HME
      have HCO := Lib.hid HCO
      have HQ := Lib.hid HQ
      have l1 : decide (n ≤ Lg) = true := decide_eq_true g1
      have l2 : decide (Lg < n) = false := decide_eq_false (by omega)
      have l3 : decide (Lg < k) = false := decide_eq_false (by omega)
      clear hfb
      go_wp2_with fail
      refine (HF.out _).mono ?_
      rintro e w20 ⟨A9, c9, B9, d9, rs, r2, rfl, hz, hy, hcr, hb⟩
      have HZ := Lib.hid hz
      have HY := Lib.hid hy
      have HCR := Lib.hid hcr
      have hw20 : Below w20.heap.size w20 w20 := Below.refl _ _
      replace T := Lib.hid (T.out.trans (hb.mono T.out.size))
      clear hb HF hz hy hcr
      unfold Hco.coV
      go_wp2_with fail
      generalize hV : World.alloc w20 _ = V
      have hbV : Below w20.heap.size w20 V := by rw [← hV]; exact (Below.refl _ _).alloc (Nat.le_refl _) _
      have hBX : V.heap[w20.heap.size]? = some (.cells #[.int .i64 n, .slice A9 nh c9, .slice B9 ns d9] 26 (0, 0)) := by rw [← hV]; exact heap_alloc_new _ _
      obtain ⟨bx, hbxe⟩ : ∃ bx, bx = w20.heap.size := ⟨_, rfl⟩
      rw [← hbxe] at hBX
      try rw [← hbxe]
      replace T := Lib.hid (T.out.trans (hbV.mono T.out.size))
      have HBX := Lib.hid fun W (h : Below V.heap.size V W) => Cde.cell3 ((h.block bx (Array.getElem?_eq_some_iff.1 hBX).1).trans hBX)
      have HCV := Lib.hid fun W (h : Below V.heap.size V W) => HCR.out.below (hbV.trans (h.mono hbV.size))
      clear hV hbxe hBX hbV HCR
      refine (HLG.out _).mono ?_
      rintro e w' ⟨rfl, rfl⟩
      go_wp2_with fail
      refine (HHA.out _).mono ?_
      rintro e w21 ⟨rfl, hb⟩
      have U := Lib.hid hb
      clear hb
      go_wp2_with fail
      refine (HLG.out _).mono ?_
      rintro e w' ⟨rfl, rfl⟩
      go_wp2_with fail
      refine (HLG.out _).mono ?_
      rintro e w' ⟨rfl, rfl⟩
      go_wp2_with fail
      refine (HHO.out _).mono ?_
      rintro e w22 ⟨A4, c4, r4, rfl, hz4, hr4, hb⟩
      have HZ4 := Lib.hid hz4
      have HR4 := Lib.hid hr4
      replace U := Lib.hid (U.out.trans (hb.mono U.out.size))
      clear hb hz4 hr4 HHA HHO HLG l1 l2 l3
      obtain ⟨k0, k1, k2⟩ := HBX.out _ U.out
      have C1 := Lib.hid (HCO.out _ _ _ A9 c9 B9 d9 rs r2 HZ.out HY.out (HCV.out _ U.out))
      unfold Hco.coV at C1
      go_wp2_with fail
      refine C1.out.mono ?_
      rintro e w23 ⟨rfl, hb⟩
      replace U := Lib.hid (U.out.trans (hb.mono U.out.size))
      replace HR4 := Lib.hid (HR4.out.below hb)
      clear hb k0 k1 k2 C1 HCO
      have hne : ((lh : Int) == 0) = false := by simpa using (show lh ≠ 0 by omega)
      have hgt : decide ((lm : Int) < (lh : Int)) = false := decide_eq_false (by omega)
      have hgtn : decide (lm < lh) = false := decide_eq_false (by omega)
      go_wp2_with fail
      refine (HME.out _).mono ?_
      rintro e w24 ⟨A5, c5, rfl, hb⟩
      replace U := Lib.hid (U.out.trans (hb.mono U.out.size))
      replace HR4 := Lib.hid (HR4.out.below hb)
      clear hb HME
      have HT24 := Lib.hid (T.out.trans (U.out.mono T.out.size))
      go_wp2_with fail
      refine (Cur.num_any A nn c 20 w24 h1 (by omega) (more_bytes (HBY.out.below HT24.out) HT24.out.size)).mono ?_
      rintro e w25 ⟨x4, rfl, hx40, hx41, hb⟩
      replace U := Lib.hid (U.out.trans (hb.mono U.out.size))
      replace HR4 := Lib.hid (HR4.out.below hb)
      clear hb HT24
      obtain ⟨j, e1, e2, hjl⟩ := mod_nat (m := lh) hx40 (by omega)
      obtain ⟨g4', rfl, hc4⟩ := HR4.out.cell j hjl
      have hra := (HR4.out.2.1 j (by rw [HR4.out.len]; exact hjl)).at_
      have hmem : (r4.getD j Rws.rd0).zs ∈ H := by rw [← HZ4.out, List.getD_eq_getElem?_getD, List.getElem?_eq_getElem (by rw [HR4.out.len]; exact hjl)]; exact List.mem_map.2 ⟨_, List.getElem_mem _, rfl⟩
      obtain ⟨hql, m, ms, xx, m1, m2, m3, m4, m5, HEN, HDE⟩ := HQ.out _ hmem
      have HJ := Lib.hid (show ∀ W, Below w25.heap.size w25 W → IntsAt W W.heap.size .i64 (r4.getD j Rws.rd0).A (r4.getD j Rws.rd0).zs from fun W hW => (Ins.at_below hra hW (Nat.le_refl _)).more hW.size)
      unfold Rws.RD.v at hc4
      have HEN := Lib.hid HEN
      have HDE := Lib.hid HDE
      have HX6 := Lib.hid (show Pok.hasB (r4.getD j Rws.rd0).zs xx = true from decide_eq_true m3)
      have HX7 := Lib.hid (show Pok.hasB ms xx = false from decide_eq_false m4)
      have HX8 := Lib.hid m5
      have HM1 := Lib.hid m1
      clear hmem hra HQ m3 m4 m5 HR4 HZ4 m1
      generalize (r4.getD j Rws.rd0).zs = hd at *
      generalize (r4.getD j Rws.rd0).A = Aj at *
      generalize (r4.getD j Rws.rd0).c = cj at *
      obtain ⟨ld, hld⟩ : ∃ ld, ld = hd.length := ⟨_, rfl⟩
      rw [← hld] at hc4 HEN hql
      have HLD := Lib.hid hld.symm
      clear hld
      obtain ⟨k0, k1, k2⟩ := HBX.out _ U.out
      have C2 := Lib.hid (HEN.out w25 _ _ A9 c9 B9 d9 rs r2 Aj cj HZ.out HY.out (HCV.out _ U.out) (HJ.out _ (Below.refl _ _)))
      unfold Hco.coV at C2
      have hlh0 : (j : Int) < (lh : Int) := by omega
      have hlhn : ¬ lh = 0 := by omega
      clear HEN
      go_wp2_with fail
      clear e1 e2 hx40 hx41
      refine C2.out.mono ?_
      rintro e w26 ⟨Am, cm, rfl, hom, hb⟩
      have X := Lib.hid hb
      replace U := Lib.hid (U.out.trans (hb.mono U.out.size))
      have HOM := Lib.hid hom
      clear hb hom k0 k1 k2 C2 hc4
      obtain ⟨k0, k1, k2⟩ := HBX.out _ U.out
      have C3 := Lib.hid (HDE.out w26 _ _ A9 c9 B9 d9 rs r2 Am cm HZ.out HY.out (HCV.out _ U.out) (ints_of HOM.out))
      unfold Hco.coV at C3
      clear HDE
      go_wp2_with fail
      refine C3.out.mono ?_
      rintro e w27 ⟨rfl, hb⟩
      replace X := Lib.hid (X.out.trans (hb.mono X.out.size))
      replace U := Lib.hid (U.out.trans (hb.mono U.out.size))
      replace HOM := Lib.hid (own_below HOM.out hb)
      clear hb k0 k1 k2 C3 HBX HCV HZ HY
      have HAJ := Lib.hid (HJ.out _ X.out)
      have HAM := Lib.hid (ints_of HOM.out)
      have HEND := Lib.hid (T.out.trans (U.out.mono T.out.size))
      clear HJ X U HOM T
      have hkm : ((m : Int) != k - 1) = false := by simpa using m2
      go_wp2_with fail
      refine (Fco.law_has Aj ld cj hd xx _ HLD.out (by omega) HAJ.out).mono ?_
      rintro e w' ⟨rfl, rfl⟩
      rw [HX6.out]
      go_wp2_with fail
      refine (Fco.law_has Am m cm ms xx _ HM1.out (by omega) HAM.out).mono ?_
      rintro e w' ⟨rfl, rfl⟩
      rw [HX7.out]
      clear hkm
      go_wp2
      go_loop [14, 152] (fun _ q => ∃ t : Nat, t ≤ m ∧ q = .int .i64 (t : Int)) (fun _ q => m - (intOf q).toNat)
      case atStart => exact ⟨0, Nat.zero_le _, rfl⟩
      case round =>
        obtain ⟨t, ht, rfl⟩ := hrel
        by_cases hlt : t < m
        · obtain ⟨b5, o5, hAe, hb5, hc5⟩ := HAM.out t (by rw [HM1.out]; exact hlt)
          subst hAe
          have hmy : ms.getD t 0 ∈ ms := by rw [List.getD_eq_getElem?_getD, List.getElem?_eq_getElem (by rw [HM1.out]; exact hlt)]; exact List.getElem_mem _
          have HXY := Lib.hid (show Pok.hasB hd (ms.getD t 0) = true from decide_eq_true (HX8.out _ hmy))
          clear hmy
          generalize ms.getD t 0 = y at hc5 HXY
          go_wp2_with fail
          refine (Fco.law_has Aj ld cj hd y _ HLD.out (by omega) HAJ.out).mono ?_
          rintro e w' ⟨rfl, rfl⟩
          rw [HXY.out]
          go_wp2
          go_round
          case rel => exact ⟨t + 1, by omega, by go_num⟩
          case measure => simp [intOf]; omega
        · go_wp2
          go_ret
          exact ⟨rfl, HEND.out⟩
  · have h1' : (1048576 : Int) < (nn : Int) := by omega
    go_enter Try.func3, Try.ntmps3
    go_wp2
    go_ret
    exact ⟨rfl, Below.refl _ w⟩

set_option maxRecDepth 100000 in
theorem lifted (os : Os) (started : os.Started) (H : Type) (enc : TypeId × Value → H) :
    ReturnsInHanded {} Try.checked os 3 .any (Rows.fnCodesSpec.pre6 enc Try.prog Try.f3 Rows.fnCodesRow.domain false) (Rows.fnCodesSpec.post enc Try.prog Try.f3 false true false false) := by
  refine returnsInHanded_of_change (C := Try.checked) Fr.own started (by kernel_rfl) Try.func3
    (ChangeSpec.witness6 (enc := enc) (C := Try.checked) false ⟨#[], #[.slice none 0 0], []⟩ 8 (by kernel_rfl) (by kernel_rfl) (by kernel_rfl) (by kernel_rfl)) ?_
  intro W base args ds gs before hval0 hW hcnd _
  have hval : ∀ (j : Nat) t v, Try.f3.params[j]? = some t → args[j]? = some v → Value.okWide Try.prog W .any base t v := hval0
  have hW' := hW
  obtain ⟨p, q, hA0, hV, rfl, hfz, hnd⟩ := hW
  have hA : DataW.TrodAll enc Try.prog W 0 (fun _ => true) true Try.f3.params.toList args.toList ds p := hA0
  have hAk := hA
  rw [Try.params3] at hA hval
  obtain ⟨v0, d0, rfl, rfl, h0⟩ := trodAll_one hA
  obtain ⟨rfl, rfl⟩ := trodVars_none hV
  have hlt : ∀ x ∈ p, x.block < W.heap.size := fun x hx => by simpa using hW'.lt x (List.mem_append_left _ hx)
  obtain ⟨A0, n0, c0, l0, rfl, hn0, hm0, hs0, ha0⟩ := Fr.view_nums Try.underlying22 Try.underlying5 (by kernel_rfl) (hval 0 22 v0 rfl rfl) h0 hlt
  clear hA0 hval0
  refine (walk A0 n0 c0 l0 W hn0 hm0 hs0 ha0).mono fun e W' ⟨he, hb⟩ => ?_
  subst he
  exact ⟨_, rfl, _, _, _, [], p, [], hW', trodAll_mk1 (shut_bool Try.underlying4 _), Fr.below_all Fr.laidOut hb _ _ _ _ (Fr.readB_all (by kernel_rfl)) hAk hlt, rfl, hb.frame _, fun h => by cases h⟩

theorem proved : Rows.FnCodesSaid :=
  OpenClaim.holds_of_wide 3 Try.f3 rfl rfl rfl rfl rfl rfl rfl ⟨rfl, rfl, rfl, rfl, rfl⟩ rfl rfl rfl rfl rfl (by kernel_rfl) Try.func3 (by kernel_rfl)
    (of_decide_eq_true (by kernel_rfl)) (by unfold Func.isWrapper; first | (rw [if_pos (by decide +kernel)]; kernel_rfl) | (rw [if_neg (by decide +kernel)]; exact ⟨rfl, rfl⟩))
    (fun os started H enc _ => lifted os started H enc)

end Go.Proofs.Ytefgcnjbiaileaa.LawCodes
