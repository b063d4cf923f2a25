/- The law of learning holds: a move keeps the number of possibilities, and a choice leads to the results of all of them. No condition. -/
import Derived.Test.YthcggkhpamjjbaaGreatLnf
import Derived.Test.YthcggkhpamjjbaaGreatKni
import Derived.Test.YthcggkhpamjjbaaGreatFrame
set_option linter.unusedVariables false
namespace Go.Proofs.YthcggkhpamjjbaaGreat.LawLearns
open Go.ChangeShapes Go.WideShapes Go.ChangeAt Go.RowKit Fr _root_.Go.Proofs.YthcggkhpamjjbaaGreat.Own Pk Ins Pfn Pok Rws Lb Cat Srt Sst Arr Kno Kns

theorem more_bytes {w : World} {B B' : Nat} {A : Option Addr} {n : Nat} (h : Cur.BytesAt w B A n) (hB : B ≤ B') : Cur.BytesAt w B' A n := by
  intro k hk
  obtain ⟨b, o, x, hA, hlt, r⟩ := h k hk
  exact ⟨b, o, x, hA, by omega, r⟩
theorem gk_len {m N : Nat} {ls : List Rws.RD} (h : Lnf.GK m N (ls.map Rws.RD.zs)) (i : Nat) (hi : i < ls.length) : (ls.getD i Rws.rd0).zs.length = m := (Mkn.gk_fits h i hi).2.1
set_option maxHeartbeats 4000000 in
set_option maxRecDepth 20000 in
theorem walk (A : Option Addr) (n c : Nat) (zs : List Int) (w : World) (hn : zs.length = n) (hm : n ≤ maxLen) (hs : ∀ z ∈ zs, (Lit.int .u8 z).wf = true) (ha : Fr.IntsAt w w.heap.size .u8 A zs) :
    Calls Tryz.prog 3 #[.slice A n c] w fun e w' => e = .returned (.bool true) ∧ Below w.heap.size w w' := by
  have hm0 : n ≤ 9223372036854775807 := by unfold maxLen at hm; omega
  have hby := Cur.bytes_of hn hs ha
  clear hn hs ha zs hm
  by_cases h1 : n ≤ 1048576
  · have h1' : decide ((1048576 : Int) < (n : Int)) = false := decide_eq_false (by omega)
    have HBY := Lib.hid hby
    clear hby
    obtain ⟨i0, hi, hz0, hz1, hz2⟩ := info_parts infoInt
    go_enter Tryz.func3, Tryz.ntmps3
    go_wp2_with fail
    refine (Mkn.make_known A n c w h1 HBY.out).mono ?_
    rintro e w1 ⟨Al, N, c2, ls, m, rfl, q1, q4, hl, hG, hR, hb1⟩
    have HL := Lib.hid hl
    have HG := Lib.hid hG
    have hN1 : 1 ≤ N := by have h := hG.pos; rw [List.length_map, hl] at h; exact h
    have hN2 : N ≤ 256 := by have h := hG.few; rw [List.length_map, hl] at h; exact h
    have hN0 : 0 < N := hN1
    obtain ⟨g, rfl, hc0⟩ := hR.cell 0 (by omega)
    obtain ⟨b0, o0, A0, m0, c0, eA, hb0, hc0', hm0, hi0, hf0, hs0, hcp0⟩ := Afm.row_at2 (Sst.at_of hR) hl (fun i hi => (Mkn.gk_fits hG i (by omega)).1) (fun i hi => by have := gk_len hG i (by omega); omega) (Afm.caps_of hR) 0 (by omega)
    simp only [Option.some.injEq, Addr.mk.injEq, and_true] at eA
    obtain ⟨rfl, rfl⟩ := eA
    obtain rfl : m0 = m := hm0.symm.trans (gk_len hG 0 (by omega))
    clear hc0
    have hc0 : w1.cell? ⟨g, 0, none⟩ = some (.slice A0 m0 c0) := hc0'
    clear hc0'
    have HR1 := Lib.hid hR
    have HB1 := Lib.hid hb1
    have s1 := hb1.size
    clear hl hG hR hb1
    go_wp2_with fail
    refine (Mkm.make_move A n c 40 m0 w1 q1 (by omega) h1 (by omega) (more_bytes (HBY.out.below HB1.out) s1)).mono ?_
    rintro e w2 ⟨kd, k, rfl, hk, hb2⟩
    have HK := Lib.hid hk
    have hg1 : g < w1.heap.size := World.block_lt_of_cell? w1 _ hc0
    have s2 := hb2.size
    have HB2 := Lib.hid (HB1.out.trans (hb2.mono s1))
    have HR2 := Lib.hid (HR1.out.below hb2)
    have hc2 := (hb2.cell (p := ⟨g, 0, none⟩) hg1).trans hc0
    obtain ⟨W3, hW3⟩ : ∃ W, W = w2.alloc (.cells #[.int .i64 (kd : Int), .int .i64 (k : Int)] 26) := ⟨_, rfl⟩
    have hblk := heap_alloc_new w2 (.cells #[.int .i64 (kd : Int), .int .i64 (k : Int)] 26)
    rw [← hW3] at hblk
    have hb3 : Below w2.heap.size w2 W3 := by
      rw [hW3]
      exact (Below.refl w2.heap.size w2).alloc (Nat.le_refl _) _
    have s3 : w2.heap.size + 1 ≤ W3.heap.size := by rw [hW3]; simp
    have bx0 : W3.cell? ⟨w2.heap.size, 0, none⟩ = some (.int .i64 (kd : Int)) := Fr2.range2 hblk 0 _ rfl
    have bx1 : W3.cell? ⟨w2.heap.size, 1, none⟩ = some (.int .i64 (k : Int)) := Fr2.range2 hblk 1 _ rfl
    have HB3 := Lib.hid (HB2.out.trans (hb3.mono (by omega)))
    have HR3 := Lib.hid ((HR2.out.below hb3).higher (show w1.heap.size ≤ W3.heap.size by omega) (Nat.le_refl _))
    have hc3 := (hb3.cell (p := ⟨g, 0, none⟩) (show g < _ by omega)).trans hc2
    have HW3 := Lib.hid hW3
    generalize hQ : w2.heap.size = Q at *
    clear hb2 hb3 hblk hW3 hk HR2 HR1 hc0 hc2
    -- what the move and the cut make
    obtain ⟨f1, f2, f3, f4⟩ := Lnf.aft_all HG.out q1 q4 (by omega) HK.out
    obtain ⟨e1, e2, e3, e4⟩ := Lnf.cut_all HG.out q1 q4 (by decide)
    obtain ⟨X, hX⟩ : ∃ X, X = Afm.aftF (ls.map Rws.RD.zs) (kd : Int) (k : Int) := ⟨_, rfl⟩
    obtain ⟨Y, hY⟩ : ∃ Y, Y = Afc.choF 1 (ls.map Rws.RD.zs) := ⟨_, rfl⟩
    rw [← hX] at f2 f3 f4
    rw [← hY] at e2 e3 e4
    rw [List.length_map, HL.out] at f2 e3
    have HCA := Lib.hid (Afm.impl_after (some ⟨g, 0, none⟩) N c2 ls (kd : Int) (k : Int) W3 HL.out (Sst.at_of HR3.out) (fun i hi => (Mkn.gk_fits HG.out i (by rw [HL.out]; exact hi)).1) (fun i hi => by have := gk_len HG.out i (by rw [HL.out]; exact hi); omega) (Afm.caps_of HR3.out) (by omega))
    rw [← hX, f1] at HCA
    have HG3 := Lib.hid f3
    have HF4 := Lib.hid f4
    have HE2 := Lib.hid e2
    have HE4 := Lib.hid e4
    have HE1 := Lib.hid e1
    have HY := Lib.hid hY
    have HXL := Lib.hid f2
    have HYN := Lib.hid e3
    have HKX := Lib.hid (f3.know q1 (by omega))
    have HKY := Lib.hid (e2.know q1 (by decide))
    clear f1 f2 f3 f4 e1 e2 e3 e4 hX hY
    go_wp2_with fail
    rw [← HW3.out]
    refine HCA.out.mono ?_
    rintro e w4 ⟨Ax, cx, rx, rfl, hzx, hox, hb4⟩
    rw [HXL.out] at hox ⊢
    have HZX := Lib.hid hzx
    have HX4 := Lib.hid hox
    have s4 := hb4.size
    have HB4 := Lib.hid (HB3.out.trans (hb4.mono (show w.heap.size ≤ _ by omega)))
    have HR4 := Lib.hid ((HR3.out.below hb4).higher s4 (Nat.le_refl _))
    have HT4 := Lib.hid hb4
    clear hzx hox hb4 HCA HW3
    have HCC := Lib.hid (Afc.impl_choice (some ⟨g, 0, none⟩) N c2 ls 1 w4 HL.out (Sst.at_of HR4.out) (fun i hi => (Mkn.gk_fits HG.out i (by rw [HL.out]; exact hi)).1) (fun i hi => by have := gk_len HG.out i (by rw [HL.out]; exact hi); omega) (Afm.caps_of HR4.out) (by omega))
    rw [← HY.out, HE1.out] at HCC
    go_wp2_with fail
    refine HCC.out.mono ?_
    rintro e w5 ⟨Ay, cy, ry, rfl, hzy, hoy, hb5⟩
    obtain ⟨M, hM⟩ : ∃ M, M = Y.length := ⟨_, rfl⟩
    rw [← hM] at hoy HYN ⊢
    have hMN := HYN.out
    have hM2 : M ≤ 1024 := by rw [hM]; exact HE2.out.few
    have HZY := Lib.hid hzy
    have s5 := hb5.size
    have HY5 := Lib.hid hoy
    have HX5 := Lib.hid ((HX4.out.below hb5).higher s5 (Nat.le_refl _))
    have HR5 := Lib.hid ((HR4.out.below hb5).higher s5 (Nat.le_refl _))
    have HB5 := Lib.hid (HB4.out.trans (hb5.mono (show w.heap.size ≤ _ by omega)))
    have HT5 := Lib.hid (HT4.out.trans (hb5.mono s4))
    have bxa := (HT5.out.cell (p := ⟨Q, 0, none⟩) (show Q < _ by omega)).trans bx0
    have bxb := (HT5.out.cell (p := ⟨Q, 1, none⟩) (show Q < _ by omega)).trans bx1
    have hc5 := (HT5.out.cell (p := ⟨g, 0, none⟩) (show g < _ by omega)).trans hc3
    have HLX := Lib.hid (show rx.length = N by rw [← HXL.out, ← HZX.out, List.length_map])
    have HLY := Lib.hid (show ry.length = M by rw [hM, ← HZY.out, List.length_map])
    have HGX := Lib.hid (show Lnf.GK m0 256 (rx.map Rws.RD.zs) by rw [HZX.out]; exact HG3.out)
    have HGY := Lib.hid (show Lnf.GK m0 (4 * 256) (ry.map Rws.RD.zs) by rw [HZY.out]; exact HE2.out)
    have HKN1 := Lib.hid (fun (V : World) (hV : Below w5.heap.size w5 V) => Kni.impl_know Ax N cx rx V HLX.out (((Sst.at_of HX5.out).below hV).more hV.size) (fun i hi => (Mkn.gk_fits HGX.out i (by rw [HLX.out]; exact hi)).1) (fun i hi => by have := gk_len HGX.out i (by rw [HLX.out]; exact hi); omega) (by omega))
    have HKN2 := Lib.hid (fun (V : World) (hV : Below w5.heap.size w5 V) => Kni.impl_know Ay M cy ry V HLY.out (((Sst.at_of HY5.out).below hV).more hV.size) (fun i hi => (Mkn.gk_fits HGY.out i (by rw [HLY.out]; exact hi)).1) (fun i hi => by have := gk_len HGY.out i (by rw [HLY.out]; exact hi); omega) (by omega))
    rw [HZX.out, HKX.out] at HKN1
    rw [HZY.out, HKY.out] at HKN2
    have hnn : ((N : Int) != (N : Int)) = false := by simp
    have hmn1 : decide ((M : Int) < (N : Int)) = false := decide_eq_false (by omega)
    have hmn2 : decide (M < N) = false := decide_eq_false (by omega)
    clear hzy hoy hb5 hM HCC HE1 HY HXL bx0 bx1 hc3 HT4 HT5 HX4 HR4 HB4 HR3 HB3 HKX HKY
    go_wp2_with fail
    refine (HKN1.out w5 (Below.refl _ _)).mono ?_
    rintro e w6 ⟨rfl, hb6⟩
    have HV6 := Lib.hid hb6
    clear hb6
    go_wp2_with fail
    refine (HKN2.out w6 HV6.out).mono ?_
    rintro e w7 ⟨rfl, hb7⟩
    have HV7 := Lib.hid (HV6.out.trans (hb7.mono HV6.out.size))
    clear hb7 HV6 HKN1 HKN2
    go_wp2
    have hN31 : N ≤ 1048576 := by omega
    have hM31 : M ≤ 1048576 := by omega
    go_loopw [10, 11, 12, 70] (fun _ _ _ i wr => ∃ j : Nat, j ≤ N ∧ i = .int .i64 (j : Int) ∧ Hid (Below w5.heap.size w5 wr)) (fun _ _ _ i _ => N - (intOf i).toNat)
    case atStart => exact ⟨0, Nat.zero_le _, rfl, HV7⟩
    case round =>
      obtain ⟨j, hj, rfl, HV⟩ := hrel
      clear HV7
      have sV := HV.out.size
      by_cases hlt : j < N
      · obtain ⟨b, o, Aj, mj, cj, eA, hbb, hcj, hmj, hij, hfj, hsj, hcpj⟩ := Afm.row_at2 ((Sst.at_of HR5.out).below HV.out) HL.out (fun i hi => (Mkn.gk_fits HG.out i (by rw [HL.out]; exact hi)).1) (fun i hi => by have := gk_len HG.out i (by rw [HL.out]; exact hi); omega) (Afm.caps_of HR5.out) j hlt
        simp only [Option.some.injEq, Addr.mk.injEq, and_true] at eA
        obtain ⟨rfl, rfl⟩ := eA
        rw [Nat.zero_add] at hcj
        have hmm : mj = m0 := hmj.symm.trans (gk_len HG.out j (by rw [HL.out]; exact hlt))
        have hpm : (ls.getD j Rws.rd0).zs ∈ ls.map Rws.RD.zs := by
          have h := HG.out.get (i := j) (by rw [List.length_map, HL.out]; exact hlt)
          rw [map_getD] at h
          exact h
        obtain ⟨f5, f6⟩ := HF4.out _ hpm
        have f7 := HE4.out _ hpm
        have HXM := Lib.hid (show Pf.perfF (ls.getD j Rws.rd0).zs (kd : Int) (k : Int) ∈ rx.map Rws.RD.zs by rw [HZX.out]; exact f5)
        have HYM := Lib.hid (show (ls.getD j Rws.rd0).zs ∈ ry.map Rws.RD.zs by rw [HZY.out]; exact f7)
        have ba8 := (HV.out.cell (p := ⟨Q, 0, none⟩) (World.block_lt_of_cell? w5 _ bxa)).trans bxa
        have bb8 := (HV.out.cell (p := ⟨Q, 1, none⟩) (World.block_lt_of_cell? w5 _ bxb)).trans bxb
        have HLQ := Lib.hid (HG3.out.ok _ f5).2
        clear hpm f5 f7
        generalize (ls.getD j Rws.rd0).zs = p at *
        have CP := Pf.impl_perform Aj mj cj (kd : Int) (k : Int) p wr hmj hcpj (by omega) hfj (hij.more sV)
        rw [f6] at CP
        generalize Pf.perfF p (kd : Int) (k : Int) = q at *
        subst hmm
        have HMJ := Lib.hid hmj
        have HIJ := Lib.hid (hij.more sV)
        clear f6 hij hfj hmj hcpj
        go_wp2_with fail
        refine CP.mono ?_
        rintro e w8 ⟨A5, c5, rfl, hown5, hb8⟩
        have HV8 := Lib.hid (HV.out.trans (hb8.mono sV))
        have HO5 := Lib.hid hown5
        have HI8 := Lib.hid ((HIJ.out.below hb8).more hb8.size)
        clear hown5 hb8 CP HIJ
        rw [HLQ.out] at HO5 ⊢
        have CF1 := Mkn.find_any Ax N cx rx A5 mj c5 q w8 HLX.out hN31 (((Sst.at_of HX5.out).below HV8.out).more HV8.out.size) (fun i hi => by have := gk_len HGX.out i (by rw [HLX.out]; exact hi); omega) HLQ.out (by omega) (ints_of HO5.out)
        rw [decide_eq_true HXM.out] at CF1
        have CF2 := Mkn.find_any Ay M cy ry Aj mj cj p w8 HLY.out hM31 (((Sst.at_of HY5.out).below HV8.out).more HV8.out.size) (fun i hi => by have := gk_len HGY.out i (by rw [HLY.out]; exact hi); omega) HMJ.out (by omega) HI8.out
        rw [decide_eq_true HYM.out] at CF2
        clear HXM HYM HI8 HO5
        go_wp2_with fail
        refine CF1.mono ?_
        rintro e w' ⟨rfl, rfl⟩
        go_wp2_with fail
        refine CF2.mono ?_
        rintro e w' ⟨rfl, rfl⟩
        clear CF1 CF2
        go_wp2
        go_roundw
        case rel => exact ⟨j + 1, by omega, by go_num, HV8⟩
        case measure => simp [intOf]; omega
      · clear hj
        have HZ0 := Lib.hid (gk_len HG.out 0 (by rw [HL.out]; exact hN0))
        have HI5 := Lib.hid (show IntsAt w5 w5.heap.size .i64 A0 (ls.getD 0 Rws.rd0).zs by
          obtain ⟨b, o, eA, hbb, hcc, hii⟩ := Sst.at_of HR5.out 0 (by rw [HL.out]; exact hN0)
          simp only [Option.some.injEq, Addr.mk.injEq, and_true] at eA
          obtain ⟨rfl, rfl⟩ := eA
          rw [hc5] at hcc
          simp only [Rws.RD.v, Option.some.injEq, Value.slice.injEq] at hcc
          rw [hcc.1]
          exact hii)
        have HF0 := Lib.hid (Mkn.gk_fits HG.out 0 (by rw [HL.out]; exact hN0)).1
        have HOWN := Lib.hid (Lnf.see_own HG.out q1 (by omega))
        rw [map_getD] at HOWN
        have HAL := Lib.hid (HV.out.alloc sV (.cells #[] 3))
        have HU0 := Lib.hid (World.ownsRow_lit (base := w5.heap.size) (e := 3) (size := 1) wr #[] 0 sV (Nat.zero_le _) rfl)
        have hcr := (HAL.out.cell (p := ⟨g, 0, none⟩) (World.block_lt_of_cell? w5 _ hc5)).trans hc5
        clear HX5 HY5 HLX HLY HGX HGY HF4 HE4 HZX HZY HG3 HE2
        generalize (ls.getD 0 Rws.rd0).zs = z0 at *
        go_wp2
        go_loopw [13, 14, 15, 100] (fun s13 _ _ i wr => ∃ (j u cu : Nat) (Au : Option Addr), j ≤ m0 ∧ i = .int .i64 (j : Int) ∧ s13 = .slice Au u cu ∧ Hid ((Lnf.upI z0 j).length = u) ∧ Hid (wr.ownsRow w5.heap.size 3 1 (.slice Au u cu) u (vals (Lnf.upI z0 j))) ∧ Hid (Below w5.heap.size w5 wr)) (fun _ _ _ i _ => m0 - (intOf i).toNat)
        case atStart => exact ⟨0, 0, 0, _, Nat.zero_le _, rfl, rfl, Lib.hid rfl, HU0, HAL⟩
        case round =>
          obtain ⟨j, u, cu, Au, hj, rfl, rfl, HUL, HU, HVU⟩ := hrel
          clear HU0 HAL hcr HV
          have sU := HVU.out.size
          have huj : u ≤ j := by rw [← HUL.out]; exact Lnf.up_len z0 j
          by_cases hlt : j < m0
          · obtain ⟨b, o, rfl, hbb, hcz⟩ := HI5.out j (by rw [HZ0.out]; exact hlt)
            have hcu := (HVU.out.cell (p := ⟨b, o + j, none⟩) (show b < _ from hbb)).trans hcz
            obtain ⟨hx1, hx2⟩ := HF0.out j (by rw [HZ0.out]; exact hlt)
            have HNX := Lib.hid (Lnf.up_yes (p := z0) (k := j))
            have HNN := Lib.hid (Lnf.up_no (p := z0) (k := j))
            clear hcz
            generalize z0.getD j 0 = x at *
            have CU := Pk.impl_up x wr hx1 hx2
            cases hup : upB x with
            | true =>
              have HN2 := Lib.hid (HNX.out hup)
              rw [hup] at CU
              clear HNX HNN hup
              go_wp2_with fail
              refine CU.mono ?_
              rintro e w' ⟨rfl, rfl⟩
              clear CU
              go_wp2_with (at_builtin; refine app_one rfl (.tmp 107) (.tmp 109) 28 rfl w5.heap.size 3 i0 (.int .i64 0) 8 Tryz.underlying28 hi hz0 hz1 hz2 (by decide) rfl _ u _ rfl HU.out (.int .i64 (j : Int)) rfl rfl (by omega) sU ?_; intro g6 c6 w6' hown6 hb6)
              have HU6 := Lib.hid (show w6'.ownsRow w5.heap.size 3 1 (.slice (some ⟨g6, 0, none⟩) (u + 1) c6) (u + 1) (vals (Lnf.upI z0 (j + 1))) by rw [HN2.out]; unfold vals; rw [List.map_append]; exact hown6)
              have HL6 := Lib.hid (show (Lnf.upI z0 (j + 1)).length = u + 1 by rw [HN2.out, List.length_append, HUL.out]; rfl)
              have HV6 := Lib.hid (HVU.out.trans hb6)
              clear hown6 hb6 HN2
              go_roundw
              case rel => exact ⟨j + 1, u + 1, c6, _, by omega, by go_num, rfl, HL6, HU6, HV6⟩
              case measure => simp [intOf]; omega
            | false =>
              have HN2 := Lib.hid (HNN.out hup)
              rw [hup] at CU
              have HL6 := Lib.hid (show (Lnf.upI z0 (j + 1)).length = u by rw [HN2.out]; exact HUL.out)
              have HU6 := Lib.hid (show wr.ownsRow w5.heap.size 3 1 (.slice Au u cu) u (vals (Lnf.upI z0 (j + 1))) by rw [HN2.out]; exact HU.out)
              clear HNX HNN hup HN2
              go_wp2_with fail
              refine CU.mono ?_
              rintro e w' ⟨rfl, rfl⟩
              clear CU
              go_wp2
              go_roundw
              case rel => exact ⟨j + 1, u, cu, Au, by omega, by go_num, rfl, HL6, HU6, HVU⟩
              case measure => simp [intOf]; omega
          · have hjm : j = m0 := by omega
            have hcr := (HVU.out.cell (p := ⟨g, 0, none⟩) (World.block_lt_of_cell? w5 _ hc5)).trans hc5
            have CS := Lib.hid (fun (V : World) (hV : Below wr.heap.size wr V) => Knc.impl_sides (some ⟨g, 0, none⟩) N c2 ls Au u cu (Lnf.upI z0 j) V HL.out (((Sst.at_of HR5.out).below (HVU.out.trans (hV.mono sU))).more (Nat.le_trans sU hV.size)) (fun i hi => (Mkn.gk_fits HG.out i (by rw [HL.out]; exact hi)).1) (fun i hi => by have := gk_len HG.out i (by rw [HL.out]; exact hi); omega) (by omega) HUL.out (by omega) (Lnf.up_fits z0 j (by omega)) (((ints_of HU.out).below hV).more hV.size))
            have HOW := Lib.hid (show z0 ∈ seeF (sidesB (Lnf.upI z0 j)) (ls.map Rws.RD.zs) by
              have h := HOWN.out
              rw [HZ0.out, ← hjm] at h
              exact h)
            have HSB := Lib.hid (show ∀ x ∈ seeF (sidesB (Lnf.upI z0 j)) (ls.map Rws.RD.zs), x.length ≤ 1048576 from fun x hx => by
              rw [see_yes (HG.out.know q1 (by omega)), List.mem_filter] at hx
              have := (HG.out.ok x hx.1).2
              omega)
            have hsl : (seeF (sidesB (Lnf.upI z0 j)) (ls.map Rws.RD.zs)).length ≤ N := by
              rw [see_yes (HG.out.know q1 (by omega))]
              have h := List.length_filter_le (sidesB (Lnf.upI z0 j)) (ls.map Rws.RD.zs)
              rw [List.length_map, HL.out] at h
              exact h
            obtain ⟨R, hR⟩ : ∃ R, R = seeF (sidesB (Lnf.upI z0 j)) (ls.map Rws.RD.zs) := ⟨_, rfl⟩
            rw [← hR] at HOW HSB CS hsl
            have HB9 := Lib.hid (HB5.out.trans (HVU.out.mono (show w.heap.size ≤ w5.heap.size from HB5.out.size)))
            have HBV := Lib.hid (show Below wr.heap.size wr wr.drew from (Below.refl _ wr).drew)
            have HSS := Lib.hid (fun (V : World) (hV : Below wr.heap.size wr V) => (hV.cell (p := ⟨g, 0, none⟩) (World.block_lt_of_cell? wr _ hcr)).trans hcr)
            have hSS0 := HSS.out _ HBV.out
            have HIZ := Lib.hid (fun (V : World) (hV : Below wr.heap.size wr V) => (((HI5.out.below HVU.out).more sU).below hV).more hV.size)
            subst hjm
            clear hR HOWN HU HUL HI5 HF0 HVU HB5 bxa bxb hc5 HR5 HG HL hcr
            go_upto_region 23 with fail
            go_region_held3 (fun w' => w'.cell? ⟨g, 0, none⟩ = some (.slice A0 j c0)) ((first | exact hSS0 | exact hSS9)) ((first
              | (go_at_call 13; refine (CS.out _ HBV.out).mono ?_; rintro e w9 ⟨A9, c9, r9, rfl, hz9, ho9, hb9⟩; have HB8 := Lib.hid (HBV.out.trans hb9); have hSS9 := HSS.out _ HB8.out; have HZ9 := Lib.hid hz9; have HO9 := Lib.hid ho9; clear hz9 ho9 hb9)
              | (go_at_call 11; refine (Mkn.find_any A9 R.length c9 r9 A0 j c0 z0 w9 HO9.out.len ?_ (Sst.at_of HO9.out) ?_ HZ0.out ?_ (HIZ.out _ HB8.out)).mono ?_; (omega); (intro i _; exact Sip.len_of 1048576 (by rw [HZ9.out]; exact HSB.out) i); (omega); rintro e w10 ⟨rfl, rfl⟩; rw [HZ9.out, decide_eq_true HOW.out])))
            all_goals (go_wp2; go_ret; exact ⟨rfl, HB9.out.trans (HB8.out.mono HB9.out.size)⟩)
  · have h1' : (1048576 : Int) < (n : Int) := by omega
    go_enter Tryz.func3, Tryz.ntmps3
    go_wp2
    go_ret
    exact ⟨rfl, Below.refl _ w⟩

set_option maxRecDepth 100000 in
theorem lifted (os : Os) (started : os.Started) (H : Type) (enc : TypeId × Value → H) :
    ReturnsInHanded {} Tryz.checked os 3 .any (Rows.fnLearnsSpec.pre6 enc Tryz.prog Tryz.f3 Rows.fnLearnsRow.domain false) (Rows.fnLearnsSpec.post enc Tryz.prog Tryz.f3 false true false false) := by
  refine returnsInHanded_of_change (C := Tryz.checked) Fr.own started (by kernel_rfl) Tryz.func3
    (ChangeSpec.witness6 (enc := enc) (C := Tryz.checked) false ⟨#[], #[.slice none 0 0], []⟩ 8 (by kernel_rfl) (by kernel_rfl) (by kernel_rfl) (by kernel_rfl)) ?_
  intro W base args ds gs before hval0 hW hcnd _
  have hval : ∀ (j : Nat) t v, Tryz.f3.params[j]? = some t → args[j]? = some v → Value.okWide Tryz.prog W .any base t v := hval0
  have hW' := hW
  obtain ⟨p, q, hA0, hV, rfl, hfz, hnd⟩ := hW
  have hA : DataW.TrodAll enc Tryz.prog W 0 (fun _ => true) true Tryz.f3.params.toList args.toList ds p := hA0
  have hAk := hA
  rw [Tryz.params3] at hA hval
  obtain ⟨v0, d0, rfl, rfl, h0⟩ := trodAll_one hA
  obtain ⟨rfl, rfl⟩ := trodVars_none hV
  have hlt : ∀ x ∈ p, x.block < W.heap.size := fun x hx => by simpa using hW'.lt x (List.mem_append_left _ hx)
  obtain ⟨A0, n0, c0, l0, rfl, hn0, hm0, hs0, ha0⟩ := Fr.view_nums Tryz.underlying22 Tryz.underlying5 (by kernel_rfl) (hval 0 22 v0 rfl rfl) h0 hlt
  clear hA0 hval0
  refine (walk A0 n0 c0 l0 W hn0 hm0 hs0 ha0).mono fun e W' ⟨he, hb⟩ => ?_
  subst he
  exact ⟨_, rfl, _, _, _, [], p, [], hW', trodAll_mk1 (shut_bool Tryz.underlying4 _), Fr.below_all Fr.laidOut hb _ _ _ _ (Fr.readB_all (by kernel_rfl)) hAk hlt, rfl, hb.frame _, fun h => by cases h⟩

theorem proved : Rows.FnLearnsSaid :=
  OpenClaim.holds_of_wide 3 Tryz.f3 rfl rfl rfl rfl rfl rfl rfl ⟨rfl, rfl, rfl, rfl, rfl⟩ rfl rfl rfl rfl rfl (by kernel_rfl) Tryz.func3 (by kernel_rfl)
    (of_decide_eq_true (by kernel_rfl)) (by unfold Func.isWrapper; first | (rw [if_pos (by decide +kernel)]; kernel_rfl) | (rw [if_neg (by decide +kernel)]; exact ⟨rfl, rfl⟩))
    (fun os started H enc _ => lifted os started H enc)

end Go.Proofs.YthcggkhpamjjbaaGreat.LawLearns
