/- CodeOk of the program. -/
import Derived.Test.YtefgcnjbiaileaaHce
import Derived.Deep.RegionHeld3
set_option linter.unusedVariables false
set_option maxRecDepth 20000
namespace Go.Proofs.Ytefgcnjbiaileaa.Hcf
open Go.RowKit Fr _root_.Go.Proofs.Ytefgcnjbiaileaa.Own Pk Ins Pok Rws Sam Srt Sst Sip Hnd Fnd Hix Hco Hcp Him Wit Hce

theorem ll_of_ss {W : World} {lo hi n c : Nat} {A : Option Addr} {rs : List RD} (h : SSRow W lo hi A n c rs) : LL W A rs := fun j hj => by
  have hl := h.len
  obtain ⟨g, rfl, hc⟩ := h.cell j (by omega)
  exact ⟨g, 0, rfl, by rw [Nat.zero_add]; exact hc, (h.2.1 j hj).at_⟩
theorem ss_of_ll {W : World} {A : Option Addr} {rs : List RD} (h : LL W A rs) : SSAt W W.heap.size A rs := fun j hj => by
  obtain ⟨b, o, e, hc, hi⟩ := h j hj
  exact ⟨b, o, e, World.block_lt_of_cell? W _ hc, hc, hi⟩
theorem row_small {D : Int} {k : Nat} {rr : List RD} (h : rr.map RD.zs = handsI D (k : Int)) (i : Nat) : (rr.getD i rd0).zs.length ≤ 1048576 := by
  by_cases hi : i < rr.length
  · rw [← zs_get rr hi, h]
    have := hands_row D k i
    omega
  · rw [List.getD_eq_getElem?_getD, List.getElem?_eq_none (by omega)]
    exact Nat.zero_le _
theorem hands_in (D : Int) (k j : Nat) : ∀ x ∈ (handsI D (k : Int)).getD j [], 0 ≤ x ∧ x < 12 := by
  intro x hx
  by_cases hj : j < (handsI D (k : Int)).length
  · rw [List.getD_eq_getElem?_getD, List.getElem?_eq_getElem hj, Option.getD_some] at hx
    have hm := List.getElem_mem hj
    generalize (handsI D (k : Int))[j] = q at hm hx
    unfold handsI at hm
    split at hm
    · rename_i h
      rw [← (chk_h (n := D.toNat) (k := (k : Int).toNat) (by omega) (by omega)).1] at hm
      have := (chk_h (n := D.toNat) (k := (k : Int).toNat) (by omega) (by omega)).2 _ hm x hx
      omega
    · cases hm
  · rw [List.getD_eq_getElem?_getD, List.getElem?_eq_none (by omega)] at hx
    cases hx
theorem hands_ln (D : Int) (k j : Nat) (hj : j < (handsI D (k : Int)).length) : ((handsI D (k : Int)).getD j []).length = k := by
  rw [List.getD_eq_getElem?_getD, List.getElem?_eq_getElem hj, Option.getD_some]
  have hm := List.getElem_mem hj
  generalize (handsI D (k : Int))[j] = q at hm
  unfold handsI at hm
  split at hm
  · exact hands_each _ _ _ q hm
  · cases hm
theorem co_all {Q Ss : List (List Int)} {n : Nat} (h : ∀ i, i < n → shownB (Q.getD i []) (Ss.getD i []) = true) (hn : Ss.length = n) : coTo Q Q Ss n = decide ((cano Ss).length = n) := by
  have e : (cano Ss).length = n ↔ ∀ i, i < n → Ss.getD i [] ∉ Ss.take i := by rw [← hn, len_nodup, nodup_take]
  rw [Bool.eq_iff_iff, decide_eq_true_iff, e]
  unfold coTo
  rw [List.all_eq_true]
  constructor
  · intro hall i hi hm
    have := hall i (List.mem_range.2 hi)
    rw [decide_eq_true hm] at this
    simp at this
  · intro hall i hi
    have hi := List.mem_range.1 hi
    rw [h i hi, decide_eq_false (hall i hi), decide_eq_true rfl]
    rfl
theorem ret_bb {a b : Bool} (h : b = a) : Ending.returned (.bool a) = .returned (.bool b) := by rw [h]
theorem int_beq (a b : Nat) : decide (a = b) = (((a : Nat) : Int) == ((b : Nat) : Int)) := by
  rw [Bool.eq_iff_iff, decide_eq_true_iff, beq_iff_eq]
  omega
set_option maxHeartbeats 1000000 in
theorem icode_early (D : Int) (A : Option Addr) (n c : Nat) (A2 : Option Addr) (m c2 : Nat) (w : World) (h : n = 0 ∨ m ≠ n) :
    Calls Try.prog 10 #[coV D A n c A2 m c2] w fun e w' => e = .returned (.bool false) ∧ Below w.heap.size w w' := by
  obtain ⟨W, hW, ba, bb, bc, hb0, hs0⟩ := box3 w (.int .i64 D) (.slice A n c) (.slice A2 m c2)
  have HB0 := Lib.hid hb0
  clear hb0
  unfold coV
  by_cases hn : n = 0
  · have h20b : (((n : Nat) : Int) == 0) = true := by rw [beq_iff_eq]; omega
    clear h hn
    go_enter Try.func10, Try.ntmps10
    go_wp2
    rw [← hW]
    clear hW
    go_wp2
    go_ret
    exact ⟨rfl, HB0.out⟩
  · have h20b : (((n : Nat) : Int) == 0) = false := beq_eq_false_iff_ne.2 (by omega)
    have h21b : (((m : Nat) : Int) != ((n : Nat) : Int)) = true := by rw [bne_iff_ne]; omega
    clear h hn
    go_enter Try.func10, Try.ntmps10
    go_wp2
    rw [← hW]
    clear hW
    go_wp2
    go_ret
    exact ⟨rfl, HB0.out⟩
set_option maxHeartbeats 2000000 in
theorem icode_wide (D : Int) (b o : Nat) (n c : Nat) (A2 A0 : Option Addr) (c2 k c0 : Nat) (w : World) (h2 : 1 ≤ n) (hc : w.cell? ⟨b, o, none⟩ = some (.slice A0 k c0)) (hk : ¬ (1 ≤ (k : Int) ∧ (k : Int) ≤ 4)) :
    Calls Try.prog 10 #[coV D (some ⟨b, o, none⟩) n c A2 n c2] w fun e w' => e = .returned (.bool false) ∧ Below w.heap.size w w' := by
  obtain ⟨W, hW, ba, bb, bc, hb0, hs0⟩ := box3 w (.int .i64 D) (.slice (some ⟨b, o, none⟩) n c) (.slice A2 n c2)
  have HB0 := Lib.hid hb0
  have hbl := World.block_lt_of_cell? w _ hc
  have hcW := (hb0.cell (p := ⟨b, o, none⟩) hbl).trans hc
  have h20b : (((n : Nat) : Int) == 0) = false := beq_eq_false_iff_ne.2 (by omega)
  have hn0 : 0 < n := by omega
  have C1 := fun w => Lib.hid ((is_hand (k : Int) w).mono fun e w' h => (⟨by rw [h.1, decide_eq_false hk], h.2.symm⟩ : e = .returned (.bool false) ∧ w' = w))
  clear hb0 hc hbl hk
  unfold coV
  go_enter Try.func10, Try.ntmps10
  go_upto_region 1 with fail
  rw [← hW]
  clear hW
  go_wp2_with fail
  go_quiet ((go_at_call 18; with_reducible exact Calls.quiet_of_same (C1 _).out))
  go_wp2
  go_ret
  exact ⟨rfl, below_drewN HB0.out _⟩
set_option maxHeartbeats 4000000 in
theorem icode_main (D : Int) (b o n c : Nat) (A2 : Option Addr) (c2 k : Nat) (ls ss : List RD) (w : World) (hD1 : -9223372036854775808 ≤ D) (hD2 : D ≤ 9223372036854775807) (h2 : 1 ≤ n) (hn : ls.length = n) (hm : ss.length = n) (hat : LL w (some ⟨b, o, none⟩) ls) (hat2 : LL w A2 ss)
    (hz : ∀ i, i < n → (ls.getD i rd0).zs.length ≤ 1048576) (hz2 : ∀ i, i < n → (ss.getD i rd0).zs.length ≤ 1048576 ∧ Fits (ss.getD i rd0).zs) (hn2 : n ≤ 1048576) (hk : (ls.getD 0 rd0).zs.length = k) (hk1 : 1 ≤ (k : Int) ∧ (k : Int) ≤ 4) :
    Calls Try.prog 10 #[coV D (some ⟨b, o, none⟩) n c A2 n c2] w fun e w' => e = .returned (.bool (decide (ls.map RD.zs = handsI D k) && coTo (handsI D k) (handsI D k) (ss.map RD.zs) n)) ∧ Below w.heap.size w w' := by
  obtain ⟨W, hW, ba, bb, bc, hb0, hs0⟩ := box3 w (.int .i64 D) (.slice (some ⟨b, o, none⟩) n c) (.slice A2 n c2)
  have HB0 := Lib.hid hb0
  have HA1 := Lib.hid (ll_below hat hb0)
  have HA2 := Lib.hid (ll_below hat2 hb0)
  have HZ := Lib.hid hz
  have HZ2 := Lib.hid hz2
  have HN := Lib.hid hn
  have HM := Lib.hid hm
  obtain ⟨b', o', e0, hc0, _⟩ := hat 0 (by omega)
  simp only [Option.some.injEq, Addr.mk.injEq, and_true] at e0
  obtain ⟨rfl, rfl⟩ := e0
  have hbl := World.block_lt_of_cell? w _ hc0
  simp only [RD.v, Nat.add_zero] at hc0
  rw [hk] at hc0
  have hcW := (hb0.cell (p := ⟨b, o, none⟩) hbl).trans hc0
  have h20b : (((n : Nat) : Int) == 0) = false := beq_eq_false_iff_ne.2 (by omega)
  have hn0 : 0 < n := by omega
  have hbW : b < W.heap.size := by have := hb0.size; simp only at hbl; omega
  generalize (ls.getD 0 rd0).A = A0 at hcW
  generalize (ls.getD 0 rd0).c = c0 at hcW
  have C1 := fun w => Lib.hid ((is_hand (k : Int) w).mono fun e w' h => (⟨by rw [h.1, decide_eq_true hk1], h.2.symm⟩ : e = .returned (.bool true) ∧ w' = w))
  have HC := fun w => Lib.hid (impl_handsof D (k : Int) w hD1 hD2 (by omega) (by omega))
  obtain ⟨R, hR⟩ : ∃ R, R = (decide (ls.map RD.zs = handsI D k) && coTo (handsI D k) (handsI D k) (ss.map RD.zs) n) := ⟨_, rfl⟩
  rw [← hR]
  have HR := Lib.hid hR
  clear hb0 hat hat2 hz hz2 hn hm hc0 hbl hk hR
  unfold coV
  go_enter Try.func10, Try.ntmps10
  go_upto_region 1 with fail
  rw [← hW]
  clear hW
  go_wp2_with fail
  by_cases hQ : ls.map RD.zs = handsI D (k : Int)
  · have HQ := Lib.hid hQ
    go_region_held3 (fun w' => w'.cell? ⟨w.heap.size, 0, none⟩ = some (.int .i64 D) ∧ w'.cell? ⟨w.heap.size, 1, none⟩ = some (.slice (some ⟨b, o, none⟩) n c)) ((first | exact ⟨ba, bb⟩)) ((first | (go_at_call 18; refine (C1 _).out.mono ?_; rintro e w4 ⟨rfl, rfl⟩) | (go_at_call 8; refine (HC _).out.mono ?_; rintro e w5 ⟨A5, c5, rr, rfl, hrr, hrow, hb⟩; replace ba := (hb.cell (p := ⟨w.heap.size, 0, none⟩) hs0).trans ba; replace bb := (hb.cell (p := ⟨w.heap.size, 1, none⟩) hs0).trans bb; replace bc := (hb.cell (p := ⟨w.heap.size, 2, none⟩) hs0).trans bc; have HE := Lib.hid (equal_ss (some ⟨b, o, none⟩) A5 n (handsI D (k : Int)).length c c5 ls rr w5 HN.out hrow.len hn2 (ll_below (show LL W.drew (some ⟨b, o, none⟩) ls from HA1.out) hb) (ll_of_ss hrow) HZ.out (fun i hi => row_small hrr i)); rw [hrr, decide_eq_true hQ] at HE; have HB5 := Lib.hid hb; clear hrow hrr hb) | (go_at_call 24; refine HE.out.mono ?_; rintro e w6 ⟨rfl, q6, rfl⟩)))
    all_goals
      clear hQ
      obtain ⟨V, hV⟩ : ∃ V, V = w5.drewN q6 := ⟨_, rfl⟩
      rw [← hV]
      have hbW5 : Below W.heap.size W V := by rw [hV]; exact below_drewN ((Below.refl _ W).drew.trans HB5.out) _
      have hsV := hbW5.size
      replace bb : V.cell? ⟨w.heap.size, 1, none⟩ = some (.slice (some ⟨b, o, none⟩) n c) := by rw [hV]; exact cell_drewN bb _
      replace bc : V.cell? ⟨w.heap.size, 2, none⟩ = some (.slice A2 n c2) := by rw [hV]; exact cell_drewN bc _
      have hsz : w.heap.size < V.heap.size := by omega
      have HBV := Lib.hid (HB0.out.trans (hbW5.mono HB0.out.size))
      have HAV := Lib.hid (ll_below HA1.out hbW5)
      have HSV := Lib.hid (ll_below HA2.out hbW5)
      have HR2 := Lib.hid (show R = coTo (handsI D (k : Int)) (handsI D (k : Int)) (ss.map RD.zs) n by rw [HR.out, decide_eq_true HQ.out]; rfl)
      have HIN := Lib.hid (hands_in D k)
      have HLN := Lib.hid (hands_ln D k)
      have HQL := Lib.hid (show (handsI D (k : Int)).length = n by rw [← HQ.out, List.length_map, HN.out])
      clear hV hbW5 hsV ba HB0 HB5 HA1 HA2 HE HC C1 HR
      go_wp2
      go_loopw [4, 5, 40] (fun _ _ i wr => ∃ j : Nat, j ≤ n ∧ i = .int .i64 (j : Int) ∧ Hid (Below V.heap.size V wr) ∧ Hid (∀ i, i < j → shownB ((handsI D (k : Int)).getD i []) ((ss.map RD.zs).getD i []) = true)) (fun _ _ i _ => n - (intOf i).toNat)
      case atStart => exact ⟨0, Nat.zero_le _, rfl, Below.refl _ _, fun i hi => absurd hi (Nat.not_lt_zero _)⟩
      case round =>
        obtain ⟨j, hj, rfl, HB, HF⟩ := hrel
        by_cases hlt : j < n
        · obtain ⟨b1, o1, e1, hcl, hil⟩ := HAV.out j (by rw [HN.out]; exact hlt)
          obtain ⟨b2, o2, rfl, hcs, his⟩ := HSV.out j (by rw [HM.out]; exact hlt)
          simp only [Option.some.injEq, Addr.mk.injEq, and_true] at e1
          obtain ⟨rfl, rfl⟩ := e1
          have hz1 := HZ.out j hlt
          obtain ⟨hz2, hz3⟩ := HZ2.out j hlt
          have hQj : (handsI D (k : Int)).getD j [] = (ls.getD j rd0).zs := by rw [← HQ.out]; exact zs_get ls (by rw [HN.out]; exact hlt)
          have hin := HIN.out j
          have hln := HLN.out j (by rw [HQL.out]; exact hlt)
          rw [hQj] at hin hln
          have HBAD := Lib.hid (show shownB (ls.getD j rd0).zs (ss.getD j rd0).zs = false → R = false from fun h => by
            rw [HR2.out]
            refine co_more (k := j + 1) (by omega) ?_
            rw [co_next, hQj, zs_get ss (by rw [HM.out]; exact hlt), h, Bool.false_and, Bool.and_false, Bool.and_false])
          have HGOOD := Lib.hid (show shownB (ls.getD j rd0).zs (ss.getD j rd0).zs = true → ∀ i, i < j + 1 → shownB ((handsI D (k : Int)).getD i []) ((ss.map RD.zs).getD i []) = true from fun h i hi => by
            by_cases e : i = j
            · rw [e, hQj, zs_get ss (by rw [HM.out]; exact hlt)]
              exact h
            · exact HF.out i (by omega))
          have hb := HB.out
          replace hcl := (hb.cell (World.block_lt_of_cell? V _ hcl)).trans hcl
          replace hcs := (hb.cell (World.block_lt_of_cell? V _ hcs)).trans hcs
          have bb5 := (hb.cell (World.block_lt_of_cell? V _ bb)).trans bb
          have hil5 := (hil.below hb).more hb.size
          have his5 := (his.below hb).more hb.size
          clear hb hil his hQj
          simp only [RD.v] at hcl hcs
          generalize ls.getD j rd0 = rl at *
          generalize ss.getD j rd0 = rs at *
          obtain ⟨Al, dl, zl⟩ := rl
          obtain ⟨As, ds, zs⟩ := rs
          simp only at hcl hcs hil5 his5 hz1 hz2 hz3 hin hln HBAD HGOOD
          have HIL := Lib.hid hil5
          have HIS := Lib.hid his5
          have HFZ := Lib.hid hz3
          obtain ⟨ns1, hns⟩ : ∃ m, m = zs.length := ⟨_, rfl⟩
          rw [← hns] at hcs hz2
          rw [hln] at hcl
          have HNS := Lib.hid hns.symm
          have HLZ := Lib.hid hln
          have HIZ := Lib.hid hin
          clear hil5 his5 hz3 hns hln hin hz1
          have hw64 : IntKind.i64.wrap ((k : Int) - 1) = (k : Int) - 1 := IntWalk.i64_in _ (by omega)
          by_cases hl : ns1 + 1 = k
          · have hne : (((ns1 : Nat) : Int) != ((k : Nat) : Int) - 1) = false := by
              rw [bne_eq_false_iff_eq]; omega
            have HSH := Lib.hid (show shownB zl zs = (okB zs && decide (withF zs zl = [])) by
              unfold shownB
              rw [HNS.out, HLZ.out, decide_eq_true hl, sh_ok HIZ.out (by rw [HNS.out]; omega), HNS.out]
              rfl)
            go_wp2_with fail
            refine (impl_ok As ns1 ds zs _ HNS.out (by omega) HFZ.out HIS.out).mono ?_
            rintro e w1 ⟨rfl, hb1⟩
            cases hok : okB zs with
            | false =>
              have HT := Lib.hid (HBAD.out (by rw [HSH.out, hok]; rfl))
              have HBW := Lib.hid (HBV.out.trans ((HB.out.trans (hb1.mono HB.out.size)).mono HBV.out.size))
              clear hok hb1
              go_wp2
              go_ret
              exact ⟨by rw [HT.out]; rfl, HBW.out⟩
            | true =>
              have bb6 := (hb1.cell (World.block_lt_of_cell? _ _ bb5)).trans bb5
              have hcl6 := (hb1.cell (World.block_lt_of_cell? _ _ hcl)).trans hcl
              have HC2 := Lib.hid (without_any As ns1 ds zs Al k dl zl w1 HNS.out (by omega) ((HIS.out.below hb1).more hb1.size) HLZ.out (by omega) ((HIL.out.below hb1).more hb1.size))
              have HBW1 := Lib.hid (HB.out.trans (hb1.mono HB.out.size))
              have HOK := Lib.hid hok
              clear hok hb1 bb5 hcl
              go_wp2_with fail
              refine HC2.out.mono ?_
              rintro e w2 ⟨A3, c3, rfl, _, hb2⟩
              have HBW2 := Lib.hid (HBW1.out.trans (hb2.mono HBW1.out.size))
              by_cases hwi : withF zs zl = []
              · have HT := Lib.hid (HGOOD.out (by rw [HSH.out, HOK.out, decide_eq_true hwi]; rfl))
                have hl0 : (withF zs zl).length = 0 := by rw [hwi]; rfl
                rw [hl0]
                clear hwi hl0 hb2
                go_wp2
                go_roundw
                case rel => exact ⟨j + 1, by omega, by go_num, HBW2, HT⟩
                case measure => simp [intOf]; omega
              · have HT := Lib.hid (HBAD.out (by rw [HSH.out, HOK.out, decide_eq_false hwi]; rfl))
                have HBW := Lib.hid (HBV.out.trans (HBW2.out.mono HBV.out.size))
                obtain ⟨L, hL⟩ : ∃ L, L = (withF zs zl).length := ⟨_, rfl⟩
                have hL0 : 0 < L := by rw [hL]; exact List.length_pos_iff.2 hwi
                rw [← hL]
                clear hwi hL hb2
                go_wp2
                go_ret
                exact ⟨by rw [HT.out]; rfl, HBW.out⟩
          · have hne : (((ns1 : Nat) : Int) != ((k : Nat) : Int) - 1) = true := by
              rw [bne_iff_ne]; omega
            have HT := Lib.hid (HBAD.out (by
              unfold shownB
              rw [HNS.out, HLZ.out, decide_eq_false hl, Bool.false_and]))
            have HBW := Lib.hid (HBV.out.trans (HB.out.mono HBV.out.size))
            clear hl
            go_wp2
            go_ret
            exact ⟨by rw [HT.out]; rfl, HBW.out⟩
        · have hjn : j = n := by omega
          subst hjn
          have HT := Lib.hid (HR2.out.trans (co_all HF.out (by rw [List.length_map, HM.out])))
          have bc5 := (HB.out.cell (World.block_lt_of_cell? V _ bc)).trans bc
          have HSO := fun W' (h : Below wr.heap.size wr W') => Lib.hid (isort_any A2 j c2 ss W' HM.out (ss_of_ll (ll_below (ll_below HSV.out HB.out) h)) (fun i hi => (HZ2.out i hi).1) hn2)
          have HBW := Lib.hid (HBV.out.trans (HB.out.mono HBV.out.size))
          have hsw : w.heap.size < wr.heap.size := by have := HB.out.size; omega
          obtain ⟨C, hC⟩ : ∃ C, C = cano (ss.map RD.zs) := ⟨_, rfl⟩
          rw [← hC] at HT HSO
          clear hC HF
          go_wp2_with fail
          go_region_held3 (fun w' => w'.cell? ⟨w.heap.size, 2, none⟩ = some (.slice A2 j c2)) ((first | exact bc5)) ((first | (go_at_call 28; refine (HSO _ (Below.refl _ wr).drew).out.mono ?_; rintro e w7 ⟨A7, c7, r7, rfl, hr7, hrow7, hb7⟩; replace bc5 := (hb7.cell (p := ⟨w.heap.size, 2, none⟩) hsw).trans bc5; have HB7 := Lib.hid (HBW.out.drew.trans (hb7.mono HBW.out.size)); clear hrow7 hr7 hb7)))
          all_goals
            go_wp2
            go_ret
            exact ⟨ret_bb (by rw [HT.out]; exact int_beq _ _), HB7.out⟩
  · have HT := Lib.hid (show R = false by rw [HR.out, decide_eq_false hQ]; rfl)
    go_region_held3 (fun w' => w'.cell? ⟨w.heap.size, 0, none⟩ = some (.int .i64 D) ∧ w'.cell? ⟨w.heap.size, 1, none⟩ = some (.slice (some ⟨b, o, none⟩) n c)) ((first | exact ⟨ba, bb⟩)) ((first | (go_at_call 18; refine (C1 _).out.mono ?_; rintro e w4 ⟨rfl, rfl⟩) | (go_at_call 8; refine (HC _).out.mono ?_; rintro e w5 ⟨A5, c5, rr, rfl, hrr, hrow, hb⟩; replace ba := (hb.cell (p := ⟨w.heap.size, 0, none⟩) hs0).trans ba; replace bb := (hb.cell (p := ⟨w.heap.size, 1, none⟩) hs0).trans bb; replace bc := (hb.cell (p := ⟨w.heap.size, 2, none⟩) hs0).trans bc; have HE := Lib.hid (equal_ss (some ⟨b, o, none⟩) A5 n (handsI D (k : Int)).length c c5 ls rr w5 HN.out hrow.len hn2 (ll_below (show LL W.drew (some ⟨b, o, none⟩) ls from HA1.out) hb) (ll_of_ss hrow) HZ.out (fun i hi => row_small hrr i)); rw [hrr, decide_eq_false hQ] at HE; have HB5 := Lib.hid hb; clear hrow hrr hb) | (go_at_call 24; refine HE.out.mono ?_; rintro e w6 ⟨rfl, q6, rfl⟩)))
    all_goals
      have HBW := Lib.hid (HB0.out.trans ((below_drewN ((Below.refl _ W).drew.trans HB5.out) q6).mono HB0.out.size))
      clear hQ
      go_wp2
      go_ret
      exact ⟨by rw [HT.out]; rfl, HBW.out⟩
theorem code_eq {D : Int} {Hs Ss : List (List Int)} {n k : Nat} (h1 : 1 ≤ n) (hH : Hs.length = n) (hS : Ss.length = n) (hk : (Hs.getD 0 []).length = k) (hk1 : 1 ≤ (k : Int) ∧ (k : Int) ≤ 4) :
    codeB D Hs Ss = (decide (Hs = handsI D k) && coTo (handsI D k) (handsI D k) Ss n) := by
  unfold codeB
  rw [hk, hH, hS, decide_eq_true h1, decide_eq_true rfl]
  by_cases hQ : Hs = handsI D k
  · have hne : 0 < (handsI D (k : Int)).length := by rw [← hQ, hH]; omega
    have hr : 1 ≤ D ∧ D ≤ 8 ∧ 1 ≤ (k : Int) ∧ (k : Int) ≤ D := by
      unfold handsI at hne
      split at hne
      · assumption
      · exact absurd hne (Nat.lt_irrefl _)
    rw [decide_eq_true hQ, decide_eq_true (show 1 ≤ D ∧ D ≤ 8 from ⟨hr.1, hr.2.1⟩), decide_eq_true (show 1 ≤ (k : Int) ∧ (k : Int) ≤ D ∧ (k : Int) ≤ 4 from ⟨hr.2.2.1, hr.2.2.2, hk1.2⟩), ← hQ, hH, decide_eq_true rfl]
    rfl
  · rw [decide_eq_false hQ, Bool.false_and]
    by_cases hl : (handsI D (k : Int)).length = n
    · have hc : coTo (handsI D (k : Int)) Hs Ss n = false := by
        rw [Bool.eq_false_iff]
        intro hall
        apply hQ
        unfold coTo at hall
        rw [List.all_eq_true] at hall
        refine same_at (by rw [hH, hl]) (j := n) (fun i hi => ?_) hH.symm
        have := hall i (List.mem_range.2 hi)
        rw [Bool.and_eq_true] at this
        exact (of_decide_eq_true this.1).symm
      rw [hc, Bool.and_false, Bool.and_false]
      simp
    · rw [decide_eq_false hl, Bool.false_and, Bool.and_false]
      simp
/-- CodeOk of the program -/
theorem impl_code (D : Int) (A : Option Addr) (n c : Nat) (A2 : Option Addr) (m c2 : Nat) (ls ss : List RD) (w : World) (hD1 : -9223372036854775808 ≤ D) (hD2 : D ≤ 9223372036854775807) (hn : ls.length = n) (hm : ss.length = m) (hat : LL w A ls) (hat2 : LL w A2 ss)
    (hz : ∀ i, i < n → (ls.getD i rd0).zs.length ≤ 1048576) (hz2 : ∀ i, i < m → (ss.getD i rd0).zs.length ≤ 1048576 ∧ Fits (ss.getD i rd0).zs) (hn2 : n ≤ 1048576) :
    Calls Try.prog 10 #[coV D A n c A2 m c2] w fun e w' => e = .returned (.bool (codeB D (ls.map RD.zs) (ss.map RD.zs))) ∧ Below w.heap.size w w' := by
  by_cases h0 : n = 0 ∨ m ≠ n
  · have e : codeB D (ls.map RD.zs) (ss.map RD.zs) = false := by
      unfold codeB
      rw [List.length_map, List.length_map, hn, hm]
      rcases h0 with h0 | h0
      · rw [decide_eq_false (show ¬ 1 ≤ n by omega), Bool.false_and, Bool.and_false]
      · rw [decide_eq_false h0, Bool.false_and, Bool.and_false, Bool.and_false]
    rw [e]
    exact icode_early D A n c A2 m c2 w h0
  · have h1 : 1 ≤ n := by omega
    have h3 : m = n := Decidable.byContradiction fun h => h0 (Or.inr h)
    subst h3
    obtain ⟨b, o, rfl, hc⟩ := ll_first hat hn h1
    have hk : ((ls.map RD.zs).getD 0 []).length = (ls.getD 0 rd0).zs.length := by rw [zs_get ls (by omega)]
    by_cases h4 : 1 ≤ ((ls.getD 0 rd0).zs.length : Int) ∧ ((ls.getD 0 rd0).zs.length : Int) ≤ 4
    · rw [code_eq (n := m) h1 (by rw [List.length_map, hn]) (by rw [List.length_map, hm]) hk h4]
      exact icode_main D b o m c A2 c2 _ ls ss w hD1 hD2 h1 hn hm hat hat2 hz hz2 hn2 rfl h4
    · have e : codeB D (ls.map RD.zs) (ss.map RD.zs) = false := by
        unfold codeB
        rw [hk, decide_eq_false (show ¬ (1 ≤ ((ls.getD 0 rd0).zs.length : Int) ∧ ((ls.getD 0 rd0).zs.length : Int) ≤ D ∧ ((ls.getD 0 rd0).zs.length : Int) ≤ 4) from fun h => h4 ⟨h.1, h.2.2⟩), Bool.false_and, Bool.and_false, Bool.and_false, Bool.and_false]
      rw [e]
      exact icode_wide D b o m c A2 _ c2 _ _ w h1 hc h4
end Go.Proofs.Ytefgcnjbiaileaa.Hcf
