/- CodeOk of the model, the later cases. -/
import Derived.Test.YtingbpkbdafgeaaHco
set_option linter.unusedVariables false
set_option maxRecDepth 20000
namespace Go.Proofs.Ytingbpkbdafgeaa.Hcp
open Go.RowKit Fr _root_.Go.Proofs.Ytingbpkbdafgeaa.Own Pk Ins Rws Sam Hnd Hno Fnd Hix Hco

set_option maxHeartbeats 4000000 in
theorem code_uneven (D : Int) (A : Option Addr) (n c : Nat) (A2 : Option Addr) (m c2 : Nat) (w : World) (h1 : 1 ≤ D ∧ D ≤ 8) (h2 : 1 ≤ n) (h3 : m ≠ n) :
    Calls Try.prog 29 #[coV D A n c A2 m c2] w fun e w' => e = .returned (.bool false) ∧ Below w.heap.size w w' := by
  obtain ⟨W, hW, ba, bb, bc, hb0, hs0⟩ := box3 w (.int .i64 D) (.slice A n c) (.slice A2 m c2)
  have HB0 := Lib.hid hb0
  have h20b : (((n : Nat) : Int) == 0) = false := beq_eq_false_iff_ne.2 (by omega)
  have h21 : (((m : Nat) : Int) == ((n : Nat) : Int)) = false := beq_eq_false_iff_ne.2 (by omega)
  have h21b : (((m : Nat) : Int) != ((n : Nat) : Int)) = true := by rw [bne_iff_ne]; omega
  clear h2 h3
  have C1 := fun w => Lib.hid (in_yes D 1 8 h1 w)
  clear hb0
  unfold coV
  go_enter Try.func29, Try.ntmps29
  go_wp2
  rw [← hW]
  clear hW
  go_quiet ((go_at_call 59; exact Calls.quiet_of_same (C1 _).out))
  go_wp2
  go_ret
  exact ⟨rfl, below_drewN HB0.out _⟩
theorem ll_first {w : World} {A : Option Addr} {ls : List RD} {n : Nat} (h : LL w A ls) (hn : ls.length = n) (h1 : 1 ≤ n) : ∃ b o, A = some ⟨b, o, none⟩ ∧ w.cell? ⟨b, o, none⟩ = some (.slice (ls.getD 0 rd0).A (ls.getD 0 rd0).zs.length (ls.getD 0 rd0).c) := by
  obtain ⟨b, o, e, hc, _⟩ := h 0 (by omega)
  exact ⟨b, o, e, hc⟩
set_option maxHeartbeats 4000000 in
theorem code_wide (D : Int) (b o : Nat) (n c : Nat) (A2 A0 : Option Addr) (c2 k c0 : Nat) (w : World) (h1 : 1 ≤ D ∧ D ≤ 8) (h2 : 1 ≤ n) (hc : w.cell? ⟨b, o, none⟩ = some (.slice A0 k c0)) (hk : ¬ (1 ≤ (k : Int) ∧ (k : Int) ≤ D ∧ (k : Int) ≤ 4)) (hk2 : k ≤ 1048576) :
    Calls Try.prog 29 #[coV D (some ⟨b, o, none⟩) n c A2 n c2] w fun e w' => e = .returned (.bool false) ∧ Below w.heap.size w w' := by
  obtain ⟨W, hW, ba, bb, bc, hb0, hs0⟩ := box3 w (.int .i64 D) (.slice (some ⟨b, o, none⟩) n c) (.slice A2 n c2)
  have HB0 := Lib.hid hb0
  have hbl := World.block_lt_of_cell? w _ hc
  have hcW := (hb0.cell (p := ⟨b, o, none⟩) hbl).trans hc
  have h20b : (((n : Nat) : Int) == 0) = false := beq_eq_false_iff_ne.2 (by omega)
  have hn0 : 0 < n := by omega
  clear hc hbl
  have C1 := fun w => Lib.hid (in_yes D 1 8 h1 w)
  obtain ⟨u, hu⟩ : ∃ u : Int, (if 4 < D then (4 : Int) else D) = u := ⟨_, rfl⟩
  have C2 := fun w => Lib.hid (in_no (k : Int) 1 u (fun h => hk ⟨h.1, by rw [← hu] at h; split at h <;> omega⟩) w)
  clear hb0 hk
  unfold coV
  go_enter Try.func29, Try.ntmps29
  go_wp2
  rw [← hW]
  clear hW
  go_quiet ((first | (go_at_call 59; with_reducible exact Calls.quiet_of_same (C1 _).out) | (go_at_call 59; with_reducible exact Calls.quiet_of_same (C2 _).out)))
  go_wp2
  go_ret
  exact ⟨rfl, below_drewN HB0.out _⟩
theorem zs_get (rs : List RD) {j : Nat} (h : j < rs.length) : (rs.map RD.zs).getD j [] = (rs.getD j rd0).zs := by
  simp [List.getD_eq_getElem?_getD, List.getElem?_eq_getElem h]
theorem get_take {rs : List RD} {i j : Nat} (h : i < j) : (rs.take j).getD i rd0 = rs.getD i rd0 := by
  simp only [List.getD_eq_getElem?_getD]
  rw [List.getElem?_take, if_pos h]
theorem ll_take {W : World} {A : Option Addr} {rs : List RD} (j : Nat) (h : LL W A rs) : LL W A (rs.take j) := fun i hi => by
  rw [List.length_take] at hi
  rw [get_take (by omega)]
  exact h i (by omega)
theorem hands_row (D : Int) (k j : Nat) : ((handsI D (k : Int)).getD j []).length ≤ 8 := by
  unfold handsI
  split
  · rename_i h
    by_cases hj : j < (handsF D.toNat (k : Int).toNat 0).length
    · rw [List.getD_eq_getElem?_getD, List.getElem?_eq_getElem hj]
      have := hands_each D.toNat (k : Int).toNat 0 _ (List.getElem_mem hj)
      simp only [Option.getD_some]
      omega
    · rw [List.getD_eq_getElem?_getD, List.getElem?_eq_none (by omega)]
      exact Nat.zero_le _
  · simp
set_option maxHeartbeats 4000000 in
theorem code_main (D : Int) (b o n c : Nat) (A2 : Option Addr) (c2 k : Nat) (ls ss : List RD) (w : World) (h1 : 1 ≤ D ∧ D ≤ 8) (h2 : 1 ≤ n) (hn : ls.length = n) (hm : ss.length = n) (hat : LL w (some ⟨b, o, none⟩) ls) (hat2 : LL w A2 ss)
    (hz : ∀ i, i < n → (ls.getD i rd0).zs.length ≤ 1048576) (hz2 : ∀ i, i < n → (ss.getD i rd0).zs.length ≤ 1048576 ∧ (ss.getD i rd0).zs.length ≤ (ss.getD i rd0).c) (hn2 : n ≤ 1048576) (hnc2 : n ≤ c2) (hk : (ls.getD 0 rd0).zs.length = k) (hk1 : 1 ≤ (k : Int) ∧ (k : Int) ≤ D ∧ (k : Int) ≤ 4) :
    Calls Try.prog 29 #[coV D (some ⟨b, o, none⟩) n c A2 n c2] w fun e w' => e = .returned (.bool (decide ((handsI D k).length = n) && coTo (handsI D k) (ls.map RD.zs) (ss.map RD.zs) n)) ∧ Below w.heap.size w w' := by
  obtain ⟨W, hW, ba, bb, bc, hb0, hs0⟩ := box3 w (.int .i64 D) (.slice (some ⟨b, o, none⟩) n c) (.slice A2 n c2)
  have HB0 := Lib.hid hb0
  have HA1 := Lib.hid (ll_below hat hb0)
  have HA2 := Lib.hid (ll_below hat2 hb0)
  have HZ := Lib.hid hz
  have HZ2 := Lib.hid hz2
  have HN := Lib.hid hn
  have HM := Lib.hid hm
  obtain ⟨b', o', e0, hc0, _⟩ := hat 0 (by omega)
  simp only [Option.some.injEq, Addr.mk.injEq, and_true] at e0
  obtain ⟨rfl, rfl⟩ := e0
  have hbl := World.block_lt_of_cell? w _ hc0
  simp only [RD.v, Nat.add_zero] at hc0
  rw [hk] at hc0
  have hcW := (hb0.cell (p := ⟨b, o, none⟩) hbl).trans hc0
  have h20b : (((n : Nat) : Int) == 0) = false := beq_eq_false_iff_ne.2 (by omega)
  have hn0 : 0 < n := by omega
  have hbW : b < W.heap.size := by have := hb0.size; simp only at hbl; omega
  generalize (ls.getD 0 rd0).A = A0 at hcW
  generalize (ls.getD 0 rd0).c = c0 at hcW
  obtain ⟨u, hu⟩ : ∃ u : Int, (if 4 < D then (4 : Int) else D) = u := ⟨_, rfl⟩
  have C1 := fun w => Lib.hid (in_yes D 1 8 h1 w)
  have C2 := fun w => Lib.hid (in_yes (k : Int) 1 u ⟨hk1.1, by rw [← hu]; split <;> omega⟩ w)
  have HC := fun w => Lib.hid (spec_handsof D (k : Int) w (by omega) (by omega) (by omega) (by omega))
  obtain ⟨R, hR⟩ : ∃ R, R = (decide ((handsI D k).length = n) && coTo (handsI D k) (ls.map RD.zs) (ss.map RD.zs) n) := ⟨_, rfl⟩
  rw [← hR]
  have HR := Lib.hid hR
  clear hb0 hat hat2 hz hz2 hn hm hc0 hbl hk hR
  unfold coV
  go_enter Try.func29, Try.ntmps29
  go_wp2
  rw [← hW]
  clear hW
  go_quiet ((first | (go_at_call 59; with_reducible exact Calls.quiet_of_same (C1 _).out) | (go_at_call 59; with_reducible exact Calls.quiet_of_same (C2 _).out)))
  go_wp2
  obtain ⟨W1, hW1⟩ : ∃ W1, W1 = W.drewN nq := ⟨_, rfl⟩
  rw [← hW1]
  have hsW : W1.heap.size = W.heap.size := by rw [hW1, World.heap_drewN]
  replace ba : W1.cell? ⟨w.heap.size, 0, none⟩ = some (.int .i64 D) := by rw [hW1]; exact cell_drewN ba _
  replace bb : W1.cell? ⟨w.heap.size, 1, none⟩ = some (.slice (some ⟨b, o, none⟩) n c) := by rw [hW1]; exact cell_drewN bb _
  replace bc : W1.cell? ⟨w.heap.size, 2, none⟩ = some (.slice A2 n c2) := by rw [hW1]; exact cell_drewN bc _
  replace hcW : W1.cell? ⟨b, o, none⟩ = some (.slice A0 k c0) := by rw [hW1]; exact cell_drewN hcW _
  have HB1 := Lib.hid (show Below w.heap.size w W1 by rw [hW1]; exact below_drewN HB0.out _)
  have HA11 := Lib.hid (show LL W1 (some ⟨b, o, none⟩) ls by rw [hW1]; exact ll_below HA1.out (below_drewN (Below.refl _ _) _))
  have HA21 := Lib.hid (show LL W1 A2 ss by rw [hW1]; exact ll_below HA2.out (below_drewN (Below.refl _ _) _))
  have hs1 : w.heap.size < W1.heap.size := by rw [hsW]; exact hs0
  have hb1 : b < W1.heap.size := by rw [hsW]; exact hbW
  clear hW1 HA1 HA2 HB0 C1 C2 hu hsW hs0 hbW
  go_region_held3 (fun w' => w'.cell? ⟨w.heap.size, 0, none⟩ = some (.int .i64 D) ∧ w'.cell? ⟨w.heap.size, 1, none⟩ = some (.slice (some ⟨b, o, none⟩) n c) ∧ w'.cell? ⟨b, o, none⟩ = some (.slice A0 k c0)) ((first | exact ⟨ba, bb, hcW⟩)) ((first | (go_at_call 22; refine (HC _).out.mono ?_; rintro e w5 ⟨A5, c5, rr, rfl, hrr, hrow, hb⟩; replace ba := (hb.cell (p := ⟨w.heap.size, 0, none⟩) hs1).trans ba; replace bb := (hb.cell (p := ⟨w.heap.size, 1, none⟩) hs1).trans bb; replace bc := (hb.cell (p := ⟨w.heap.size, 2, none⟩) hs1).trans bc; replace hcW := (hb.cell (p := ⟨b, o, none⟩) hb1).trans hcW; have HROW := Lib.hid hrow; have HRR := Lib.hid hrr; have HB5 := Lib.hid hb; clear hrow hrr hb)))
  all_goals
    obtain ⟨Q, hQ⟩ : ∃ Q, Q = handsI D (k : Int) := ⟨_, rfl⟩
    rw [← hQ] at HROW HRR HR ⊢
    obtain ⟨M, hM⟩ : ∃ M, M = Q.length := ⟨_, rfl⟩
    rw [← hM] at HROW HR ⊢
    have HBB := Lib.hid (HB1.out.drew.trans (HB5.out.mono HB1.out.size))
    have hbw : Below W1.heap.size W1 w5 := (Below.refl _ W1).drew.trans HB5.out
    have HA12 := Lib.hid (ll_below HA11.out hbw)
    have HA22 := Lib.hid (ll_below HA21.out hbw)
    have HSZ := Lib.hid (fun j => (show (rr.getD j rd0).zs.length ≤ 8 from by
      by_cases hj : j < rr.length
      · have e : (rr.getD j rd0).zs = Q.getD j [] := by rw [← HRR.out]; exact (zs_get rr hj).symm
        rw [e, hQ]
        exact hands_row D k j
      · rw [List.getD_eq_getElem?_getD, List.getElem?_eq_none (by omega)]
        exact Nat.zero_le _))
    clear hQ hM hbw HA11 HA21 HB5 HB1 hcW HC
    by_cases hMn : M = n
    · subst hMn
      have HRT := Lib.hid (show R = coTo Q (ls.map RD.zs) (ss.map RD.zs) M by rw [HR.out, decide_eq_true rfl]; rfl)
      clear HR
      go_wp2
      go_loopw [4, 5, 53] (fun _ _ i wr => ∃ j q : Nat, j ≤ M ∧ i = .int .i64 (j : Int) ∧ wr = w5.drewN q ∧ Hid (coTo Q (ls.map RD.zs) (ss.map RD.zs) j = true)) (fun _ _ i _ => M - (intOf i).toNat)
      case atStart => exact ⟨0, 0, Nat.zero_le _, rfl, rfl, (show coTo Q (ls.map RD.zs) (ss.map RD.zs) 0 = true from rfl)⟩
      case round =>
        obtain ⟨j, q, hj, rfl, rfl, HF⟩ := hrel
        by_cases hlt : j < M
        · have hlq : rr.length = M := HROW.out.len
          obtain ⟨gq, rfl, hcq⟩ := HROW.out.cell j hlt
          have hiq := (HROW.out.2.1 j (by rw [hlq]; exact hlt)).at_
          obtain ⟨b1, o1, e1, hcl, hil⟩ := HA12.out j (by rw [HN.out]; exact hlt)
          obtain ⟨b2, o2, rfl, hcs, his⟩ := HA22.out j (by rw [HM.out]; exact hlt)
          simp only [Option.some.injEq, Addr.mk.injEq, and_true] at e1
          obtain ⟨rfl, rfl⟩ := e1
          have hz1 := HZ.out j hlt
          obtain ⟨hz2, hz3⟩ := HZ2.out j hlt
          have HCN := co_next Q (ls.map RD.zs) (ss.map RD.zs) j
          rw [show Q.getD j [] = (rr.getD j rd0).zs by rw [← HRR.out]; exact zs_get rr (by rw [hlq]; exact hlt), show (ls.map RD.zs).getD j [] = (ls.getD j rd0).zs from zs_get ls (by rw [HN.out]; exact hlt), show (ss.map RD.zs).getD j [] = (ss.getD j rd0).zs from zs_get ss (by rw [HM.out]; exact hlt)] at HCN
          have HNO := Lib.hid (show coTo Q (ls.map RD.zs) (ss.map RD.zs) (j + 1) = false → coTo Q (ls.map RD.zs) (ss.map RD.zs) M = false from co_more (by omega))
          have hqs := HSZ.out j
          have CF0 := fun V (hb : Below w5.heap.size w5 V) => spec_fnd (some ⟨b2, o2, none⟩) (ss.getD j rd0).A j c2 (ss.getD j rd0).zs.length (ss.getD j rd0).c (ss.take j) (ss.getD j rd0).zs V (by rw [List.length_take, HM.out]; omega) (ll_take j (ll_below HA22.out hb)) (fun i hi => by rw [get_take hi]; exact (HZ2.out i (by omega)).1) (by omega) rfl (by omega) ((his.below hb).more hb.size)
          have HTK := Lib.hid (show (ss.take j).map RD.zs = (ss.map RD.zs).take j by rw [List.map_take])
          obtain ⟨V, hV⟩ : ∃ V, V = w5.drewN q := ⟨_, rfl⟩
          have hb5 : Below w5.heap.size w5 V := by rw [hV]; exact below_drewN (Below.refl _ _) _
          rw [← hV]
          have HVD := Lib.hid hV
          replace hcq := (hb5.cell (World.block_lt_of_cell? w5 _ hcq)).trans hcq
          replace hcl := (hb5.cell (World.block_lt_of_cell? w5 _ hcl)).trans hcl
          replace hcs := (hb5.cell (World.block_lt_of_cell? w5 _ hcs)).trans hcs
          have ba5 := (hb5.cell (World.block_lt_of_cell? w5 _ ba)).trans ba
          have bb5 := (hb5.cell (World.block_lt_of_cell? w5 _ bb)).trans bb
          have bc5 := (hb5.cell (World.block_lt_of_cell? w5 _ bc)).trans bc
          have hiq5 := (hiq.below hb5).more hb5.size
          have hil5 := (hil.below hb5).more hb5.size
          have his5 := (his.below hb5).more hb5.size
          have HBQ := Lib.hid (HBB.out.trans (hb5.mono HBB.out.size))
          have CF1 := Lib.hid (fun d => CF0 (V.drewN d) (hb5.trans ((below_drewN (Below.refl _ V) d).mono hb5.size)))
          clear hV hb5 hiq hil his CF0
          simp only [RD.v] at hcq hcl hcs
          generalize rr.getD j rd0 = rq at *
          generalize ls.getD j rd0 = rl at *
          generalize ss.getD j rd0 = rs at *
          obtain ⟨Aq, dq, zq⟩ := rq
          obtain ⟨Al, dl, zl⟩ := rl
          obtain ⟨As, ds, zs⟩ := rs
          simp only at hcq hcl hcs hiq5 hil5 his5 hz1 hz2 hz3 hqs HCN
          have CS0 := Lib.hid (fun d => spec_same Aq Al zq.length zl.length dq dl zq zl (V.drewN d) rfl rfl (by omega) (by omega) (ints_drewN hiq5 d) (ints_drewN hil5 d))
          have CH0 := Lib.hid (fun d => spec_shown Aq As zq.length dq zs.length ds zq zs (V.drewN d) rfl (by omega) rfl hz2 hz3 (ints_drewN hiq5 d) (ints_drewN his5 d))
          have HCNN := Lib.hid HCN
          clear hiq5 hil5 his5 HCN hz1 hz2 hqs
          generalize zq.length = nq1 at *
          generalize zl.length = nl1 at *
          generalize zs.length = ns1 at *
          have hjc : j ≤ c2 := by omega
          by_cases e1 : zq = zl
          · have CS := fun d => Lib.hid ((CS0.out d).mono fun e w' h => (⟨by rw [h.1, show sameB zq zl = true from decide_eq_true e1], h.2.symm⟩ : e = .returned (.bool true) ∧ w' = V.drewN d))
            cases e2 : shownB zq zs with
            | true =>
              have CH := fun d => Lib.hid ((CH0.out d).mono fun e w' h => (⟨by rw [h.1, e2], h.2.symm⟩ : e = .returned (.bool true) ∧ w' = V.drewN d))
              by_cases e3 : zs ∈ (ss.map RD.zs).take j
              · have CF := fun d => Lib.hid ((CF1.out d).mono fun e w' h => (⟨by rw [h.1, HTK.out, decide_eq_true e3], h.2.symm⟩ : e = .returned (.bool true) ∧ w' = V.drewN d))
                have HT := Lib.hid (HNO.out (by rw [HCNN.out, decide_eq_true e3, Bool.not_true, Bool.and_false, Bool.and_false, Bool.and_false]))
                clear CS0 CH0 CF1 e1 e2 e3 HCNN HNO HTK
                go_wp2_with fail
                go_quiet ((first | (go_at_call 64; with_reducible exact Calls.quiet_of_same (CS _).out) | (go_at_call 65; with_reducible exact Calls.quiet_of_same (CH _).out) | (go_at_call 66; with_reducible exact Calls.quiet_of_same (CF _).out)))
                go_wp2
                go_ret
                exact ⟨by rw [HRT.out, HT.out]; rfl, below_drewN HBQ.out _⟩
              · have CF := fun d => Lib.hid ((CF1.out d).mono fun e w' h => (⟨by rw [h.1, HTK.out, decide_eq_false e3], h.2.symm⟩ : e = .returned (.bool false) ∧ w' = V.drewN d))
                have HT := Lib.hid (show coTo Q (ls.map RD.zs) (ss.map RD.zs) (j + 1) = true by rw [HCNN.out, HF.out, decide_eq_true e1, e2, decide_eq_false e3]; rfl)
                clear CS0 CH0 CF1 e1 e2 e3 HCNN HNO HTK
                go_wp2_with fail
                go_quiet ((first | (go_at_call 64; with_reducible exact Calls.quiet_of_same (CS _).out) | (go_at_call 65; with_reducible exact Calls.quiet_of_same (CH _).out) | (go_at_call 66; with_reducible exact Calls.quiet_of_same (CF _).out)))
                go_wp2
                go_roundw
                case rel => exact ⟨j + 1, q + nq, by omega, by go_num, by rw [HVD.out, World.drewN_drewN], HT⟩
                case measure => simp [intOf]; omega
            | false =>
              have CH := fun d => Lib.hid ((CH0.out d).mono fun e w' h => (⟨by rw [h.1, e2], h.2.symm⟩ : e = .returned (.bool false) ∧ w' = V.drewN d))
              have HT := Lib.hid (HNO.out (by rw [HCNN.out, e2, Bool.false_and, Bool.and_false, Bool.and_false]))
              clear CS0 CH0 CF1 e1 e2 HCNN HNO HTK
              go_wp2_with fail
              go_quiet ((first | (go_at_call 64; with_reducible exact Calls.quiet_of_same (CS _).out) | (go_at_call 65; with_reducible exact Calls.quiet_of_same (CH _).out)))
              go_wp2
              go_ret
              exact ⟨by rw [HRT.out, HT.out]; rfl, below_drewN HBQ.out _⟩
          · have CS := fun d => Lib.hid ((CS0.out d).mono fun e w' h => (⟨by rw [h.1, show sameB zq zl = false from decide_eq_false e1], h.2.symm⟩ : e = .returned (.bool false) ∧ w' = V.drewN d))
            have HT := Lib.hid (HNO.out (by rw [HCNN.out, decide_eq_false e1, Bool.false_and, Bool.and_false]))
            clear CS0 CH0 CF1 e1 HCNN HNO HTK
            go_wp2_with fail
            go_quiet ((go_at_call 64; with_reducible exact Calls.quiet_of_same (CS _).out))
            go_wp2
            go_ret
            exact ⟨by rw [HRT.out, HT.out]; rfl, below_drewN HBQ.out _⟩
        · have hjM : j = M := by omega
          subst hjM
          have HT := Lib.hid (HRT.out.trans HF.out)
          have HBQ := Lib.hid (below_drewN HBB.out q)
          go_wp2
          go_ret
          exact ⟨by rw [HT.out]; rfl, HBQ.out⟩
    · have HT := Lib.hid (show R = false by rw [HR.out, decide_eq_false hMn]; rfl)
      have hne : (((M : Nat) : Int) != ((n : Nat) : Int)) = true := by rw [bne_iff_ne]; omega
      clear HR hMn
      go_wp2
      go_ret
      exact ⟨by rw [HT.out]; rfl, HBB.out⟩
/-- CodeOk of the model -/
theorem spec_code (D : Int) (A : Option Addr) (n c : Nat) (A2 : Option Addr) (m c2 : Nat) (ls ss : List RD) (w : World) (hn : ls.length = n) (hm : ss.length = m) (hat : LL w A ls) (hat2 : LL w A2 ss)
    (hz : ∀ i, i < n → (ls.getD i rd0).zs.length ≤ 1048576) (hz2 : ∀ i, i < m → (ss.getD i rd0).zs.length ≤ 1048576 ∧ (ss.getD i rd0).zs.length ≤ (ss.getD i rd0).c) (hn2 : n ≤ 1048576) (hnc2 : m ≤ c2) :
    Calls Try.prog 29 #[coV D A n c A2 m c2] w fun e w' => e = .returned (.bool (codeB D (ls.map RD.zs) (ss.map RD.zs))) ∧ Below w.heap.size w w' := by
  by_cases h1 : 1 ≤ D ∧ D ≤ 8
  · by_cases h2 : n = 0
    · have e : codeB D (ls.map RD.zs) (ss.map RD.zs) = false := by
        unfold codeB
        rw [show decide (1 ≤ (ls.map RD.zs).length) = false from decide_eq_false (by rw [List.length_map]; omega), Bool.false_and, Bool.and_false]
      rw [e]
      exact code_none D A n c A2 m c2 w h1 h2
    · by_cases h3 : m = n
      · subst h3
        obtain ⟨b, o, rfl, hc⟩ := ll_first hat hn (by omega)
        have hk : ((ls.map RD.zs).getD 0 []).length = (ls.getD 0 rd0).zs.length := by rw [zs_get ls (by omega)]
        by_cases h4 : 1 ≤ ((ls.getD 0 rd0).zs.length : Int) ∧ ((ls.getD 0 rd0).zs.length : Int) ≤ D ∧ ((ls.getD 0 rd0).zs.length : Int) ≤ 4
        · have e : codeB D (ls.map RD.zs) (ss.map RD.zs) = (decide ((handsI D ((ls.getD 0 rd0).zs.length : Int)).length = m) && coTo (handsI D ((ls.getD 0 rd0).zs.length : Int)) (ls.map RD.zs) (ss.map RD.zs) m) := by
            unfold codeB
            rw [hk, decide_eq_true h1, decide_eq_true h4, List.length_map, List.length_map, hn, hm, decide_eq_true (show 1 ≤ m by omega), decide_eq_true rfl]
            rfl
          rw [e]
          exact code_main D b o m c A2 c2 _ ls ss w h1 (by omega) hn hm hat hat2 hz hz2 hn2 hnc2 rfl h4
        · have e : codeB D (ls.map RD.zs) (ss.map RD.zs) = false := by
            unfold codeB
            rw [hk, decide_eq_false h4, Bool.false_and, Bool.and_false, Bool.and_false, Bool.and_false]
          rw [e]
          exact code_wide D b o m c A2 _ c2 _ _ w h1 (by omega) hc h4 (hz 0 (by omega))
      · have e : codeB D (ls.map RD.zs) (ss.map RD.zs) = false := by
          unfold codeB
          rw [show decide ((ss.map RD.zs).length = (ls.map RD.zs).length) = false from decide_eq_false (by rw [List.length_map, List.length_map]; omega), Bool.false_and, Bool.and_false, Bool.and_false]
        rw [e]
        exact code_uneven D A n c A2 m c2 w h1 (by omega) h3
  · have e : codeB D (ls.map RD.zs) (ss.map RD.zs) = false := by
      unfold codeB
      rw [decide_eq_false h1, Bool.false_and]
    rw [e]
    exact code_far D A n c A2 m c2 w h1
end Go.Proofs.Ytingbpkbdafgeaa.Hcp
