/- GilbreathsOf of the program: the lists grown place by place. -/
import Derived.Test.YtpmfiflpipcojaaGir
set_option linter.unusedVariables false
set_option maxRecDepth 20000
namespace Go.Proofs.Ytpmfiflpipcojaa.Gis
open Go.RowKit Fr Own Pk Ins Pok Prm Pfn Rws Gip Gir

theorem clo_any (bp n : Nat) (A : Option Addr) (m c : Nat) (ps : List Int) (w : World) (hn : n ≤ 12) (hm : ps.length = m) (hm2 : m ≤ 12) (hin : inR ps 12) (hss : IntsAt w w.heap.size .i64 A ps) (hbox : w.cell? ⟨bp, 0, none⟩ = some (.int .i64 n)) :
    Calls Try.prog 46 #[.slice A m c, .pointer (some ⟨bp, 0, none⟩)] w (IsIL w.heap.size (nextF n ps) w) := by
  have H := Lib.hid (next_any A n m c ps w hn hm hm2 hin hss)
  clear hm hin hss
  go_enter Try.func46, Try.ntmps46
  go_wp2_with fail
  refine H.out.mono ?_
  rintro e w1 ⟨A1, c1, rfl, hown, hb⟩
  have HO := Lib.hid hown
  clear hown
  go_wp2
  go_ret
  exact ⟨A1, c1, rfl, HO.out, hb⟩
/-- one list without elements -/
theorem ss_one (w : World) : SSRow (w.alloc (.cells #[.slice none 0 0] 23)) w.heap.size (w.alloc (.cells #[.slice none 0 0] 23)).heap.size (some ⟨w.heap.size, 0, none⟩) 1 1 [rd0] := by
  refine ⟨World.ownsRow_lit w _ 1 (Nat.le_refl _) (by unfold maxLen; omega) rfl, ?_, ?_, ?_, Nat.le_refl _⟩
  · intro i hi
    have e : i = 0 := by simp at hi; exact hi
    subst e
    exact ⟨World.ownsRow_nil _ _ _ _, (fun a h => by cases h), Nat.le_refl _⟩
  · intro i j hi hj hne
    simp at hi hj
    omega
  · intro a ha
    simp only [Option.some.injEq] at ha
    subst ha
    simp
theorem take_flat {f : List Int → List (List Int)} {L : List (List Int)} {j : Nat} (h : j < L.length) : (L.take (j + 1)).flatMap f = (L.take j).flatMap f ++ f (L.getD j []) := by
  rw [List.take_succ_eq_append_getElem h, List.flatMap_append, List.getD_eq_getElem?_getD, List.getElem?_eq_getElem h]
  simp
theorem map_get {rs : List RD} {L : List (List Int)} (h : rs.map RD.zs = L) {j : Nat} (hj : j < rs.length) : (rs.getD j rd0).zs = L.getD j [] ∧ L.getD j [] ∈ L := by
  subst h
  have hj2 : j < (rs.map RD.zs).length := by rw [List.length_map]; exact hj
  simp only [List.getD_eq_getElem?_getD, List.getElem?_eq_getElem hj, List.getElem?_eq_getElem hj2, Option.getD_some]
  exact ⟨by simp, List.getElem_mem _⟩
theorem take_one (q : List Int) (t : Nat) (h : t < q.length) (g : Int → List Int) : (q.take (t + 1)).map g = (q.take t).map g ++ [g (q.getD t 0)] := by
  rw [take_snoc q t h, List.map_append]; rfl

set_option maxHeartbeats 4000000 in
theorem collect_any (bp n : Nat) (w : World) (hn : n ≤ 12) (hbox : w.cell? ⟨bp, 0, none⟩ = some (.int .i64 n)) (hbp : bp < w.heap.size) :
    Calls Try.prog 45 #[.int .i64 n, .func (.func 46) #[] #[.pointer (some ⟨bp, 0, none⟩)]] w (IsSS w.heap.size (dfs n n []) w) := by
  obtain ⟨i0, hi, hz0, hz1, hz2⟩ := info_parts infoInt
  obtain ⟨i1, hj1, hy0, hy1, hy2⟩ := infos_parts
  have HBOX := Lib.hid hbox
  clear hbox
  go_enter Try.func45, Try.ntmps45
  go_wp2
  go_loopw [5, 13] (fun v i wr => ∃ k : Nat, k ≤ n ∧ i = .int .i64 (k : Int) ∧ (∃ A N c rs, v = .slice A N c ∧ SSRow wr w.heap.size wr.heap.size A N c rs ∧ Hid (rs.map RD.zs = dfs n k [])) ∧ Below w.heap.size w wr) (fun _ i _ => n - (intOf i).toNat)
  case atStart => exact ⟨0, Nat.zero_le _, rfl, ⟨_, _, _, [rd0], rfl, ss_one w, rfl⟩, (Below.refl _ w).alloc (Nat.le_refl _) _⟩
  case round =>
    obtain ⟨k, hk, rfl, ⟨A, N, c, rs, rfl, hrow, HRS⟩, hbw⟩ := hrel
    have hsz := hbw.size
    by_cases hlt : k < n
    · have HL := Lib.hid hrow.len
      have hN : N ≤ 24576 := by
        rw [← hrow.len, ← List.length_map (f := RD.zs), HRS.out]
        exact dfs_big hn (by omega)
      have HME := Lib.hid (fun q hq => dfs_mem n k [] q (inR_nil n) hq)
      have HNX := Lib.hid (dfs_succ n k [])
      have HLL := Lib.hid (show (dfs n k []).length = N by rw [← HRS.out, List.length_map]; exact hrow.len)
      generalize dfs n k [] = L at *
      obtain ⟨b0, hb0⟩ : ∃ b, b = wr.heap.size := ⟨_, rfl⟩
      rw [← hb0] at hrow hsz
      have HB0 := Lib.hid hb0
      have HROW := Lib.hid hrow
      clear hb0 hrow
      go_wp2
      go_loopw [6, 17] (fun v i wt => ∃ j : Nat, j ≤ N ∧ i = .int .i64 (j : Int) ∧ (∃ A6 M c6 rs6, v = .slice A6 M c6 ∧ M ≤ 12 * j ∧ SSRow wt b0 wt.heap.size A6 M c6 rs6 ∧ Hid (rs6.map RD.zs = (L.take j).flatMap (gilStep n))) ∧ SSRow wt w.heap.size b0 A N c rs ∧ Below w.heap.size w wt ∧ b0 ≤ wt.heap.size) (fun _ i _ => N - (intOf i).toNat)
      case atStart => exact ⟨0, Nat.zero_le _, rfl, ⟨_, _, _, [], rfl, by omega, SSRow.empty (World.ownsRow_nil _ _ _ _), rfl⟩, HROW.out, hbw, Nat.le_of_eq HB0.out⟩
      case round =>
        obtain ⟨j, hj, rfl, ⟨A6, M, c6, rs6, rfl, hM, hr6, HR6⟩, hr5, hbt, hszt⟩ := hrel
        clear HROW
        by_cases hlt2 : j < N
        · obtain ⟨hz, hme⟩ := map_get HRS.out (j := j) (by rw [HL.out]; exact hlt2)
          obtain ⟨hml, hmr⟩ := HME.out _ hme
          obtain ⟨g, rfl, hcell⟩ := hr5.cell j hlt2
          have hrj := (hr5.2.1 j (by rw [HL.out]; exact hlt2)).at_
          have HTF := Lib.hid (take_flat (f := gilStep n) (L := L) (j := j) (by rw [HLL.out]; exact hlt2))
          simp only [RD.v] at hcell
          rw [hz] at hrj hcell
          rw [List.length_nil, Nat.zero_add] at hml
          have hJ := fun (wu : World) (h : SSRow wu w.heap.size b0 (some ⟨g, 0, none⟩) N c rs) => (h.2.1 j (by rw [HL.out]; exact hlt2)).at_
          rw [hz] at hJ
          have HJ := Lib.hid hJ
          clear hJ
          generalize (rs.getD j rd0).A = A1 at *
          generalize (rs.getD j rd0).c = c1 at *
          generalize L.getD j [] = ps at *
          obtain ⟨m1, hm1⟩ : ∃ m, m = ps.length := ⟨_, rfl⟩
          rw [← hm1] at hcell hml
          have HM1 := Lib.hid hm1.symm
          have hm12 : m1 ≤ 12 := by omega
          have hcb := (hbt.cell (p := ⟨bp, 0, none⟩) hbp).trans HBOX.out
          have HCL := Lib.hid (clo_any bp n A1 m1 c1 ps wr hn HM1.out hm12 (inR_more hmr hn) hrj hcb)
          have hq12 := nextF_small hn ps
          have HST := Lib.hid (show gilStep n ps = (nextF n ps).map fun x => ps ++ [x] from rfl)
          generalize nextF n ps = q at *
          have HR5 := Lib.hid hr5
          have HR6r := Lib.hid hr6
          clear hz hme hml hmr hm1 hrj hcb hr5 hr6
          go_wp2_with fail
          refine HCL.out.mono ?_
          rintro e w2 ⟨A2, c2, rfl, hown2, hb2⟩
          obtain ⟨b1, hb1⟩ : ∃ b, b = wr.heap.size := ⟨_, rfl⟩
          have hs2 := hb2.size
          have hr5 := HR5.out.below hb2
          have hr6 := (HR6r.out.below hb2).higher hs2 (Nat.le_refl _)
          have hbt2 := hbt.trans (hb2.mono (Nat.le_trans hsz hszt))
          rw [← hb1] at hown2 hs2 hszt
          have H5 := Lib.hid hr5
          have H6 := Lib.hid hr6
          have HO2 := Lib.hid hown2
          clear hr5 hr6 hown2 HR5 HR6r HCL hb1 hb2 hcell
          go_wp2
          go_loopw [6, 25] (fun v i wu => ∃ t : Nat, t ≤ q.length ∧ i = .int .i64 (t : Int) ∧ (∃ A6 M c6 rs6, v = .slice A6 M c6 ∧ M ≤ 12 * j + t ∧ SSRow wu b0 wu.heap.size A6 M c6 rs6 ∧ Hid (rs6.map RD.zs = (L.take j).flatMap (gilStep n) ++ (q.take t).map fun x => ps ++ [x])) ∧ wu.ownsRow b1 3 1 (.slice A2 q.length c2) q.length (q.map (Value.int .i64)) ∧ SSRow wu w.heap.size b0 (some ⟨g, 0, none⟩) N c rs ∧ Below w.heap.size w wu ∧ b1 ≤ wu.heap.size) (fun _ i _ => q.length - (intOf i).toNat)
          case atStart => exact ⟨0, Nat.zero_le _, rfl, ⟨_, _, _, rs6, rfl, by omega, H6.out, by show _ = _; rw [List.take_zero, List.map_nil, List.append_nil]; exact HR6.out⟩, HO2.out, H5.out, hbt2, hs2⟩
          case round =>
            obtain ⟨t, ht, rfl, ⟨A6, M, c6, rs6, rfl, hM, hr6, HR6⟩, hq, hr5, hbu, hszu⟩ := hrel
            clear H5 H6 HO2 hbt2
            by_cases hlt3 : t < q.length
            · obtain ⟨bq, oq, rfl, hbq, hcq⟩ := ints_of hq t hlt3
              have hT := take_one q t hlt3 fun x => ps ++ [x]
              generalize q.getD t 0 = x at hcq hT
              have HT := Lib.hid hT
              have hrj := HJ.out wr hr5
              have HC := Lib.hid (Lb.clone_any A1 m1 c1 ps wr HM1.out (by omega) hrj)
              have HQ := Lib.hid hq
              have HR5 := Lib.hid hr5
              have HR6r := Lib.hid hr6
              have hcell := ((ints_of hq).more (Nat.le_refl _))
              clear hT hrj hq hr5 hr6 hcell
              go_wp2_with fail
              refine HC.out.mono ?_
              rintro e w3 ⟨A3, c3, rfl, hown3, hb3⟩
              rw [HM1.out] at hown3
              rw [HM1.out]
              have hs3 := hb3.size
              obtain ⟨b2, hb2⟩ : ∃ b, b = wr.heap.size := ⟨_, rfl⟩
              have hr5 := HR5.out.below hb3
              have hr6 := HR6r.out.below hb3
              have hq := own_below HQ.out hb3
              have hql := fun k hk => (own_lo HQ.out k hk).2
              have hbu3 := hbu.trans (hb3.mono (by omega))
              have hcq3 := (hb3.cell (p := ⟨bq, oq + t, none⟩) hbq).trans hcq
              rw [← hb2] at hown3 hs3 hszu hr6 hql
              have H3 := Lib.hid hown3
              have H5 := Lib.hid hr5
              have H6 := Lib.hid hr6
              have HQ3 := Lib.hid hq
              have HQL := Lib.hid hql
              clear hb3 hr5 hr6 hq hown3 HQ HR5 HR6r HC hbu hcq hql hb2
              go_wp2_with (first | (at_builtin; refine app_more rfl (.tmp 31) (.tmp 33) 23 rfl b2 3 i0 (.int .i64 0) 8 Try.underlying23 hi hz0 hz1 hz2 (by decide) rfl _ _ _ _ rfl H3.out (.int .i64 x) rfl _ rfl rfl (by omega) hs3 ?_; intro g4 c4 w4 hown4 hgr4; (have hs4 := hgr4.size); (have hlo3 := fun k hk => (own_lo H3.out k hk).1); (have hr5 := H5.out.grown hgr4 (fun k hk => Or.inr (by have := hlo3 k hk; omega))); (have hr6 := H6.out.grown hgr4 (fun k hk => Or.inr (hlo3 k hk))); (have hq := own_gr HQ3.out hgr4 (fun k hk e => by have h1 := HQL.out k hk; have h2 := hlo3 k e; omega)); (have hbu4 := hbu3.grown hgr4 (by omega) (fun k hk => by have := hlo3 k hk; omega)); (have H4 := Lib.hid hown4); (have H52 := Lib.hid hr5); (have H62 := Lib.hid hr6); (have HQ4 := Lib.hid hq); clear hgr4 hr5 hr6 hq hown4 H3 H5 H6 HQ3 HQL hlo3 hbu3 hcq3) | (at_builtin; refine app_more rfl (.tmp 29) (.tmp 35) 26 rfl b0 23 i1 (.slice none 0 0) 24 Try.underlying26 hj1 hy0 hy1 hy2 (by decide) rfl _ _ _ _ rfl H62.out.1 (.slice (some ⟨g4, 0, none⟩) (m1 + 1) c4) rfl _ rfl rfl (by omega) (by omega) ?_; intro g5 c5 w5 hown5 hgr5))
              have hs5 := hgr5.size
              have hlp : (ps ++ [x]).length = m1 + 1 := by rw [List.length_append, HM1.out]; rfl
              have HSN := Lib.hid (SSRow.snoc (zs := ps ++ [x]) (A1 := some ⟨g4, 0, none⟩) (c1 := c4) H62.out (by omega) (by rw [hlp, List.map_append]; exact H4.out) (by rw [hlp]; exact hown5) hgr5)
              have HQ5 := Lib.hid (own_gr HQ4.out hgr5 (fun k hk e => own_diff HQ4.out H62.out.1 (by decide) k hk e))
              have H55 := Lib.hid (H52.out.grown hgr5 (fun k hk => Or.inr (own_lo H62.out.1 k hk).1))
              have HBU := Lib.hid (hbu4.grown hgr5 (by omega) (fun k hk => by have := (own_lo H62.out.1 k hk).1; omega))
              clear hown5 hgr5 hlp
              go_roundw
              case rel => exact ⟨t + 1, by omega, by go_num, ⟨_, _, _, _, rfl, by omega, HSN.out, by show _ = _; rw [List.map_append, HR6.out, HT.out, ← List.append_assoc]; rfl⟩, HQ5.out, H55.out, HBU.out, by omega⟩
              case measure => simp [intOf]; omega
            · have htq : q.take t = q := List.take_of_length_le (by omega)
              have HSS := Lib.hid (show rs6.map RD.zs = (L.take (j + 1)).flatMap (gilStep n) by rw [HTF.out, HST.out, HR6.out, htq])
              have H5 := Lib.hid hr5
              have H6 := Lib.hid hr6
              have htl : t = q.length := by omega
              have hM2 : M ≤ 12 * (j + 1) := by omega
              clear htq hr5 hr6 hq
              go_wp2
              go_roundw
              case rel => exact ⟨j + 1, by omega, by go_num, ⟨_, _, _, rs6, rfl, hM2, H6.out, HSS.out⟩, H5.out, hbu, by omega⟩
              case measure => simp [intOf]; omega
        · have hjN : L.take j = L := List.take_of_length_le (by rw [HLL.out]; omega)
          have HSS := Lib.hid (show rs6.map RD.zs = dfs n (k + 1) [] by rw [HR6.out, hjN]; exact HNX.out.symm)
          have H6 := Lib.hid (SSRow.mono hr6 hsz)
          clear hjN hr5 hr6
          go_wp2
          go_roundw
          case rel => exact ⟨k + 1, by omega, by go_num, ⟨_, _, _, rs6, rfl, H6.out, HSS.out⟩, hbt⟩
          case measure => simp [intOf]; omega
    · have hkn : k = n := by omega
      have HR := Lib.hid hrow
      have HNL := Lib.hid hrow.len
      clear hrow
      go_wp2
      go_ret
      rw [hkn] at HRS
      have e : (dfs n n []).length = N := by rw [← HRS.out, List.length_map]; exact HNL.out
      exact ⟨A, c, rs, by rw [e]; rfl, HRS.out, by rw [e]; exact HR.out, hbw⟩
theorem impl_gils (n : Int) (w : World) (h1 : -9223372036854775808 ≤ n) (h2 : n ≤ 9223372036854775807) :
    Calls Try.prog 14 #[.int .i64 n] w (IsSS w.heap.size (gilsF n) w) := by
  have hbox : (w.alloc (.cells #[.int .i64 n] 3)).cell? ⟨w.heap.size, 0, none⟩ = some (.int .i64 n) := by
    unfold World.cell?
    rw [heap_alloc_new w _]; rfl
  have hb0 := (Below.refl w.heap.size w).alloc (Nat.le_refl _) (.cells #[.int .i64 n] 3)
  by_cases h : 1 ≤ n ∧ n ≤ 12
  · obtain ⟨m, rfl⟩ : ∃ m : Nat, n = m := ⟨n.toNat, by omega⟩
    have HG := Lib.hid (gils_yes m (by omega) (by omega))
    have HC := Lib.hid (collect_any w.heap.size m _ (by omega) hbox (by simp))
    have ha : decide ((m : Int) < 1) = false := decide_eq_false (by omega)
    have hb : decide ((12 : Int) < (m : Int)) = false := decide_eq_false (by omega)
    have hc : decide (m < 1) = false := decide_eq_false (by omega)
    have hd : decide (12 < m) = false := decide_eq_false (by omega)
    have HB0 := Lib.hid hb0
    clear h hb0
    go_enter Try.func14, Try.ntmps14
    go_wp2_with fail
    refine HC.out.mono ?_
    rintro e w1 ⟨A, c, rs, rfl, hrs, hrow, hb⟩
    have HR := Lib.hid hrow
    have HRS := Lib.hid hrs
    clear hrow hrs
    go_wp2
    go_ret
    rw [HG.out]
    exact ⟨A, c, rs, rfl, HRS.out, SSRow.mono HR.out (by simp), HB0.out.trans (hb.mono (by simp))⟩
  · have HG := Lib.hid (gils_no h)
    have HB0 := Lib.hid hb0
    clear hb0
    by_cases hlo : n < 1
    · clear h
      go_enter Try.func14, Try.ntmps14
      go_wp2
      go_ret
      rw [HG.out]
      exact ⟨none, 0, [], rfl, rfl, SSRow.empty (World.ownsRow_nil _ _ _ _), HB0.out⟩
    · have ha : decide (n < 1) = false := decide_eq_false hlo
      have hb : 12 < n := by omega
      clear h hlo
      go_enter Try.func14, Try.ntmps14
      go_wp2
      go_ret
      rw [HG.out]
      exact ⟨none, 0, [], rfl, rfl, SSRow.empty (World.ownsRow_nil _ _ _ _), HB0.out⟩
end Go.Proofs.Ytpmfiflpipcojaa.Gis
