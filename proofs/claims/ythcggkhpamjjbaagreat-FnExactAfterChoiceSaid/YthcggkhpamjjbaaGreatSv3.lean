/- The model's moves: l04Milk, l04Duck. -/
import Derived.Test.YthcggkhpamjjbaaGreatSv2
set_option linter.unusedVariables false
set_option maxRecDepth 20000
namespace Go.Proofs.YthcggkhpamjjbaaGreat.Sv3
open Go.RowKit Fr Own Pk Ins Pfn Rws Lb Cat Mvp Mv1 Mv2 Mv3 Mv4 Sv Sv2

set_option maxHeartbeats 1000000 in
theorem spec_milk (A : Option Addr) (n c : Nat) (zs : List Int) (w : World) (hn : zs.length = n) (h0 : 1 ≤ n) (h12 : n ≤ 12) (hnc : n ≤ c) (hss : IntsAt w w.heap.size .i64 A zs) :
    Calls Tryz.prog 132 #[.slice A n c] w (IsIL w.heap.size (milkL (n + 1) zs []) w) := by
  obtain ⟨i0, hi, hz0, hz1, hz2⟩ := info_parts infoInt
  obtain ⟨b, o, rfl⟩ := ints_addr hss (by omega)
  have HN := Lib.hid hn
  have HS := Lib.hid hss
  obtain ⟨R, hR⟩ : ∃ R, R = milkL (n + 1) zs [] := ⟨_, rfl⟩
  have HI0 := Lib.hid (show ∃ f, zs.length < f ∧ milkL f zs [] = R from ⟨n + 1, by omega, hR.symm⟩)
  have HB0 := fun o => Lib.hid ((Below.refl w.heap.size w).alloc (Nat.le_refl _) o)
  rw [← hR]
  clear hn hR hss
  go_enter Tryz.func132, Tryz.ntmps132
  go_wp2
  go_loopw [0, 3] (fun s0 s3 wr => ∃ (n1 n3 c1 c3 : Nat) (A1 A3 : Option Addr) (u q : List Int), s0 = .slice A1 n1 c1 ∧ s3 = .slice A3 n3 c3 ∧ Hid (u.length = n1) ∧ n1 ≤ c1 ∧
    Hid (IntsAt w w.heap.size .i64 A1 u) ∧ Hid (∃ b o, A1 = some ⟨b, o, none⟩) ∧ n1 + n3 ≤ 12 ∧ wr.ownsRow w.heap.size 3 1 (.slice A3 n3 c3) n3 (vals q) ∧ Hid (∃ f, u.length < f ∧ milkL f u q = R) ∧ Below w.heap.size w wr) (fun s0 _ _ => lenV s0)
  case atStart => exact ⟨n, 0, c, 0, _, _, zs, [], rfl, rfl, HN, hnc, HS, ⟨b, o, rfl⟩, by omega, World.ownsRow_lit w #[] 0 (Nat.le_refl _) (Nat.zero_le _) rfl, HI0, (HB0 _).out⟩
  case round =>
    obtain ⟨n1, n3, c1, c3, A1, A3, u, q, rfl, rfl, HLU, hnc1, HA1, HB1, h12s, hown, HI, hbw⟩ := hrel
    clear HS HI0 HB0
    have hszw := hbw.size
    have hnil := row_nil hown
    have hspot := row_spot hown
    have hql := Lib.hid (row_len hown)
    obtain ⟨b1, o1, e1⟩ := HB1.out
    subst e1
    by_cases hn1 : n1 ≤ 1
    · have HE := Lib.hid (show u ++ q = R by
        obtain ⟨f, hf, e⟩ := HI.out
        rw [milk_end f u q (by rw [HLU.out]; exact hn1) hf] at e
        exact e)
      have hcond : decide ((1 : Int) < (n1 : Int)) = false := decide_eq_false (by omega)
      have HLIT := Lib.hid (World.ownsRow_lit (base := wr.heap.size) (e := 3) (size := 1) wr #[] 0 (Nat.le_refl _) (Nat.zero_le _) rfl)
      have HBA := Lib.hid (hbw.alloc hszw (.cells #[] 3))
      have HAT := Lib.hid ((HA1.out.below HBA.out).more HBA.out.size)
      have HQA := Lib.hid (hown.alloc (.cells #[] 3))
      have HQB := Lib.hid (own_lo hown)
      have hsa : wr.heap.size ≤ (wr.alloc (.cells #[] 3)).heap.size := by simp
      have h1s : n1 ≤ 4294967296 := by omega
      have h3s : n3 ≤ 4294967296 := by omega
      clear hown HI hbw hn1
      go_wp2_with (first
        | (at_builtin; refine app_any rfl (.tmp 25) (.tmp 26) 28 rfl wr.heap.size 3 i0 8 Tryz.underlying28 hi hz0 hz1 hz2 (by decide) _ 0 0 [] rfl HLIT.out _ n1 c1 u rfl HLU.out (fun h => by cases h) _ HAT.out (by decide) h1s hsa spot_some ?_; intro A5 c5 w5 hown5 hgr5; rw [Nat.zero_add, List.nil_append] at hown5; rw [Nat.zero_add]; have hq5 := ints_of (own_gr HQA.out hgr5 (fun k hk e => by have h1 := (HQB.out k hk).2; have h2 := (own_lo HLIT.out k e).1; omega)); have hb5 := HBA.out.grown hgr5 HBA.out.size (fun b h => by have := (own_lo HLIT.out b h).1; omega); have hs5 := hgr5.size; clear hgr5)
        | (at_builtin; refine app_any rfl (.tmp 27) (.tmp 28) 28 rfl wr.heap.size 3 i0 8 Tryz.underlying28 hi hz0 hz1 hz2 (by decide) A5 c5 n1 u rfl hown5 A3 n3 c3 q rfl hql.out hnil _ hq5 h1s h3s (Nat.le_trans hsa hs5) hspot ?_; intro A6 c6 w6 hown6 hgr6; have he6 := Lib.hid (show IsIL w.heap.size R w (.returned (.slice A6 (n1 + n3) c6)) w6 by rw [← HE.out]; exact row_end (own_mono hown6 hszw) (hb5.grown hgr6 hb5.size (fun b h => by have := (own_lo hown5 b h).1; omega))); clear hown6 hgr6 hown5 hb5 hq5))
      go_ret
      exact he6.out
    · obtain ⟨bt, rfl⟩ : ∃ bt, n1 = bt + 1 := ⟨n1 - 1, by omega⟩
      have hbt : 1 ≤ bt := by omega
      obtain ⟨x, v, e2⟩ : ∃ x v, u = x :: v := by
        cases u with
        | nil => have := HLU.out; simp at this
        | cons x v => exact ⟨x, v, rfl⟩
      subst e2
      have HLV := Lib.hid (show v.length = bt by have := HLU.out; simpa using this)
      have HI2 := Lib.hid (milk_step hbt HLV.out HI.out)
      have hat := HA1.out.below hbw
      have hc1 : wr.cell? ⟨b1, o1, none⟩ = some (.int .i64 x) := by
        obtain ⟨b2, o2, e, hlt, hcc⟩ := hat 0 (by simp)
        simp only [Option.some.injEq, Addr.mk.injEq, and_true] at e
        rw [e.1, e.2]; exact hcc
      have hc2 : wr.cell? ⟨b1, o1 + bt, none⟩ = some (.int .i64 ((x :: v).getD bt 0)) := by
        obtain ⟨b2, o2, e, hlt, hcc⟩ := hat bt (by simp [HLV.out])
        simp only [Option.some.injEq, Addr.mk.injEq, and_true] at e
        rw [e.1, e.2]; exact hcc
      have HA2 : Hid (IntsAt w w.heap.size .i64 (some ⟨b1, o1 + 1, none⟩) (v.take (bt - 1))) := by
        have h := ints_take2 (bt - 1) (ints_drop (k := 1) HA1.out)
        exact h
      have HLT := Lib.hid (show (v.take (bt - 1)).length = bt - 1 by rw [List.length_take, HLV.out]; omega)
      generalize (x :: v).getD bt 0 = y at hc2 HI2
      have hcond : (1 : Int) < (bt : Int) + 1 := by omega
      have hcc1 : ¬ c1 = 1 := by omega
      have hcc2 : ¬ (c1 : Int) = 1 := by omega
      have hbc : bt ≤ c1 := by omega
      have hbi : (1 : Int) ≤ (bt : Int) := by omega
      have hwr : IntKind.i64.wrap ((bt : Int) + 1 - 1) = (bt : Int) := by rw [IntWalk.i64_in _ (by omega)]; omega
      have hwr2 : IntKind.i64.wrap (bt : Int) = (bt : Int) := IntWalk.i64_in _ (by omega)
      have hbb : (bt : Int) < (bt : Int) + 1 := by omega
      have hn3s : n3 ≤ 4294967296 := by omega
      have hn32 : 2 + n3 = n3 + 2 := Nat.add_comm 2 n3
      have HLIT := Lib.hid (World.ownsRow_lit (base := wr.heap.size) (e := 3) (size := 1) wr #[.int .i64 x, .int .i64 y] 2 (Nat.le_refl _) (by decide) rfl)
      have HBA := Lib.hid (hbw.alloc hszw (.cells #[.int .i64 x, .int .i64 y] 3))
      have HQA := Lib.hid (ints_of (hown.alloc (.cells #[.int .i64 x, .int .i64 y] 3)))
      have hsa : wr.heap.size ≤ (wr.alloc (.cells #[.int .i64 x, .int .i64 y] 3)).heap.size := by simp
      clear HI HA1 HB1 HLU hown hbw hat hn1
      go_wp2
      have HLD : Hid ((wr.alloc (.cells #[.int .i64 x, .int .i64 y] 3)).drew.ownsRow wr.heap.size 3 1 (.slice (some ⟨wr.heap.size, 0, none⟩) 2 2) 2 (vals [x, y])) := HLIT.out
      have HQD : Hid (IntsAt (wr.alloc (.cells #[.int .i64 x, .int .i64 y] 3)).drew (wr.alloc (.cells #[.int .i64 x, .int .i64 y] 3)).drew.heap.size .i64 A3 q) := HQA.out
      have HSD : Hid (wr.heap.size ≤ (wr.alloc (.cells #[.int .i64 x, .int .i64 y] 3)).drew.heap.size) := hsa
      have h2s : 2 ≤ 1048576 := by decide
      have hn3t : n3 ≤ 1048576 := by omega
      go_region_law (refine step_app_r rfl (.tmp 17) (.tmp 18) 28 rfl wr.heap.size 3 i0 Tryz.underlying28 hi hz0 hz1 hz2 (some ⟨wr.heap.size, 0, none⟩) 2 2 [x, y] rfl HLD.out A3 n3 c3 q rfl hql.out hnil HQD.out h2s hn3t HSD.out hspot (n3 + 2) hn32 ?_; intro A5 c5 w5 hown5 hgr5)
      all_goals
        have HB5 := Lib.hid (HBA.out.drew.grown hgr5 HBA.out.drew.size (fun b h => Nat.le_trans hszw (own_lo HLIT.out b h).1))
        have HO5 := Lib.hid (own_mono hown5 hszw)
        clear hown5 hgr5
        go_wp2
        exact ⟨⟨bt - 1, n3 + 2, c1 - 1, c5, _, A5, v.take (bt - 1), [x, y] ++ q, rfl, rfl, HLT, by omega, HA2, ⟨_, _, rfl⟩, by omega, HO5.out, HI2, HB5.out⟩, by simp [lenV]; omega⟩
set_option maxHeartbeats 1000000 in
theorem spec_duck_at (A : Option Addr) (n c k : Nat) (kv : Int) (zs : List Int) (w : World) (hn : zs.length = n) (h0 : 1 ≤ n) (h12 : n ≤ 12) (hkv : (kv = 0 ∧ k = 0) ∨ (kv = 1 ∧ k = 1)) (hss : IntsAt w w.heap.size .i64 A zs) :
    Calls Tryz.prog 133 #[.slice A n c, .int .i64 kv] w (IsIL w.heap.size (duckL (2 * n + 2) zs [] k) w) := by
  obtain ⟨i0, hi, hz0, hz1, hz2⟩ := info_parts infoInt
  obtain ⟨b, o, rfl⟩ := ints_addr hss (by omega)
  have HN := Lib.hid hn
  obtain ⟨R, hR⟩ : ∃ R, R = duckL (2 * n + 2) zs [] k := ⟨_, rfl⟩
  have HI0 := Lib.hid (show ∃ f, duM n k < f ∧ duckL f zs [] k = R from ⟨2 * n + 2, by unfold duM; split <;> omega, hR.symm⟩)
  rw [← hR]
  have HL0 := Lib.hid (World.ownsRow_lit (base := w.heap.size) (e := 3) (size := 1) w #[] 0 (Nat.le_refl _) (Nat.zero_le _) rfl)
  have hba := (Below.refl w.heap.size w).alloc (Nat.le_refl _) (.cells #[] 3)
  have HBA0 := Lib.hid hba
  have HAT0 := Lib.hid (ints_on hss hba)
  have hns : n ≤ 4294967296 := by omega
  clear hn hR hss hba
  rcases hkv with ⟨rfl, hk0⟩ | ⟨rfl, hk0⟩
  all_goals
    have HK := Lib.hid hk0
    clear hk0
    go_enter Tryz.func133, Tryz.ntmps133
    go_wp2_with (at_builtin; refine app_any rfl (.tmp 9) (.tmp 10) 28 rfl w.heap.size 3 i0 8 Tryz.underlying28 hi hz0 hz1 hz2 (by decide) _ 0 0 [] rfl HL0.out _ n c zs rfl HN.out (fun h => by cases h) _ HAT0.out (by decide) hns HBA0.out.size spot_some ?_; intro A1 c1 w1 hown1 hgr1; rw [Nat.zero_add, List.nil_append] at hown1; rw [Nat.zero_add]; have hb1 := HBA0.out.grown hgr1 HBA0.out.size (fun b h => (own_lo HL0.out b h).1); clear hgr1)
    obtain ⟨g, rfl⟩ := own_shape hown1 (by omega)
    have HQ0 := Lib.hid (q_of_own hown1)
    have HB0 := fun o => Lib.hid (hb1.alloc hb1.size o)
    have HQ1 := fun o => Lib.hid (q_kept HQ0.out (grown_new w1 o none) (fun e => by cases e))
    have hlt0 := Lib.hid (q_lt HQ0.out)
    have HLT := Lib.hid (World.ownsRow_lit (base := w.heap.size) (e := 3) (size := 1) w1 #[] 0 hb1.size (Nat.zero_le _) rfl)
    clear hown1 hb1 HL0 HBA0 HAT0
    go_wp2
    go_loopw [5, 6, 7, 8] (fun s5 s6 s7 s8 wr => ∃ (g off n1 c1 n3 c3 s : Nat) (A3 : Option Addr) (u q : List Int), s5 = .slice (some ⟨g, off, none⟩) n1 c1 ∧ s6 = .slice A3 n3 c3 ∧ s7 = .int .i64 (s : Int) ∧ s + 2 * n1 + (1 - s % 2) ≤ 30 ∧ Hid (QRow wr w.heap.size g off n1 c1 u) ∧ 1 ≤ n1 ∧ n1 ≤ c1 ∧ n1 + n3 ≤ 12 ∧
      Hid (wr.ownsRow w.heap.size 3 1 (.slice A3 n3 c3) n3 (vals q)) ∧ Hid (∀ k, A3.map (·.block) = some k → k ≠ g) ∧ Hid (∃ f, duM n1 s < f ∧ duckL f u q s = R) ∧ Below w.heap.size w wr) (fun s5 _ s7 _ _ => 2 * lenV s5 + (1 - (intOf s7 % 2).toNat))
    case atStart => exact ⟨g, 0, n, c1, 0, 0, k, _, zs, [], rfl, rfl, by rw [HK.out]; rfl, by have := HK.out; omega, (HQ1 _).out, h0, HQ0.out.2.1, by omega, HLT.out, (fun k h => by have h1 := hlt0.out.2; simp only [Option.map_some, Option.some.injEq] at h; omega), HI0, (HB0 _).out⟩
    case round =>
      obtain ⟨g, off, n1, c1, n3, c3, s, A3, u, q, rfl, rfl, rfl, hsb, HQ, hn1, hnc1, h12s, HO, HNE, HI, hbw⟩ := hrel
      clear HI0 HQ0 HB0 HQ1 HLT hlt0
      have hszw := hbw.size
      have hql := Lib.hid (q_lt HQ.out)
      have hnil := row_nil HO.out
      have hspot := row_spot HO.out
      have hol := Lib.hid (row_len HO.out)
      by_cases h1 : n1 = 1
      · subst h1
        obtain ⟨x, eu⟩ : ∃ x, u = [x] := by
          have h := HQ.out.1
          match u, h with
          | [x], _ => exact ⟨x, rfl⟩
        have HE := Lib.hid (show [x] ++ q = R by
          obtain ⟨f, hf, e⟩ := HI.out
          rw [duck_end f u q s (by rw [HQ.out.1]; exact Nat.le_refl _), eu] at e
          exact e)
        have hc : wr.cell? ⟨g, off, none⟩ = some (.int .i64 x) := by have h := q_cell HQ.out 0 (by omega); rw [eu] at h; exact h
        have HLIT := Lib.hid (World.ownsRow_lit (base := wr.heap.size) (e := 3) (size := 1) wr #[.int .i64 x] 1 (Nat.le_refl _) (by decide) rfl)
        have HQA := Lib.hid (ints_of (HO.out.alloc (.cells #[.int .i64 x] 3)))
        have HBA := Lib.hid (hbw.alloc hszw (.cells #[.int .i64 x] 3))
        have hsa : wr.heap.size ≤ (wr.alloc (.cells #[.int .i64 x] 3)).heap.size := by simp
        have h3s : n3 ≤ 4294967296 := by omega
        clear HO HI HQ HNE hbw eu
        go_wp2_with (at_builtin; refine app_any rfl (.tmp 38) (.tmp 39) 28 rfl wr.heap.size 3 i0 8 Tryz.underlying28 hi hz0 hz1 hz2 (by decide) _ 1 1 [x] rfl HLIT.out A3 n3 c3 q rfl hol.out hnil _ HQA.out (by decide) h3s hsa hspot ?_; intro A5 c5 w5 hown5 hgr5; rw [HE.out] at hown5; have he5 := Lib.hid (row_end (own_mono hown5 hszw) (HBA.out.grown hgr5 HBA.out.size (fun b h => Nat.le_trans hszw (own_lo HLIT.out b h).1))); have hcm := Nat.add_comm 1 n3; rw [hcm] at he5 ⊢; clear hown5 hgr5)
        go_ret
        exact he5.out
      · obtain ⟨m, rfl⟩ : ∃ m, n1 = m + 1 := ⟨n1 - 1, by omega⟩
        have hm : 1 ≤ m := by omega
        obtain ⟨x, v, e2⟩ : ∃ x v, u = x :: v := by
          cases u with
          | nil => have := HQ.out.1; simp at this
          | cons x v => exact ⟨x, v, rfl⟩
        subst e2
        have HLV := Lib.hid (show v.length = m by have := HQ.out.1; simpa using this)
        have hc : wr.cell? ⟨g, off, none⟩ = some (.int .i64 x) := q_cell HQ.out 0 (by omega)
        have HQP := Lib.hid (q_pop HQ.out)
        have hcond : (1 : Int) < (m : Int) + 1 := by omega
        have hcc1 : ¬ c1 = 1 := by omega
        have hcc2 : ¬ (c1 : Int) = 1 := by omega
        have hcm : m ≤ c1 - 1 := by omega
        have hm0 : 0 < m := by omega
        clear h1 hn1
        by_cases hs : s % 2 = 1
        · have hA : (((s : Int) % 2) == 1) = true := by rw [beq_iff_eq]; omega
          have HI2 := Lib.hid (duck_deal HLV.out hm hs HI.out)
          have hsb2 : s + 1 + 2 * m + (1 - (s + 1) % 2) ≤ 30 := by omega
          have HLIT := Lib.hid (World.ownsRow_lit (base := wr.heap.size) (e := 3) (size := 1) wr #[.int .i64 x] 1 (Nat.le_refl _) (by decide) rfl)
          have HQA := Lib.hid (ints_of (HO.out.alloc (.cells #[.int .i64 x] 3)))
          have HBA := Lib.hid (hbw.alloc hszw (.cells #[.int .i64 x] 3))
          have HQK := Lib.hid (q_kept HQP.out (grown_new wr (.cells #[.int .i64 x] 3) none) (fun e => by cases e))
          have hsa : wr.heap.size ≤ (wr.alloc (.cells #[.int .i64 x] 3)).heap.size := by simp
          have h3s : n3 ≤ 4294967296 := by omega
          have hmeas : 1 - ((s : Int) % 2).toNat = 0 ∧ ((s : Int) + 1) % 2 = 0 := by omega
          clear HI HO hbw HQ HQP
          go_wp2_with (at_builtin; refine app_any rfl (.tmp 28) (.tmp 29) 28 rfl wr.heap.size 3 i0 8 Tryz.underlying28 hi hz0 hz1 hz2 (by decide) _ 1 1 [x] rfl HLIT.out A3 n3 c3 q rfl hol.out hnil _ HQA.out (by decide) h3s hsa hspot ?_; intro A5 c5 w5 hown5 hgr5; have hcc := Nat.add_comm 1 n3; rw [hcc] at hown5 ⊢; have HQ5 := Lib.hid (q_kept HQK.out hgr5 (fun e => by have h1 := (own_lo HLIT.out g e).1; have h2 := hql.out.2; omega)); have HN5 := Lib.hid (show ∀ k, A5.map (·.block) = some k → k ≠ g from fun k hk e => by have h1 := (own_lo hown5 k hk).1; have h2 := hql.out.2; omega); have HO5 := Lib.hid (own_mono hown5 hszw); have HB5 := Lib.hid (HBA.out.grown hgr5 HBA.out.size (fun b h => Nat.le_trans hszw (own_lo HLIT.out b h).1)); clear hown5 hgr5)
          go_roundw
          case rel => exact ⟨g, off + 1, m, c1 - 1, n3 + 1, c5, s + 1, A5, v, [x] ++ q, rfl, rfl, by go_num, hsb2, HQ5, hm, hcm, by omega, HO5, HN5, HI2, HB5.out⟩
          case measure => simp [lenV, intOf]; omega
        · have hA : (((s : Int) % 2) == 1) = false := by rw [beq_eq_false_iff_ne]; omega
          have HI2 := Lib.hid (duck_keep HLV.out hm hs HI.out)
          have hsb2 : s + 1 + 2 * (m + 1) + (1 - (s + 1) % 2) ≤ 30 := by omega
          have hms : m ≤ 1048576 := by omega
          clear HI
          go_wp2_with (at_builtin; refine app_queue rfl (.tmp 31) (.tmp 33) 28 rfl w.heap.size i0 Tryz.underlying28 hi hz0 hz1 hz2 g (off + 1) m (c1 - 1) v rfl HQP.out x _ rfl rfl hms hszw ?_; intro g5 off5 c5 w5 hq5 hg5 hd5; have HQ5 := Lib.hid hq5; have HO5 := Lib.hid (own_gr HO.out hg5 (fun k hk e => by simp only [Option.some.injEq] at e; exact HNE.out k hk e.symm)); have HB5 := Lib.hid (hbw.grown hg5 hszw (fun k hk => by simp only [Option.some.injEq] at hk; have := hql.out.1; omega)); have HN5 := Lib.hid (show ∀ k, A3.map (·.block) = some k → k ≠ g5 by intro k hk e; rcases hd5 with h | h; exact HNE.out k hk (e.trans h); have := (own_lo HO.out k hk).2; omega); clear hq5 hg5 hd5)
          go_roundw
          case rel => exact ⟨g5, off5, m + 1, c5, n3, c3, s + 1, A3, v ++ [x], q, rfl, rfl, by go_num, hsb2, HQ5, by omega, HQ5.out.2.1, by omega, HO5, HN5, HI2, HB5.out⟩
          case measure => simp [lenV, intOf]; omega
end Go.Proofs.YthcggkhpamjjbaaGreat.Sv3
