/- The model's moves: l04Milk, l04Duck. -/
import Derived.Test.YtaacdhccebedmaaSv2
set_option linter.unusedVariables false
set_option maxRecDepth 20000
namespace Go.Proofs.Ytaacdhccebedmaa.Sv3
open Go.RowKit Fr Own Pk Ins Pfn Rws Lb Cat Mvp Mv1 Mv2 Mv3 Mv4 Sv Sv2

set_option maxHeartbeats 1000000 in
theorem spec_duck_at (A : Option Addr) (n c k : Nat) (kv : Int) (zs : List Int) (w : World) (hn : zs.length = n) (h0 : 1 ≤ n) (h12 : n ≤ 12) (hkv : (kv = 0 ∧ k = 0) ∨ (kv = 1 ∧ k = 1)) (hss : IntsAt w w.heap.size .i64 A zs) :
    Calls Try.prog 40 #[.slice A n c, .int .i64 kv] w (IsIL w.heap.size (duckL (2 * n + 2) zs [] k) w) := by
  obtain ⟨i0, hi, hz0, hz1, hz2⟩ := info_parts infoInt
  obtain ⟨b, o, rfl⟩ := ints_addr hss (by omega)
  have HN := Lib.hid hn
  obtain ⟨R, hR⟩ : ∃ R, R = duckL (2 * n + 2) zs [] k := ⟨_, rfl⟩
  have HI0 := Lib.hid (show ∃ f, duM n k < f ∧ duckL f zs [] k = R from ⟨2 * n + 2, by unfold duM; split <;> omega, hR.symm⟩)
  rw [← hR]
  have HL0 := Lib.hid (World.ownsRow_lit (base := w.heap.size) (e := 3) (size := 1) w #[] 0 (Nat.le_refl _) (Nat.zero_le _) rfl)
  have hba := (Below.refl w.heap.size w).alloc (Nat.le_refl _) (.cells #[] 3)
  have HBA0 := Lib.hid hba
  have HAT0 := Lib.hid (ints_on hss hba)
  have hns : n ≤ 4294967296 := by omega
  clear hn hR hss hba
  rcases hkv with ⟨rfl, hk0⟩ | ⟨rfl, hk0⟩
  all_goals
    have HK := Lib.hid hk0
    clear hk0
    go_enter Try.func40, Try.ntmps40
    go_wp2_with (at_builtin; refine app_any rfl (.tmp 9) (.tmp 10) 23 rfl w.heap.size 3 i0 8 Try.underlying23 hi hz0 hz1 hz2 (by decide) _ 0 0 [] rfl HL0.out _ n c zs rfl HN.out (fun h => by cases h) _ HAT0.out (by decide) hns HBA0.out.size spot_some ?_; intro A1 c1 w1 hown1 hgr1; rw [Nat.zero_add, List.nil_append] at hown1; rw [Nat.zero_add]; have hb1 := HBA0.out.grown hgr1 HBA0.out.size (fun b h => (own_lo HL0.out b h).1); clear hgr1)
    obtain ⟨g, rfl⟩ := own_shape hown1 (by omega)
    have HQ0 := Lib.hid (q_of_own hown1)
    have HB0 := fun o => Lib.hid (hb1.alloc hb1.size o)
    have HQ1 := fun o => Lib.hid (q_kept HQ0.out (grown_new w1 o none) (fun e => by cases e))
    have hlt0 := Lib.hid (q_lt HQ0.out)
    have HLT := Lib.hid (World.ownsRow_lit (base := w.heap.size) (e := 3) (size := 1) w1 #[] 0 hb1.size (Nat.zero_le _) rfl)
    clear hown1 hb1 HL0 HBA0 HAT0
    go_wp2
    go_loopw [5, 6, 7, 8] (fun s5 s6 s7 s8 wr => ∃ (g off n1 c1 n3 c3 s : Nat) (A3 : Option Addr) (u q : List Int), s5 = .slice (some ⟨g, off, none⟩) n1 c1 ∧ s6 = .slice A3 n3 c3 ∧ s7 = .int .i64 (s : Int) ∧ s + 2 * n1 + (1 - s % 2) ≤ 30 ∧ Hid (QRow wr w.heap.size g off n1 c1 u) ∧ 1 ≤ n1 ∧ n1 ≤ c1 ∧ n1 + n3 ≤ 12 ∧
      Hid (wr.ownsRow w.heap.size 3 1 (.slice A3 n3 c3) n3 (vals q)) ∧ Hid (∀ k, A3.map (·.block) = some k → k ≠ g) ∧ Hid (∃ f, duM n1 s < f ∧ duckL f u q s = R) ∧ Below w.heap.size w wr) (fun s5 _ s7 _ _ => 2 * lenV s5 + (1 - (intOf s7 % 2).toNat))
    case atStart => exact ⟨g, 0, n, c1, 0, 0, k, _, zs, [], rfl, rfl, by rw [HK.out]; rfl, by have := HK.out; omega, (HQ1 _).out, h0, HQ0.out.2.1, by omega, HLT.out, (fun k h => by have h1 := hlt0.out.2; simp only [Option.map_some, Option.some.injEq] at h; omega), HI0, (HB0 _).out⟩
    case round =>
      obtain ⟨g, off, n1, c1, n3, c3, s, A3, u, q, rfl, rfl, rfl, hsb, HQ, hn1, hnc1, h12s, HO, HNE, HI, hbw⟩ := hrel
      clear HI0 HQ0 HB0 HQ1 HLT hlt0
      have hszw := hbw.size
      have hql := Lib.hid (q_lt HQ.out)
      have hnil := row_nil HO.out
      have hspot := row_spot HO.out
      have hol := Lib.hid (row_len HO.out)
      by_cases h1 : n1 = 1
      · subst h1
        obtain ⟨x, eu⟩ : ∃ x, u = [x] := by
          have h := HQ.out.1
          match u, h with
          | [x], _ => exact ⟨x, rfl⟩
        have HE := Lib.hid (show [x] ++ q = R by
          obtain ⟨f, hf, e⟩ := HI.out
          rw [duck_end f u q s (by rw [HQ.out.1]; exact Nat.le_refl _), eu] at e
          exact e)
        have hc : wr.cell? ⟨g, off, none⟩ = some (.int .i64 x) := by have h := q_cell HQ.out 0 (by omega); rw [eu] at h; exact h
        have HLIT := Lib.hid (World.ownsRow_lit (base := wr.heap.size) (e := 3) (size := 1) wr #[.int .i64 x] 1 (Nat.le_refl _) (by decide) rfl)
        have HQA := Lib.hid (ints_of (HO.out.alloc (.cells #[.int .i64 x] 3)))
        have HBA := Lib.hid (hbw.alloc hszw (.cells #[.int .i64 x] 3))
        have hsa : wr.heap.size ≤ (wr.alloc (.cells #[.int .i64 x] 3)).heap.size := by simp
        have h3s : n3 ≤ 4294967296 := by omega
        clear HO HI HQ HNE hbw eu
        go_wp2_with (at_builtin; refine app_any rfl (.tmp 38) (.tmp 39) 23 rfl wr.heap.size 3 i0 8 Try.underlying23 hi hz0 hz1 hz2 (by decide) _ 1 1 [x] rfl HLIT.out A3 n3 c3 q rfl hol.out hnil _ HQA.out (by decide) h3s hsa hspot ?_; intro A5 c5 w5 hown5 hgr5; rw [HE.out] at hown5; have he5 := Lib.hid (row_end (own_mono hown5 hszw) (HBA.out.grown hgr5 HBA.out.size (fun b h => Nat.le_trans hszw (own_lo HLIT.out b h).1))); have hcm := Nat.add_comm 1 n3; rw [hcm] at he5 ⊢; clear hown5 hgr5)
        go_ret
        exact he5.out
      · obtain ⟨m, rfl⟩ : ∃ m, n1 = m + 1 := ⟨n1 - 1, by omega⟩
        have hm : 1 ≤ m := by omega
        obtain ⟨x, v, e2⟩ : ∃ x v, u = x :: v := by
          cases u with
          | nil => have := HQ.out.1; simp at this
          | cons x v => exact ⟨x, v, rfl⟩
        subst e2
        have HLV := Lib.hid (show v.length = m by have := HQ.out.1; simpa using this)
        have hc : wr.cell? ⟨g, off, none⟩ = some (.int .i64 x) := q_cell HQ.out 0 (by omega)
        have HQP := Lib.hid (q_pop HQ.out)
        have hcond : (1 : Int) < (m : Int) + 1 := by omega
        have hcc1 : ¬ c1 = 1 := by omega
        have hcc2 : ¬ (c1 : Int) = 1 := by omega
        have hcm : m ≤ c1 - 1 := by omega
        have hm0 : 0 < m := by omega
        clear h1 hn1
        by_cases hs : s % 2 = 1
        · have hA : (((s : Int) % 2) == 1) = true := by rw [beq_iff_eq]; omega
          have HI2 := Lib.hid (duck_deal HLV.out hm hs HI.out)
          have hsb2 : s + 1 + 2 * m + (1 - (s + 1) % 2) ≤ 30 := by omega
          have HLIT := Lib.hid (World.ownsRow_lit (base := wr.heap.size) (e := 3) (size := 1) wr #[.int .i64 x] 1 (Nat.le_refl _) (by decide) rfl)
          have HQA := Lib.hid (ints_of (HO.out.alloc (.cells #[.int .i64 x] 3)))
          have HBA := Lib.hid (hbw.alloc hszw (.cells #[.int .i64 x] 3))
          have HQK := Lib.hid (q_kept HQP.out (grown_new wr (.cells #[.int .i64 x] 3) none) (fun e => by cases e))
          have hsa : wr.heap.size ≤ (wr.alloc (.cells #[.int .i64 x] 3)).heap.size := by simp
          have h3s : n3 ≤ 4294967296 := by omega
          have hmeas : 1 - ((s : Int) % 2).toNat = 0 ∧ ((s : Int) + 1) % 2 = 0 := by omega
          clear HI HO hbw HQ HQP
          go_wp2_with (at_builtin; refine app_any rfl (.tmp 28) (.tmp 29) 23 rfl wr.heap.size 3 i0 8 Try.underlying23 hi hz0 hz1 hz2 (by decide) _ 1 1 [x] rfl HLIT.out A3 n3 c3 q rfl hol.out hnil _ HQA.out (by decide) h3s hsa hspot ?_; intro A5 c5 w5 hown5 hgr5; have hcc := Nat.add_comm 1 n3; rw [hcc] at hown5 ⊢; have HQ5 := Lib.hid (q_kept HQK.out hgr5 (fun e => by have h1 := (own_lo HLIT.out g e).1; have h2 := hql.out.2; omega)); have HN5 := Lib.hid (show ∀ k, A5.map (·.block) = some k → k ≠ g from fun k hk e => by have h1 := (own_lo hown5 k hk).1; have h2 := hql.out.2; omega); have HO5 := Lib.hid (own_mono hown5 hszw); have HB5 := Lib.hid (HBA.out.grown hgr5 HBA.out.size (fun b h => Nat.le_trans hszw (own_lo HLIT.out b h).1)); clear hown5 hgr5)
          go_roundw
          case rel => exact ⟨g, off + 1, m, c1 - 1, n3 + 1, c5, s + 1, A5, v, [x] ++ q, rfl, rfl, by go_num, hsb2, HQ5, hm, hcm, by omega, HO5, HN5, HI2, HB5.out⟩
          case measure => simp [lenV, intOf]; omega
        · have hA : (((s : Int) % 2) == 1) = false := by rw [beq_eq_false_iff_ne]; omega
          have HI2 := Lib.hid (duck_keep HLV.out hm hs HI.out)
          have hsb2 : s + 1 + 2 * (m + 1) + (1 - (s + 1) % 2) ≤ 30 := by omega
          have hms : m ≤ 1048576 := by omega
          clear HI
          go_wp2_with (at_builtin; refine app_queue rfl (.tmp 31) (.tmp 33) 23 rfl w.heap.size i0 Try.underlying23 hi hz0 hz1 hz2 g (off + 1) m (c1 - 1) v rfl HQP.out x _ rfl rfl hms hszw ?_; intro g5 off5 c5 w5 hq5 hg5 hd5; have HQ5 := Lib.hid hq5; have HO5 := Lib.hid (own_gr HO.out hg5 (fun k hk e => by simp only [Option.some.injEq] at e; exact HNE.out k hk e.symm)); have HB5 := Lib.hid (hbw.grown hg5 hszw (fun k hk => by simp only [Option.some.injEq] at hk; have := hql.out.1; omega)); have HN5 := Lib.hid (show ∀ k, A3.map (·.block) = some k → k ≠ g5 by intro k hk e; rcases hd5 with h | h; exact HNE.out k hk (e.trans h); have := (own_lo HO.out k hk).2; omega); clear hq5 hg5 hd5)
          go_roundw
          case rel => exact ⟨g5, off5, m + 1, c5, n3, c3, s + 1, A3, v ++ [x], q, rfl, rfl, by go_num, hsb2, HQ5, by omega, HQ5.out.2.1, by omega, HO5, HN5, HI2, HB5.out⟩
          case measure => simp [lenV, intOf]; omega
end Go.Proofs.Ytaacdhccebedmaa.Sv3
