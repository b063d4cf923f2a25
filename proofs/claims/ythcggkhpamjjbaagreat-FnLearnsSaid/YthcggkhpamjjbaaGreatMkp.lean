/- How the laws draw a permutation (l02Shuffle, MakePerm), and their 'same': two lists of ints are one. -/
import Derived.Test.YthcggkhpamjjbaaGreatGrp
import Derived.Test.YthcggkhpamjjbaaGreatCur
set_option linter.unusedVariables false
set_option maxRecDepth 20000
namespace Go.Proofs.YthcggkhpamjjbaaGreat.Mkp
open Go.RowKit Fr Own Pk Ins Pok Prm Rws Pfn Sam Grp Cur

theorem keep_more {w w1 w2 : World} {c : Nat} {row : Option Nat} (h : w.grownBy w1 (some c)) (hg : w1.grownBy w2 row) (hr : ∀ k, row = some k → w.heap.size ≤ k ∨ k = c) : w.grownBy w2 (some c) :=
  ⟨hg.os.trans h.os, hg.tape.trans h.tape, hg.output.trans h.output, Nat.le_trans h.size hg.size, fun k hk hne =>
    (hg.block k (Nat.lt_of_lt_of_le hk h.size) (fun e => by rcases hr k e.symm with h1 | h1; omega; exact hne (by rw [h1]))).trans (h.block k hk hne)⟩
theorem only_grown {c : Nat} {w w' : World} (h : Only c w w') : w.grownBy w' (some c) := ⟨h.os, h.tape, h.output, by rw [h.size]; exact Nat.le_refl _, fun k _ hne => h.block k (fun e => hne (by rw [e]))⟩
theorem cur_grown {w w' : World} {c : Nat} {A : Option Addr} {n cap : Nat} {row : Option Nat} (h : IsCur w c A n cap) (hg : w.grownBy w' row) (hr : row ≠ some c) : IsCur w' c A n cap := by
  have hlt := h.lt
  obtain ⟨i, x, hi, hh⟩ := h
  exact ⟨i, x, hi, (hg.block c hlt (fun e => hr e.symm)).trans hh⟩

def Shuffled (c : Nat) (A : Option Addr) (n cap m : Nat) (w : World) (e : Ending) (w' : World) : Prop :=
  ∃ A2 c2 zs, e = .returned (.slice A2 m c2) ∧ zs.length = m ∧ permB zs = true ∧ w'.ownsRow w.heap.size 3 1 (.slice A2 m c2) m (vals zs) ∧ IsCur w' c A n cap ∧ w.grownBy w' (some c)
set_option maxHeartbeats 1000000 in
theorem shuffle_any (B c : Nat) (A : Option Addr) (n cap m : Nat) (w : World) (hm : m ≤ 12) (hn : n ≤ 1048576) (hB : B ≤ c) (hcur : IsCur w c A n cap) (hbytes : BytesAt w B A n) :
    Calls Tryz.prog 64 #[.pointer (some ⟨c, 0, none⟩), .int .i64 (m : Int)] w (Shuffled c A n cap m w) := by
  obtain ⟨i0, hi, hz0, hz1, hz2⟩ := info_parts infoInt
  have hcw := hcur.lt
  have hal := (Below.refl w.heap.size w).alloc (Nat.le_refl _) (.cells #[] 3)
  have HC0 := Lib.hid (hcur.below hal hcw)
  have HG0 := Lib.hid (show w.grownBy (w.alloc (.cells #[] 3)) (some c) from ⟨hal.os, hal.tape, hal.output, hal.size, fun k hk _ => hal.block k hk⟩)
  have HO0 := Lib.hid (World.ownsRow_lit (base := w.heap.size) (e := 3) (size := 1) w #[] 0 (Nat.le_refl _) (Nat.zero_le _) rfl)
  clear hcur hal
  go_enter Tryz.func64, Tryz.ntmps64
  go_wp2
  go_loopw [5, 6] (fun v i wr => ∃ k : Nat, k ≤ m ∧ i = .int .i64 (k : Int) ∧ (∃ A2 c2 zs, v = .slice A2 k c2 ∧ Hid (zs.length = k) ∧ Hid (permB zs = true) ∧ wr.ownsRow w.heap.size 3 1 (.slice A2 k c2) k (vals zs)) ∧ IsCur wr c A n cap ∧ w.grownBy wr (some c)) (fun _ i _ => m - (intOf i).toNat)
  case atStart => exact ⟨0, Nat.zero_le _, rfl, ⟨_, _, [], rfl, rfl, rfl, HO0.out⟩, HC0.out, HG0.out⟩
  case round =>
    obtain ⟨k, hk, rfl, ⟨A2, c2, zs, rfl, HL, HP, hown⟩, hcur, hgr⟩ := hrel
    clear HC0 HG0 HO0
    have hszk := hgr.size
    by_cases hlt : k < m
    · have hby := hbytes.below ((Below.refl B w).grown hgr (by omega) (fun k hk => by simp only [Option.some.injEq] at hk; omega))
      go_wp2_with fail
      refine (below_any B c A n cap ((k : Int) + 1) _ (by omega) (by omega) hn hB hcur hby).mono ?_
      rintro e w2 ⟨x, rfl, hx0, hx1, hcur2, hon⟩
      obtain ⟨y, rfl⟩ : ∃ y : Nat, x = y := ⟨x.toNat, by omega⟩
      have hyk : y ≤ k := by omega
      have hgo := only_grown hon
      have hown2 := own_gr hown hgo (fun b hb e => by simp only [Option.some.injEq] at e; have := (own_lo hown b hb).1; omega)
      have hgr2 := keep_more hgr hgo (fun b hb => by simp only [Option.some.injEq] at hb; exact Or.inr hb.symm)
      have hsz2 := hgr2.size
      have HP2 := Lib.hid (shuf_perm HP.out (by rw [HL.out]; omega) (by rw [HL.out]; exact hyk))
      have HL2 := Lib.hid (shuf_len zs y)
      have HSH := Lib.hid (show shuf zs y = ((zs ++ [(k : Int)]).set k ((zs ++ [(k : Int)]).getD y 0)).set y (k : Int) by unfold shuf; rw [HL.out])
      have HLL := Lib.hid (show (zs ++ [(k : Int)]).length = k + 1 by rw [List.length_append, HL.out]; rfl)
      have HCU := Lib.hid hcur2
      have HGR := Lib.hid hgr2
      clear hcur hby hon hgo hown hgr hcur2 hgr2
      go_wp2_with (at_builtin; refine app_more rfl (.tmp 18) (.tmp 20) 28 rfl w.heap.size 3 i0 (.int .i64 0) 8 Tryz.underlying28 hi hz0 hz1 hz2 (by decide) rfl _ _ _ _ rfl hown2 (.int .i64 (k : Int)) rfl _ rfl rfl (by omega) hsz2 ?_; intro g c4 w3 hown3 hgr3; have hgw := (own_lo hown3 g rfl).1; have hgr4 := keep_more HGR.out hgr3 (fun b hb => Or.inl (own_lo hown2 b hb).1); have hcur4 := cur_grown HCU.out hgr3 (fun e => by have := (own_lo hown2 c e).1; omega); have hrow : w3.ownsRow w.heap.size 3 1 (.slice (some ⟨g, 0, none⟩) (k + 1) c4) (k + 1) (vals (zs ++ [(k : Int)])) := (by unfold vals; rw [List.map_append]; exact hown3); have hcy : w3.cell? ⟨g, y, none⟩ = some (.int .i64 ((zs ++ [(k : Int)]).getD y 0)) := (by rw [hrow.cellAt y (by omega)]; exact vals_get (by rw [HLL.out]; omega)); have hck : w3.cell? ⟨g, k, none⟩ = some (.int .i64 ((zs ++ [(k : Int)]).getD k 0)) := (by rw [hrow.cellAt k (by omega)]; exact vals_get (by rw [HLL.out]; omega)); have hfk := hrow.frozenAt k; have hst := hrow.stored k (.int .i64 ((zs ++ [(k : Int)]).getD y 0)); rw [vals_set] at hst; have hfy := hst.1.frozenAt y; have hsy := hst.1.stored y (.int .i64 (k : Int)); rw [vals_set, ← HSH.out] at hsy; have hcy2 : (w3.setCell ⟨g, k, none⟩ (.int .i64 ((zs ++ [(k : Int)]).getD y 0))).cell? ⟨g, y, none⟩ = some (.int .i64 (((zs ++ [(k : Int)]).set k ((zs ++ [(k : Int)]).getD y 0)).getD y 0)) := (by rw [hst.1.cellAt y (by omega)]; exact vals_get (by rw [List.length_set, HLL.out]; omega)); have HOWN := Lib.hid hsy.1; have HGR4 := Lib.hid (keep_more (keep_more hgr4 hst.2 (fun b hb => by simp only [Option.some.injEq] at hb; omega)) hsy.2 (fun b hb => by simp only [Option.some.injEq] at hb; omega)); have HCU4 := Lib.hid (cur_grown (cur_grown hcur4 hst.2 (fun e => by simp only [Option.some.injEq] at e; omega)) hsy.2 (fun e => by simp only [Option.some.injEq] at e; omega)); clear hst hsy hgr4 hcur4 hrow hown3 hgr3 hown2; generalize ((zs ++ [(k : Int)]).set k ((zs ++ [(k : Int)]).getD y 0)).getD y 0 = o3 at *; generalize (zs ++ [(k : Int)]).getD y 0 = o1 at *; generalize (zs ++ [(k : Int)]).getD k 0 = o2 at *)
      go_roundw
      case rel => exact ⟨k + 1, by omega, by go_num, ⟨_, _, shuf zs y, rfl, by show _ = _; rw [HL2.out, HL.out], HP2.out, HOWN.out⟩, HCU4.out, HGR4.out⟩
      case measure => simp [intOf]; omega
    · have hkm : k = m := by omega
      subst hkm
      have HO := Lib.hid hown
      clear hown
      go_wp2
      go_ret
      exact ⟨A2, c2, zs, rfl, HL.out, HP.out, HO.out, hcur, hgr⟩
set_option maxHeartbeats 1000000 in
theorem same_any (A1 A2 : Option Addr) (n m c1 c2 : Nat) (us vs : List Int) (w : World) (hn : us.length = n) (hm : vs.length = m) (hn2 : n ≤ 9223372036854775807) (hm2 : m ≤ 9223372036854775807) (h1 : IntsAt w w.heap.size .i64 A1 us) (h2 : IntsAt w w.heap.size .i64 A2 vs) :
    Calls Tryz.prog 31 #[.slice A1 n c1, .slice A2 m c2] w fun e w' => e = .returned (.bool (sameB us vs)) ∧ w = w' := by
  by_cases hnm : n = m
  · subst hnm
    have HN := Lib.hid hn
    have HM := Lib.hid hm
    clear hn hm
    go_enter Tryz.func31, Tryz.ntmps31
    go_wp2
    go_loop [14] (fun i => ∃ k : Nat, k ≤ n ∧ i = .int .i64 k ∧ Hid (∀ i, i < k → us.getD i 0 = vs.getD i 0)) (fun i => n - (intOf i).toNat)
    case atStart => exact ⟨0, Nat.zero_le _, rfl, (fun i hi => absurd hi (Nat.not_lt_zero _))⟩
    case round =>
      obtain ⟨k, hk, rfl, HE⟩ := hrel
      by_cases hlt : k < n
      · obtain ⟨b1, o1, rfl, hbb1, hc1⟩ := h1 k (by rw [HN.out]; exact hlt)
        obtain ⟨b2, o2, rfl, hbb2, hc2⟩ := h2 k (by rw [HM.out]; exact hlt)
        have hno := same_not us vs k
        have hst : us.getD k 0 = vs.getD k 0 → ∀ i, i < k + 1 → us.getD i 0 = vs.getD i 0 := by
          intro e i hi
          by_cases hik : i = k
          · rw [hik]; exact e
          · exact HE.out i (by omega)
        generalize us.getD k 0 = x at hc1 hno hst
        generalize vs.getD k 0 = y at hc2 hno hst
        by_cases hxy : x = y
        · have HS := Lib.hid (hst hxy)
          have hb : (x == y) = true := by simpa using hxy
          clear hst hno HE hxy
          go_wp2
          go_round
          case rel => exact ⟨k + 1, by omega, by go_num, HS.out⟩
          case measure => simp [intOf]; omega
        · have HS := Lib.hid (show sameB us vs = false from decide_eq_false (hno hxy))
          have hb : (x == y) = false := by simpa using hxy
          clear hst hno HE hxy
          go_wp2
          go_ret
          exact ⟨ret_b HS.out.symm, rfl⟩
      · have hkn : k = n := by omega
        have hall := HE.out
        rw [hkn] at hall
        have HS := Lib.hid (show sameB us vs = true from decide_eq_true (same_all us vs (by rw [HN.out, HM.out]) (by rw [HN.out]; exact hall)))
        clear hall HE hkn
        go_wp2
        go_ret
        exact ⟨ret_b HS.out.symm, rfl⟩
  · have HS := Lib.hid (show sameB us vs = false from decide_eq_false (fun e => hnm (by rw [← hn, ← hm, e])))
    have hb : ((n : Int) == (m : Int)) = false := by simpa using (fun e => hnm (by omega))
    clear hn hm hnm
    go_enter Tryz.func31, Tryz.ntmps31
    go_wp2
    go_ret
    exact ⟨ret_b HS.out.symm, rfl⟩
end Go.Proofs.YthcggkhpamjjbaaGreat.Mkp
