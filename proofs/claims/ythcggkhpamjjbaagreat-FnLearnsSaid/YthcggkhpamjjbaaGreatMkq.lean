/- How the laws draw a packet (l01Once, l02Draw, MakePacket). -/
import Derived.Test.YthcggkhpamjjbaaGreatMkp
import Derived.Test.YthcggkhpamjjbaaGreatMvp
set_option linter.unusedVariables false
set_option maxRecDepth 20000
namespace Go.Proofs.YthcggkhpamjjbaaGreat.Mkq
open Go.RowKit Fr Own Pk Pok Ins Prm Pfn Rws Grp Cur Mkp Mvp

theorem perm_ok {zs : List Int} (h : permB zs = true) : okB zs = true := by
  obtain ⟨h12, hall⟩ := permB_yes h
  have hb : ∀ i, i < zs.length → 0 ≤ zs.getD i 0 ∧ zs.getD i 0 < (zs.length : Nat) := fun i hi => (hall i hi).1
  have hne : ∀ i j, i < j → j < zs.length → zs.getD i 0 ≠ zs.getD j 0 := by
    intro i j hij hj e
    apply (hall j hj).2
    rw [← e, List.getD_eq_getElem?_getD, List.getElem?_eq_getElem (by omega)]
    have hi : i < (zs.take j).length := by rw [List.length_take]; omega
    have e2 : (zs.take j)[i] = zs[i] := by rw [List.getElem_take]
    rw [Option.getD_some, ← e2]
    exact List.getElem_mem _
  refine ok_of h12 (fun i hi => ?_) (fun i j hi hj e => ?_)
  · have := hb i hi
    rw [cardF_down (by omega) (by omega)]; omega
  · have h1 := hb i hi
    have h2 := hb j hj
    rw [cardF_down (by omega) (by omega), cardF_down (by omega) (by omega)] at e
    rcases Nat.lt_trichotomy i j with hij | hij | hij
    · exact absurd e (hne i j hij hj)
    · exact hij
    · exact absurd e.symm (hne j i hij hi)
theorem flip_ok {zs : List Int} {i : Nat} (h : okB zs = true) (hi : i < zs.length) : okB (zs.set i (-1 - zs.getD i 0)) = true := by
  have hp := ok_parts h
  have hc := cardF_pos (hp.2.1 i hi)
  have e : -1 - zs.getD i 0 = turnF (zs.getD i 0) := by unfold turnF; rw [if_pos hc]
  rw [e]
  have hk : kOk 8 i zs.length = true := by unfold kOk; simp [hi]
  have hm := move_ok hk (by omega) h
  exact hm
def OnceDrawn (c : Nat) (A : Option Addr) (n cap : Nat) (w : World) (e : Ending) (w' : World) : Prop :=
  ∃ b : Bool, e = .returned (.bool b) ∧ IsCur w' c A n cap ∧ Only c w w'
theorem once_any (B c : Nat) (A : Option Addr) (n cap : Nat) (m : Int) (w : World) (hm0 : 1 ≤ m) (hm1 : m ≤ 256) (hn : n ≤ 1048576) (hB : B ≤ c) (hcur : IsCur w c A n cap) (hbytes : BytesAt w B A n) :
    Calls Tryz.prog 65 #[.pointer (some ⟨c, 0, none⟩), .int .i64 m] w (OnceDrawn c A n cap w) := by
  go_enter Tryz.func65, Tryz.ntmps65
  go_wp2_with fail
  refine (below_any B c A n cap m _ hm0 hm1 hn hB hcur hbytes).mono ?_
  rintro e w2 ⟨x, rfl, _, _, hc2, ho2⟩
  go_wp2
  go_ret
  exact ⟨_, rfl, hc2, ho2⟩
def Drawn (c : Nat) (A : Option Addr) (n cap most : Nat) (w : World) (e : Ending) (w' : World) : Prop :=
  ∃ A2 m c2 zs, e = .returned (.slice A2 m c2) ∧ zs.length = m ∧ 1 ≤ m ∧ m ≤ most ∧ okB zs = true ∧ w'.ownsRow w.heap.size 3 1 (.slice A2 m c2) m (vals zs) ∧ IsCur w' c A n cap ∧ w.grownBy w' (some c)
set_option maxHeartbeats 1000000 in
theorem draw_any (B c : Nat) (A : Option Addr) (n cap most : Nat) (w : World) (hm : 1 ≤ most) (hm2 : most ≤ 12) (hn : n ≤ 1048576) (hB : B ≤ c) (hcur : IsCur w c A n cap) (hbytes : BytesAt w B A n) :
    Calls Tryz.prog 43 #[.pointer (some ⟨c, 0, none⟩), .int .i64 (most : Int)] w (Drawn c A n cap most w) := by
  have hcw := hcur.lt
  go_enter Tryz.func43, Tryz.ntmps43
  go_wp2_with fail
  refine (below_any B c A n cap (most : Int) _ (by omega) (by omega) hn hB hcur hbytes).mono ?_
  rintro e w1 ⟨x, rfl, hx0, hx1, hcur1, hon1⟩
  obtain ⟨y, rfl⟩ : ∃ y : Nat, x = y := ⟨x.toNat, by omega⟩
  have hby1 := hbytes.below (hon1.below hB)
  have hg1 := only_grown hon1
  have hsz1 := hon1.size
  have H1Y := Lib.hid (show (1 : Int) + (y : Int) = ((y + 1 : Nat) : Int) by omega)
  clear hcur hbytes hon1
  go_wp2_with fail
  rw [H1Y.out]
  refine (shuffle_any B c A n cap (y + 1) _ (by omega) hn hB hcur1 hby1).mono ?_
  rintro e w2 ⟨A2, c2, zs, rfl, hl, hp, hown, hcur2, hg2⟩
  have hg := keep_more hg1 hg2 (fun k hk => Or.inr (by simp only [Option.some.injEq] at hk; exact hk.symm))
  have hby2 := hby1.below ((Below.refl B w1).grown hg2 (by omega) (fun k hk => by simp only [Option.some.injEq] at hk; omega))
  have HOK := Lib.hid (perm_ok hp)
  have HL := Lib.hid hl
  have HO := Lib.hid (show w2.ownsRow w.heap.size 3 1 (.slice A2 (y + 1) c2) (y + 1) (vals zs) from own_mono hown (by omega))
  have HG := Lib.hid hg
  have hne : ∀ k, A2.map (·.block) = some k → k ≠ c := fun k hk e => by have := (own_lo hown k hk).1; omega
  have HNE := Lib.hid hne
  clear hl hp hown hg hne hg1 hg2 hcur1 hby1 H1Y
  have hmy : y + 1 ≤ most := by omega
  go_wp2_with fail
  refine (once_any B c A n cap 2 _ (by decide) (by decide) hn hB hcur2 hby2).mono ?_
  rintro e w3 ⟨b1, rfl, hcur3, hon3⟩
  have hg3 := only_grown hon3
  have HO3 := Lib.hid (own_gr HO.out hg3 (fun k hk e => by simp only [Option.some.injEq] at e; exact HNE.out k hk e.symm))
  have HG3 := Lib.hid (keep_more HG.out hg3 (fun k hk => Or.inr (by simp only [Option.some.injEq] at hk; exact hk.symm)))
  have HBY3 := Lib.hid (hby2.below (hon3.below hB))
  have HCU3 := Lib.hid hcur3
  clear hg3 hon3 HO HG hcur2 hby2 hcur3
  cases b1 with
  | false =>
    go_wp2
    go_ret
    exact ⟨A2, y + 1, c2, zs, rfl, HL.out, by omega, hmy, HOK.out, HO3.out, HCU3.out, HG3.out⟩
  | true =>
    go_wp2
    go_loopw [6, 17] (fun _ i wr => ∃ j : Nat, j ≤ y + 1 ∧ i = .int .i64 (j : Int) ∧ ∃ qs : List Int, Hid (qs.length = y + 1) ∧ Hid (okB qs = true) ∧ Hid (wr.ownsRow w.heap.size 3 1 (.slice A2 (y + 1) c2) (y + 1) (vals qs)) ∧ Hid (IsCur wr c A n cap) ∧ Hid (BytesAt wr B A n) ∧ w.grownBy wr (some c)) (fun _ i _ => y + 1 - (intOf i).toNat)
    case atStart => exact ⟨0, Nat.zero_le _, rfl, zs, HL, HOK, HO3.out, HCU3.out, HBY3.out, HG3.out⟩
    case round =>
      obtain ⟨j, hj, rfl, qs, HLQ, HKQ, HOQ, HCQ, HBQ, hgr⟩ := hrel
      clear HL HOK HO3 HCU3 HBY3 HG3
      have hszr := hgr.size
      by_cases hlt : j < y + 1
      · go_wp2_with fail
        refine (once_any B c A n cap 3 _ (by decide) (by decide) hn hB HCQ.out HBQ.out).mono ?_
        rintro e w5 ⟨b2, rfl, hcur5, hon5⟩
        have hg5 := only_grown hon5
        have HO5 := Lib.hid (own_gr HOQ.out hg5 (fun k hk e => by simp only [Option.some.injEq] at e; exact HNE.out k hk e.symm))
        have HG5 := Lib.hid (keep_more hgr hg5 (fun k hk => Or.inr (by simp only [Option.some.injEq] at hk; exact hk.symm)))
        have HBY5 := Lib.hid (HBQ.out.below (hon5.below hB))
        have HCU5 := Lib.hid hcur5
        clear hg5 hon5 hcur5 HOQ HCQ HBQ
        cases b2 with
        | false =>
          go_wp2
          go_roundw
          case rel => exact ⟨j + 1, by omega, by go_num, qs, HLQ, HKQ, HO5, HCU5, HBY5, HG5.out⟩
          case measure => simp [intOf]; omega
        | true =>
          obtain ⟨g, rfl⟩ := own_shape HO5.out (by omega)
          have hx := cardF_pos ((ok_parts HKQ.out).2.1 j (by rw [HLQ.out]; exact hlt))
          have hcell : w5.cell? ⟨g, j, none⟩ = some (.int .i64 (qs.getD j 0)) := by rw [HO5.out.cellAt j (by omega)]; exact vals_get (by rw [HLQ.out]; exact hlt)
          have hfz := HO5.out.frozenAt j
          have hst := HO5.out.stored j (.int .i64 (-1 - qs.getD j 0))
          rw [vals_set] at hst
          have hgg := (own_lo HO5.out g rfl)
          have HK6 := Lib.hid (flip_ok HKQ.out (i := j) (by rw [HLQ.out]; exact hlt))
          have HL6 := Lib.hid (show (qs.set j (-1 - qs.getD j 0)).length = y + 1 by rw [List.length_set]; exact HLQ.out)
          have HO6 := Lib.hid hst.1
          have HG6 := Lib.hid (keep_more HG5.out hst.2 (fun k hk => Or.inl (by simp only [Option.some.injEq] at hk; omega)))
          have HC6 := Lib.hid (cur_grown HCU5.out hst.2 (fun e => by simp only [Option.some.injEq] at e; exact HNE.out g rfl e))
          have HB6 := Lib.hid (HBY5.out.below ((Below.refl B w5).grown hst.2 (by have := HCU5.out.lt; omega) (fun k hk => by simp only [Option.some.injEq] at hk; omega)))
          generalize qs.getD j 0 = x at *
          generalize qs.set j (-1 - x) = q6 at *
          clear hst HO5 HG5 HCU5 HBY5 HKQ HLQ
          go_wp2
          go_roundw
          case rel => exact ⟨j + 1, by omega, by go_num, q6, HL6, HK6, HO6, HC6, HB6, HG6.out⟩
          case measure => simp [intOf]; omega
      · have hjm : j = y + 1 := by omega
        clear hlt
        go_wp2
        go_ret
        exact ⟨A2, y + 1, c2, qs, rfl, HLQ.out, by omega, hmy, HKQ.out, HOQ.out, HCQ.out, hgr⟩
end Go.Proofs.YthcggkhpamjjbaaGreat.Mkq
