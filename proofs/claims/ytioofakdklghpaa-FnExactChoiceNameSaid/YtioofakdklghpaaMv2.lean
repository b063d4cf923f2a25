/- The program's moves with loops: flip, faro, monge. -/
import Derived.Test.YtioofakdklghpaaMv1
set_option linter.unusedVariables false
set_option maxRecDepth 20000
namespace Go.Proofs.Ytioofakdklghpaa.Mv2
open Go.RowKit Fr Own Pk Ins Pfn Rws Lb Cat Mvp Mv1

def turnTo (ds : List Int) (j : Nat) : List Int := (ds.take j).map turnF ++ ds.drop j
theorem turnTo_zero (ds : List Int) : turnTo ds 0 = ds := by simp [turnTo]
theorem turnTo_len (ds : List Int) (j : Nat) : (turnTo ds j).length = ds.length := by simp [turnTo]; omega
theorem turnTo_get (ds : List Int) (j : Nat) (h : j < ds.length) : (turnTo ds j).getD j 0 = ds.getD j 0 := by
  have hl : ((ds.take j).map turnF).length = j := by simp; omega
  unfold turnTo
  rw [List.getD_eq_getElem?_getD, List.getElem?_append_right (by omega), hl, Nat.sub_self, List.getElem?_drop, Nat.add_zero, ← List.getD_eq_getElem?_getD]
theorem turnTo_next (ds : List Int) (j : Nat) (h : j < ds.length) : (turnTo ds j).set j (turnF (ds.getD j 0)) = turnTo ds (j + 1) := by
  have hl : ((ds.take j).map turnF).length = j := by simp; omega
  unfold turnTo
  rw [List.set_append_right (h := by omega), hl, Nat.sub_self, List.drop_eq_getElem_cons h, List.set_cons_zero, List.take_succ_eq_append_getElem h]
  simp only [List.map_append, List.map_cons, List.map_nil, List.append_assoc, List.cons_append, List.nil_append, List.getD_eq_getElem?_getD, List.getElem?_eq_getElem h, Option.getD_some]
theorem turnTo_flip (zs : List Int) (k : Nat) (hk : k ≤ zs.length) : turnTo (dealL zs k) k = (zs.take k).reverse.map turnF ++ zs.drop k := by
  have hl : ((zs.take k).reverse).length = k := by simp; omega
  unfold turnTo dealL
  rw [List.take_append_of_le_length (by omega), List.take_of_length_le (by omega), List.drop_append_of_le_length (by omega), List.drop_eq_nil_of_le (by omega), List.nil_append]
theorem fits_all {zs : List Int} (h : Fits zs) : ∀ x ∈ zs, -9223372036854775808 ≤ x ∧ x ≤ 9223372036854775807 := by
  intro x hx
  obtain ⟨i, hi, e⟩ := List.getElem_of_mem hx
  have := h i hi
  rw [List.getD_eq_getElem?_getD, List.getElem?_eq_getElem hi] at this
  rw [← e]; exact this
theorem fits_deal {zs : List Int} (h : Fits zs) (k : Nat) : Fits (dealL zs k) := by
  intro i hi
  rw [List.getD_eq_getElem?_getD, List.getElem?_eq_getElem hi]
  have hm : (dealL zs k)[i] ∈ dealL zs k := List.getElem_mem hi
  refine fits_all h _ ?_
  unfold dealL at hm
  rcases List.mem_append.1 hm with h1 | h1
  · exact List.mem_of_mem_take (List.mem_reverse.1 h1)
  · exact List.mem_of_mem_drop h1

set_option maxHeartbeats 1000000 in
theorem impl_flip (A : Option Addr) (n c k d : Nat) (zs : List Int) (w : World) (hn : zs.length = n) (h0 : 1 ≤ n) (h12 : n ≤ 12) (hk : k ≤ n) (hz : Fits zs) (hss : IntsAt w w.heap.size .i64 A zs)
    (hd : w.cell? ⟨d, 0, none⟩ = some (.func (.func 100) #[] #[])) :
    Calls Try.prog 104 #[.slice A n c, .int .i64 (k : Int), .pointer (some ⟨d, 0, none⟩)] w (IsIL w.heap.size ((zs.take k).reverse.map turnF ++ zs.drop k) w) := by
  have HN := Lib.hid hn
  have HS := Lib.hid hss
  have HE := Lib.hid (turnTo_flip zs k (by omega))
  have HZ := Lib.hid (turnTo_zero (dealL zs k))
  have HL := Lib.hid (show (dealL zs k).length = n by unfold dealL; rw [List.length_append, List.length_reverse, List.length_take, List.length_drop, hn]; omega)
  have HF := Lib.hid (fits_deal hz k)
  have HC := Lib.hid (impl_deal A n c k zs w hn h0 h12 hk hss)
  generalize dealL zs k = ds at *
  clear hn hss hz
  go_enter Try.func104, Try.ntmps104
  go_wp2_with fail
  refine HC.out.mono ?_
  rintro e w1 ⟨A2, c2, rfl, ho, hb⟩
  rw [HL.out] at ho
  rw [HL.out]
  obtain ⟨g, rfl⟩ := own_shape ho (by omega)
  have HO := Lib.hid (show w1.ownsRow w.heap.size 3 1 (.slice (some ⟨g, 0, none⟩) n c2) n (vals (turnTo ds 0)) by rw [HZ.out]; exact ho)
  have HB := Lib.hid hb
  have hlo := (own_lo ho g rfl).1
  clear ho hb HC
  go_wp2
  go_loopw [7, 13] (fun _ i wr => ∃ j : Nat, j ≤ k ∧ i = .int .i64 (j : Int) ∧ wr.ownsRow w.heap.size 3 1 (.slice (some ⟨g, 0, none⟩) n c2) n (vals (turnTo ds j)) ∧ Below w.heap.size w wr) (fun _ i _ => k - (intOf i).toNat)
  case atStart => exact ⟨0, Nat.zero_le _, rfl, HO.out, HB.out⟩
  case round =>
    obtain ⟨j, hj, rfl, ho, hb⟩ := hrel
    clear HO HB
    by_cases hlt : j < k
    · obtain ⟨hx1, hx2⟩ := HF.out j (by rw [HL.out]; omega)
      have hjn : j < n := by omega
      have hcell : wr.cell? ⟨g, j, none⟩ = some (.int .i64 (ds.getD j 0)) := by
        rw [ho.cellAt j (by omega), vals_get (by rw [turnTo_len, HL.out]; omega), turnTo_get ds j (by rw [HL.out]; omega)]
      have hfz := ho.frozenAt j
      have hst := ho.stored j (.int .i64 (turnF (ds.getD j 0)))
      rw [vals_set, turnTo_next ds j (by rw [HL.out]; omega)] at hst
      have HST := Lib.hid hst.1
      have HB2 := Lib.hid (hb.grown hst.2 hb.size (fun b h => by simp only [Option.some.injEq] at h; omega))
      generalize ds.getD j 0 = x at *
      clear ho hb hst
      go_wp2_with fail
      refine (Pk.impl_turn x _ hx1 hx2).mono ?_
      rintro e w' ⟨rfl, rfl⟩
      go_wp2
      go_roundw
      case rel => exact ⟨j + 1, by omega, by go_num, HST.out, HB2.out⟩
      case measure => simp [intOf]; omega
    · have hjk : j = k := by omega
      subst hjk
      rw [HE.out] at ho
      have HLE := Lib.hid (show ((zs.take j).reverse.map turnF ++ zs.drop j).length = n by rw [← HE.out, turnTo_len, HL.out])
      have HO2 := Lib.hid ho
      clear ho
      go_wp2
      go_ret
      exact ⟨some ⟨g, 0, none⟩, c2, by rw [HLE.out]; rfl, by rw [HLE.out]; exact HO2.out, hb⟩

/-! ### faro -/
/-- how long a slice is -/
def lenV : Value → Nat
  | .slice _ n _ => n
  | _ => 0
set_option maxHeartbeats 1000000 in
theorem impl_faro_at (A : Option Addr) (n c k : Nat) (kv : Int) (zs : List Int) (w : World) (hn : zs.length = n) (h0 : 1 ≤ n) (h12 : n ≤ 12) (hnc : n ≤ c) (hkv : (kv = 0 ∧ k = 0) ∨ (kv = 1 ∧ k = 1)) (hss : IntsAt w w.heap.size .i64 A zs) :
    Calls Try.prog 108 #[.slice A n c, .int .i64 kv] w (IsIL w.heap.size (faroL zs k) w) := by
  obtain ⟨i0, hi, hz0, hz1, hz2⟩ := info_parts infoInt
  obtain ⟨b, o, rfl⟩ := ints_addr hss (by omega)
  obtain ⟨h, hh⟩ : ∃ h : Nat, h = n / 2 := ⟨_, rfl⟩
  have hhn : h < n := by omega
  have hhc : h ≤ c := by omega
  have hch : ¬ c = h := by omega
  have hq : (n : Int) / 2 = (h : Int) := by omega
  have hq2 : (n : Int).tdiv 2 = (h : Int) := by rw [Int.tdiv_eq_ediv_of_nonneg (by omega)]; exact hq
  have HN := Lib.hid hn
  have HS := Lib.hid hss
  have HH := Lib.hid hh
  clear hn hss hh
  go_enter Try.func108, Try.ntmps108
  go_wp2
  go_quiet (fail)
  generalize hWd : w.drewN nq = wd
  have HW := Lib.hid (show Below w.heap.size w wd by rw [← hWd]; exact below_drewN (Below.refl _ w) nq)
  clear hWd
  have HU := Lib.hid (show (zs.take h).length = h by rw [List.length_take, HN.out]; omega)
  have HV := Lib.hid (show (zs.drop h).length = n - h by rw [List.length_drop, HN.out])
  have HI0 := Lib.hid (show k ≠ 1 → interL (h + (n - h) + 1) (zs.take h) (zs.drop h) [] = faroL zs k by
    intro h1; unfold faroL; rw [if_neg h1, HN.out, ← HH.out]; congr 2; omega)
  have HI1 := Lib.hid (show k = 1 → interL (n - h + h + 1) (zs.drop h) (zs.take h) [] = faroL zs k by
    intro h1; unfold faroL; rw [if_pos h1, HN.out, ← HH.out]; congr 2; omega)
  have HS1 := Lib.hid (show IntsAt w w.heap.size .i64 (some ⟨b, o, none⟩) (zs.take h) from ints_take2 h HS.out)
  have HS2 := Lib.hid (show IntsAt w w.heap.size .i64 (some ⟨b, o + h, none⟩) (zs.drop h) from ints_drop HS.out)
  have h3 : n - h ≤ c - h := by omega
  have h4 : h + (n - h) ≤ 12 := by omega
  have h5 : n - h + h ≤ 12 := by omega
  clear hq hq2 hch
  generalize hR : faroL zs k = R at *
  have HR := Lib.hid hR
  clear hR
  rcases hkv with ⟨rfl, rfl⟩ | ⟨rfl, rfl⟩
  all_goals
    go_wp2
    go_loopw [5, 6, 7] (fun s5 s6 s7 wr => ∃ (n1 n2 n3 c1 c2 c3 : Nat) (A1 A2 A3 : Option Addr) (u v q : List Int), s5 = .slice A1 n1 c1 ∧ s6 = .slice A2 n2 c2 ∧ s7 = .slice A3 n3 c3 ∧ Hid (u.length = n1) ∧ Hid (v.length = n2) ∧ n1 ≤ c1 ∧ n2 ≤ c2 ∧
      Hid (IntsAt w w.heap.size .i64 A1 u) ∧ Hid (IntsAt w w.heap.size .i64 A2 v) ∧ Hid (∃ b o, A1 = some ⟨b, o, none⟩) ∧ Hid (∃ b o, A2 = some ⟨b, o, none⟩) ∧ n1 + n2 ≤ 12 ∧ n3 + n1 + n2 ≤ 12 ∧ wr.ownsRow w.heap.size 3 1 (.slice A3 n3 c3) n3 (vals q) ∧ Hid (interL (n1 + n2 + 1) u v q = R) ∧ Below w.heap.size w wr) (fun s5 s6 _ _ => lenV s5 + lenV s6)
    case atStart => first
      | exact ⟨h, n - h, 0, c, c - h, 0, _, _, none, _, _, [], rfl, rfl, rfl, HU, HV, hhc, h3, HS1, HS2, ⟨b, o, rfl⟩, ⟨b, o + h, rfl⟩, h4, by omega, World.ownsRow_nil _ _ _ _, HI0.out (by first | trivial | decide), HW.out⟩
      | exact ⟨n - h, h, 0, c - h, c, 0, _, _, none, _, _, [], rfl, rfl, rfl, HV, HU, h3, hhc, HS2, HS1, ⟨b, o + h, rfl⟩, ⟨b, o, rfl⟩, h5, by omega, World.ownsRow_nil _ _ _ _, HI1.out (by first | trivial | decide), HW.out⟩
    case round =>
      obtain ⟨n1, n2, n3, c1, c2, c3, A1, A2, A3, u, v, q, rfl, rfl, rfl, HLU, HLV, hnc1, hnc2, HA1, HA2, HB1, HB2, h12s, h12t, hown, HI, hbw⟩ := hrel
      clear HS1 HS2 HI0 HI1 HU HV HW h3 h4 h5
      have hszw := hbw.size
      by_cases hn1 : n1 = 0
      · subst hn1
        have HF := Lib.hid (show q ++ v = R by
          have e : u = [] := List.eq_nil_of_length_eq_zero HLU.out
          have h := HI.out
          rw [e] at h
          exact h)
        have hat := HA2.out.below hbw
        have hsp : ∀ a, A2 = some a → a.spot = none := by
          obtain ⟨b2, o2, e⟩ := HB2.out
          rw [e]; exact spot_some
        have hnn : A2 = none → c2 = 0 := by
          obtain ⟨b2, o2, e⟩ := HB2.out
          intro e2; rw [e] at e2; cases e2
        have hn2s : n2 ≤ 4294967296 := by omega
        have hn3s : n3 ≤ 4294967296 := by omega
        clear HI h12s h12t hnc1 hnc2
        go_wp2_with (at_builtin; refine app_any rfl (.tmp 34) (.tmp 35) 23 rfl w.heap.size 3 i0 8 Try.underlying23 hi hz0 hz1 hz2 (by decide) A3 c3 n3 q rfl hown A2 n2 c2 v rfl HLV.out hnn _ hat hn3s hn2s hszw hsp ?_; intro A5 c5 w5 hown5 hgr5; rw [HF.out] at hown5; have hb5 := Lib.hid (hbw.grown hgr5 hszw (fun k hk => (own_lo hown k hk).1)); have hl5 := Lib.hid (show R.length = n3 + n2 by have := hown5.1; rw [vals_len] at this; omega); have ho5 := Lib.hid hown5; clear hown5 hgr5)
        go_ret
        exact ⟨A5, c5, by rw [hl5.out]; rfl, by rw [hl5.out]; exact ho5.out, hb5.out⟩
      · obtain ⟨m1, rfl⟩ : ∃ m1, n1 = m1 + 1 := ⟨n1 - 1, by omega⟩
        obtain ⟨b1, o1, e1⟩ := HB1.out
        subst e1
        obtain ⟨x, u', e2⟩ : ∃ x u', u = x :: u' := by
          cases u with
          | nil => have := HLU.out; simp at this
          | cons x u' => exact ⟨x, u', rfl⟩
        subst e2
        have hc : wr.cell? ⟨b1, o1, none⟩ = some (.int .i64 x) := by
          obtain ⟨b2, o2, e, hlt, hcc⟩ := (HA1.out.below hbw) 0 (by simp)
          simp only [Option.some.injEq, Addr.mk.injEq, and_true] at e
          rw [e.1, e.2]; exact hcc
        have HLU2 := Lib.hid (show u'.length = m1 by have := HLU.out; simpa using this)
        have HI2 := Lib.hid (show interL (n2 + m1 + 1) v u' (q ++ [x]) = R by
          have h := HI.out
          rw [show m1 + 1 + n2 + 1 = (n2 + m1 + 1) + 1 by omega] at h
          exact h)
        have HT : Hid (IntsAt w w.heap.size .i64 (some ⟨b1, o1 + 1, none⟩) u') := by
          have h := ints_drop (k := 1) HA1.out
          exact h
        have HT0 : m1 = 0 → Hid (IntsAt w w.heap.size .i64 (some ⟨b1, o1, none⟩) u') := fun h => ints_none _ _ _ (by rw [HLU2.out, h])
        have hn3s : n3 ≤ 4294967296 := by omega
        have hpos : (0 : Int) < (m1 : Int) + 1 := by omega
        clear HI HA1 HB1 HLU hn1
        by_cases hc1 : c1 = 1
        · obtain rfl : m1 = 0 := by omega
          subst hc1
          go_wp2_with (at_builtin; refine app_more rfl (.tmp 25) (.tmp 29) 23 rfl w.heap.size 3 i0 (.int .i64 0) 8 Try.underlying23 hi hz0 hz1 hz2 (by decide) rfl A3 c3 n3 (vals q) rfl hown (.int .i64 x) rfl _ rfl rfl hn3s hszw ?_; intro g c5 w5 hown5 hgr5; have hb5 := Lib.hid (hbw.grown hgr5 hszw (fun k hk => (own_lo hown k hk).1)); have ho5 := Lib.hid (show w5.ownsRow w.heap.size 3 1 (.slice (some ⟨g, 0, none⟩) (n3 + 1) c5) (n3 + 1) (vals (q ++ [x])) by unfold vals; rw [List.map_append]; exact hown5); clear hown5 hgr5)
          go_quiet (fail)
          refine ⟨?_, ?measure⟩
          (repeat apply Exists.intro)
          refine ⟨?rel, rfl⟩
          case rel => exact ⟨n2, 0, n3 + 1, c2, _, c5, A2, _, _, v, u', q ++ [x], rfl, rfl, rfl, HLV, HLU2, hnc2, Nat.zero_le _, HA2, HT0 (by first | trivial | rfl), HB2, (by first | trivial | exact ⟨_, _, rfl⟩), by omega, by omega, ho5.out, HI2, below_drewN hb5.out _⟩
          case measure => simp [lenV]
        · have hc0 : ¬ (c1 : Int) = 1 := by omega
          have hcm : m1 ≤ c1 - 1 := by omega
          go_wp2_with (at_builtin; refine app_more rfl (.tmp 25) (.tmp 29) 23 rfl w.heap.size 3 i0 (.int .i64 0) 8 Try.underlying23 hi hz0 hz1 hz2 (by decide) rfl A3 c3 n3 (vals q) rfl hown (.int .i64 x) rfl _ rfl rfl hn3s hszw ?_; intro g c5 w5 hown5 hgr5; have hb5 := Lib.hid (hbw.grown hgr5 hszw (fun k hk => (own_lo hown k hk).1)); have ho5 := Lib.hid (show w5.ownsRow w.heap.size 3 1 (.slice (some ⟨g, 0, none⟩) (n3 + 1) c5) (n3 + 1) (vals (q ++ [x])) by unfold vals; rw [List.map_append]; exact hown5); clear hown5 hgr5)
          go_quiet (fail)
          refine ⟨?_, ?measure⟩
          (repeat apply Exists.intro)
          refine ⟨?rel, rfl⟩
          case rel => exact ⟨n2, m1, n3 + 1, c2, _, c5, A2, _, _, v, u', q ++ [x], rfl, rfl, rfl, HLV, HLU2, hnc2, hcm, HA2, HT, HB2, (by first | trivial | exact ⟨_, _, rfl⟩), by omega, by omega, ho5.out, HI2, below_drewN hb5.out _⟩
          case measure => simp [lenV]; omega
end Go.Proofs.Ytioofakdklghpaa.Mv2
