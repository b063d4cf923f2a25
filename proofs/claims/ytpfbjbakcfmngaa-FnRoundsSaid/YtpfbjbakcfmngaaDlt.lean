/- dealtPiles and PilesOf of the program. -/
import Derived.Test.YtpfbjbakcfmngaaPut
import Derived.Test.YtpfbjbakcfmngaaAat
set_option linter.unusedVariables false
set_option maxRecDepth 20000
namespace Go.Proofs.Ytpfbjbakcfmngaa.Dlt
open Go.RowKit Fr _root_.Go.Proofs.Ytpfbjbakcfmngaa.Own Pk Ins Pfn Rws Lb Inp Put Plk

/-- the piles in memory of the call's own -/
def IsPiles (lo m : Nat) (zss : List (List Int)) (w : World) (e : Ending) (w' : World) : Prop :=
  ∃ D rs, e = .returned (.slice (some ⟨D, 0, none⟩) m m) ∧ PRow w' lo D m rs ∧ rs.map RD.zs = zss ∧ Below w.heap.size w w'
def NoPiles (w : World) (e : Ending) (w' : World) : Prop := e = .returned (.slice none 0 0) ∧ Below w.heap.size w w'
theorem infoPile : (Try.prog.info? 59).map (fun i => (i.zero, i.size, i.bytes)) = some (some (.agg #[.slice none 0 0, .int .i64 0]), 2, 32) := by kernel_rfl
theorem zero_lies {m : Nat} (hm : m = 2 ∨ m = 3 ∨ m = 4) : Lies2 (madeCells (Value.agg #[.slice none 0 0, .int .i64 0]).cells (m * 2)).toList (List.replicate m rd0) m := by
  intro j hj
  have hr : (List.replicate m rd0).getD j rd0 = rd0 := by simp [List.getD_eq_getElem?_getD, hj]
  rw [hr]
  rcases hm with rfl | rfl | rfl
  · rcases (show j = 0 ∨ j = 1 by omega) with rfl | rfl <;> exact ⟨by kernel_rfl, by kernel_rfl⟩
  · rcases (show j = 0 ∨ j = 1 ∨ j = 2 by omega) with rfl | rfl | rfl <;> exact ⟨by kernel_rfl, by kernel_rfl⟩
  · rcases (show j = 0 ∨ j = 1 ∨ j = 2 ∨ j = 3 by omega) with rfl | rfl | rfl | rfl <;> exact ⟨by kernel_rfl, by kernel_rfl⟩
theorem zero_row {W : World} {lo D m : Nat} (hm : m = 2 ∨ m = 3 ∨ m = 4) (h : W.ownsRow lo 59 2 (.slice (some ⟨D, 0, none⟩) m m) m (madeCells (Value.agg #[.slice none 0 0, .int .i64 0]).cells (m * 2)).toList) : PRow W lo D m (List.replicate m rd0) := by
  have hr : ∀ j, j < m → (List.replicate m rd0).getD j rd0 = rd0 := fun j hj => by simp [List.getD_eq_getElem?_getD, hj]
  exact ⟨⟨_, h, zero_lies hm⟩, by simp, fun i hi => by rw [hr i hi]; exact World.ownsRow_nil _ _ _ _, fun i j hi hj _ b hb => by rw [hr i hi] at hb; cases hb⟩
theorem dealt_no1 (A : Option Addr) (n c : Nat) (zs : List Int) (m : Int) (w : World) (hn : zs.length = n) (hn2 : n ≤ 1048576) (hz : Fits zs) (hss : IntsAt w w.heap.size .i64 A zs) (hno : Pok.okB zs = false) :
    Calls Try.prog 48 #[.slice A n c, .int .i64 m] w (NoPiles w) := by
  have HP := Lib.hid (Pok.impl_ok A n c zs w hn (by omega) hz hss)
  rw [hno] at HP
  clear hno hz hss hn
  go_enter Try.func48, Try.ntmps48
  go_wp2_with fail
  refine HP.out.mono ?_
  rintro e w1 ⟨rfl, hb⟩
  go_wp2
  go_ret
  exact ⟨rfl, hb⟩
theorem dealt_no2 (A : Option Addr) (n c : Nat) (zs : List Int) (m : Int) (w : World) (hn : zs.length = n) (hn2 : n ≤ 1048576) (hz : Fits zs) (hss : IntsAt w w.heap.size .i64 A zs) (hyes : Pok.okB zs = true) (hno : okB n m = false) (h1 : -9223372036854775808 ≤ m) (h2 : m ≤ 9223372036854775807) :
    Calls Try.prog 48 #[.slice A n c, .int .i64 m] w (NoPiles w) := by
  have HP := Lib.hid (Pok.impl_ok A n c zs w hn (by omega) hz hss)
  have HQ := Lib.hid fun W => impl_ok n m W (by omega) (by omega) h1 h2
  rw [hno] at HQ
  rw [hyes] at HP
  clear hno hyes hz hss hn
  go_enter Try.func48, Try.ntmps48
  go_wp2_with fail
  refine HP.out.mono ?_
  rintro e w1 ⟨rfl, hb⟩
  go_wp2_with fail
  refine (HQ.out _).mono ?_
  rintro e w2 ⟨rfl, rfl⟩
  go_wp2
  go_ret
  exact ⟨rfl, hb⟩
set_option maxHeartbeats 1000000 in
theorem dealt_yes (A : Option Addr) (n c m : Nat) (zs : List Int) (w : World) (hn : zs.length = n) (hn2 : n ≤ 12) (hz : Fits zs) (hss : IntsAt w w.heap.size .i64 A zs) (hyes : Pok.okB zs = true) (hm : m = 2 ∨ m = 3 ∨ m = 4) (h1 : m ≤ n) (h0 : n % m = 0) :
    Calls Try.prog 48 #[.slice A n c, .int .i64 (m : Int)] w (IsPiles w.heap.size m (pilesF zs m n) w) := by
  have HP := Lib.hid (Pok.impl_ok A n c zs w hn (by omega) hz hss)
  have HQ := Lib.hid fun W => impl_ok n m W (by omega) (by omega) (by omega) (by omega)
  rw [ok_yes hm h1 hn2 h0] at HQ
  rw [hyes] at HP
  have HS := Lib.hid hss
  have HN := Lib.hid hn
  clear hyes hz hss hn
  have hm4 : m ≤ 4 := by omega
  have hm1 : 2 ≤ m := by omega
  go_enter Try.func48, Try.ntmps48
  go_wp2_with fail
  refine HP.out.mono ?_
  rintro e w1 ⟨rfl, hb⟩
  have HB := Lib.hid hb
  clear hb
  go_wp2_with fail
  refine (HQ.out _).mono ?_
  rintro e w2 ⟨rfl, rfl⟩
  obtain ⟨i9, hi9, hz9, hs9, hy9⟩ := info_parts infoPile
  obtain ⟨W2, hrun, hown, hgr⟩ := run_makeSlice_full (P := Try.prog) (w := w1) w.heap.size 55 59 i9 _ 2 Try.underlying55 hi9 hz9 hs9 .i64 .i64 m (by omega) (by rw [hy9]; omega) (by unfold maxLen; omega) HB.out.size
  have HP0 := Lib.hid (zero_row hm hown)
  have HB2 := Lib.hid (HB.out.grown hgr HB.out.size (fun k hk => by cases hk))
  have HZ0 := Lib.hid (piles_zero zs m)
  have HM := Lib.hid hm
  obtain ⟨D, hD⟩ : ∃ D, D = w1.heap.size := ⟨_, rfl⟩
  rw [← hD] at hrun HP0
  clear hown hgr hi9 hz9 hs9 hy9 hm hD
  go_wp2
  clear hrun
  have HBB := HB2
  clear HB2 HB HP
  go_loopw [6, 7, 22] (fun _ _ i wr => ∃ t : Nat, t ≤ n ∧ i = .int .i64 (t : Int) ∧ (∃ rs, Hid (PRow wr w.heap.size D m rs) ∧ Hid (rs.map RD.zs = pilesF zs m t)) ∧ Hid (Below w.heap.size w wr)) (fun _ _ i _ => n - (intOf i).toNat)
  case atStart => exact ⟨0, Nat.zero_le _, rfl, ⟨_, HP0, Lib.hid (by rw [HZ0.out]; simp [rd0])⟩, HBB⟩
  case round =>
    obtain ⟨t, ht, rfl, ⟨rs, HR, HRZ⟩, HB⟩ := hrel
    clear HP0 HZ0 HBB
    by_cases hlt : t < n
    · obtain ⟨k, hk⟩ : ∃ k, k = t % m := ⟨_, rfl⟩
      have hkm : k < m := by rw [hk]; exact Nat.mod_lt _ (by omega)
      have hmod : (t : Int) % (m : Int) = (k : Int) := by rw [hk]; omega
      have hmod2 : (t : Int).tmod (m : Int) = (k : Int) := by rw [tmod_emod (by omega)]; exact hmod
      have HNX := Lib.hid (piles_next zs (m := m) (t := t) (by omega))
      have HGK := Lib.hid (piles_get zs m t k hkm)
      rw [← hk] at HNX
      have hsz := HB.out.size
      obtain ⟨hc1, hc2, hf1⟩ := HR.out.cell k hkm
      have hrow := HR.out.rows k hkm
      have hblk := HR.out.block
      have hne := HR.out.ne k hkm
      obtain ⟨r, hr⟩ : ∃ r, r = rs.getD k rd0 := ⟨_, rfl⟩
      rw [← hr] at hc1 hrow hne
      have hrz : r.zs = pileT zs m k t := by
        rw [← HGK.out, ← HRZ.out, hr]
        have hkr : k < rs.length := by rw [HR.out.len]; exact hkm
        simp [List.getD_eq_getElem?_getD, List.getElem?_eq_getElem hkr]
      have hrl : r.zs.length ≤ 1048576 := by rw [hrz]; have := pile_len zs m k t; omega
      have HPUT := Lib.hid (put_any w.heap.size D (k * 2) r.A r.zs.length r.c r.zs (zs.getD t 0) wr hrl rfl hc1 (hf1 _) hrow hne hsz hblk.2)
      have hx := HS.out.below HB.out t (by rw [HN.out]; exact hlt)
      obtain ⟨bx, ox, rfl, hbx, hcx⟩ := hx
      have HRR := Lib.hid hr
      have HRQ := Lib.hid hrz
      clear hc1 hc2 hrow hne hr hrz hk hrl hblk
      go_wp2_with fail
      refine HPUT.out.mono ?_
      rintro e w2 ⟨rfl, A', c', w3, rfl, ho, hg, hp⟩
      obtain ⟨q1, q2⟩ := HR.out.put hkm (by rw [← HRR.out]; exact hg) ho (by rw [← HRR.out]; exact hp)
      have HQ1 := Lib.hid q1
      have HZ2 := Lib.hid (show (rs.set k ⟨A', c', zs.getD t 0 :: r.zs⟩).map RD.zs = pilesF zs m (t + 1) by rw [HNX.out, List.map_set, HRZ.out, HRQ.out])
      have HB3 := Lib.hid ((HB.out.grown hg hsz (fun j hj => (own_lo (HR.out.rows k hkm) j (by rw [← HRR.out]; exact hj)).1)).grown q2 (Nat.le_trans hsz hg.size) (fun j hj => by injection hj with hj; rw [← hj]; exact HR.out.block.1))
      clear q1 q2 ho hg hp hcx hmod hmod2 hf1
      go_wp2
      refine ⟨⟨t + 1, by omega, by go_num, ⟨_, HQ1, HZ2⟩, HB3⟩, ?_⟩
      simp [intOf]; omega
    · have htn : t = n := by omega
      subst htn
      go_wp2
      go_ret
      exact ⟨D, rs, rfl, HR.out, HRZ.out, HB.out⟩
/-- the piles as a list of lists -/
theorem piles_ss {W : World} {lo D m : Nat} {rs : List RD} {A : Option Addr} {c : Nat} (h : PRow W lo D m rs) (ho : W.ownsRow lo 25 1 (.slice A m c) m (rs.map RD.v)) : SSRow W lo W.heap.size A m c rs := by
  refine ⟨ho, fun i hi => ?_, fun i j hi hj => h.apart i j (by rw [← h.len]; exact hi) (by rw [← h.len]; exact hj), fun a ha => ?_, Nat.le_refl _⟩
  · exact ⟨h.rows i (by rw [← h.len]; exact hi), fun a ha => (own_lo (h.rows i (by rw [← h.len]; exact hi)) a.block (by rw [ha]; rfl)).2, Nat.le_refl _⟩
  · exact (own_lo ho a.block (by rw [ha]; rfl)).2
/-- another row of another type changes -/
theorem _root_.Go.Proofs.Ytpfbjbakcfmngaa.Put.PRow.kept {W W' : World} {lo D m lo2 n2 c2 s2 m2 : Nat} {rs : List RD} {A2 : Option Addr} {e2 : TypeId} {xs : List Value} (h : PRow W lo D m rs) (ho : W.ownsRow lo2 e2 s2 (.slice A2 n2 c2) m2 xs) (h1 : 59 ≠ e2) (h2 : 3 ≠ e2) (hg : W.grownBy W' (A2.map (·.block))) : PRow W' lo D m rs := by
  obtain ⟨⟨ys, own, lies⟩, q2, q3, q4⟩ := h
  exact ⟨⟨ys, own_gr own hg (fun k hk e => own_diff own ho h1 k hk e), lies⟩, q2, fun i hi => own_gr (q3 i hi) hg (fun k hk e => own_diff (q3 i hi) ho h2 k hk e), q4⟩
theorem rows_next {rs : List RD} {j : Nat} (h : j < rs.length) : (rs.take (j + 1)).map RD.v = (rs.take j).map RD.v ++ [(rs.getD j rd0).v] := by
  rw [List.take_add_one, List.getD_eq_getElem?_getD, List.getElem?_eq_getElem h, List.map_append]
  rfl
set_option maxHeartbeats 1000000 in
theorem impl_piles_no (A : Option Addr) (n c : Nat) (zs : List Int) (m : Int) (w : World) (h : Calls Try.prog 48 #[.slice A n c, .int .i64 m] w (NoPiles w)) :
    Calls Try.prog 16 #[.slice A n c, .int .i64 m] w (IsSS w.heap.size [] w) := by
  have HD := Lib.hid h
  clear h
  go_enter Try.func16, Try.ntmps16
  go_wp2_with fail
  refine HD.out.mono ?_
  rintro e w1 ⟨rfl, hb⟩
  go_wp2
  go_loopw [5, 7, 12] (fun v _ i wr => v = .slice none 0 0 ∧ i = .int .i64 0 ∧ wr = w1) (fun _ _ _ _ => 0)
  case atStart => exact ⟨rfl, rfl, rfl⟩
  case round =>
    obtain ⟨rfl, rfl, rfl⟩ := hrel
    go_wp2
    go_ret
    exact ⟨none, 0, [], rfl, rfl, (SSRow.none_ _ _).under (Below.refl _ _), hb⟩
set_option maxHeartbeats 1000000 in
theorem impl_piles_yes (A : Option Addr) (n c m : Nat) (zs : List Int) (w : World) (zss : List (List Int)) (hm : m = 2 ∨ m = 3 ∨ m = 4) (h : Calls Try.prog 48 #[.slice A n c, .int .i64 (m : Int)] w (IsPiles w.heap.size m zss w)) :
    Calls Try.prog 16 #[.slice A n c, .int .i64 (m : Int)] w (IsSS w.heap.size zss w) := by
  obtain ⟨i1, hj1, hy0, hy1, hy2⟩ := infos_parts
  have HD := Lib.hid h
  have hm4 : m ≤ 4 := by omega
  clear h hm
  go_enter Try.func16, Try.ntmps16
  go_wp2_with fail
  refine HD.out.mono ?_
  rintro e w1 ⟨D, rs, rfl, hp, hz, hb⟩
  have HP := Lib.hid hp
  have HZ := Lib.hid hz
  have HB := Lib.hid hb
  clear hp hz hb
  go_wp2
  go_loopw [5, 7, 12] (fun v _ i wr => ∃ t : Nat, t ≤ m ∧ i = .int .i64 (t : Int) ∧ (∃ A3 c3, v = .slice A3 t c3 ∧ Hid (wr.ownsRow w.heap.size 25 1 (.slice A3 t c3) t ((rs.take t).map RD.v))) ∧ Hid (PRow wr w.heap.size D m rs) ∧ Hid (Below w.heap.size w wr)) (fun _ _ i _ => m - (intOf i).toNat)
  case atStart => exact ⟨0, Nat.zero_le _, rfl, ⟨none, 0, rfl, Lib.hid (World.ownsRow_nil _ _ _ _)⟩, HP, HB⟩
  case round =>
    obtain ⟨t, ht, rfl, ⟨A3, c3, rfl, HO⟩, HR, HBW⟩ := hrel
    clear HP HB
    by_cases hlt : t < m
    · obtain ⟨hc1, hc2, hf1⟩ := HR.out.cell t hlt
      have HNX := Lib.hid (rows_next (rs := rs) (j := t) (by rw [HR.out.len]; exact hlt))
      obtain ⟨r, hr⟩ : ∃ r, r = rs.getD t rd0 := ⟨_, rfl⟩
      rw [← hr] at hc1 HNX
      have hc1' : wr.cell? ⟨D, t * 2, none⟩ = some (.slice r.A r.zs.length r.c) := hc1
      clear hr hc1
      have hVb : Below wr.heap.size wr (wr.alloc (.cells #[.slice r.A r.zs.length r.c, .int .i64 0] 59)) := (Below.refl wr.heap.size wr).alloc (Nat.le_refl _) _
      have HOV := Lib.hid (own_below HO.out hVb)
      have HRV := Lib.hid (HR.out.below hVb)
      have HBV := Lib.hid (HBW.out.trans (hVb.mono HBW.out.size))
      have hsv := HBV.out.size
      have HN1 := Lib.hid (show wr.heap.size + 1 = (wr.alloc (.cells #[.slice r.A r.zs.length r.c, .int .i64 0] 59)).heap.size by simp)
      clear hVb
      go_wp2_with (at_builtin; refine Aat.app_at rfl (.tmp 16) (.tmp 19) 28 rfl w.heap.size 25 i1 (.slice none 0 0) 24 Try.underlying28 hj1 hy0 hy1 hy2 (by decide) rfl A3 c3 t _ rfl HOV.out (.slice r.A r.zs.length r.c) rfl _ rfl HN1.out (by omega) hsv ?_; intro g5 c5 w5 hown5 hgr5 hat5)
      have HO5 := Lib.hid (show w5.ownsRow w.heap.size 25 1 (.slice (some ⟨g5, 0, none⟩) (t + 1) c5) (t + 1) ((rs.take (t + 1)).map RD.v) by rw [HNX.out]; exact hown5)
      have HR5 := Lib.hid (HRV.out.kept HOV.out (by decide) (by decide) hgr5)
      have HB5 := Lib.hid (HBV.out.grown hgr5 hsv (fun k hk => (own_lo HOV.out k hk).1))
      clear hown5 hgr5 hat5
      refine ⟨⟨t + 1, by omega, by go_num, ⟨_, _, by go_num, HO5⟩, HR5, HB5⟩, ?_⟩
      simp [intOf]; omega
    · have htm : t = m := by omega
      subst htm
      go_wp2
      go_ret
      exact ⟨A3, c3, rs, by rw [← HZ.out, List.length_map, HR.out.len]; rfl, HZ.out, by
        have hl : zss.length = t := by rw [← HZ.out, List.length_map, HR.out.len]
        rw [hl]
        have h := HO.out
        rw [List.take_of_length_le (by rw [HR.out.len]; exact Nat.le_refl _)] at h
        exact piles_ss HR.out h, HBW.out⟩
end Go.Proofs.Ytpfbjbakcfmngaa.Dlt
