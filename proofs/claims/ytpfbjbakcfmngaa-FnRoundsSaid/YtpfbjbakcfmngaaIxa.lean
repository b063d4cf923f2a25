/- IndexAfter of both. -/
import Derived.Test.YtpfbjbakcfmngaaPrd
import Derived.Deep.RegionWith
import Derived.Deep.Cut
import Derived.Deep.RegionHeld3
import Derived.BigQuiet
set_option linter.unusedVariables false
set_option linter.unusedSimpArgs false
set_option maxRecDepth 20000
namespace Go.Proofs.Ytpfbjbakcfmngaa.Ixa
open Go.RowKit Fr Nwp _root_.Go.Proofs.Ytpfbjbakcfmngaa.Own Pk Ins Pfn Rws Lb Plk Gat Gas Dls Dlt Put Prd

/-- a box for a pile -/
def BoxAt (W : World) (b : Nat) (u v : Value) : Prop := W.heap[b]? = some (.cells #[u, v] 59 (0, 0))
theorem box_new (w : World) (u v : Value) : BoxAt (w.alloc (.cells #[u, v] 59)) w.heap.size u v := heap_alloc_new w _
theorem box_new_d (w : World) (u v : Value) : BoxAt (w.alloc (.cells #[u, v] 59)).drew w.heap.size u v := heap_alloc_new w _
theorem box_keep {W W' : World} {b : Nat} {u v : Value} (hb : Below W.heap.size W W') (h : BoxAt W b u v) : BoxAt W' b u v := (hb.block b (Array.getElem?_eq_some_iff.1 h).1).trans h
theorem box_cells {W : World} {b : Nat} {u v : Value} (h : BoxAt W b u v) : W.cell? ⟨b, 0, none⟩ = some u ∧ W.cell? ⟨b, 1, none⟩ = some v ∧ W.frozen? ⟨b, 0, none⟩ = false ∧ W.frozen? ⟨b, 1, none⟩ = false := by
  unfold World.cell? World.frozen?
  rw [show W.heap[b]? = _ from h]
  simp
theorem box_put0 {W : World} {b : Nat} {u v x : Value} (h : BoxAt W b u v) : BoxAt (W.setCell ⟨b, 0, none⟩ x) b x v := heap_setCell_same W b 0 #[u, v] _ x h
theorem box_put1 {W : World} {b : Nat} {u v x : Value} (h : BoxAt W b u v) : BoxAt (W.setCell ⟨b, 1, none⟩ x) b u x := heap_setCell_same W b 1 #[u, v] _ x h
theorem find_any (A : Option Addr) (n c : Nat) (zs : List Int) (card : Int) (w : World) (hn : zs.length = n) (hn2 : n ≤ 12) (hz : Fits zs) (hss : IntsAt w w.heap.size .i64 A zs) (P : Int) (hP : Pl.posF zs card = P) :
    Calls Try.prog 76 #[.slice A n c, .int .i64 card] w fun e w' => e = .returned (.int .i64 P) ∧ w = w' := by
  have HC := Lib.hid (Pl.impl_pos A n c zs card w hn (by omega) hz hss)
  rw [hP] at HC
  clear hn hz hss hP
  go_enter Try.func76, Try.ntmps76
  go_wp2_with fail
  refine HC.out.mono ?_
  rintro e w1 ⟨rfl, rfl⟩
  go_wp2
  go_ret
  exact ⟨rfl, rfl⟩
set_option maxHeartbeats 1000000 in
theorem at_index (A : Option Addr) (n c : Nat) (zs : List Int) (pl : Nat) (card : Int) (w : World) (hn : zs.length = n) (hn2 : n ≤ 12) (hpl : pl ≤ 4) (hz : Fits zs) (hss : IntsAt w w.heap.size .i64 A zs) (P : Nat) (hP : Pl.posF zs card = (P : Int)) (hP2 : P ≤ 12) :
    Calls Try.prog 54 #[.agg #[.slice A n c, .int .i64 (pl : Int)], .int .i64 card] w fun e w' => e = .returned (.int .i64 ((pl : Int) * n + P)) ∧ Below w.heap.size w w' := by
  obtain ⟨V, hV⟩ : ∃ V, w.alloc (.cells #[.slice A n c, .int .i64 (pl : Int)] 59) = V := ⟨_, rfl⟩
  have hbV : Below w.heap.size w V := by rw [← hV]; exact (Below.refl w.heap.size w).alloc (Nat.le_refl _) _
  obtain ⟨k1, k2, _, _⟩ := box_cells (show BoxAt V w.heap.size (.slice A n c) (.int .i64 (pl : Int)) by rw [← hV]; exact box_new w _ _)
  have hsV := (hss.below hbV).more hbV.size
  have C1 := fun d => Lib.hid ((find_any A n c zs card (V.drewN d) hn hn2 hz (ints_drewN hsV d) P hP).mono fun e w' h => (⟨h.1, h.2.symm⟩ : e = .returned (.int .i64 (P : Int)) ∧ w' = V.drewN d))
  have hmul : (pl : Int) * n ≤ 48 := by
    have h1 : pl * n ≤ 4 * 12 := Nat.mul_le_mul hpl hn2
    have h2 : (pl : Int) * n = ((pl * n : Nat) : Int) := by simp
    omega
  have hmul0 : 0 ≤ (pl : Int) * n := Int.mul_nonneg (by omega) (by omega)
  obtain ⟨Q, hQ⟩ : ∃ Q, (pl : Int) * n = Q := ⟨_, rfl⟩
  rw [hQ] at hmul hmul0 ⊢
  have HB := Lib.hid hbV
  clear hn hz hss hP hsV hbV
  go_enter Try.func54, Try.ntmps54
  go_wp2_with fail
  go_quiet ((go_at_call 76; with_reducible exact Calls.quiet_of_same (C1 _).out))
  go_wp2
  go_ret
  exact ⟨rfl, below_drewN HB.out _⟩
/-- one pile of those that are dealt -/
def IsPileK (B m k : Nat) (L : Nat) (q : List Int) (w : World) (e : Ending) (w' : World) : Prop := ∃ D A3 c3, e = .returned (.slice (some ⟨D, 0, none⟩) m m) ∧ w'.cell? ⟨D, k * 2, none⟩ = some (.slice A3 L c3) ∧ w'.cell? ⟨D, k * 2 + 1, none⟩ = some (.int .i64 0) ∧ D < w'.heap.size ∧ w'.ownsRow B 3 1 (.slice A3 L c3) L (vals q) ∧ Below w.heap.size w w'
theorem pile_k (A : Option Addr) (n c m k B : Nat) (zs : List Int) (w : World) (hn : zs.length = n) (hn2 : n ≤ 12) (hz : Fits zs) (hss : IntsAt w w.heap.size .i64 A zs) (hyes : Pok.okB zs = true) (hm : m = 2 ∨ m = 3 ∨ m = 4) (h1 : m ≤ n) (h0 : n % m = 0) (hk : k < m) (hB : B ≤ w.heap.size) (L : Nat) (hL : (pileT zs m k n).length = L) :
    Calls Try.prog 48 #[.slice A n c, .int .i64 (m : Int)] w (IsPileK B m k L (pileT zs m k n) w) := by
  refine (dealt_yes A n c m zs w hn hn2 hz hss hyes hm h1 h0).mono ?_
  rintro e w' ⟨D, rs, rfl, hp, hzs, hb⟩
  obtain ⟨hc1, hc2, hf⟩ := hp.cell k hk
  have hzk : (rs.getD k rd0).zs = pileT zs m k n := by rw [zs_get hzs, piles_get zs m n k hk]
  have hrow := hp.rows k hk
  unfold RD.v at hc1 hrow
  rw [hzk, hL] at hc1 hrow
  exact ⟨D, _, _, rfl, hc1, hc2, hp.block.2, own_mono hrow hB, hb⟩
/-- the chosen pile in its box -/
def Chosen (w : World) (L : Nat) (q : List Int) (s : Value) (wx : World) : Prop := ∃ b A3 c3, s = .pointer (some ⟨b, 0, none⟩) ∧ BoxAt wx b (.slice A3 L c3) (.int .i64 0) ∧ wx.ownsRow w.heap.size 3 1 (.slice A3 L c3) L (vals q) ∧ Below w.heap.size w wx ∧ w.heap.size ≤ b
theorem own_pile_ne {W : World} {B b L c3 : Nat} {A3 : Option Addr} {u v : Value} {q : List Int} (h : BoxAt W b u v) (ho : W.ownsRow B 3 1 (.slice A3 L c3) L (vals q)) : ∀ k, A3.map (·.block) = some k → k ≠ b := by
  intro k hk e
  subst e
  rcases ho.2 with ⟨h2, _⟩ | ⟨g, cap, cur, hv, _, hh, _⟩
  · simp only [Value.slice.injEq] at h2
    rw [h2.1] at hk; cases hk
  · simp only [Value.slice.injEq] at hv
    rw [hv.1] at hk
    simp only [Option.map_some, Option.some.injEq] at hk
    subst hk
    unfold BoxAt at h
    rw [h] at hh
    simp only [Option.some.injEq, Obj.cells.injEq] at hh
    exact absurd hh.2.1 (by decide)
theorem chosen_late {w w2 : World} {L c3 : Nat} {A3 : Option Addr} {q : List Int} (ho : w2.ownsRow w.heap.size 3 1 (.slice A3 L c3) L (vals q)) (hb : Below w.heap.size w w2) : Chosen w L q (.pointer (some ⟨w2.heap.size, 0, none⟩)) (w2.alloc (.cells #[.slice A3 L c3, .int .i64 0] 59)) :=
  ⟨_, A3, c3, rfl, box_new w2 _ _, own_below ho ((Below.refl w2.heap.size w2).alloc (Nat.le_refl _) _), hb.alloc hb.size _, hb.size⟩
theorem chosen_early {w w2 : World} {L c3 b : Nat} {A3 : Option Addr} {u v : Value} {q : List Int} (h : BoxAt w2 b u v) (hwb : w.heap.size ≤ b) (ho : w2.ownsRow w.heap.size 3 1 (.slice A3 L c3) L (vals q)) (hb : Below w.heap.size w w2) :
    Chosen w L q (.pointer (some ⟨b, 0, none⟩)) ((w2.setCell ⟨b, 0, none⟩ (.slice A3 L c3)).setCell ⟨b, 1, none⟩ (.int .i64 0)) := by
  have hne := own_pile_ne h ho
  have g1 := set_grown w2 ⟨b, 0, none⟩ (.slice A3 L c3)
  have g2 := set_grown (w2.setCell ⟨b, 0, none⟩ (.slice A3 L c3)) ⟨b, 1, none⟩ (.int .i64 0)
  refine ⟨b, A3, c3, rfl, box_put1 (box_put0 h), own_gr (own_gr ho g1 (fun k hk e => by injection e with e; exact hne k hk e.symm)) g2 (fun k hk e => by injection e with e; exact hne k hk e.symm), ?_, hwb⟩
  exact (hb.grown g1 hb.size (fun k hk => by injection hk with hk; rw [← hk]; exact hwb)).grown g2 (Nat.le_trans hb.size g1.size) (fun k hk => by injection hk with hk; rw [← hk]; exact hwb)
theorem alc {W : World} {D j : Nat} {v : Value} (h : W.cell? ⟨D, j, none⟩ = some v) (ob : Obj) : (W.alloc ob).cell? ⟨D, j, none⟩ = some v := by
  have hD : D < W.heap.size := block_lt_of_cell h
  exact (((Below.refl W.heap.size W).alloc (Nat.le_refl _) ob).cell (p := ⟨D, j, none⟩) hD).trans h
theorem bel_dr {w w1 : World} (h : Below w.drew.heap.size w.drew w1) : Below w.heap.size w w1 := ((Below.refl w.heap.size w).drew).trans h
theorem bel_box {w w1 : World} {o : Obj} (h : Below (w.alloc o).drew.heap.size (w.alloc o).drew w1) : Below w.heap.size w w1 := by
  have h0 := (((Below.refl w.heap.size w).alloc (Nat.le_refl _) o).drew)
  exact h0.trans (h.mono h0.size)
theorem hw_box (w : World) {w1 : World} {o : Obj} (h : Below (w.alloc o).drew.heap.size (w.alloc o).drew w1) : w.heap.size < w1.heap.size := by
  have h1 := h.size
  have h2 : (w.alloc o).drew.heap.size = w.heap.size + 1 := by simp
  omega
theorem own_box {w w1 : World} {o : Obj} {e : TypeId} {s n : Nat} {v : Value} {xs : List Value} (h : w1.ownsRow (w.alloc o).drew.heap.size e s v n xs) : w1.ownsRow w.heap.size e s v n xs := own_mono h (by simp)
theorem new_fits (n : Int) : Fits (newF n) := by
  by_cases h : 0 ≤ n ∧ n ≤ 12
  · obtain ⟨N, rfl⟩ := Int.eq_ofNat_of_zero_le h.1
    rw [newF_yes N (by omega)]
    intro i hi
    rw [imarks_length] at hi
    have : (imarks 0 N).getD i 0 = (i : Int) := by unfold imarks; simp [List.getD_eq_getElem?_getD, hi]
    rw [this]
    omega
  · rw [newF_no n h]
    exact fun i hi => by simp at hi
theorem new_ok {n : Nat} (h : n ≤ 12) : Pok.okB (newF n) = true := by
  have hc : ((List.range 13).all fun n => Pok.okB (newF (n : Int))) = true := by kernel_rfl
  exact List.all_eq_true.1 hc n (List.mem_range.2 (by omega))
set_option maxHeartbeats 1000000 in
theorem impl_idx_yes (n m i pl : Nat) (w : World) (hm : m = 2 ∨ m = 3 ∨ m = 4) (h1 : m ≤ n) (h2 : n ≤ 12) (h3 : n % m = 0) (hi : i < n) (hp : pl < m) (P : Nat) (hP : Pl.posF (pileT (newF n) m (i % m) n) i = (P : Int)) (hP2 : P ≤ 12) :
    Calls Try.prog 18 #[.int .i64 (n : Int), .int .i64 (m : Int), .int .i64 (i : Int), .int .i64 (pl : Int)] w fun e w' => e = .returned (.int .i64 ((pl : Int) * (pileT (newF n) m (i % m) n).length + P)) ∧ Below w.heap.size w w' := by
  have HQ := Lib.hid fun W => impl_ok n m W (by omega) (by omega) (by omega) (by omega)
  rw [ok_yes hm h1 h2 h3] at HQ
  have HI1 := Lib.hid fun W => impl_in (i : Int) n W
  have HI2 := Lib.hid fun W => impl_in (pl : Int) m W
  have e1 : inB (i : Int) n = true := decide_eq_true ⟨by omega, by omega⟩
  have e2 : inB (pl : Int) m = true := decide_eq_true ⟨by omega, by omega⟩
  rw [e1] at HI1
  rw [e2] at HI2
  obtain ⟨k, hk⟩ : ∃ k, k = i % m := ⟨_, rfl⟩
  have hkm : k < m := by rw [hk]; exact Nat.mod_lt _ (by omega)
  have hmod : (i : Int) % (m : Int) = (k : Int) := by rw [hk]; omega
  have hmod2 : (i : Int).tmod (m : Int) = (k : Int) := by rw [tmod_emod (by omega)]; exact hmod
  have HNEW := Lib.hid fun W => Nwp.impl_new (n : Int) W (by omega) (by omega)
  obtain ⟨L, hL⟩ : ∃ L, L = (pileT (newF n) m k n).length := ⟨_, rfl⟩
  obtain ⟨q, hq⟩ : ∃ q, q = pileT (newF n) m k n := ⟨_, rfl⟩
  rw [← hk] at hP ⊢
  rw [← hL]
  have hL12 : L ≤ 12 := by rw [hL]; have := pile_len (newF n) m k n; omega
  have hnl : (newF (n : Int)).length = n := by rw [newF_yes n h2, imarks_length]
  have HDLT := Lib.hid fun A c W (hB : w.heap.size ≤ W.heap.size) (hss : IntsAt W W.heap.size .i64 A (newF n)) => pile_k A n c m k w.heap.size (newF n) W hnl h2 (new_fits n) hss (new_ok h2) hm h1 h3 hkm hB L hL.symm
  rw [← hq] at HDLT
  have HNL := Lib.hid hnl
  have hqf : Fits q := by rw [hq]; exact pile_fits (new_fits n) m k n (by omega)
  have HAT := Lib.hid fun A c W (hss : IntsAt W W.heap.size .i64 A q) => at_index A L c q pl (i : Int) W (by rw [hq, hL]) hL12 (by omega) hqf hss P (by rw [hq]; exact hP) hP2
  clear e1 e2 hk
  go_enter Try.func18, Try.ntmps18
  go_wp2_with fail
  refine (HQ.out _).mono ?_
  rintro e w1 ⟨rfl, rfl⟩
  go_wp2_with fail
  refine (HI1.out _).mono ?_
  rintro e w1 ⟨rfl, rfl⟩
  go_wp2_with fail
  refine (HI2.out _).mono ?_
  rintro e w1 ⟨rfl, rfl⟩
  clear hnl hL hq hP hqf
  have hkm2 : (k : Int) < (m : Int) := by omega
  have hm0 : ¬ m = 0 := by omega
  go_upto_region 3 with fail
  go_cut [9] from 26 (fun s wx => Chosen w L q s wx)
  case first =>
    go_region_with (first
      | (go_at_call 53; refine (HNEW.out _).mono ?_; rintro e w1 ⟨A1, c1, rfl, ho1, hb1⟩; rw [HNL.out] at ho1 ⊢; first | (have B1 := box_keep hb1 (box_new_d _ _ _); have hw1 := hw_box w hb1; have HB1 := Lib.hid (bel_box hb1); have hs1 := (own_box ho1)) | (have HB1 := Lib.hid (bel_dr hb1); have hs1 := ho1))
      | (go_at_call 48; first
          | (refine (HDLT.out A1 c1 w1 HB1.out.size (ints_of hs1)).mono ?_; rintro e w2 ⟨D, A3, c3, rfl, hc1, hc2, hDw, ho2, hb2⟩; have hD1 := fun ob => alc hc1 ob; have hD2 := fun ob => alc hc2 ob; have HB2 := Lib.hid (HB1.out.trans (hb2.mono HB1.out.size)); first | (have B2 := box_keep hb2 B1; obtain ⟨f1, f2, f3, f4⟩ := box_cells B2) | skip)
          | (refine (HDLT.out A1 c1 _ (HB1.out.alloc HB1.out.size (.cells #[.slice none 0 0, .int .i64 0] 59)).size (ints_of (own_below hs1 ((Below.refl w1.heap.size w1).alloc (Nat.le_refl _) (.cells #[.slice none 0 0, .int .i64 0] 59))))).mono ?_; rintro e w2 ⟨D, A3, c3, rfl, hc1, hc2, hDw, ho2, hb2⟩; have B2 := box_keep hb2 (box_new w1 _ _); obtain ⟨f1, f2, f3, f4⟩ := box_cells B2; have HB2 := Lib.hid ((HB1.out.alloc HB1.out.size (.cells #[.slice none 0 0, .int .i64 0] 59)).trans (hb2.mono (HB1.out.alloc HB1.out.size (.cells #[.slice none 0 0, .int .i64 0] 59)).size)))))
    all_goals
      go_wp2_with fail
      go_meet
      first | exact chosen_late ho2 HB2.out | exact chosen_early B2 (Nat.le_refl _) ho2 HB2.out | exact chosen_early B2 HB1.out.size ho2 HB2.out
  case rest =>
    obtain ⟨b, A3, c3, rfl, hbx, ho, hb, hwb⟩ := hcut
    obtain ⟨f1, f2, f3, f4⟩ := box_cells hbx
    have g2 := set_grown wc ⟨b, 1, none⟩ (.int .i64 (pl : Int))
    have hne := own_pile_ne hbx ho
    have ho2 := own_gr ho g2 (fun k hk e => by injection e with e; exact hne k hk e.symm)
    obtain ⟨f5, f6, _, _⟩ := box_cells (box_put1 (x := .int .i64 (pl : Int)) hbx)
    have HB2 := Lib.hid (hb.grown g2 hb.size (fun k hk => by injection hk with hk; rw [← hk]; exact hwb))
    have HIX := Lib.hid (HAT.out A3 c3 _ (ints_of ho2))
    clear ho ho2 hb hbx hne g2 hwb
    go_wp2_with fail
    refine HIX.out.mono ?_
    rintro e w4 ⟨rfl, hb4⟩
    have HB4 := Lib.hid (HB2.out.trans (hb4.mono HB2.out.size))
    clear hb4
    go_wp2
    go_ret
    exact ⟨rfl, HB4.out⟩
/-- where the card at index i comes to lie -/
def idxN (n m i pl : Nat) : Nat := pl * (n / m) + (n / m - 1 - i / m)
def idxB (n m i pl : Int) : Bool := okB n m && (inB i n && inB pl m)
def idxA (n m i pl : Int) : Int := if idxB n m i pl then (idxN n.toNat m.toNat i.toNat pl.toNat : Int) else -1
theorem idx_no {n m i pl : Int} (h : idxB n m i pl = false) : idxA n m i pl = -1 := by unfold idxA; rw [h]; rfl
theorem idx_yes {n m i pl : Int} (h : idxB n m i pl = true) : idxA n m i pl = (idxN n.toNat m.toNat i.toNat pl.toNat : Int) := by unfold idxA; rw [h]; rfl
theorem idx_parts {n m i pl : Int} (h : idxB n m i pl = true) : ∃ N M I P : Nat, n = N ∧ m = M ∧ i = I ∧ pl = P ∧ (M = 2 ∨ M = 3 ∨ M = 4) ∧ M ≤ N ∧ N ≤ 12 ∧ N % M = 0 ∧ I < N ∧ P < M := by
  unfold idxB at h
  simp only [Bool.and_eq_true] at h
  obtain ⟨h1, h2, h3⟩ := h
  obtain ⟨N, M, rfl, rfl, q1, q2, q3, q4⟩ := ok_parts h1
  have e2 := of_decide_eq_true h2
  have e3 := of_decide_eq_true h3
  exact ⟨N, M, i.toNat, pl.toNat, rfl, rfl, by omega, by omega, q1, q2, q3, q4, by omega, by omega⟩
def chkI (n m i pl : Nat) : Bool := decide (Pl.posF (pileT (newF n) m (i % m) n) i = ((n / m - 1 - i / m : Nat) : Int)) && decide ((pileT (newF n) m (i % m) n).length = n / m) && decide (Pl.posF (rndL (newF n) m i pl) i = (idxN n m i pl : Int)) && rndB (newF n) m i pl && decide (idxN n m i pl < n)
set_option maxHeartbeats 4000000 in
theorem chk_all : ([2, 3, 4].all fun m => (List.range 13).all fun n => if m ≤ n ∧ n % m = 0 then (List.range n).all (fun i => (List.range m).all fun pl => chkI n m i pl) else true) = true := by kernel_rfl
theorem chk_at {n m i pl : Nat} (hm : m = 2 ∨ m = 3 ∨ m = 4) (h1 : m ≤ n) (h2 : n ≤ 12) (h3 : n % m = 0) (hi : i < n) (hp : pl < m) :
    Pl.posF (pileT (newF n) m (i % m) n) i = ((n / m - 1 - i / m : Nat) : Int) ∧ (pileT (newF n) m (i % m) n).length = n / m ∧ Pl.posF (rndL (newF n) m i pl) i = (idxN n m i pl : Int) ∧ rndB (newF n) m i pl = true ∧ idxN n m i pl < n := by
  have h := List.all_eq_true.1 (List.all_eq_true.1 chk_all m (by rcases hm with rfl | rfl | rfl <;> decide)) n (List.mem_range.2 (by omega))
  rw [if_pos ⟨h1, h3⟩] at h
  have h := List.all_eq_true.1 (List.all_eq_true.1 h i (List.mem_range.2 hi)) pl (List.mem_range.2 hp)
  unfold chkI at h
  simp only [Bool.and_eq_true, decide_eq_true_eq] at h
  exact ⟨h.1.1.1.1, h.1.1.1.2, h.1.1.2, h.1.2, h.2⟩
def IdxPost (R : Int) (w : World) (e : Ending) (w' : World) : Prop := e = .returned (.int .i64 R) ∧ Below w.heap.size w w'
theorem impl_idx (n m i pl : Int) (w : World) (n1 : -9223372036854775808 ≤ n) (n2 : n ≤ 9223372036854775807) (m1 : -9223372036854775808 ≤ m) (m2 : m ≤ 9223372036854775807) :
    Calls Try.prog 18 #[.int .i64 n, .int .i64 m, .int .i64 i, .int .i64 pl] w (IdxPost (idxA n m i pl) w) := by
  cases hb : idxB n m i pl with
  | true =>
    rw [idx_yes hb]
    obtain ⟨N, M, I, P, rfl, rfl, rfl, rfl, hm, h1, h2, h3, hi, hp⟩ := idx_parts hb
    obtain ⟨c1, c2, c3, c4, c5⟩ := chk_at hm h1 h2 h3 hi hp
    have h := impl_idx_yes N M I P w hm h1 h2 h3 hi hp _ c1 (Nat.le_trans (Nat.sub_le _ _) (Nat.le_trans (Nat.sub_le _ _) (Nat.le_trans (Nat.div_le_self N M) h2)))
    rw [c2] at h
    have e : ((idxN (N : Int).toNat (M : Int).toNat (I : Int).toNat (P : Int).toNat : Nat) : Int) = (P : Int) * ((N / M : Nat) : Int) + ((N / M - 1 - I / M : Nat) : Int) := by
      simp [idxN]
    rw [e]
    exact h
  | false =>
    rw [idx_no hb]
    have HI := Lib.hid fun (a b : Int) W => impl_in a b W
    cases h1 : okB n m with
    | false =>
      have HQ := Lib.hid fun W => impl_ok n m W n1 n2 m1 m2
      rw [h1] at HQ
      clear hb h1
      go_enter Try.func18, Try.ntmps18
      go_wp2_with fail
      refine (HQ.out _).mono ?_
      rintro e w1 ⟨rfl, rfl⟩
      go_wp2
      go_ret
      exact ⟨rfl, Below.refl _ _⟩
    | true =>
      have HQ := Lib.hid fun W => impl_ok n m W n1 n2 m1 m2
      rw [h1] at HQ
      cases h2 : inB i n with
      | false =>
        have H2 := Lib.hid h2
        clear hb h1 h2
        go_enter Try.func18, Try.ntmps18
        go_wp2_with fail
        refine (HQ.out _).mono ?_
        rintro e w1 ⟨rfl, rfl⟩
        go_wp2_with fail
        refine (HI.out _ _ _).mono ?_
        rintro e w1 ⟨rfl, rfl⟩
        rw [H2.out]
        go_wp2
        go_ret
        exact ⟨rfl, Below.refl _ _⟩
      | true =>
        have H2 := Lib.hid h2
        have H3 := Lib.hid (show inB pl m = false by unfold idxB at hb; rw [h1, h2] at hb; simpa using hb)
        clear hb h1 h2
        go_enter Try.func18, Try.ntmps18
        go_wp2_with fail
        refine (HQ.out _).mono ?_
        rintro e w1 ⟨rfl, rfl⟩
        go_wp2_with fail
        refine (HI.out _ _ _).mono ?_
        rintro e w1 ⟨rfl, rfl⟩
        rw [H2.out]
        go_wp2_with fail
        refine (HI.out _ _ _).mono ?_
        rintro e w1 ⟨rfl, rfl⟩
        rw [H3.out]
        go_wp2
        go_ret
        exact ⟨rfl, Below.refl _ _⟩
end Go.Proofs.Ytpfbjbakcfmngaa.Ixa
