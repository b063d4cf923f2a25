/- Perform of the program. -/
import Derived.Test.YtibephoepkofnaaGreatMok
set_option linter.unusedVariables false
set_option maxRecDepth 20000
namespace Go.Proofs.YtibephoepkofnaaGreat.Pf
open Go.RowKit Fr Own Pk Pok Ins Pfn Rws Lb Cat Mvp Mv1 Mv2 Mv3 Mv4 Mk Mo Mok Mok2

def perfB (zs : List Int) (kd k : Int) : Bool := okB zs && mvB zs.length kd k
def perfF (zs : List Int) (kd k : Int) : List Int := if perfB zs kd k then moveF kd.toNat k.toNat zs else []
theorem perfF_yes {zs : List Int} {kd k : Int} (h : perfB zs kd k = true) : perfF zs kd k = moveF kd.toNat k.toNat zs := by unfold perfF; rw [if_pos h]
theorem perfF_no {zs : List Int} {kd k : Int} (h : perfB zs kd k = false) : perfF zs kd k = [] := by unfold perfF; rw [h]; rfl
theorem mvB_parts {n kd k : Int} (h : mvB n kd k = true) : 1 ≤ n ∧ n ≤ 12 ∧ 0 ≤ k ∧ 1 ≤ kd ∧ kd ≤ 9 ∧ kOk kd.toNat k.toNat n.toNat = true := by
  have h1 : 1 ≤ n ∧ n ≤ 12 ∧ 0 ≤ k := by
    by_cases h1 : 1 ≤ n ∧ n ≤ 12 ∧ 0 ≤ k
    · exact h1
    · rw [mvB_out h1] at h; cases h
  have h2 : 1 ≤ kd ∧ kd ≤ 9 := by
    by_cases h2 : 1 ≤ kd ∧ kd ≤ 9
    · exact h2
    · rw [mvB_none h2] at h; cases h
  exact ⟨h1.1, h1.2.1, h1.2.2, h2.1, h2.2, by rw [mvB_some h1.1 h1.2.1 h1.2.2 (by omega)] at h; exact h⟩
theorem perf_parts {zs : List Int} {kd k : Int} (h : perfB zs kd k = true) : okB zs = true ∧ 1 ≤ zs.length ∧ zs.length ≤ 12 ∧ 0 ≤ k ∧ 1 ≤ kd ∧ kd ≤ 9 ∧ kOk kd.toNat k.toNat zs.length = true := by
  unfold perfB at h
  rw [Bool.and_eq_true] at h
  obtain ⟨h1, h2, h3, h4, h5, h6⟩ := mvB_parts h.2
  rw [show ((zs.length : Nat) : Int).toNat = zs.length from rfl] at h6
  exact ⟨h.1, by omega, by omega, h3, h4, h5, h6⟩
theorem perf_len {zs : List Int} {kd k : Int} (h : perfB zs kd k = true) : (perfF zs kd k).length = zs.length := by
  obtain ⟨h1, h2, h3, h4, h5, h6, h7⟩ := perf_parts h
  rw [perfF_yes h, move_len h7 h2 h3]
theorem perf_short (zs : List Int) (kd k : Int) : (perfF zs kd k).length ≤ 1048576 := by
  cases h : perfB zs kd k with
  | true => rw [perf_len h]; have := (perf_parts h).2.2.1; omega
  | false => rw [perfF_no h]; exact Nat.zero_le _
theorem nil_after {w w' : World} (hb : Below w.heap.size w w') : IsILB w.heap.size [] false w (.returned (.tuple #[.slice none 0 0, .bool false])) w' := ⟨none, 0, rfl, World.ownsRow_nil _ _ _ _, hb⟩
set_option maxHeartbeats 1000000 in
theorem impl_milk2 (A : Option Addr) (n c : Nat) (k : Int) (zs : List Int) (w : World) (hn : zs.length = n) (h0 : 1 ≤ n) (h12 : n ≤ 12) (hnc : n ≤ c) (hss : IntsAt w w.heap.size .i64 A zs) :
    Calls Tryz.prog 93 #[.slice A n c, .int .i64 k] w (IsIL w.heap.size (milkL (n + 1) zs []) w) := by
  have HC := Lib.hid (impl_milk A n c zs w hn h0 h12 hnc hss)
  clear hn hss
  go_enter Tryz.func93, Tryz.ntmps93
  go_wp2_with fail
  refine HC.out.mono ?_
  rintro e w1 ⟨A2, c2, rfl, ho, hb⟩
  go_wp2
  go_ret
  exact ⟨A2, c2, rfl, ho, hb⟩
/-- what is known when a kind's function is called -/
structure Ready (A : Option Addr) (n c : Nat) (zs : List Int) (w : World) : Prop where
  len : zs.length = n
  pos : 1 ≤ n
  few : n ≤ 12
  cap : n ≤ c
  fits : Fits zs
  cells : IntsAt w w.heap.size .i64 A zs

set_option maxHeartbeats 1000000 in
/-- Perform behind its checks, kind 1 -/
theorem perf_1 (A : Option Addr) (n c : Nat) (k : Int) (zs : List Int) (w : World) (hn : zs.length = n) (hnc : n ≤ c) (hz : Fits zs) (hss : IntsAt w w.heap.size .i64 A zs) (hok : okB zs = true) (hmv : mvB n 1 k = true) :
    Calls Tryz.prog 34 #[.slice A n c, .agg #[.int .i64 1, .int .i64 k]] w (IsILB w.heap.size (moveF 1 k.toNat zs) true w) := by
  obtain ⟨hp1, hp2, hp3, _, _, hp4⟩ := mvB_parts hmv
  have hm := hmv
  rw [mvB_in (m := n) hp1 hp2 (by omega) rfl, decide_eq_true_eq] at hm
  have hk1 : k.toNat ≤ n := by omega
  have HF := Lib.hid (show cutL zs k.toNat = moveF 1 k.toNat zs by subst hn; rfl)
  have HR0 : Ready A n c zs w := ⟨hn, by omega, by omega, hnc, hz, hss⟩
  have HAL := Lib.hid ((Below.refl w.heap.size w).alloc (Nat.le_refl _) (.cells #[.int .i64 1, .int .i64 k] 34))
  have HBL := Lib.hid (heap_alloc_new w (.cells #[.int .i64 1, .int .i64 k] 34))
  have hs : (w.alloc (.cells #[.int .i64 1, .int .i64 k] 34)).heap.size = w.heap.size + 1 := by simp
  have HS := Lib.hid hs
  have HOK := Lib.hid (Pok.impl_ok A n c zs (w.alloc (.cells #[.int .i64 1, .int .i64 k] 34)) hn (by omega) hz (ints_on hss HAL.out))
  have HBK := Lib.hid hok
  have HMV := Lib.hid hmv
  have HR1 := Lib.hid HR0
  have HK1 := Lib.hid hk1
  have hk0 : 0 ≤ k := hp3
  have HKN := Lib.hid (show ((k.toNat : Nat) : Int) = k by omega)
  clear hn hss hz hok hmv hs HR0 hp1 hp2 hp3 hp4 hm hk1 hnc hk0
  go_enter Tryz.func34, Tryz.ntmps34
  go_wp2_with fail
  refine HOK.out.mono ?_
  rintro e w1 ⟨rfl, hb1⟩
  rw [HBK.out]
  have hba := HAL.out.trans (hb1.mono HAL.out.size)
  have hha : w1.heap[w.heap.size]? = _ := (hb1.block w.heap.size (by rw [HS.out]; omega)).trans HBL.out
  have hs1 := hb1.size
  rw [HS.out] at hs1
  have hc0 : w1.cell? ⟨w.heap.size, 0, none⟩ = some (.int .i64 1) := by
    unfold World.cell?; rw [hha]; rfl
  have hc1 : w1.cell? ⟨w.heap.size, 1, none⟩ = some (.int .i64 k) := by
    unfold World.cell?; rw [hha]; rfl
  have HBA := Lib.hid hba
  have HHA := Lib.hid hha
  clear hb1 hba hha HOK
  go_wp2_with fail
  refine (impl_moveok _ _ _ _).mono ?_
  rintro e w2 ⟨rfl, hb2⟩
  rw [HMV.out]
  have hc02 := (hb2.cell (p := ⟨w.heap.size, 0, none⟩) (by show w.heap.size < _; omega)).trans hc0
  have hc12 := (hb2.cell (p := ⟨w.heap.size, 1, none⟩) (by show w.heap.size < _; omega)).trans hc1
  have hs2 := Nat.le_trans hs1 hb2.size
  have HBB := Lib.hid (HBA.out.trans (hb2.mono HBA.out.size))
  have HC1 := Lib.hid hc12
  clear hb2 hc0 hc1 HBA HHA hc12
  go_wp2_with fail
  refine (kind_1 _ _ rfl).mono ?_
  rintro e W ⟨rfl, hK⟩
  have hbW := HBB.out.trans (hK.below.mono HBB.out.size)
  have HBW := fun o => Lib.hid (hbW.alloc hbW.size o)
  have hc2 := fun o => (keep_alloc (o := o) ((hK.below.cell (p := ⟨w.heap.size, 1, none⟩) (by show w.heap.size < _; omega)).trans HC1.out))
  have HST := fun a x c => Lib.hid (cells3 (heap_alloc_new W (.cells #[a, x, c] 97)))
  clear hK hbW HC1 hc02
  go_wp2_with fail
  generalize hV : W.alloc _ = V
  have HBV := Lib.hid (show Below w.heap.size w V by rw [← hV]; exact (HBW _).out)
  have HR : Hid (Ready A n c zs V) := ⟨HR1.out.len, HR1.out.pos, HR1.out.few, HR1.out.cap, HR1.out.fits, ints_on HR1.out.cells HBV.out⟩
  have hk1 := HK1.out
  have HCON := Lib.hid (show Calls Tryz.prog 97 #[.slice A n c, .int .i64 k] V (IsIL V.heap.size (cutL zs k.toNat) V) by
    have h := impl_cut A n c k.toNat zs V HR.out.len HR.out.pos HR.out.few HR.out.cap (hk1) HR.out.cells
    rw [HKN.out] at h
    exact h)
  clear hV HBW hc2 HST hk1 HK1
  refine HCON.out.mono ?_
  rintro e w5 h
  replace h := il_after h HBV.out HBV.out.size
  rw [HF.out] at h
  obtain ⟨A5, c5, rfl, ho, hb⟩ := h
  go_wp2
  go_ret2
  exact ⟨A5, c5, rfl, ho, hb⟩

set_option maxHeartbeats 1000000 in
/-- Perform behind its checks, kind 2 -/
theorem perf_2 (A : Option Addr) (n c : Nat) (k : Int) (zs : List Int) (w : World) (hn : zs.length = n) (hnc : n ≤ c) (hz : Fits zs) (hss : IntsAt w w.heap.size .i64 A zs) (hok : okB zs = true) (hmv : mvB n 2 k = true) :
    Calls Tryz.prog 34 #[.slice A n c, .agg #[.int .i64 2, .int .i64 k]] w (IsILB w.heap.size (moveF 2 k.toNat zs) true w) := by
  obtain ⟨hp1, hp2, hp3, _, _, hp4⟩ := mvB_parts hmv
  have hm := hmv
  rw [mvB_in (m := n) hp1 hp2 (by omega) rfl, decide_eq_true_eq] at hm
  have hk1 : k.toNat ≤ n := by omega
  have HF := Lib.hid (show dealL zs k.toNat = moveF 2 k.toNat zs by subst hn; rfl)
  have HR0 : Ready A n c zs w := ⟨hn, by omega, by omega, hnc, hz, hss⟩
  have HAL := Lib.hid ((Below.refl w.heap.size w).alloc (Nat.le_refl _) (.cells #[.int .i64 2, .int .i64 k] 34))
  have HBL := Lib.hid (heap_alloc_new w (.cells #[.int .i64 2, .int .i64 k] 34))
  have hs : (w.alloc (.cells #[.int .i64 2, .int .i64 k] 34)).heap.size = w.heap.size + 1 := by simp
  have HS := Lib.hid hs
  have HOK := Lib.hid (Pok.impl_ok A n c zs (w.alloc (.cells #[.int .i64 2, .int .i64 k] 34)) hn (by omega) hz (ints_on hss HAL.out))
  have HBK := Lib.hid hok
  have HMV := Lib.hid hmv
  have HR1 := Lib.hid HR0
  have HK1 := Lib.hid hk1
  have hk0 : 0 ≤ k := hp3
  have HKN := Lib.hid (show ((k.toNat : Nat) : Int) = k by omega)
  clear hn hss hz hok hmv hs HR0 hp1 hp2 hp3 hp4 hm hk1 hnc hk0
  go_enter Tryz.func34, Tryz.ntmps34
  go_wp2_with fail
  refine HOK.out.mono ?_
  rintro e w1 ⟨rfl, hb1⟩
  rw [HBK.out]
  have hba := HAL.out.trans (hb1.mono HAL.out.size)
  have hha : w1.heap[w.heap.size]? = _ := (hb1.block w.heap.size (by rw [HS.out]; omega)).trans HBL.out
  have hs1 := hb1.size
  rw [HS.out] at hs1
  have hc0 : w1.cell? ⟨w.heap.size, 0, none⟩ = some (.int .i64 2) := by
    unfold World.cell?; rw [hha]; rfl
  have hc1 : w1.cell? ⟨w.heap.size, 1, none⟩ = some (.int .i64 k) := by
    unfold World.cell?; rw [hha]; rfl
  have HBA := Lib.hid hba
  have HHA := Lib.hid hha
  clear hb1 hba hha HOK
  go_wp2_with fail
  refine (impl_moveok _ _ _ _).mono ?_
  rintro e w2 ⟨rfl, hb2⟩
  rw [HMV.out]
  have hc02 := (hb2.cell (p := ⟨w.heap.size, 0, none⟩) (by show w.heap.size < _; omega)).trans hc0
  have hc12 := (hb2.cell (p := ⟨w.heap.size, 1, none⟩) (by show w.heap.size < _; omega)).trans hc1
  have hs2 := Nat.le_trans hs1 hb2.size
  have HBB := Lib.hid (HBA.out.trans (hb2.mono HBA.out.size))
  have HC1 := Lib.hid hc12
  clear hb2 hc0 hc1 HBA HHA hc12
  go_wp2_with fail
  refine (kind_2 _ _ rfl).mono ?_
  rintro e W ⟨rfl, hK⟩
  have hbW := HBB.out.trans (hK.below.mono HBB.out.size)
  have HBW := fun o => Lib.hid (hbW.alloc hbW.size o)
  have hc2 := fun o => (keep_alloc (o := o) ((hK.below.cell (p := ⟨w.heap.size, 1, none⟩) (by show w.heap.size < _; omega)).trans HC1.out))
  have HST := fun a x c => Lib.hid (cells3 (heap_alloc_new W (.cells #[a, x, c] 97)))
  clear hK hbW HC1 hc02
  go_wp2_with fail
  generalize hV : W.alloc _ = V
  have HBV := Lib.hid (show Below w.heap.size w V by rw [← hV]; exact (HBW _).out)
  have HR : Hid (Ready A n c zs V) := ⟨HR1.out.len, HR1.out.pos, HR1.out.few, HR1.out.cap, HR1.out.fits, ints_on HR1.out.cells HBV.out⟩
  have hk1 := HK1.out
  have HCON := Lib.hid (show Calls Tryz.prog 88 #[.slice A n c, .int .i64 k] V (IsIL V.heap.size (dealL zs k.toNat) V) by
    have h := impl_deal A n c k.toNat zs V HR.out.len HR.out.pos HR.out.few (hk1) HR.out.cells
    rw [HKN.out] at h
    exact h)
  clear hV HBW hc2 HST hk1 HK1
  refine HCON.out.mono ?_
  rintro e w5 h
  replace h := il_after h HBV.out HBV.out.size
  rw [HF.out] at h
  obtain ⟨A5, c5, rfl, ho, hb⟩ := h
  go_wp2
  go_ret2
  exact ⟨A5, c5, rfl, ho, hb⟩

set_option maxHeartbeats 1000000 in
/-- Perform behind its checks, kind 3 -/
theorem perf_3 (A : Option Addr) (n c : Nat) (k : Int) (zs : List Int) (w : World) (hn : zs.length = n) (hnc : n ≤ c) (hz : Fits zs) (hss : IntsAt w w.heap.size .i64 A zs) (hok : okB zs = true) (hmv : mvB n 3 k = true) :
    Calls Tryz.prog 34 #[.slice A n c, .agg #[.int .i64 3, .int .i64 k]] w (IsILB w.heap.size (moveF 3 k.toNat zs) true w) := by
  obtain ⟨hp1, hp2, hp3, _, _, hp4⟩ := mvB_parts hmv
  have hm := hmv
  rw [mvB_in (m := n) hp1 hp2 (by omega) rfl, decide_eq_true_eq] at hm
  have hk1 : k.toNat ≤ n := by omega
  have HF := Lib.hid (show (zs.take k.toNat).reverse.map turnF ++ zs.drop k.toNat = moveF 3 k.toNat zs by subst hn; rfl)
  have HR0 : Ready A n c zs w := ⟨hn, by omega, by omega, hnc, hz, hss⟩
  have HAL := Lib.hid ((Below.refl w.heap.size w).alloc (Nat.le_refl _) (.cells #[.int .i64 3, .int .i64 k] 34))
  have HBL := Lib.hid (heap_alloc_new w (.cells #[.int .i64 3, .int .i64 k] 34))
  have hs : (w.alloc (.cells #[.int .i64 3, .int .i64 k] 34)).heap.size = w.heap.size + 1 := by simp
  have HS := Lib.hid hs
  have HOK := Lib.hid (Pok.impl_ok A n c zs (w.alloc (.cells #[.int .i64 3, .int .i64 k] 34)) hn (by omega) hz (ints_on hss HAL.out))
  have HBK := Lib.hid hok
  have HMV := Lib.hid hmv
  have HR1 := Lib.hid HR0
  have HK1 := Lib.hid hk1
  have hk0 : 0 ≤ k := hp3
  have HKN := Lib.hid (show ((k.toNat : Nat) : Int) = k by omega)
  clear hn hss hz hok hmv hs HR0 hp1 hp2 hp3 hp4 hm hk1 hnc hk0
  go_enter Tryz.func34, Tryz.ntmps34
  go_wp2_with fail
  refine HOK.out.mono ?_
  rintro e w1 ⟨rfl, hb1⟩
  rw [HBK.out]
  have hba := HAL.out.trans (hb1.mono HAL.out.size)
  have hha : w1.heap[w.heap.size]? = _ := (hb1.block w.heap.size (by rw [HS.out]; omega)).trans HBL.out
  have hs1 := hb1.size
  rw [HS.out] at hs1
  have hc0 : w1.cell? ⟨w.heap.size, 0, none⟩ = some (.int .i64 3) := by
    unfold World.cell?; rw [hha]; rfl
  have hc1 : w1.cell? ⟨w.heap.size, 1, none⟩ = some (.int .i64 k) := by
    unfold World.cell?; rw [hha]; rfl
  have HBA := Lib.hid hba
  have HHA := Lib.hid hha
  clear hb1 hba hha HOK
  go_wp2_with fail
  refine (impl_moveok _ _ _ _).mono ?_
  rintro e w2 ⟨rfl, hb2⟩
  rw [HMV.out]
  have hc02 := (hb2.cell (p := ⟨w.heap.size, 0, none⟩) (by show w.heap.size < _; omega)).trans hc0
  have hc12 := (hb2.cell (p := ⟨w.heap.size, 1, none⟩) (by show w.heap.size < _; omega)).trans hc1
  have hs2 := Nat.le_trans hs1 hb2.size
  have HBB := Lib.hid (HBA.out.trans (hb2.mono HBA.out.size))
  have HC1 := Lib.hid hc12
  clear hb2 hc0 hc1 HBA HHA hc12
  go_wp2_with fail
  refine (kind_3 _ _ rfl).mono ?_
  rintro e W ⟨rfl, hK⟩
  have hbW := HBB.out.trans (hK.below.mono HBB.out.size)
  have HBW := fun o => Lib.hid (hbW.alloc hbW.size o)
  have hc2 := fun o => (keep_alloc (o := o) ((hK.below.cell (p := ⟨w.heap.size, 1, none⟩) (by show w.heap.size < _; omega)).trans HC1.out))
  have HST := fun a x c => Lib.hid (cells3 (heap_alloc_new W (.cells #[a, x, c] 97)))
  have HDL := fun o => Lib.hid (keep_alloc (o := o) hK.deal)
  clear hK hbW HC1 hc02
  go_wp2_with fail
  generalize hV : W.alloc _ = V
  have HBV := Lib.hid (show Below w.heap.size w V by rw [← hV]; exact (HBW _).out)
  have hdl : V.cell? ⟨w2.heap.size + 1 + 1, 0, none⟩ = some (.func (.func 88) #[] #[]) := by rw [← hV]; exact (HDL _).out
  have HR : Hid (Ready A n c zs V) := ⟨HR1.out.len, HR1.out.pos, HR1.out.few, HR1.out.cap, HR1.out.fits, ints_on HR1.out.cells HBV.out⟩
  have hk1 := HK1.out
  have HCON := Lib.hid (show Calls Tryz.prog 92 #[.slice A n c, .int .i64 k, .pointer (some ⟨w2.heap.size + 1 + 1, 0, none⟩)] V (IsIL V.heap.size ((zs.take k.toNat).reverse.map turnF ++ zs.drop k.toNat) V) by
    have h := impl_flip A n c k.toNat _ zs V HR.out.len HR.out.pos HR.out.few (hk1) HR.out.fits HR.out.cells hdl
    rw [HKN.out] at h
    exact h)
  clear hV HBW hc2 HST HDL hk1 HK1
  refine HCON.out.mono ?_
  rintro e w5 h
  replace h := il_after h HBV.out HBV.out.size
  rw [HF.out] at h
  obtain ⟨A5, c5, rfl, ho, hb⟩ := h
  go_wp2
  go_ret2
  exact ⟨A5, c5, rfl, ho, hb⟩

set_option maxHeartbeats 1000000 in
/-- Perform behind its checks, kind 4 -/
theorem perf_4 (A : Option Addr) (n c : Nat) (k : Int) (zs : List Int) (w : World) (hn : zs.length = n) (hnc : n ≤ c) (hz : Fits zs) (hss : IntsAt w w.heap.size .i64 A zs) (hok : okB zs = true) (hmv : mvB n 4 k = true) :
    Calls Tryz.prog 34 #[.slice A n c, .agg #[.int .i64 4, .int .i64 k]] w (IsILB w.heap.size (moveF 4 k.toNat zs) true w) := by
  obtain ⟨hp1, hp2, hp3, _, _, hp4⟩ := mvB_parts hmv
  have hm := hmv
  rw [mvB_in (m := 1) hp1 hp2 (by omega) rfl, decide_eq_true_eq] at hm
  have hk1 : (k = 0 ∧ k.toNat = 0) ∨ (k = 1 ∧ k.toNat = 1) := by omega
  have HF := Lib.hid (show faroL zs k.toNat = moveF 4 k.toNat zs by subst hn; rfl)
  have HR0 : Ready A n c zs w := ⟨hn, by omega, by omega, hnc, hz, hss⟩
  have HAL := Lib.hid ((Below.refl w.heap.size w).alloc (Nat.le_refl _) (.cells #[.int .i64 4, .int .i64 k] 34))
  have HBL := Lib.hid (heap_alloc_new w (.cells #[.int .i64 4, .int .i64 k] 34))
  have hs : (w.alloc (.cells #[.int .i64 4, .int .i64 k] 34)).heap.size = w.heap.size + 1 := by simp
  have HS := Lib.hid hs
  have HOK := Lib.hid (Pok.impl_ok A n c zs (w.alloc (.cells #[.int .i64 4, .int .i64 k] 34)) hn (by omega) hz (ints_on hss HAL.out))
  have HBK := Lib.hid hok
  have HMV := Lib.hid hmv
  have HR1 := Lib.hid HR0
  have HK1 := Lib.hid hk1
  have hk0 : 0 ≤ k := hp3
  have HKN := Lib.hid (show ((k.toNat : Nat) : Int) = k by omega)
  clear hn hss hz hok hmv hs HR0 hp1 hp2 hp3 hp4 hm hk1 hnc hk0
  go_enter Tryz.func34, Tryz.ntmps34
  go_wp2_with fail
  refine HOK.out.mono ?_
  rintro e w1 ⟨rfl, hb1⟩
  rw [HBK.out]
  have hba := HAL.out.trans (hb1.mono HAL.out.size)
  have hha : w1.heap[w.heap.size]? = _ := (hb1.block w.heap.size (by rw [HS.out]; omega)).trans HBL.out
  have hs1 := hb1.size
  rw [HS.out] at hs1
  have hc0 : w1.cell? ⟨w.heap.size, 0, none⟩ = some (.int .i64 4) := by
    unfold World.cell?; rw [hha]; rfl
  have hc1 : w1.cell? ⟨w.heap.size, 1, none⟩ = some (.int .i64 k) := by
    unfold World.cell?; rw [hha]; rfl
  have HBA := Lib.hid hba
  have HHA := Lib.hid hha
  clear hb1 hba hha HOK
  go_wp2_with fail
  refine (impl_moveok _ _ _ _).mono ?_
  rintro e w2 ⟨rfl, hb2⟩
  rw [HMV.out]
  have hc02 := (hb2.cell (p := ⟨w.heap.size, 0, none⟩) (by show w.heap.size < _; omega)).trans hc0
  have hc12 := (hb2.cell (p := ⟨w.heap.size, 1, none⟩) (by show w.heap.size < _; omega)).trans hc1
  have hs2 := Nat.le_trans hs1 hb2.size
  have HBB := Lib.hid (HBA.out.trans (hb2.mono HBA.out.size))
  have HC1 := Lib.hid hc12
  clear hb2 hc0 hc1 HBA HHA hc12
  go_wp2_with fail
  refine (kind_4 _ _ rfl).mono ?_
  rintro e W ⟨rfl, hK⟩
  have hbW := HBB.out.trans (hK.below.mono HBB.out.size)
  have HBW := fun o => Lib.hid (hbW.alloc hbW.size o)
  have hc2 := fun o => (keep_alloc (o := o) ((hK.below.cell (p := ⟨w.heap.size, 1, none⟩) (by show w.heap.size < _; omega)).trans HC1.out))
  have HST := fun a x c => Lib.hid (cells3 (heap_alloc_new W (.cells #[a, x, c] 97)))
  clear hK hbW HC1 hc02
  go_wp2_with fail
  generalize hV : W.alloc _ = V
  have HBV := Lib.hid (show Below w.heap.size w V by rw [← hV]; exact (HBW _).out)
  have HR : Hid (Ready A n c zs V) := ⟨HR1.out.len, HR1.out.pos, HR1.out.few, HR1.out.cap, HR1.out.fits, ints_on HR1.out.cells HBV.out⟩
  have hk1 := HK1.out
  have HCON := Lib.hid (show Calls Tryz.prog 98 #[.slice A n c, .int .i64 k] V (IsIL V.heap.size (faroL zs k.toNat) V) by
    have h := impl_faro_at A n c k.toNat k zs V HR.out.len HR.out.pos HR.out.few HR.out.cap hk1 HR.out.cells
    skip
    exact h)
  clear hV HBW hc2 HST hk1 HK1
  refine HCON.out.mono ?_
  rintro e w5 h
  replace h := il_after h HBV.out HBV.out.size
  rw [HF.out] at h
  obtain ⟨A5, c5, rfl, ho, hb⟩ := h
  go_wp2
  go_ret2
  exact ⟨A5, c5, rfl, ho, hb⟩

set_option maxHeartbeats 1000000 in
/-- Perform behind its checks, kind 5 -/
theorem perf_5 (A : Option Addr) (n c : Nat) (k : Int) (zs : List Int) (w : World) (hn : zs.length = n) (hnc : n ≤ c) (hz : Fits zs) (hss : IntsAt w w.heap.size .i64 A zs) (hok : okB zs = true) (hmv : mvB n 5 k = true) :
    Calls Tryz.prog 34 #[.slice A n c, .agg #[.int .i64 5, .int .i64 k]] w (IsILB w.heap.size (moveF 5 k.toNat zs) true w) := by
  obtain ⟨hp1, hp2, hp3, _, _, hp4⟩ := mvB_parts hmv
  have hm := hmv
  rw [mvB_in (m := 1) hp1 hp2 (by omega) rfl, decide_eq_true_eq] at hm
  have hk1 : (k = 0 ∧ k.toNat = 0) ∨ (k = 1 ∧ k.toNat = 1) := by omega
  have HF := Lib.hid (show mongeL k.toNat 0 zs [] = moveF 5 k.toNat zs by subst hn; rfl)
  have HR0 : Ready A n c zs w := ⟨hn, by omega, by omega, hnc, hz, hss⟩
  have HAL := Lib.hid ((Below.refl w.heap.size w).alloc (Nat.le_refl _) (.cells #[.int .i64 5, .int .i64 k] 34))
  have HBL := Lib.hid (heap_alloc_new w (.cells #[.int .i64 5, .int .i64 k] 34))
  have hs : (w.alloc (.cells #[.int .i64 5, .int .i64 k] 34)).heap.size = w.heap.size + 1 := by simp
  have HS := Lib.hid hs
  have HOK := Lib.hid (Pok.impl_ok A n c zs (w.alloc (.cells #[.int .i64 5, .int .i64 k] 34)) hn (by omega) hz (ints_on hss HAL.out))
  have HBK := Lib.hid hok
  have HMV := Lib.hid hmv
  have HR1 := Lib.hid HR0
  have HK1 := Lib.hid hk1
  have hk0 : 0 ≤ k := hp3
  have HKN := Lib.hid (show ((k.toNat : Nat) : Int) = k by omega)
  clear hn hss hz hok hmv hs HR0 hp1 hp2 hp3 hp4 hm hk1 hnc hk0
  go_enter Tryz.func34, Tryz.ntmps34
  go_wp2_with fail
  refine HOK.out.mono ?_
  rintro e w1 ⟨rfl, hb1⟩
  rw [HBK.out]
  have hba := HAL.out.trans (hb1.mono HAL.out.size)
  have hha : w1.heap[w.heap.size]? = _ := (hb1.block w.heap.size (by rw [HS.out]; omega)).trans HBL.out
  have hs1 := hb1.size
  rw [HS.out] at hs1
  have hc0 : w1.cell? ⟨w.heap.size, 0, none⟩ = some (.int .i64 5) := by
    unfold World.cell?; rw [hha]; rfl
  have hc1 : w1.cell? ⟨w.heap.size, 1, none⟩ = some (.int .i64 k) := by
    unfold World.cell?; rw [hha]; rfl
  have HBA := Lib.hid hba
  have HHA := Lib.hid hha
  clear hb1 hba hha HOK
  go_wp2_with fail
  refine (impl_moveok _ _ _ _).mono ?_
  rintro e w2 ⟨rfl, hb2⟩
  rw [HMV.out]
  have hc02 := (hb2.cell (p := ⟨w.heap.size, 0, none⟩) (by show w.heap.size < _; omega)).trans hc0
  have hc12 := (hb2.cell (p := ⟨w.heap.size, 1, none⟩) (by show w.heap.size < _; omega)).trans hc1
  have hs2 := Nat.le_trans hs1 hb2.size
  have HBB := Lib.hid (HBA.out.trans (hb2.mono HBA.out.size))
  have HC1 := Lib.hid hc12
  clear hb2 hc0 hc1 HBA HHA hc12
  go_wp2_with fail
  refine (kind_5 _ _ rfl).mono ?_
  rintro e W ⟨rfl, hK⟩
  have hbW := HBB.out.trans (hK.below.mono HBB.out.size)
  have HBW := fun o => Lib.hid (hbW.alloc hbW.size o)
  have hc2 := fun o => (keep_alloc (o := o) ((hK.below.cell (p := ⟨w.heap.size, 1, none⟩) (by show w.heap.size < _; omega)).trans HC1.out))
  have HST := fun a x c => Lib.hid (cells3 (heap_alloc_new W (.cells #[a, x, c] 97)))
  clear hK hbW HC1 hc02
  go_wp2_with fail
  generalize hV : W.alloc _ = V
  have HBV := Lib.hid (show Below w.heap.size w V by rw [← hV]; exact (HBW _).out)
  have HR : Hid (Ready A n c zs V) := ⟨HR1.out.len, HR1.out.pos, HR1.out.few, HR1.out.cap, HR1.out.fits, ints_on HR1.out.cells HBV.out⟩
  have hk1 := HK1.out
  have HCON := Lib.hid (show Calls Tryz.prog 99 #[.slice A n c, .int .i64 k] V (IsIL V.heap.size (mongeL k.toNat 0 zs []) V) by
    have h := impl_monge_at A n c k.toNat k zs V HR.out.len HR.out.few hk1 HR.out.cells
    skip
    exact h)
  clear hV HBW hc2 HST hk1 HK1
  refine HCON.out.mono ?_
  rintro e w5 h
  replace h := il_after h HBV.out HBV.out.size
  rw [HF.out] at h
  obtain ⟨A5, c5, rfl, ho, hb⟩ := h
  go_wp2
  go_ret2
  exact ⟨A5, c5, rfl, ho, hb⟩

set_option maxHeartbeats 1000000 in
/-- Perform behind its checks, kind 6 -/
theorem perf_6 (A : Option Addr) (n c : Nat) (k : Int) (zs : List Int) (w : World) (hn : zs.length = n) (hnc : n ≤ c) (hz : Fits zs) (hss : IntsAt w w.heap.size .i64 A zs) (hok : okB zs = true) (hmv : mvB n 6 k = true) :
    Calls Tryz.prog 34 #[.slice A n c, .agg #[.int .i64 6, .int .i64 k]] w (IsILB w.heap.size (moveF 6 k.toNat zs) true w) := by
  obtain ⟨hp1, hp2, hp3, _, _, hp4⟩ := mvB_parts hmv
  have hm := hmv
  rw [mvB_in (m := 0) hp1 hp2 (by omega) rfl, decide_eq_true_eq] at hm
  have hk1 : k = 0 := by omega
  have HF := Lib.hid (show milkL (n + 1) zs [] = moveF 6 k.toNat zs by subst hn; rfl)
  have HR0 : Ready A n c zs w := ⟨hn, by omega, by omega, hnc, hz, hss⟩
  have HAL := Lib.hid ((Below.refl w.heap.size w).alloc (Nat.le_refl _) (.cells #[.int .i64 6, .int .i64 k] 34))
  have HBL := Lib.hid (heap_alloc_new w (.cells #[.int .i64 6, .int .i64 k] 34))
  have hs : (w.alloc (.cells #[.int .i64 6, .int .i64 k] 34)).heap.size = w.heap.size + 1 := by simp
  have HS := Lib.hid hs
  have HOK := Lib.hid (Pok.impl_ok A n c zs (w.alloc (.cells #[.int .i64 6, .int .i64 k] 34)) hn (by omega) hz (ints_on hss HAL.out))
  have HBK := Lib.hid hok
  have HMV := Lib.hid hmv
  have HR1 := Lib.hid HR0
  have HK1 := Lib.hid hk1
  have hk0 : 0 ≤ k := hp3
  have HKN := Lib.hid (show ((k.toNat : Nat) : Int) = k by omega)
  clear hn hss hz hok hmv hs HR0 hp1 hp2 hp3 hp4 hm hk1 hnc hk0
  go_enter Tryz.func34, Tryz.ntmps34
  go_wp2_with fail
  refine HOK.out.mono ?_
  rintro e w1 ⟨rfl, hb1⟩
  rw [HBK.out]
  have hba := HAL.out.trans (hb1.mono HAL.out.size)
  have hha : w1.heap[w.heap.size]? = _ := (hb1.block w.heap.size (by rw [HS.out]; omega)).trans HBL.out
  have hs1 := hb1.size
  rw [HS.out] at hs1
  have hc0 : w1.cell? ⟨w.heap.size, 0, none⟩ = some (.int .i64 6) := by
    unfold World.cell?; rw [hha]; rfl
  have hc1 : w1.cell? ⟨w.heap.size, 1, none⟩ = some (.int .i64 k) := by
    unfold World.cell?; rw [hha]; rfl
  have HBA := Lib.hid hba
  have HHA := Lib.hid hha
  clear hb1 hba hha HOK
  go_wp2_with fail
  refine (impl_moveok _ _ _ _).mono ?_
  rintro e w2 ⟨rfl, hb2⟩
  rw [HMV.out]
  have hc02 := (hb2.cell (p := ⟨w.heap.size, 0, none⟩) (by show w.heap.size < _; omega)).trans hc0
  have hc12 := (hb2.cell (p := ⟨w.heap.size, 1, none⟩) (by show w.heap.size < _; omega)).trans hc1
  have hs2 := Nat.le_trans hs1 hb2.size
  have HBB := Lib.hid (HBA.out.trans (hb2.mono HBA.out.size))
  have HC1 := Lib.hid hc12
  clear hb2 hc0 hc1 HBA HHA hc12
  go_wp2_with fail
  refine (kind_6 _ _ rfl).mono ?_
  rintro e W ⟨rfl, hK⟩
  have hbW := HBB.out.trans (hK.below.mono HBB.out.size)
  have HBW := fun o => Lib.hid (hbW.alloc hbW.size o)
  have hc2 := fun o => (keep_alloc (o := o) ((hK.below.cell (p := ⟨w.heap.size, 1, none⟩) (by show w.heap.size < _; omega)).trans HC1.out))
  have HST := fun a x c => Lib.hid (cells3 (heap_alloc_new W (.cells #[a, x, c] 97)))
  clear hK hbW HC1 hc02
  go_wp2_with fail
  generalize hV : W.alloc _ = V
  have HBV := Lib.hid (show Below w.heap.size w V by rw [← hV]; exact (HBW _).out)
  have HR : Hid (Ready A n c zs V) := ⟨HR1.out.len, HR1.out.pos, HR1.out.few, HR1.out.cap, HR1.out.fits, ints_on HR1.out.cells HBV.out⟩
  have hk1 := HK1.out
  have HCON := Lib.hid (show Calls Tryz.prog 93 #[.slice A n c, .int .i64 k] V (IsIL V.heap.size (milkL (n + 1) zs []) V) by
    have h := impl_milk2 A n c k zs V HR.out.len HR.out.pos HR.out.few HR.out.cap HR.out.cells
    skip
    exact h)
  clear hV HBW hc2 HST hk1 HK1
  refine HCON.out.mono ?_
  rintro e w5 h
  replace h := il_after h HBV.out HBV.out.size
  rw [HF.out] at h
  obtain ⟨A5, c5, rfl, ho, hb⟩ := h
  go_wp2
  go_ret2
  exact ⟨A5, c5, rfl, ho, hb⟩

set_option maxHeartbeats 1000000 in
/-- Perform behind its checks, kind 7 -/
theorem perf_7 (A : Option Addr) (n c : Nat) (k : Int) (zs : List Int) (w : World) (hn : zs.length = n) (hnc : n ≤ c) (hz : Fits zs) (hss : IntsAt w w.heap.size .i64 A zs) (hok : okB zs = true) (hmv : mvB n 7 k = true) :
    Calls Tryz.prog 34 #[.slice A n c, .agg #[.int .i64 7, .int .i64 k]] w (IsILB w.heap.size (moveF 7 k.toNat zs) true w) := by
  obtain ⟨hp1, hp2, hp3, _, _, hp4⟩ := mvB_parts hmv
  have hm := hmv
  rw [mvB_in (m := 1) hp1 hp2 (by omega) rfl, decide_eq_true_eq] at hm
  have hk1 : (k = 0 ∧ k.toNat = 0) ∨ (k = 1 ∧ k.toNat = 1) := by omega
  have HF := Lib.hid (show duckL (2 * n + 2) zs [] k.toNat = moveF 7 k.toNat zs by subst hn; rfl)
  have HR0 : Ready A n c zs w := ⟨hn, by omega, by omega, hnc, hz, hss⟩
  have HAL := Lib.hid ((Below.refl w.heap.size w).alloc (Nat.le_refl _) (.cells #[.int .i64 7, .int .i64 k] 34))
  have HBL := Lib.hid (heap_alloc_new w (.cells #[.int .i64 7, .int .i64 k] 34))
  have hs : (w.alloc (.cells #[.int .i64 7, .int .i64 k] 34)).heap.size = w.heap.size + 1 := by simp
  have HS := Lib.hid hs
  have HOK := Lib.hid (Pok.impl_ok A n c zs (w.alloc (.cells #[.int .i64 7, .int .i64 k] 34)) hn (by omega) hz (ints_on hss HAL.out))
  have HBK := Lib.hid hok
  have HMV := Lib.hid hmv
  have HR1 := Lib.hid HR0
  have HK1 := Lib.hid hk1
  have hk0 : 0 ≤ k := hp3
  have HKN := Lib.hid (show ((k.toNat : Nat) : Int) = k by omega)
  clear hn hss hz hok hmv hs HR0 hp1 hp2 hp3 hp4 hm hk1 hnc hk0
  go_enter Tryz.func34, Tryz.ntmps34
  go_wp2_with fail
  refine HOK.out.mono ?_
  rintro e w1 ⟨rfl, hb1⟩
  rw [HBK.out]
  have hba := HAL.out.trans (hb1.mono HAL.out.size)
  have hha : w1.heap[w.heap.size]? = _ := (hb1.block w.heap.size (by rw [HS.out]; omega)).trans HBL.out
  have hs1 := hb1.size
  rw [HS.out] at hs1
  have hc0 : w1.cell? ⟨w.heap.size, 0, none⟩ = some (.int .i64 7) := by
    unfold World.cell?; rw [hha]; rfl
  have hc1 : w1.cell? ⟨w.heap.size, 1, none⟩ = some (.int .i64 k) := by
    unfold World.cell?; rw [hha]; rfl
  have HBA := Lib.hid hba
  have HHA := Lib.hid hha
  clear hb1 hba hha HOK
  go_wp2_with fail
  refine (impl_moveok _ _ _ _).mono ?_
  rintro e w2 ⟨rfl, hb2⟩
  rw [HMV.out]
  have hc02 := (hb2.cell (p := ⟨w.heap.size, 0, none⟩) (by show w.heap.size < _; omega)).trans hc0
  have hc12 := (hb2.cell (p := ⟨w.heap.size, 1, none⟩) (by show w.heap.size < _; omega)).trans hc1
  have hs2 := Nat.le_trans hs1 hb2.size
  have HBB := Lib.hid (HBA.out.trans (hb2.mono HBA.out.size))
  have HC1 := Lib.hid hc12
  clear hb2 hc0 hc1 HBA HHA hc12
  go_wp2_with fail
  refine (kind_7 _ _ rfl).mono ?_
  rintro e W ⟨rfl, hK⟩
  have hbW := HBB.out.trans (hK.below.mono HBB.out.size)
  have HBW := fun o => Lib.hid (hbW.alloc hbW.size o)
  have hc2 := fun o => (keep_alloc (o := o) ((hK.below.cell (p := ⟨w.heap.size, 1, none⟩) (by show w.heap.size < _; omega)).trans HC1.out))
  have HST := fun a x c => Lib.hid (cells3 (heap_alloc_new W (.cells #[a, x, c] 97)))
  clear hK hbW HC1 hc02
  go_wp2_with fail
  generalize hV : W.alloc _ = V
  have HBV := Lib.hid (show Below w.heap.size w V by rw [← hV]; exact (HBW _).out)
  have HR : Hid (Ready A n c zs V) := ⟨HR1.out.len, HR1.out.pos, HR1.out.few, HR1.out.cap, HR1.out.fits, ints_on HR1.out.cells HBV.out⟩
  have hk1 := HK1.out
  have HCON := Lib.hid (show Calls Tryz.prog 100 #[.slice A n c, .int .i64 k] V (IsIL V.heap.size (duckL (2 * n + 2) zs [] k.toNat) V) by
    have h := impl_duck_at A n c k.toNat k zs V HR.out.len HR.out.pos HR.out.few hk1 HR.out.cells
    skip
    exact h)
  clear hV HBW hc2 HST hk1 HK1
  refine HCON.out.mono ?_
  rintro e w5 h
  replace h := il_after h HBV.out HBV.out.size
  rw [HF.out] at h
  obtain ⟨A5, c5, rfl, ho, hb⟩ := h
  go_wp2
  go_ret2
  exact ⟨A5, c5, rfl, ho, hb⟩

set_option maxHeartbeats 1000000 in
/-- Perform behind its checks, kind 8 -/
theorem perf_8 (A : Option Addr) (n c : Nat) (k : Int) (zs : List Int) (w : World) (hn : zs.length = n) (hnc : n ≤ c) (hz : Fits zs) (hss : IntsAt w w.heap.size .i64 A zs) (hok : okB zs = true) (hmv : mvB n 8 k = true) :
    Calls Tryz.prog 34 #[.slice A n c, .agg #[.int .i64 8, .int .i64 k]] w (IsILB w.heap.size (moveF 8 k.toNat zs) true w) := by
  obtain ⟨hp1, hp2, hp3, _, _, hp4⟩ := mvB_parts hmv
  have hm := hmv
  rw [mvB_in (m := n - 1) hp1 hp2 (by omega) rfl, decide_eq_true_eq] at hm
  have hk1 : k.toNat < n := by omega
  have HF := Lib.hid (show zs.set k.toNat (turnF (zs.getD k.toNat 0)) = moveF 8 k.toNat zs by subst hn; rfl)
  have HR0 : Ready A n c zs w := ⟨hn, by omega, by omega, hnc, hz, hss⟩
  have HAL := Lib.hid ((Below.refl w.heap.size w).alloc (Nat.le_refl _) (.cells #[.int .i64 8, .int .i64 k] 34))
  have HBL := Lib.hid (heap_alloc_new w (.cells #[.int .i64 8, .int .i64 k] 34))
  have hs : (w.alloc (.cells #[.int .i64 8, .int .i64 k] 34)).heap.size = w.heap.size + 1 := by simp
  have HS := Lib.hid hs
  have HOK := Lib.hid (Pok.impl_ok A n c zs (w.alloc (.cells #[.int .i64 8, .int .i64 k] 34)) hn (by omega) hz (ints_on hss HAL.out))
  have HBK := Lib.hid hok
  have HMV := Lib.hid hmv
  have HR1 := Lib.hid HR0
  have HK1 := Lib.hid hk1
  have hk0 : 0 ≤ k := hp3
  have HKN := Lib.hid (show ((k.toNat : Nat) : Int) = k by omega)
  clear hn hss hz hok hmv hs HR0 hp1 hp2 hp3 hp4 hm hk1 hnc hk0
  go_enter Tryz.func34, Tryz.ntmps34
  go_wp2_with fail
  refine HOK.out.mono ?_
  rintro e w1 ⟨rfl, hb1⟩
  rw [HBK.out]
  have hba := HAL.out.trans (hb1.mono HAL.out.size)
  have hha : w1.heap[w.heap.size]? = _ := (hb1.block w.heap.size (by rw [HS.out]; omega)).trans HBL.out
  have hs1 := hb1.size
  rw [HS.out] at hs1
  have hc0 : w1.cell? ⟨w.heap.size, 0, none⟩ = some (.int .i64 8) := by
    unfold World.cell?; rw [hha]; rfl
  have hc1 : w1.cell? ⟨w.heap.size, 1, none⟩ = some (.int .i64 k) := by
    unfold World.cell?; rw [hha]; rfl
  have HBA := Lib.hid hba
  have HHA := Lib.hid hha
  clear hb1 hba hha HOK
  go_wp2_with fail
  refine (impl_moveok _ _ _ _).mono ?_
  rintro e w2 ⟨rfl, hb2⟩
  rw [HMV.out]
  have hc02 := (hb2.cell (p := ⟨w.heap.size, 0, none⟩) (by show w.heap.size < _; omega)).trans hc0
  have hc12 := (hb2.cell (p := ⟨w.heap.size, 1, none⟩) (by show w.heap.size < _; omega)).trans hc1
  have hs2 := Nat.le_trans hs1 hb2.size
  have HBB := Lib.hid (HBA.out.trans (hb2.mono HBA.out.size))
  have HC1 := Lib.hid hc12
  clear hb2 hc0 hc1 HBA HHA hc12
  go_wp2_with fail
  refine (kind_8 _ _ rfl).mono ?_
  rintro e W ⟨rfl, hK⟩
  have hbW := HBB.out.trans (hK.below.mono HBB.out.size)
  have HBW := fun o => Lib.hid (hbW.alloc hbW.size o)
  have hc2 := fun o => (keep_alloc (o := o) ((hK.below.cell (p := ⟨w.heap.size, 1, none⟩) (by show w.heap.size < _; omega)).trans HC1.out))
  have HST := fun a x c => Lib.hid (cells3 (heap_alloc_new W (.cells #[a, x, c] 97)))
  clear hK hbW HC1 hc02
  go_wp2_with fail
  generalize hV : W.alloc _ = V
  have HBV := Lib.hid (show Below w.heap.size w V by rw [← hV]; exact (HBW _).out)
  have HR : Hid (Ready A n c zs V) := ⟨HR1.out.len, HR1.out.pos, HR1.out.few, HR1.out.cap, HR1.out.fits, ints_on HR1.out.cells HBV.out⟩
  have hk1 := HK1.out
  have HCON := Lib.hid (show Calls Tryz.prog 90 #[.slice A n c, .int .i64 k] V (IsIL V.heap.size (zs.set k.toNat (turnF (zs.getD k.toNat 0))) V) by
    have h := impl_turn1 A n c k.toNat zs V HR.out.len HR.out.pos HR.out.few hk1 HR.out.fits HR.out.cells
    rw [HKN.out] at h
    exact h)
  clear hV HBW hc2 HST hk1 HK1
  refine HCON.out.mono ?_
  rintro e w5 h
  replace h := il_after h HBV.out HBV.out.size
  rw [HF.out] at h
  obtain ⟨A5, c5, rfl, ho, hb⟩ := h
  go_wp2
  go_ret2
  exact ⟨A5, c5, rfl, ho, hb⟩

set_option maxHeartbeats 1000000 in
/-- Perform behind its checks, kind 9 -/
theorem perf_9 (A : Option Addr) (n c : Nat) (k : Int) (zs : List Int) (w : World) (hn : zs.length = n) (hnc : n ≤ c) (hz : Fits zs) (hss : IntsAt w w.heap.size .i64 A zs) (hok : okB zs = true) (hmv : mvB n 9 k = true) :
    Calls Tryz.prog 34 #[.slice A n c, .agg #[.int .i64 9, .int .i64 k]] w (IsILB w.heap.size (moveF 9 k.toNat zs) true w) := by
  obtain ⟨hp1, hp2, hp3, _, _, hp4⟩ := mvB_parts hmv
  have hm := hmv
  rw [mvB_in (m := n - 1) hp1 hp2 (by omega) rfl, decide_eq_true_eq] at hm
  have hk1 : k.toNat < n := by omega
  have HF := Lib.hid (show underL zs k.toNat = moveF 9 k.toNat zs by subst hn; rfl)
  have HR0 : Ready A n c zs w := ⟨hn, by omega, by omega, hnc, hz, hss⟩
  have HAL := Lib.hid ((Below.refl w.heap.size w).alloc (Nat.le_refl _) (.cells #[.int .i64 9, .int .i64 k] 34))
  have HBL := Lib.hid (heap_alloc_new w (.cells #[.int .i64 9, .int .i64 k] 34))
  have hs : (w.alloc (.cells #[.int .i64 9, .int .i64 k] 34)).heap.size = w.heap.size + 1 := by simp
  have HS := Lib.hid hs
  have HOK := Lib.hid (Pok.impl_ok A n c zs (w.alloc (.cells #[.int .i64 9, .int .i64 k] 34)) hn (by omega) hz (ints_on hss HAL.out))
  have HBK := Lib.hid hok
  have HMV := Lib.hid hmv
  have HR1 := Lib.hid HR0
  have HK1 := Lib.hid hk1
  have hk0 : 0 ≤ k := hp3
  have HKN := Lib.hid (show ((k.toNat : Nat) : Int) = k by omega)
  clear hn hss hz hok hmv hs HR0 hp1 hp2 hp3 hp4 hm hk1 hnc hk0
  go_enter Tryz.func34, Tryz.ntmps34
  go_wp2_with fail
  refine HOK.out.mono ?_
  rintro e w1 ⟨rfl, hb1⟩
  rw [HBK.out]
  have hba := HAL.out.trans (hb1.mono HAL.out.size)
  have hha : w1.heap[w.heap.size]? = _ := (hb1.block w.heap.size (by rw [HS.out]; omega)).trans HBL.out
  have hs1 := hb1.size
  rw [HS.out] at hs1
  have hc0 : w1.cell? ⟨w.heap.size, 0, none⟩ = some (.int .i64 9) := by
    unfold World.cell?; rw [hha]; rfl
  have hc1 : w1.cell? ⟨w.heap.size, 1, none⟩ = some (.int .i64 k) := by
    unfold World.cell?; rw [hha]; rfl
  have HBA := Lib.hid hba
  have HHA := Lib.hid hha
  clear hb1 hba hha HOK
  go_wp2_with fail
  refine (impl_moveok _ _ _ _).mono ?_
  rintro e w2 ⟨rfl, hb2⟩
  rw [HMV.out]
  have hc02 := (hb2.cell (p := ⟨w.heap.size, 0, none⟩) (by show w.heap.size < _; omega)).trans hc0
  have hc12 := (hb2.cell (p := ⟨w.heap.size, 1, none⟩) (by show w.heap.size < _; omega)).trans hc1
  have hs2 := Nat.le_trans hs1 hb2.size
  have HBB := Lib.hid (HBA.out.trans (hb2.mono HBA.out.size))
  have HC1 := Lib.hid hc12
  clear hb2 hc0 hc1 HBA HHA hc12
  go_wp2_with fail
  refine (kind_9 _ _ rfl).mono ?_
  rintro e W ⟨rfl, hK⟩
  have hbW := HBB.out.trans (hK.below.mono HBB.out.size)
  have HBW := fun o => Lib.hid (hbW.alloc hbW.size o)
  have hc2 := fun o => (keep_alloc (o := o) ((hK.below.cell (p := ⟨w.heap.size, 1, none⟩) (by show w.heap.size < _; omega)).trans HC1.out))
  have HST := fun a x c => Lib.hid (cells3 (heap_alloc_new W (.cells #[a, x, c] 97)))
  clear hK hbW HC1 hc02
  go_wp2_with fail
  generalize hV : W.alloc _ = V
  have HBV := Lib.hid (show Below w.heap.size w V by rw [← hV]; exact (HBW _).out)
  have HR : Hid (Ready A n c zs V) := ⟨HR1.out.len, HR1.out.pos, HR1.out.few, HR1.out.cap, HR1.out.fits, ints_on HR1.out.cells HBV.out⟩
  have hk1 := HK1.out
  have HCON := Lib.hid (show Calls Tryz.prog 95 #[.slice A n c, .int .i64 k] V (IsIL V.heap.size (underL zs k.toNat) V) by
    have h := impl_under A n c k.toNat zs V HR.out.len HR.out.pos HR.out.few HR.out.cap hk1 HR.out.cells
    rw [HKN.out] at h
    exact h)
  clear hV HBW hc2 HST hk1 HK1
  refine HCON.out.mono ?_
  rintro e w5 h
  replace h := il_after h HBV.out HBV.out.size
  rw [HF.out] at h
  obtain ⟨A5, c5, rfl, ho, hb⟩ := h
  go_wp2
  go_ret2
  exact ⟨A5, c5, rfl, ho, hb⟩

set_option maxHeartbeats 1000000 in
theorem impl_perform (A : Option Addr) (n c : Nat) (kd k : Int) (zs : List Int) (w : World) (hn : zs.length = n) (hnc : n ≤ c) (hn2 : n ≤ 9223372036854775807) (hz : Fits zs) (hss : IntsAt w w.heap.size .i64 A zs) :
    Calls Tryz.prog 34 #[.slice A n c, .agg #[.int .i64 kd, .int .i64 k]] w (IsILB w.heap.size (perfF zs kd k) (perfB zs kd k) w) := by
  have HAL := Lib.hid ((Below.refl w.heap.size w).alloc (Nat.le_refl _) (.cells #[.int .i64 kd, .int .i64 k] 34))
  have HBL := Lib.hid (heap_alloc_new w (.cells #[.int .i64 kd, .int .i64 k] 34))
  have HS := Lib.hid (show (w.alloc (.cells #[.int .i64 kd, .int .i64 k] 34)).heap.size = w.heap.size + 1 by simp)
  have HOK := Lib.hid (Pok.impl_ok A n c zs (w.alloc (.cells #[.int .i64 kd, .int .i64 k] 34)) hn (by omega) hz (ints_on hss HAL.out))
  cases hok : okB zs with
  | false =>
    have hB : perfB zs kd k = false := by unfold perfB; rw [hok]; rfl
    rw [perfF_no hB, hB]
    have HBK := Lib.hid hok
    clear hn hss hz hok hB
    go_enter Tryz.func34, Tryz.ntmps34
    go_wp2_with fail
    refine HOK.out.mono ?_
    rintro e w1 ⟨rfl, hb1⟩
    rw [HBK.out]
    have HBA := Lib.hid (HAL.out.trans (hb1.mono HAL.out.size))
    clear hb1
    go_wp2
    go_ret2
    exact nil_after HBA.out
  | true =>
    cases hmv : mvB n kd k with
    | false =>
      have hB : perfB zs kd k = false := by unfold perfB; rw [hn, hmv, Bool.and_false]
      rw [perfF_no hB, hB]
      have HBK := Lib.hid hok
      have HMV := Lib.hid hmv
      clear hn hss hz hok hB hmv
      go_enter Tryz.func34, Tryz.ntmps34
      go_wp2_with fail
      refine HOK.out.mono ?_
      rintro e w1 ⟨rfl, hb1⟩
      rw [HBK.out]
      have HBA := Lib.hid (HAL.out.trans (hb1.mono HAL.out.size))
      have hha := (hb1.block w.heap.size (by rw [HS.out]; omega)).trans HBL.out
      have hc0 : w1.cell? ⟨w.heap.size, 0, none⟩ = some (.int .i64 kd) := by
        unfold World.cell?; rw [hha]; rfl
      have hc1 : w1.cell? ⟨w.heap.size, 1, none⟩ = some (.int .i64 k) := by
        unfold World.cell?; rw [hha]; rfl
      clear hb1 hha
      go_wp2_with fail
      refine (impl_moveok _ _ _ _).mono ?_
      rintro e w2 ⟨rfl, hb2⟩
      rw [HMV.out]
      have HBB := Lib.hid (HBA.out.trans (hb2.mono HBA.out.size))
      clear hb2
      go_wp2
      go_ret2
      exact nil_after HBB.out
    | true =>
      have hB : perfB zs kd k = true := by unfold perfB; rw [hn, hmv, hok]; rfl
      rw [perfF_yes hB, hB]
      clear HAL HBL HS HOK hB
      have hp := mvB_parts hmv
      rcases (show kd = 1 ∨ kd = 2 ∨ kd = 3 ∨ kd = 4 ∨ kd = 5 ∨ kd = 6 ∨ kd = 7 ∨ kd = 8 ∨ kd = 9 by omega) with rfl | rfl | rfl | rfl | rfl | rfl | rfl | rfl | rfl
      · exact perf_1 A n c k zs w hn hnc hz hss hok hmv
      · exact perf_2 A n c k zs w hn hnc hz hss hok hmv
      · exact perf_3 A n c k zs w hn hnc hz hss hok hmv
      · exact perf_4 A n c k zs w hn hnc hz hss hok hmv
      · exact perf_5 A n c k zs w hn hnc hz hss hok hmv
      · exact perf_6 A n c k zs w hn hnc hz hss hok hmv
      · exact perf_7 A n c k zs w hn hnc hz hss hok hmv
      · exact perf_8 A n c k zs w hn hnc hz hss hok hmv
      · exact perf_9 A n c k zs w hn hnc hz hss hok hmv
end Go.Proofs.YtibephoepkofnaaGreat.Pf
