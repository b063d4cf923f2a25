/- The model's l04Do: one move of whatever kind. -/
import Derived.Test.YtibephoepkofnaaGreatSv
import Derived.Test.YtibephoepkofnaaGreatPf
import Derived.Deep.RegionHeldLaw
import Derived.Maps.AppendAt
set_option linter.unusedVariables false
set_option maxRecDepth 20000
namespace Go.Proofs.YtibephoepkofnaaGreat.Do
open Go.RowKit Fr Own Pk Ins Pfn Rws Lb Cat Mvp Mv1 Mv2 Mv3 Mv4 Mk Mok2 Pf Sv Sv2 Sv3

theorem box_cells (w : World) (kd k : Int) : (w.alloc (.cells #[.int .i64 kd, .int .i64 k] 34)).cell? ⟨w.heap.size, 0, none⟩ = some (.int .i64 kd) ∧ (w.alloc (.cells #[.int .i64 kd, .int .i64 k] 34)).cell? ⟨w.heap.size, 1, none⟩ = some (.int .i64 k) := by
  have h := heap_alloc_new w (.cells #[.int .i64 kd, .int .i64 k] 34)
  unfold World.cell?
  rw [h]
  exact ⟨rfl, rfl⟩
set_option maxHeartbeats 1000000 in
theorem do_2 (A : Option Addr) (n c : Nat) (k : Int) (zs : List Int) (w : World) (hR : Ready A n c zs w) (hmv : mvB n 2 k = true) :
    Calls Tryz.prog 53 #[.slice A n c, .agg #[.int .i64 2, .int .i64 k]] w (IsIL w.heap.size (moveF 2 k.toNat zs) w) := by
  obtain ⟨hp1, hp2, hp3, _, _, hp4⟩ := mvB_parts hmv
  have hm := hmv
  rw [mvB_in (m := n) hp1 hp2 (by omega) rfl, decide_eq_true_eq] at hm
  have hk1 : k.toNat ≤ n := by omega
  have HF := Lib.hid (show mapUp false (zs.take k.toNat).reverse ++ zs.drop k.toNat = moveF 2 k.toNat zs by have hn := hR.len; subst hn; rfl)
  have HKN := Lib.hid (show ((k.toNat : Nat) : Int) = k by omega)
  generalize hV : w.alloc (.cells #[.int .i64 2, .int .i64 k] 34) = V
  have HBV := Lib.hid (show Below w.heap.size w V by rw [← hV]; exact (Below.refl w.heap.size w).alloc (Nat.le_refl _) _)
  have HR : Hid (Ready A n c zs V) := ⟨hR.len, hR.pos, hR.few, hR.cap, hR.fits, ints_on hR.cells HBV.out⟩
  have HCON := Lib.hid (show Calls Tryz.prog 63 #[.slice A n c, .int .i64 k, .bool false] V (IsIL V.heap.size (mapUp false (zs.take k.toNat).reverse ++ zs.drop k.toNat) V) by
    have h := spec_back false A n c k.toNat zs V HR.out.len HR.out.pos HR.out.few HR.out.cap hk1 HR.out.fits HR.out.cells
    rw [HKN.out] at h
    exact h)
  rw [← hV] at HCON HBV
  clear hR hmv hp1 hp2 hp3 hp4 hm hk1 HR hV
  go_enter Tryz.func53, Tryz.ntmps53
  go_wp2_with fail
  refine HCON.out.mono ?_
  rintro e w5 h
  replace h := il_after h HBV.out HBV.out.size
  rw [HF.out] at h
  obtain ⟨A5, c5, rfl, ho, hb⟩ := h
  go_wp2
  go_ret
  exact ⟨A5, c5, rfl, ho, hb⟩
set_option maxHeartbeats 1000000 in
theorem do_3 (A : Option Addr) (n c : Nat) (k : Int) (zs : List Int) (w : World) (hR : Ready A n c zs w) (hmv : mvB n 3 k = true) :
    Calls Tryz.prog 53 #[.slice A n c, .agg #[.int .i64 3, .int .i64 k]] w (IsIL w.heap.size (moveF 3 k.toNat zs) w) := by
  obtain ⟨hp1, hp2, hp3, _, _, hp4⟩ := mvB_parts hmv
  have hm := hmv
  rw [mvB_in (m := n) hp1 hp2 (by omega) rfl, decide_eq_true_eq] at hm
  have hk1 : k.toNat ≤ n := by omega
  have HF := Lib.hid (show mapUp true (zs.take k.toNat).reverse ++ zs.drop k.toNat = moveF 3 k.toNat zs by have hn := hR.len; subst hn; rfl)
  have HKN := Lib.hid (show ((k.toNat : Nat) : Int) = k by omega)
  generalize hV : w.alloc (.cells #[.int .i64 3, .int .i64 k] 34) = V
  have HBV := Lib.hid (show Below w.heap.size w V by rw [← hV]; exact (Below.refl w.heap.size w).alloc (Nat.le_refl _) _)
  have HR : Hid (Ready A n c zs V) := ⟨hR.len, hR.pos, hR.few, hR.cap, hR.fits, ints_on hR.cells HBV.out⟩
  have HCON := Lib.hid (show Calls Tryz.prog 63 #[.slice A n c, .int .i64 k, .bool true] V (IsIL V.heap.size (mapUp true (zs.take k.toNat).reverse ++ zs.drop k.toNat) V) by
    have h := spec_back true A n c k.toNat zs V HR.out.len HR.out.pos HR.out.few HR.out.cap hk1 HR.out.fits HR.out.cells
    rw [HKN.out] at h
    exact h)
  rw [← hV] at HCON HBV
  clear hR hmv hp1 hp2 hp3 hp4 hm hk1 HR hV
  go_enter Tryz.func53, Tryz.ntmps53
  go_wp2_with fail
  refine HCON.out.mono ?_
  rintro e w5 h
  replace h := il_after h HBV.out HBV.out.size
  rw [HF.out] at h
  obtain ⟨A5, c5, rfl, ho, hb⟩ := h
  go_wp2
  go_ret
  exact ⟨A5, c5, rfl, ho, hb⟩
set_option maxHeartbeats 1000000 in
theorem do_4 (A : Option Addr) (n c : Nat) (k : Int) (zs : List Int) (w : World) (hR : Ready A n c zs w) (hmv : mvB n 4 k = true) :
    Calls Tryz.prog 53 #[.slice A n c, .agg #[.int .i64 4, .int .i64 k]] w (IsIL w.heap.size (moveF 4 k.toNat zs) w) := by
  obtain ⟨hp1, hp2, hp3, _, _, hp4⟩ := mvB_parts hmv
  have hm := hmv
  rw [mvB_in (m := 1) hp1 hp2 (by omega) rfl, decide_eq_true_eq] at hm
  have hk1 : (k = 0 ∧ k.toNat = 0) ∨ (k = 1 ∧ k.toNat = 1) := by omega
  have HF := Lib.hid (show faroL zs k.toNat = moveF 4 k.toNat zs by have hn := hR.len; subst hn; rfl)
  have HKN := Lib.hid (show ((k.toNat : Nat) : Int) = k by omega)
  generalize hV : w.alloc (.cells #[.int .i64 4, .int .i64 k] 34) = V
  have HBV := Lib.hid (show Below w.heap.size w V by rw [← hV]; exact (Below.refl w.heap.size w).alloc (Nat.le_refl _) _)
  have HR : Hid (Ready A n c zs V) := ⟨hR.len, hR.pos, hR.few, hR.cap, hR.fits, ints_on hR.cells HBV.out⟩
  have HCON := Lib.hid (show Calls Tryz.prog 64 #[.slice A n c, .int .i64 k] V (IsIL V.heap.size (faroL zs k.toNat) V) by
    have h := spec_faro_at A n c k.toNat k zs V HR.out.len HR.out.pos HR.out.few HR.out.cap hk1 HR.out.cells
    skip
    exact h)
  rw [← hV] at HCON HBV
  clear hR hmv hp1 hp2 hp3 hp4 hm hk1 HR hV
  go_enter Tryz.func53, Tryz.ntmps53
  go_wp2_with fail
  refine HCON.out.mono ?_
  rintro e w5 h
  replace h := il_after h HBV.out HBV.out.size
  rw [HF.out] at h
  obtain ⟨A5, c5, rfl, ho, hb⟩ := h
  go_wp2
  go_ret
  exact ⟨A5, c5, rfl, ho, hb⟩
set_option maxHeartbeats 1000000 in
theorem do_5 (A : Option Addr) (n c : Nat) (k : Int) (zs : List Int) (w : World) (hR : Ready A n c zs w) (hmv : mvB n 5 k = true) :
    Calls Tryz.prog 53 #[.slice A n c, .agg #[.int .i64 5, .int .i64 k]] w (IsIL w.heap.size (moveF 5 k.toNat zs) w) := by
  obtain ⟨hp1, hp2, hp3, _, _, hp4⟩ := mvB_parts hmv
  have hm := hmv
  rw [mvB_in (m := 1) hp1 hp2 (by omega) rfl, decide_eq_true_eq] at hm
  have hk1 : (k = 0 ∧ k.toNat = 0) ∨ (k = 1 ∧ k.toNat = 1) := by omega
  have HF := Lib.hid (show mongeL k.toNat 0 zs [] = moveF 5 k.toNat zs by have hn := hR.len; subst hn; rfl)
  have HKN := Lib.hid (show ((k.toNat : Nat) : Int) = k by omega)
  generalize hV : w.alloc (.cells #[.int .i64 5, .int .i64 k] 34) = V
  have HBV := Lib.hid (show Below w.heap.size w V by rw [← hV]; exact (Below.refl w.heap.size w).alloc (Nat.le_refl _) _)
  have HR : Hid (Ready A n c zs V) := ⟨hR.len, hR.pos, hR.few, hR.cap, hR.fits, ints_on hR.cells HBV.out⟩
  have HCON := Lib.hid (show Calls Tryz.prog 65 #[.slice A n c, .int .i64 k] V (IsIL V.heap.size (mongeL k.toNat 0 zs []) V) by
    have h := spec_monge_at A n c k.toNat k zs V HR.out.len HR.out.few hk1 HR.out.cells
    skip
    exact h)
  rw [← hV] at HCON HBV
  clear hR hmv hp1 hp2 hp3 hp4 hm hk1 HR hV
  go_enter Tryz.func53, Tryz.ntmps53
  go_wp2_with fail
  refine HCON.out.mono ?_
  rintro e w5 h
  replace h := il_after h HBV.out HBV.out.size
  rw [HF.out] at h
  obtain ⟨A5, c5, rfl, ho, hb⟩ := h
  go_wp2
  go_ret
  exact ⟨A5, c5, rfl, ho, hb⟩
set_option maxHeartbeats 1000000 in
theorem do_6 (A : Option Addr) (n c : Nat) (k : Int) (zs : List Int) (w : World) (hR : Ready A n c zs w) (hmv : mvB n 6 k = true) :
    Calls Tryz.prog 53 #[.slice A n c, .agg #[.int .i64 6, .int .i64 k]] w (IsIL w.heap.size (moveF 6 k.toNat zs) w) := by
  obtain ⟨hp1, hp2, hp3, _, _, hp4⟩ := mvB_parts hmv
  have hm := hmv
  rw [mvB_in (m := 0) hp1 hp2 (by omega) rfl, decide_eq_true_eq] at hm
  have hk1 : k = 0 := by omega
  have HF := Lib.hid (show milkL (n + 1) zs [] = moveF 6 k.toNat zs by have hn := hR.len; subst hn; rfl)
  have HKN := Lib.hid (show ((k.toNat : Nat) : Int) = k by omega)
  generalize hV : w.alloc (.cells #[.int .i64 6, .int .i64 k] 34) = V
  have HBV := Lib.hid (show Below w.heap.size w V by rw [← hV]; exact (Below.refl w.heap.size w).alloc (Nat.le_refl _) _)
  have HR : Hid (Ready A n c zs V) := ⟨hR.len, hR.pos, hR.few, hR.cap, hR.fits, ints_on hR.cells HBV.out⟩
  have HCON := Lib.hid (show Calls Tryz.prog 66 #[.slice A n c] V (IsIL V.heap.size (milkL (n + 1) zs []) V) by
    have h := spec_milk A n c zs V HR.out.len HR.out.pos HR.out.few HR.out.cap HR.out.cells
    skip
    exact h)
  rw [← hV] at HCON HBV
  clear hR hmv hp1 hp2 hp3 hp4 hm hk1 HR hV
  go_enter Tryz.func53, Tryz.ntmps53
  go_wp2_with fail
  refine HCON.out.mono ?_
  rintro e w5 h
  replace h := il_after h HBV.out HBV.out.size
  rw [HF.out] at h
  obtain ⟨A5, c5, rfl, ho, hb⟩ := h
  go_wp2
  go_ret
  exact ⟨A5, c5, rfl, ho, hb⟩
set_option maxHeartbeats 1000000 in
theorem do_7 (A : Option Addr) (n c : Nat) (k : Int) (zs : List Int) (w : World) (hR : Ready A n c zs w) (hmv : mvB n 7 k = true) :
    Calls Tryz.prog 53 #[.slice A n c, .agg #[.int .i64 7, .int .i64 k]] w (IsIL w.heap.size (moveF 7 k.toNat zs) w) := by
  obtain ⟨hp1, hp2, hp3, _, _, hp4⟩ := mvB_parts hmv
  have hm := hmv
  rw [mvB_in (m := 1) hp1 hp2 (by omega) rfl, decide_eq_true_eq] at hm
  have hk1 : (k = 0 ∧ k.toNat = 0) ∨ (k = 1 ∧ k.toNat = 1) := by omega
  have HF := Lib.hid (show duckL (2 * n + 2) zs [] k.toNat = moveF 7 k.toNat zs by have hn := hR.len; subst hn; rfl)
  have HKN := Lib.hid (show ((k.toNat : Nat) : Int) = k by omega)
  generalize hV : w.alloc (.cells #[.int .i64 7, .int .i64 k] 34) = V
  have HBV := Lib.hid (show Below w.heap.size w V by rw [← hV]; exact (Below.refl w.heap.size w).alloc (Nat.le_refl _) _)
  have HR : Hid (Ready A n c zs V) := ⟨hR.len, hR.pos, hR.few, hR.cap, hR.fits, ints_on hR.cells HBV.out⟩
  have HCON := Lib.hid (show Calls Tryz.prog 67 #[.slice A n c, .int .i64 k] V (IsIL V.heap.size (duckL (2 * n + 2) zs [] k.toNat) V) by
    have h := spec_duck_at A n c k.toNat k zs V HR.out.len HR.out.pos HR.out.few hk1 HR.out.cells
    skip
    exact h)
  rw [← hV] at HCON HBV
  clear hR hmv hp1 hp2 hp3 hp4 hm hk1 HR hV
  go_enter Tryz.func53, Tryz.ntmps53
  go_wp2_with fail
  refine HCON.out.mono ?_
  rintro e w5 h
  replace h := il_after h HBV.out HBV.out.size
  rw [HF.out] at h
  obtain ⟨A5, c5, rfl, ho, hb⟩ := h
  go_wp2
  go_ret
  exact ⟨A5, c5, rfl, ho, hb⟩
theorem il_drew {w w' : World} {B : Nat} {zs : List Int} {e : Ending} (h : IsIL B zs w e w') : IsIL B zs w e w'.drew := by
  obtain ⟨A, c, rfl, ho, hb⟩ := h
  exact ⟨A, c, rfl, ho, hb.drew⟩
theorem keepA {W : World} {p : Addr} {v : Value} {o : Obj} (h : W.drew.cell? p = some v) : (W.alloc o).drew.cell? p = some v := keep_alloc (W := W) h
theorem lit0 (V : World) : (V.alloc (.cells #[] 3)).drew.ownsRow V.heap.size 3 1 (.slice (some ⟨V.heap.size, 0, none⟩) 0 0) 0 (vals []) :=
  World.ownsRow_lit (base := V.heap.size) (e := 3) (size := 1) V #[] 0 (Nat.le_refl _) (Nat.zero_le _) rfl
theorem lit0_size (V : World) (o : Obj) : V.heap.size ≤ (V.alloc o).drew.heap.size := (below_new V o).size
set_option maxHeartbeats 1000000 in
theorem do_1 (A : Option Addr) (n c : Nat) (k : Int) (zs : List Int) (w : World) (hR : Ready A n c zs w) (hmv : mvB n 1 k = true) :
    Calls Tryz.prog 53 #[.slice A n c, .agg #[.int .i64 1, .int .i64 k]] w (IsIL w.heap.size (moveF 1 k.toNat zs) w) := by
  obtain ⟨hp1, hp2, hp3, _, _, hp4⟩ := mvB_parts hmv
  have hm := hmv
  rw [mvB_in (m := n) hp1 hp2 (by omega) rfl, decide_eq_true_eq] at hm
  have hk1 : k.toNat ≤ n := by omega
  have HF := Lib.hid (show cutL zs k.toNat = moveF 1 k.toNat zs by have hn := hR.len; subst hn; rfl)
  have HKN := Lib.hid (show ((k.toNat : Nat) : Int) = k by omega)
  obtain ⟨kk, rfl⟩ : ∃ kk : Nat, k = kk := ⟨k.toNat, by omega⟩
  rw [show ((kk : Int)).toNat = kk from rfl] at *
  obtain ⟨i0, hi, hz0, hz1', hz2⟩ := info_parts infoInt
  obtain ⟨b, o, rfl⟩ := ints_addr hR.cells (by have := hR.len; have := hR.pos; omega)
  have HBV0 := Lib.hid ((Below.refl w.heap.size w).alloc (Nat.le_refl _) (.cells #[.int .i64 1, .int .i64 (kk : Int)] 34))
  have HCV0 := Lib.hid (box_cells w 1 kk).2
  have HNV0 := Lib.hid (show ¬ (w.alloc (.cells #[.int .i64 1, .int .i64 (kk : Int)] 34)).heap.size ≤ w.heap.size by simp)
  have hss0 := Lib.hid hR.cells
  have hn := hR.len
  have h12 := hR.few
  have hnc := hR.cap
  have hkc : kk ≤ c := by omega
  have L1 := Lib.hid (show (zs.drop kk).length = n - kk by rw [List.length_drop, hn])
  have L2 := Lib.hid (show (zs.take kk).length = kk by rw [List.length_take, hn]; omega)
  clear hmv hp1 hp2 hp3 hp4 hm hR HKN hn
  by_cases hck : c = kk
  · obtain rfl : n = kk := by omega
    subst hck
    rw [Nat.sub_self] at L1
    go_enter Tryz.func53, Tryz.ntmps53
    go_wp2
    generalize hV : w.alloc _ = V
    rw [hV] at HBV0 HCV0 HNV0
    have hcD : V.drew.cell? ⟨w.heap.size, 1, none⟩ = some (.int .i64 (c : Int)) := HCV0.out
    have HBV := HBV0
    have HSV := Lib.hid (ints_on hss0.out HBV.out)
    have HS := fun o => Lib.hid (ints_on HSV.out (below_new V o))
    have hnv := HNV0.out
    clear hV HBV0 HCV0 HNV0 hss0
    have HL0 := Lib.hid (lit0 V)
    have hl0s := lit0_size V (.cells #[] 3)
    have hne5 : some (⟨w.heap.size, 1, none⟩ : Addr).block ≠ Option.map (fun x => x.block) (some (⟨V.heap.size, 0, none⟩ : Addr)) := fun e => by simp only [Option.map_some, Option.some.injEq] at e; omega
    have hz0s : 0 ≤ 1048576 := by decide
    have hr1s : 0 ≤ 1048576 := by omega
    have hks : c ≤ 1048576 := by omega
    have hz1 : 0 + 0 = 0 := Nat.zero_add _
    have hr2 : 0 + c = c := by omega
    go_region_held_law (fun w' => w'.cell? ⟨w.heap.size, 1, none⟩ = some (.int .i64 (c : Int))) ((first | exact hcD | exact keepA (by assumption) | exact hgr6.cell (by assumption) hne6 | exact hgr5.cell (by assumption) hne5)) ((first
      | (refine step_app_r rfl (.tmp 10) (.tmp 14) 22 rfl V.heap.size 3 i0 Tryz.underlying22 hi hz0 hz1' hz2 (some ⟨V.heap.size, 0, none⟩) 0 0 [] rfl HL0.out _ 0 _ (zs.drop c) rfl L1.out (fun h => by cases h) (ints_none _ _ _ L1.out) hz0s hr1s hl0s spot_some 0 hz1 ?_; intro A5 c5 w5 hown5 hgr5; have hb5 := Lib.hid ((below_new V (.cells #[] 3)).grown hgr5 (below_new V (.cells #[] 3)).size (fun b h => (own_lo HL0.out b h).1)))
      | (refine step_app_r rfl (.tmp 15) (.tmp 19) 22 rfl V.heap.size 3 i0 Tryz.underlying22 hi hz0 hz1' hz2 A5 c5 0 ([] ++ zs.drop c) rfl hown5 _ c _ (zs.take c) rfl L2.out (fun h => by cases h) (ints_take2 c (ints_on HSV.out hb5.out)) hr1s hks hb5.out.size spot_some c hr2 ?_; intro A6 c6 w6 hown6 hgr6; have hne6 : some (⟨w.heap.size, 1, none⟩ : Addr).block ≠ Option.map (fun x => x.block) A5 := fun e => absurd (own_lo hown5 _ e.symm).1 hnv)))
    have hb6 := Lib.hid (hb5.out.grown hgr6 hb5.out.size (fun b h => (own_lo hown5 b h).1))
    have HE6 := Lib.hid (il_after (row_end hown6 hb6.out) HBV.out HBV.out.size)
    have HE7 := HE6.out
    rw [List.nil_append] at HE7
    have HE8 := Lib.hid (show IsIL w.heap.size (moveF 1 c zs) w _ w6 by rw [← HF.out]; exact HE7)
    clear hown6 hgr6 hown5 hgr5 HE6 HE7
    go_wp2
    go_ret
    exact HE8.out
  · skip
    go_enter Tryz.func53, Tryz.ntmps53
    go_wp2
    generalize hV : w.alloc _ = V
    rw [hV] at HBV0 HCV0 HNV0
    have hcD : V.drew.cell? ⟨w.heap.size, 1, none⟩ = some (.int .i64 (kk : Int)) := HCV0.out
    have HBV := HBV0
    have HSV := Lib.hid (ints_on hss0.out HBV.out)
    have HS := fun o => Lib.hid (ints_on HSV.out (below_new V o))
    have hnv := HNV0.out
    clear hV HBV0 HCV0 HNV0 hss0
    have HL0 := Lib.hid (lit0 V)
    have hl0s := lit0_size V (.cells #[] 3)
    have hne5 : some (⟨w.heap.size, 1, none⟩ : Addr).block ≠ Option.map (fun x => x.block) (some (⟨V.heap.size, 0, none⟩ : Addr)) := fun e => by simp only [Option.map_some, Option.some.injEq] at e; omega
    have hz0s : 0 ≤ 1048576 := by decide
    have hr1s : (n - kk) ≤ 1048576 := by omega
    have hks : kk ≤ 1048576 := by omega
    have hz1 : 0 + (n - kk) = (n - kk) := Nat.zero_add _
    have hr2 : (n - kk) + kk = n := by omega
    go_region_held_law (fun w' => w'.cell? ⟨w.heap.size, 1, none⟩ = some (.int .i64 (kk : Int))) ((first | exact hcD | exact keepA (by assumption) | exact hgr6.cell (by assumption) hne6 | exact hgr5.cell (by assumption) hne5)) ((first
      | (refine step_app_r rfl (.tmp 10) (.tmp 14) 22 rfl V.heap.size 3 i0 Tryz.underlying22 hi hz0 hz1' hz2 (some ⟨V.heap.size, 0, none⟩) 0 0 [] rfl HL0.out _ (n - kk) _ (zs.drop kk) rfl L1.out (fun h => by cases h) (ints_drop (HS _).out) hz0s hr1s hl0s spot_some (n - kk) hz1 ?_; intro A5 c5 w5 hown5 hgr5; have hb5 := Lib.hid ((below_new V (.cells #[] 3)).grown hgr5 (below_new V (.cells #[] 3)).size (fun b h => (own_lo HL0.out b h).1)))
      | (refine step_app_r rfl (.tmp 15) (.tmp 19) 22 rfl V.heap.size 3 i0 Tryz.underlying22 hi hz0 hz1' hz2 A5 c5 (n - kk) ([] ++ zs.drop kk) rfl hown5 _ kk _ (zs.take kk) rfl L2.out (fun h => by cases h) (ints_take2 kk (ints_on HSV.out hb5.out)) hr1s hks hb5.out.size spot_some n hr2 ?_; intro A6 c6 w6 hown6 hgr6; have hne6 : some (⟨w.heap.size, 1, none⟩ : Addr).block ≠ Option.map (fun x => x.block) A5 := fun e => absurd (own_lo hown5 _ e.symm).1 hnv)))
    have hb6 := Lib.hid (hb5.out.grown hgr6 hb5.out.size (fun b h => (own_lo hown5 b h).1))
    have HE6 := Lib.hid (il_after (row_end hown6 hb6.out) HBV.out HBV.out.size)
    have HE7 := HE6.out
    rw [List.nil_append] at HE7
    have HE8 := Lib.hid (show IsIL w.heap.size (moveF 1 kk zs) w _ w6 by rw [← HF.out]; exact HE7)
    clear hown6 hgr6 hown5 hgr5 HE6 HE7
    go_wp2
    go_ret
    exact HE8.out
theorem keepS {W : World} {p : Addr} {v u : Value} {g j : Nat} (h : W.cell? p = some v) (hp : p.block ≠ g) : (W.setCell ⟨g, j, none⟩ u).cell? p = some v :=
  (World.cell?_setCells_out g [u] j W p (fun e => absurd e hp)).trans h
set_option maxHeartbeats 1000000 in
theorem do_8 (A : Option Addr) (n c : Nat) (k : Int) (zs : List Int) (w : World) (hR : Ready A n c zs w) (hmv : mvB n 8 k = true) :
    Calls Tryz.prog 53 #[.slice A n c, .agg #[.int .i64 8, .int .i64 k]] w (IsIL w.heap.size (moveF 8 k.toNat zs) w) := by
  obtain ⟨hp1, hp2, hp3, _, _, hp4⟩ := mvB_parts hmv
  have hm := hmv
  rw [mvB_in (m := n - 1) hp1 hp2 (by omega) rfl, decide_eq_true_eq] at hm
  have hk1 : k.toNat < n := by omega
  have HF := Lib.hid (show zs.set k.toNat (turnF (zs.getD k.toNat 0)) = moveF 8 k.toNat zs by have hn := hR.len; subst hn; rfl)
  have HKN := Lib.hid (show ((k.toNat : Nat) : Int) = k by omega)
  obtain ⟨kk, rfl⟩ : ∃ kk : Nat, k = kk := ⟨k.toNat, by omega⟩
  rw [show ((kk : Int)).toNat = kk from rfl] at *
  obtain ⟨i0, hi, hz0, hz1', hz2⟩ := info_parts infoInt
  obtain ⟨b, o, rfl⟩ := ints_addr hR.cells (by have := hR.len; have := hR.pos; omega)
  have HBV0 := Lib.hid ((Below.refl w.heap.size w).alloc (Nat.le_refl _) (.cells #[.int .i64 8, .int .i64 (kk : Int)] 34))
  have HCV0 := Lib.hid (box_cells w 8 kk)
  have HNV0 := Lib.hid (show w.heap.size < (w.alloc (.cells #[.int .i64 8, .int .i64 (kk : Int)] 34)).heap.size by simp)
  have hss0 := Lib.hid hR.cells
  have HN := Lib.hid hR.len
  have h12 := hR.few
  have hnc := hR.cap
  have hkc : kk < c := by omega
  have hns : n ≤ 4294967296 := by omega
  obtain ⟨hx1, hx2⟩ := hR.fits kk (by rw [HN.out]; exact hk1)
  have hrow : (vals zs).set kk (.int .i64 (turnF (zs.getD kk 0))) = vals (zs.set kk (turnF (zs.getD kk 0))) := vals_set zs kk _
  have HROW := Lib.hid hrow
  clear hmv hp1 hp2 hp3 hp4 hm hR HKN hrow
  obtain ⟨V, hV⟩ : ∃ V, V = w.alloc (.cells #[.int .i64 8, .int .i64 (kk : Int)] 34) := ⟨_, rfl⟩
  rw [← hV] at HBV0 HCV0 HNV0
  have HSV := Lib.hid (ints_on hss0.out HBV0.out)
  have HL0 := Lib.hid (World.ownsRow_lit (base := V.heap.size) (e := 3) (size := 1) V #[] 0 (Nat.le_refl _) (Nat.zero_le _) rfl)
  have hbb := (Below.refl V.heap.size V).alloc (Nat.le_refl _) (.cells #[] 3)
  have HBB := Lib.hid hbb
  have HAT := Lib.hid (ints_on HSV.out hbb)
  have HBW := Lib.hid (HBV0.out.alloc HBV0.out.size (.cells #[] 3))
  have HCB := Lib.hid ((hbb.cell (p := ⟨w.heap.size, 1, none⟩) HNV0.out).trans HCV0.out.2)
  rw [hV] at HL0 HBB HAT HCB HBW
  have hs : (w.alloc (.cells #[.int .i64 8, .int .i64 (kk : Int)] 34)).heap.size = w.heap.size + 1 := by simp
  rw [hs] at HL0
  have HB1 := Lib.hid (show w.heap.size + 1 ≤ ((w.alloc (.cells #[.int .i64 8, .int .i64 (kk : Int)] 34)).alloc (.cells #[] 3)).heap.size by simp)
  clear hs
  clear hbb hV HBV0 HCV0 HNV0 HSV
  have hss := hss0.out
  clear hss0
  go_enter Tryz.func53, Tryz.ntmps53
  go_wp2_with (at_builtin; refine app_any rfl (.tmp 57) (.tmp 58) 22 rfl _ 3 i0 8 Tryz.underlying22 hi hz0 hz1' hz2 (by decide) _ 0 0 [] rfl HL0.out _ n c zs rfl HN.out (fun h => by cases h) _ HAT.out (by decide) hns HB1.out spot_some ?_; intro A1 c1 w1 hown1 hgr1; rw [Nat.zero_add, List.nil_append] at hown1; rw [Nat.zero_add])
  have hrow1 := (fun b h => (own_lo HL0.out b h).1 : ∀ b, Option.map (fun x : Addr => x.block) (some ⟨w.heap.size + 1, 0, none⟩) = some b → w.heap.size + 1 ≤ b)
  have hb1 := HBW.out.grown hgr1 HBW.out.size (fun b h => Nat.le_of_lt (hrow1 b h))
  have hcb : w1.cell? ⟨w.heap.size, 1, none⟩ = some (.int .i64 (kk : Int)) := hgr1.cell HCB.out (fun e => absurd (hrow1 _ e.symm) (Nat.not_succ_le_self _))
  obtain ⟨b2, o2, e2, hlt2, hcx⟩ := (hss.below hb1) kk (by rw [HN.out]; exact hk1)
  simp only [Option.some.injEq, Addr.mk.injEq, and_true] at e2
  obtain ⟨rfl, rfl⟩ := e2
  obtain ⟨g, rfl⟩ := own_shape hown1 (by omega)
  have hglo := (own_lo hown1 g rfl).1
  have hco : w1.cell? ⟨g, kk, none⟩ = some (.int .i64 (zs.getD kk 0)) := by rw [hown1.cellAt kk (by omega)]; exact vals_get (by rw [HN.out]; exact hk1)
  have hcf := hown1.frozenAt kk
  have hkc1 : kk < c1 := by
    rcases own_full hown1 with ⟨h, _⟩ | ⟨_, _, _, _, _, h, _⟩
    · cases h
    · omega
  have hst := hown1.stored kk (.int .i64 (turnF (zs.getD kk 0)))
  rw [HROW.out] at hst
  have HE := Lib.hid (show IsIL w.heap.size (moveF 8 kk zs) w (.returned (.slice (some ⟨g, 0, none⟩) n c1)) (w1.setCell ⟨g, kk, none⟩ (.int .i64 (turnF (zs.getD kk 0)))) by rw [← HF.out]; exact row_end (own_mono hst.1 (Nat.le_succ _)) (hb1.grown hst.2 hb1.size (fun b h => by simp only [Option.some.injEq] at h; omega)))
  have hgb : b ≠ g := fun e => by omega
  have hgw : w.heap.size ≠ g := fun e => by omega
  generalize zs.getD kk 0 = x at *
  clear hst hown1 hgr1 hrow1 hb1 hlt2 HBW HCB HB1 HAT HBB HL0 hss HROW
  go_wp2
  go_region_held3 (fun w' => w'.cell? ⟨w.heap.size, 1, none⟩ = some (.int .i64 (kk : Int)) ∧ w'.cell? ⟨b, o + kk, none⟩ = some (.int .i64 x)) ((first | exact ⟨hcb, hcx⟩ | exact ⟨keepS hcb hgw, keepS hcx hgb⟩)) ((first | (go_at_call 68; refine (Pk.spec_turn x _ hx1 hx2).mono ?_; rintro e w' ⟨rfl, rfl⟩)))
  go_wp2
  go_ret
  exact il_drew HE.out
theorem keepV {V w' : World} {p1 p2 : Addr} {v1 v2 : Value} (h1 : Hid (V.cell? p1 = some v1)) (h2 : Hid (V.cell? p2 = some v2)) (l1 : Hid (p1.block < V.heap.size)) (l2 : Hid (p2.block < V.heap.size)) (hb : Hid (Below V.heap.size V w')) : w'.cell? p1 = some v1 ∧ w'.cell? p2 = some v2 :=
  ⟨(hb.out.cell l1.out).trans h1.out, (hb.out.cell l2.out).trans h2.out⟩
theorem belowA {V W : World} (h : Hid (Below V.heap.size V W)) (o : Obj) : Hid (Below V.heap.size V (W.alloc o).drew) := (h.out.alloc h.out.size o).drew
theorem belowB {V W : World} (h : Hid (Below V.heap.size V W)) (o : Obj) : Hid (Below V.heap.size V (W.alloc o)) := h.out.alloc h.out.size o
theorem lit1_atB (W : World) (x : Int) : IntsAt (W.alloc (.cells #[.int .i64 x] 3)) (W.alloc (.cells #[.int .i64 x] 3)).heap.size .i64 (some ⟨W.heap.size, 0, none⟩) [x] :=
  ints_of (World.ownsRow_lit (base := W.heap.size) (e := 3) (size := 1) W #[.int .i64 x] 1 (Nat.le_refl _) (by decide) rfl)
theorem lit0b (V : World) (o : Obj) : ((V.alloc (.cells #[] 3)).alloc o).drew.ownsRow V.heap.size 3 1 (.slice (some ⟨V.heap.size, 0, none⟩) 0 0) 0 (vals []) := (lit0 V).alloc o
theorem lit0c (V : World) (o : Obj) : ((V.alloc o).alloc (.cells #[] 3)).drew.ownsRow V.heap.size 3 1 (.slice (some ⟨V.heap.size + 1, 0, none⟩) 0 0) 0 (vals []) := by
  have h := lit0 (V.alloc o)
  have hs : (V.alloc o).heap.size = V.heap.size + 1 := by simp
  rw [hs] at h
  exact own_mono h (Nat.le_succ _)
theorem lit1_at (W : World) (x : Int) : IntsAt (W.alloc (.cells #[.int .i64 x] 3)).drew (W.alloc (.cells #[.int .i64 x] 3)).drew.heap.size .i64 (some ⟨W.heap.size, 0, none⟩) [x] :=
  ints_of (World.ownsRow_lit (base := W.heap.size) (e := 3) (size := 1) W #[.int .i64 x] 1 (Nat.le_refl _) (by decide) rfl)
/-- a literal of one element stays where another row is appended to -/
theorem lit1_kept {W w' : World} {g : Nat} {x : Int} {row : Option Nat} (h : IntsAt W W.heap.size .i64 (some ⟨g, 0, none⟩) [x]) (hg : W.grownBy w' row) (hr : row ≠ some g) : IntsAt w' w'.heap.size .i64 (some ⟨g, 0, none⟩) [x] := by
  intro j hj
  obtain ⟨b, o, e, hlt, hc⟩ := h j hj
  simp only [Option.some.injEq, Addr.mk.injEq, and_true] at e
  obtain ⟨rfl, rfl⟩ := e
  exact ⟨g, 0, rfl, Nat.lt_of_lt_of_le hlt hg.size, hg.cell hc (fun e => hr e.symm)⟩
theorem lit1b (V : World) (x : Int) : IntsAt ((V.alloc (.cells #[] 3)).alloc (.cells #[.int .i64 x] 3)).drew ((V.alloc (.cells #[] 3)).alloc (.cells #[.int .i64 x] 3)).drew.heap.size .i64 (some ⟨V.heap.size + 1, 0, none⟩) [x] := by
  have h := lit1_at (V.alloc (.cells #[] 3)) x
  have hs : (V.alloc (.cells #[] 3)).heap.size = V.heap.size + 1 := by simp
  rw [hs] at h
  exact h
theorem lit1c (V : World) (x : Int) : IntsAt ((V.alloc (.cells #[.int .i64 x] 3)).alloc (.cells #[] 3)).drew ((V.alloc (.cells #[.int .i64 x] 3)).alloc (.cells #[] 3)).drew.heap.size .i64 (some ⟨V.heap.size, 0, none⟩) [x] := by
  have h := lit1_at V x
  intro j hj
  obtain ⟨b, o, e, hlt, hc⟩ := h j hj
  simp only [Option.some.injEq, Addr.mk.injEq, and_true] at e
  obtain ⟨rfl, rfl⟩ := e
  have hb := (Below.refl (V.alloc (.cells #[.int .i64 x] 3)).heap.size (V.alloc (.cells #[.int .i64 x] 3))).alloc (Nat.le_refl _) (.cells #[] 3)
  exact ⟨V.heap.size, 0, rfl, Nat.lt_of_lt_of_le hlt hb.size, (hb.cell (p := ⟨V.heap.size, 0 + j, none⟩) (by show V.heap.size < _; simp)).trans hc⟩
theorem wp_app_f {P : Program} {w : World} {o : Oper} {a : Act} {K : Act → World → Prop} {Q : Exit → Act → World → Prop} (s x : Operand) (t : TypeId)
    (ho : o.op = .call { callee := .builtin .append, args := #[s, x], argTypes := #[t, t] })
    (B : Nat) (e : TypeId) (i : TypeInfo) (ht : P.underlying t = some (.slice e)) (hi : P.info? e = some i) (hz : i.zero = some (.int .i64 0))
    (hsize : i.size = 1) (hby : i.bytes = 8) (A : Option Addr) (c : Nat) (n : Nat) (xs : List Int) (hs : a.eval s = .slice A n c) (hown : w.ownsRow B e 1 (.slice A n c) n (vals xs))
    (b f m c2 : Nat) (zs : List Int) (hx : a.eval x = .slice (some ⟨b, f, none⟩) m c2) (hm : zs.length = m) (hat : IntsAt w w.heap.size .i64 (some ⟨b, f, none⟩) zs) (hn : n ≤ 1048576) (hm2 : m ≤ 1048576) (hB : B ≤ w.heap.size)
    (h : ∀ A' c' w', w'.ownsRow B e 1 (.slice A' (n + m) c') (n + m) (vals (xs ++ zs)) → w.grownBy w' (A.map (·.block)) → (∀ k, A'.map (·.block) = some k → A.map (·.block) = some k ∨ w.heap.size ≤ k) → K (a.put o.dst (.slice A' (n + m) c')) w') :
    o.wp P a w K Q := by
  subst hm
  obtain ⟨v', w', hr, h2, h3, _, h5⟩ := run_append_own_at (P := P) w B t o.type e i (.int .i64 0) 1 8 ht hi hz hsize hby rfl (by decide) _ n (vals xs) hown ⟨b, f, none⟩ zs.length c2 (vals zs) (by simp [vals]) (fun j u hu => by
    obtain ⟨hj, e⟩ := List.getElem?_eq_some_iff.1 hu
    have hj' : j < zs.length := by rw [vals_len] at hj; exact hj
    obtain ⟨b', o', hA, hlt, hc⟩ := hat j hj'
    simp only [Option.some.injEq, Addr.mk.injEq, and_true] at hA
    obtain ⟨rfl, rfl⟩ := hA
    show w.cell? (Addr.add ⟨b, f, none⟩ j) = some u
    rw [Go.WideShapes.add_plain, hc, ← hu, vals_get hj']) (vals_one zs) (by unfold maxLen; omega) (by omega) hB
  obtain ⟨A', c', rfl⟩ := own_slice h2
  unfold Oper.wp execOp
  simp only [ho, resolve, invoke, builtin, Sem.run_bind, Sem.run_pure, Result.andThen_ok, List.map_toArray, List.map_cons, List.map_nil, hs, hx, hr]
  refine h A' c' w' (by unfold vals at h2 ⊢; rw [List.map_append]; exact h2) ?_ ?_
  · cases A with
    | none => exact h3
    | some a2 => exact h3
  · intro k hk
    cases A' with
    | none => cases hk
    | some a' =>
      simp only [Option.map_some, Option.some.injEq] at hk
      subst hk
      rcases h5 with h5 | h5
      · left
        cases A with
        | none => simp [Value.ownBlock] at h5
        | some a2 => simp only [Value.ownBlock, Option.some.injEq] at h5; simp [h5]
      · right
        simp only [Value.ownBlock, Option.some.injEq] at h5
        omega
theorem step_app_f {P : Program} {w : World} {ops : Array Oper} {o : Oper} {a : Act} {K : Act → World → Prop} {Q : Exit → Act → World → Prop} {E : Prop} (hgd : o.guard = none) (s x : Operand) (t : TypeId)
    (ho : o.op = .call { callee := .builtin .append, args := #[s, x], argTypes := #[t, t] })
    (B : Nat) (e : TypeId) (i : TypeInfo) (ht : P.underlying t = some (.slice e)) (hi : P.info? e = some i) (hz : i.zero = some (.int .i64 0))
    (hsize : i.size = 1) (hby : i.bytes = 8) (A : Option Addr) (c : Nat) (n : Nat) (xs : List Int) (hs : a.eval s = .slice A n c) (hown : w.ownsRow B e 1 (.slice A n c) n (vals xs))
    (b f m c2 : Nat) (zs : List Int) (hx : a.eval x = .slice (some ⟨b, f, none⟩) m c2) (hm : zs.length = m) (hat : IntsAt w w.heap.size .i64 (some ⟨b, f, none⟩) zs) (hn : n ≤ 1048576) (hm2 : m ≤ 1048576) (hB : B ≤ w.heap.size) (r : Nat) (hr : n + m = r)
    (h : ∀ A' c' w', w'.ownsRow B e 1 (.slice A' r c') r (vals (xs ++ zs)) → w.grownBy w' (A.map (·.block)) → (∀ k, A'.map (·.block) = some k → A.map (·.block) = some k ∨ w.heap.size ≤ k) → K (a.put o.dst (.slice A' r c')) w') :
    if Region.wanted o (yielded ops a.tmps) = true then Oper.wp P o a w K Q else E := by
  subst hr
  have hw : Region.wanted o (yielded ops a.tmps) = true := by simp [Region.wanted, hgd]
  rw [if_pos hw]
  exact wp_app_f s x t ho B e i ht hi hz hsize hby A c n xs hs hown b f m c2 zs hx hm hat hn hm2 hB h
theorem ne_b {V : World} {o o2 : Obj} {A5 : Option Addr} (hf : ∀ k, A5.map (·.block) = some k → Option.map (fun x : Addr => x.block) (some ⟨V.heap.size, 0, none⟩) = some k ∨ ((V.alloc o).alloc o2).drew.heap.size ≤ k) : Option.map (fun x : Addr => x.block) A5 ≠ some (V.heap.size + 1) := fun e => by
  have hs : ((V.alloc o).alloc o2).drew.heap.size = V.heap.size + 2 := by show ((V.alloc o).alloc o2).heap.size = _; simp
  rcases hf _ e with h | h
  · simp at h
  · omega
theorem ne_c {V : World} {o o2 : Obj} {A5 : Option Addr} (hf : ∀ k, A5.map (·.block) = some k → Option.map (fun x : Addr => x.block) (some ⟨V.heap.size + 1, 0, none⟩) = some k ∨ ((V.alloc o).alloc o2).drew.heap.size ≤ k) : Option.map (fun x : Addr => x.block) A5 ≠ some V.heap.size := fun e => by
  have hs : ((V.alloc o).alloc o2).drew.heap.size = V.heap.size + 2 := by show ((V.alloc o).alloc o2).heap.size = _; simp
  rcases hf _ e with h | h
  · simp at h
  · omega
theorem row_ne {w : World} {B : Nat} {A : Option Addr} {n c g : Nat} {xs : List Value} (h : w.ownsRow B 3 1 (.slice A n c) n xs) (hg : w.heap.size ≤ g) : Option.map (fun x : Addr => x.block) A ≠ some g := fun e => by
  have := (own_lo h g e).2
  omega
set_option maxHeartbeats 4000000 in
theorem do_9 (A : Option Addr) (n c : Nat) (k : Int) (zs : List Int) (w : World) (hR : Ready A n c zs w) (hmv : mvB n 9 k = true) :
    Calls Tryz.prog 53 #[.slice A n c, .agg #[.int .i64 9, .int .i64 k]] w (IsIL w.heap.size (moveF 9 k.toNat zs) w) := by
  obtain ⟨hp1, hp2, hp3, _, _, hp4⟩ := mvB_parts hmv
  have hm := hmv
  rw [mvB_in (m := n - 1) hp1 hp2 (by omega) rfl, decide_eq_true_eq] at hm
  have hk1 : k.toNat < n := by omega
  have HF := Lib.hid (show underL zs k.toNat = moveF 9 k.toNat zs by have hn := hR.len; subst hn; rfl)
  obtain ⟨kk, rfl⟩ : ∃ kk : Nat, k = kk := ⟨k.toNat, by omega⟩
  rw [show ((kk : Int)).toNat = kk from rfl] at *
  obtain ⟨i0, hi, hz0, hz1', hz2⟩ := info_parts infoInt
  obtain ⟨b, o, rfl⟩ := ints_addr hR.cells (by have := hR.len; have := hR.pos; omega)
  have HBV := Lib.hid ((Below.refl w.heap.size w).alloc (Nat.le_refl _) (.cells #[.int .i64 9, .int .i64 (kk : Int)] 34))
  have HCV := Lib.hid (box_cells w 9 kk).2
  have hss0 := Lib.hid hR.cells
  have hn := hR.len
  have h12 := hR.few
  have hnc := hR.cap
  obtain ⟨b2, o2, e2, hlt2, hcx0⟩ := hR.cells kk (by rw [hn]; exact hk1)
  simp only [Option.some.injEq, Addr.mk.injEq, and_true] at e2
  obtain ⟨rfl, rfl⟩ := e2
  have HX := Lib.hid (show (zs.drop kk).take 1 = [zs.getD kk 0] by rw [drop_one (by rw [hn]; exact hk1)]; rfl)
  have HCX := Lib.hid ((HBV.out.cell (p := ⟨b, o + kk, none⟩) hlt2).trans hcx0)
  have HLV := Lib.hid (show (⟨w.heap.size, 1, none⟩ : Addr).block < (w.alloc (.cells #[.int .i64 9, .int .i64 (kk : Int)] 34)).heap.size by simp)
  have HLX := Lib.hid (show (⟨b, o + kk, none⟩ : Addr).block < (w.alloc (.cells #[.int .i64 9, .int .i64 (kk : Int)] 34)).heap.size by simp; omega)
  have hkc : kk ≤ c := by omega
  have hkc1 : kk + 1 ≤ c := by omega
  have hkn1 : kk + 1 ≤ n := by omega
  have hck : ¬ c = kk := by omega
  have L1 := Lib.hid (show (zs.take kk).length = kk by rw [List.length_take, hn]; omega)
  have L2 := Lib.hid (show (zs.drop (kk + 1)).length = n - (kk + 1) by rw [List.length_drop, hn])
  have hW : IntKind.i64.wrap ((kk : Int) + 1) = (kk : Int) + 1 := IntWalk.i64_in _ (by omega)
  have hT : ((kk : Int) + 1).toNat = kk + 1 := by omega
  generalize zs.getD kk 0 = x at HX HCX hcx0
  have HU := Lib.hid (show [] ++ zs.take kk ++ zs.drop (kk + 1) ++ [x] = moveF 9 kk zs by rw [← HF.out]; unfold underL; rw [HX.out]; simp)
  clear hmv hp1 hp2 hp3 hp4 hm hR hn hlt2 hcx0 HF HX
  by_cases hck1 : c = kk + 1
  · obtain rfl : n = kk + 1 := by omega
    subst hck1
    rw [Nat.sub_self] at L2
    have hI2 : (kk : Int) ≤ (kk : Int) + 1 := by omega
    have hI4 : (0 : Int) ≤ (kk : Int) + 1 := by omega
    have hI5 : (kk : Int) < (kk : Int) + 1 := by omega
    go_enter Tryz.func53, Tryz.ntmps53
    go_wp2
    generalize hV : w.alloc _ = V
    rw [hV] at HBV HCV HCX HLV HLX
    have HSV := Lib.hid (ints_on hss0.out HBV.out)
    have K0 := Lib.hid ((Below.refl V.heap.size V).drew)
    have K1 := fun o => Lib.hid (below_new V o)
    have K2 := fun o o2 => belowA (V := V) (W := V.alloc o) ((Below.refl V.heap.size V).alloc (Nat.le_refl _) o) o2
    have HL0a := Lib.hid (lit0 V)
    have HL0b := Lib.hid (lit0b V (.cells #[.int .i64 x] 3))
    have HL0c := Lib.hid (lit0c V (.cells #[.int .i64 x] 3))
    have hneb : Option.map (fun x : Addr => x.block) (some ⟨V.heap.size, 0, none⟩) ≠ some (V.heap.size + 1) := fun e => by simp at e
    have hnec : Option.map (fun x : Addr => x.block) (some ⟨V.heap.size + 1, 0, none⟩) ≠ some V.heap.size := fun e => by simp at e
    have hz0s : 0 ≤ 1048576 := by decide
    have hone : 1 ≤ 1048576 := by decide
    have hks : kk ≤ 1048576 := by omega
    have hds : 0 ≤ 1048576 := by omega
    have hz1 : 0 + kk = kk := Nat.zero_add _
    have hr2 : kk + 0 = (kk + 0) := by omega
    have hr2s : (kk + 0) ≤ 1048576 := by omega
    have hr3 : (kk + 0) + 1 = (kk + 1) := by omega
    clear hV hss0
    go_region_held_law (fun w' => w'.cell? ⟨w.heap.size, 1, none⟩ = some (.int .i64 (kk : Int)) ∧ w'.cell? ⟨b, o + kk, none⟩ = some (.int .i64 x)) ((first | exact keepV HCV HCX HLV HLX K0 | exact keepV HCV HCX HLV HLX (K1 _) | exact keepV HCV HCX HLV HLX (K2 _ _) | exact keepV HCV HCX HLV HLX hb7 | exact keepV HCV HCX HLV HLX (belowB hb6 _) | exact keepV HCV HCX HLV HLX hb6 | exact keepV HCV HCX HLV HLX (belowB hb5 _) | exact keepV HCV HCX HLV HLX hb5)) ((first
      | (refine step_app_f rfl (.tmp 71) (.tmp 75) 22 rfl V.heap.size 3 i0 Tryz.underlying22 hi hz0 hz1' hz2 (some ⟨V.heap.size, 0, none⟩) 0 0 [] rfl HL0a.out b o kk _ (zs.take kk) rfl L1.out (ints_take2 kk (ints_on HSV.out (K1 (.cells #[] 3)).out)) hz0s hks (K1 (.cells #[] 3)).out.size kk hz1 ?_; intro A5 c5 w5 hown5 hgr5 hf5; have hb5 := Lib.hid ((K1 (.cells #[] 3)).out.grown hgr5 (K1 (.cells #[] 3)).out.size (fun b h => (own_lo HL0a.out b h).1)))
      | (refine step_app_f rfl (.tmp 71) (.tmp 75) 22 rfl V.heap.size 3 i0 Tryz.underlying22 hi hz0 hz1' hz2 (some ⟨V.heap.size, 0, none⟩) 0 0 [] rfl HL0b.out b o kk _ (zs.take kk) rfl L1.out (ints_take2 kk (ints_on HSV.out (K2 (.cells #[] 3) (.cells #[.int .i64 x] 3)).out)) hz0s hks (K2 (.cells #[] 3) (.cells #[.int .i64 x] 3)).out.size kk hz1 ?_; intro A5 c5 w5 hown5 hgr5 hf5; have hb5 := Lib.hid ((K2 (.cells #[] 3) (.cells #[.int .i64 x] 3)).out.grown hgr5 (K2 (.cells #[] 3) (.cells #[.int .i64 x] 3)).out.size (fun b h => (own_lo HL0b.out b h).1)); have hlit5 := lit1_kept (lit1b V x) hgr5 hneb; have hnex := ne_b hf5)
      | (refine step_app_f rfl (.tmp 71) (.tmp 75) 22 rfl V.heap.size 3 i0 Tryz.underlying22 hi hz0 hz1' hz2 (some ⟨V.heap.size + 1, 0, none⟩) 0 0 [] rfl HL0c.out b o kk _ (zs.take kk) rfl L1.out (ints_take2 kk (ints_on HSV.out (K2 (.cells #[.int .i64 x] 3) (.cells #[] 3)).out)) hz0s hks (K2 (.cells #[.int .i64 x] 3) (.cells #[] 3)).out.size kk hz1 ?_; intro A5 c5 w5 hown5 hgr5 hf5; have hb5 := Lib.hid ((K2 (.cells #[.int .i64 x] 3) (.cells #[] 3)).out.grown hgr5 (K2 (.cells #[.int .i64 x] 3) (.cells #[] 3)).out.size (fun b h => (own_lo HL0c.out b h).1)); have hlit5 := lit1_kept (lit1c V x) hgr5 hnec; have hnex := ne_c hf5)
      | (refine step_app_r rfl (.tmp 76) (.tmp 81) 22 rfl V.heap.size 3 i0 Tryz.underlying22 hi hz0 hz1' hz2 A5 c5 kk ([] ++ zs.take kk) rfl hown5 _ 0 _ (zs.drop (kk + 1)) rfl L2.out (fun h => by cases h) (ints_none _ _ _ L2.out) hks hds hb5.out.size spot_some (kk + 0) hr2 ?_; intro A6 c6 w6 hown6 hgr6; have hb6 := Lib.hid (hb5.out.grown hgr6 hb5.out.size (fun b h => (own_lo hown5 b h).1)); (try have hlit6 := lit1_kept hlit5 hgr6 hnex))
      | (refine step_app_r rfl (.tmp 76) (.tmp 81) 22 rfl V.heap.size 3 i0 Tryz.underlying22 hi hz0 hz1' hz2 A5 c5 kk ([] ++ zs.take kk) rfl (show (w5.alloc (.cells #[.int .i64 x] 3)).ownsRow V.heap.size 3 1 (.slice A5 kk c5) kk (vals ([] ++ zs.take kk)) from hown5.alloc _) _ 0 _ (zs.drop (kk + 1)) rfl L2.out (fun h => by cases h) (ints_none _ _ _ L2.out) hks hds (belowB hb5 (.cells #[.int .i64 x] 3)).out.size spot_some (kk + 0) hr2 ?_; intro A6 c6 w6 hown6 hgr6; have hb6 := Lib.hid ((belowB hb5 (.cells #[.int .i64 x] 3)).out.grown hgr6 (belowB hb5 (.cells #[.int .i64 x] 3)).out.size (fun b h => (own_lo hown5 b h).1)); have hlit6 := lit1_kept (lit1_atB w5 x) hgr6 (row_ne hown5 (Nat.le_refl _)))
      | (refine step_app_r rfl (.tmp 82) (.tmp 88) 22 rfl V.heap.size 3 i0 Tryz.underlying22 hi hz0 hz1' hz2 A6 c6 (kk + 0) ([] ++ zs.take kk ++ zs.drop (kk + 1)) rfl (show (w6.alloc (.cells #[.int .i64 x] 3)).ownsRow V.heap.size 3 1 (.slice A6 (kk + 0) c6) (kk + 0) (vals ([] ++ zs.take kk ++ zs.drop (kk + 1))) from hown6.alloc _) _ 1 1 [x] rfl rfl (fun h => by cases h) (lit1_atB w6 x) hr2s hone (belowB hb6 (.cells #[.int .i64 x] 3)).out.size spot_some (kk + 1) hr3 ?_; intro A7 c7 w7 hown7 hgr7; have hb7 := Lib.hid ((belowB hb6 (.cells #[.int .i64 x] 3)).out.grown hgr7 (belowB hb6 (.cells #[.int .i64 x] 3)).out.size (fun b h => (own_lo hown6 b h).1)))
      | (refine step_app_r rfl (.tmp 82) (.tmp 88) 22 rfl V.heap.size 3 i0 Tryz.underlying22 hi hz0 hz1' hz2 A6 c6 (kk + 0) ([] ++ zs.take kk ++ zs.drop (kk + 1)) rfl hown6 _ 1 1 [x] rfl rfl (fun h => by cases h) hlit6 hr2s hone hb6.out.size spot_some (kk + 1) hr3 ?_; intro A7 c7 w7 hown7 hgr7; have hb7 := Lib.hid (hb6.out.grown hgr7 hb6.out.size (fun b h => (own_lo hown6 b h).1)))))
    all_goals
      have hb8 := Lib.hid (row_end (own_mono hown7 HBV.out.size) (HBV.out.trans (hb7.out.mono HBV.out.size)))
      have hb9 := hb8.out
      rw [HU.out] at hb9
      have hb10 := Lib.hid hb9
      clear hb9 hb8 hown7 hgr7 hown6 hgr6 hown5 hgr5
      go_wp2
      go_ret
      exact hb10.out
  · have hck2 : ¬ ((c : Int) = (kk : Int) + 1) := by omega
    have hI1 : (kk : Int) + 1 ≤ (n : Int) := by omega
    have hI2 : (kk : Int) ≤ (kk : Int) + 1 := by omega
    have hI3 : (kk : Int) + 1 ≤ (c : Int) := by omega
    have hI4 : (0 : Int) ≤ (kk : Int) + 1 := by omega
    have hI5 : (kk : Int) < (n : Int) := by omega
    go_enter Tryz.func53, Tryz.ntmps53
    go_wp2
    generalize hV : w.alloc _ = V
    rw [hV] at HBV HCV HCX HLV HLX
    have HSV := Lib.hid (ints_on hss0.out HBV.out)
    have K0 := Lib.hid ((Below.refl V.heap.size V).drew)
    have K1 := fun o => Lib.hid (below_new V o)
    have K2 := fun o o2 => belowA (V := V) (W := V.alloc o) ((Below.refl V.heap.size V).alloc (Nat.le_refl _) o) o2
    have HL0a := Lib.hid (lit0 V)
    have HL0b := Lib.hid (lit0b V (.cells #[.int .i64 x] 3))
    have HL0c := Lib.hid (lit0c V (.cells #[.int .i64 x] 3))
    have hneb : Option.map (fun x : Addr => x.block) (some ⟨V.heap.size, 0, none⟩) ≠ some (V.heap.size + 1) := fun e => by simp at e
    have hnec : Option.map (fun x : Addr => x.block) (some ⟨V.heap.size + 1, 0, none⟩) ≠ some V.heap.size := fun e => by simp at e
    have hz0s : 0 ≤ 1048576 := by decide
    have hone : 1 ≤ 1048576 := by decide
    have hks : kk ≤ 1048576 := by omega
    have hds : (n - (kk + 1)) ≤ 1048576 := by omega
    have hz1 : 0 + kk = kk := Nat.zero_add _
    have hr2 : kk + (n - (kk + 1)) = (n - 1) := by omega
    have hr2s : (n - 1) ≤ 1048576 := by omega
    have hr3 : (n - 1) + 1 = n := by omega
    clear hV hss0
    go_region_held_law (fun w' => w'.cell? ⟨w.heap.size, 1, none⟩ = some (.int .i64 (kk : Int)) ∧ w'.cell? ⟨b, o + kk, none⟩ = some (.int .i64 x)) ((first | exact keepV HCV HCX HLV HLX K0 | exact keepV HCV HCX HLV HLX (K1 _) | exact keepV HCV HCX HLV HLX (K2 _ _) | exact keepV HCV HCX HLV HLX hb7 | exact keepV HCV HCX HLV HLX (belowB hb6 _) | exact keepV HCV HCX HLV HLX hb6 | exact keepV HCV HCX HLV HLX (belowB hb5 _) | exact keepV HCV HCX HLV HLX hb5)) ((first
      | (refine step_app_f rfl (.tmp 71) (.tmp 75) 22 rfl V.heap.size 3 i0 Tryz.underlying22 hi hz0 hz1' hz2 (some ⟨V.heap.size, 0, none⟩) 0 0 [] rfl HL0a.out b o kk _ (zs.take kk) rfl L1.out (ints_take2 kk (ints_on HSV.out (K1 (.cells #[] 3)).out)) hz0s hks (K1 (.cells #[] 3)).out.size kk hz1 ?_; intro A5 c5 w5 hown5 hgr5 hf5; have hb5 := Lib.hid ((K1 (.cells #[] 3)).out.grown hgr5 (K1 (.cells #[] 3)).out.size (fun b h => (own_lo HL0a.out b h).1)))
      | (refine step_app_f rfl (.tmp 71) (.tmp 75) 22 rfl V.heap.size 3 i0 Tryz.underlying22 hi hz0 hz1' hz2 (some ⟨V.heap.size, 0, none⟩) 0 0 [] rfl HL0b.out b o kk _ (zs.take kk) rfl L1.out (ints_take2 kk (ints_on HSV.out (K2 (.cells #[] 3) (.cells #[.int .i64 x] 3)).out)) hz0s hks (K2 (.cells #[] 3) (.cells #[.int .i64 x] 3)).out.size kk hz1 ?_; intro A5 c5 w5 hown5 hgr5 hf5; have hb5 := Lib.hid ((K2 (.cells #[] 3) (.cells #[.int .i64 x] 3)).out.grown hgr5 (K2 (.cells #[] 3) (.cells #[.int .i64 x] 3)).out.size (fun b h => (own_lo HL0b.out b h).1)); have hlit5 := lit1_kept (lit1b V x) hgr5 hneb; have hnex := ne_b hf5)
      | (refine step_app_f rfl (.tmp 71) (.tmp 75) 22 rfl V.heap.size 3 i0 Tryz.underlying22 hi hz0 hz1' hz2 (some ⟨V.heap.size + 1, 0, none⟩) 0 0 [] rfl HL0c.out b o kk _ (zs.take kk) rfl L1.out (ints_take2 kk (ints_on HSV.out (K2 (.cells #[.int .i64 x] 3) (.cells #[] 3)).out)) hz0s hks (K2 (.cells #[.int .i64 x] 3) (.cells #[] 3)).out.size kk hz1 ?_; intro A5 c5 w5 hown5 hgr5 hf5; have hb5 := Lib.hid ((K2 (.cells #[.int .i64 x] 3) (.cells #[] 3)).out.grown hgr5 (K2 (.cells #[.int .i64 x] 3) (.cells #[] 3)).out.size (fun b h => (own_lo HL0c.out b h).1)); have hlit5 := lit1_kept (lit1c V x) hgr5 hnec; have hnex := ne_c hf5)
      | (refine step_app_r rfl (.tmp 76) (.tmp 81) 22 rfl V.heap.size 3 i0 Tryz.underlying22 hi hz0 hz1' hz2 A5 c5 kk ([] ++ zs.take kk) rfl hown5 _ (n - (kk + 1)) _ (zs.drop (kk + 1)) rfl L2.out (fun h => by cases h) (ints_drop (ints_on HSV.out hb5.out)) hks hds hb5.out.size spot_some (n - 1) hr2 ?_; intro A6 c6 w6 hown6 hgr6; have hb6 := Lib.hid (hb5.out.grown hgr6 hb5.out.size (fun b h => (own_lo hown5 b h).1)); (try have hlit6 := lit1_kept hlit5 hgr6 hnex))
      | (refine step_app_r rfl (.tmp 76) (.tmp 81) 22 rfl V.heap.size 3 i0 Tryz.underlying22 hi hz0 hz1' hz2 A5 c5 kk ([] ++ zs.take kk) rfl (show (w5.alloc (.cells #[.int .i64 x] 3)).ownsRow V.heap.size 3 1 (.slice A5 kk c5) kk (vals ([] ++ zs.take kk)) from hown5.alloc _) _ (n - (kk + 1)) _ (zs.drop (kk + 1)) rfl L2.out (fun h => by cases h) (ints_drop (ints_on HSV.out (belowB hb5 _).out)) hks hds (belowB hb5 (.cells #[.int .i64 x] 3)).out.size spot_some (n - 1) hr2 ?_; intro A6 c6 w6 hown6 hgr6; have hb6 := Lib.hid ((belowB hb5 (.cells #[.int .i64 x] 3)).out.grown hgr6 (belowB hb5 (.cells #[.int .i64 x] 3)).out.size (fun b h => (own_lo hown5 b h).1)); have hlit6 := lit1_kept (lit1_atB w5 x) hgr6 (row_ne hown5 (Nat.le_refl _)))
      | (refine step_app_r rfl (.tmp 82) (.tmp 88) 22 rfl V.heap.size 3 i0 Tryz.underlying22 hi hz0 hz1' hz2 A6 c6 (n - 1) ([] ++ zs.take kk ++ zs.drop (kk + 1)) rfl (show (w6.alloc (.cells #[.int .i64 x] 3)).ownsRow V.heap.size 3 1 (.slice A6 (n - 1) c6) (n - 1) (vals ([] ++ zs.take kk ++ zs.drop (kk + 1))) from hown6.alloc _) _ 1 1 [x] rfl rfl (fun h => by cases h) (lit1_atB w6 x) hr2s hone (belowB hb6 (.cells #[.int .i64 x] 3)).out.size spot_some n hr3 ?_; intro A7 c7 w7 hown7 hgr7; have hb7 := Lib.hid ((belowB hb6 (.cells #[.int .i64 x] 3)).out.grown hgr7 (belowB hb6 (.cells #[.int .i64 x] 3)).out.size (fun b h => (own_lo hown6 b h).1)))
      | (refine step_app_r rfl (.tmp 82) (.tmp 88) 22 rfl V.heap.size 3 i0 Tryz.underlying22 hi hz0 hz1' hz2 A6 c6 (n - 1) ([] ++ zs.take kk ++ zs.drop (kk + 1)) rfl hown6 _ 1 1 [x] rfl rfl (fun h => by cases h) hlit6 hr2s hone hb6.out.size spot_some n hr3 ?_; intro A7 c7 w7 hown7 hgr7; have hb7 := Lib.hid (hb6.out.grown hgr7 hb6.out.size (fun b h => (own_lo hown6 b h).1)))))
    all_goals
      have hb8 := Lib.hid (row_end (own_mono hown7 HBV.out.size) (HBV.out.trans (hb7.out.mono HBV.out.size)))
      have hb9 := hb8.out
      rw [HU.out] at hb9
      have hb10 := Lib.hid hb9
      clear hb9 hb8 hown7 hgr7 hown6 hgr6 hown5 hgr5
      go_wp2
      go_ret
      exact hb10.out
end Go.Proofs.YtibephoepkofnaaGreat.Do
