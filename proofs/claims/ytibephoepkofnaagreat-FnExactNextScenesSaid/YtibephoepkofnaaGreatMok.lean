/- MoveOk, MoveName and MoveNamed of the program and of the model. MoveOk of the program and of the model, for whatever arguments. -/
import Derived.Test.YtibephoepkofnaaGreatMo
import Derived.BigQuiet
import Derived.Deep.QuietTactic
set_option linter.unusedVariables false
set_option maxRecDepth 20000
namespace Go.Proofs.YtibephoepkofnaaGreat.Mok
open Go.RowKit Fr Own Pk Ins Pfn Rws Lb Cat Mvp Mv1 Mv2 Mv3 Mv4 Mk Mo

theorem most_cards (n : Int) (w : World) : Calls Tryz.prog 84 #[.int .i64 n] w fun e w' => e = .returned (.int .i64 n) ∧ ∃ d, w' = w.drewN d := by
  go_enter Tryz.func84, Tryz.ntmps84
  go_wp2
  go_ret
  exact ⟨rfl, 0, rfl⟩
theorem most_last (n : Int) (w : World) (h1 : 1 ≤ n) (h2 : n ≤ 12) : Calls Tryz.prog 85 #[.int .i64 n] w fun e w' => e = .returned (.int .i64 (n - 1)) ∧ ∃ d, w' = w.drewN d := by
  go_enter Tryz.func85, Tryz.ntmps85
  go_wp2
  go_ret
  exact ⟨rfl, 0, rfl⟩
theorem most_always (n : Int) (c : Int) (b : Nat) (w : World) (hc : w.cell? ⟨b, 0, none⟩ = some (.int .i64 c)) : Calls Tryz.prog 87 #[.int .i64 n, .pointer (some ⟨b, 0, none⟩)] w fun e w' => e = .returned (.int .i64 c) ∧ ∃ d, w' = w.drewN d := by
  go_enter Tryz.func87, Tryz.ntmps87
  go_wp2
  go_ret
  exact ⟨rfl, 0, rfl⟩
set_option maxHeartbeats 1000000 in
theorem ok_1 (n k : Int) (w : World) (h1 : 1 ≤ n) (h2 : n ≤ 12) (h3 : 0 ≤ k) : Calls Tryz.prog 57 #[.int .i64 n, .agg #[.int .i64 1, .int .i64 k]] w fun e w' => e = .returned (.bool (decide (k ≤ n))) ∧ Below w.heap.size w w' := by
  have HAL := Lib.hid ((Below.refl w.heap.size w).alloc (Nat.le_refl _) (.cells #[.int .i64 1, .int .i64 k] 34))
  have HBL := Lib.hid (heap_alloc_new w (.cells #[.int .i64 1, .int .i64 k] 34))
  have HS := Lib.hid (show (w.alloc (.cells #[.int .i64 1, .int .i64 k] 34)).heap.size = w.heap.size + 1 by simp)
  go_enter Tryz.func57, Tryz.ntmps57
  go_wp2_with fail
  refine (kind_1 _ (w.heap.size + 1) HS.out.symm).mono ?_
  rintro e W ⟨rfl, hK⟩
  have hb := HAL.out.trans (hK.below.mono (by rw [HS.out]; omega))
  have hm := (hK.below.block w.heap.size (by rw [HS.out]; omega)).trans HBL.out
  have hmk : W.cell? ⟨w.heap.size, 1, none⟩ = some (.int .i64 k) := by
    unfold World.cell?
    rw [hm]
    rfl
  have HB := fun o => Lib.hid (hb.alloc hb.size o)
  have HV := fun a x c => Lib.hid (cells3 (heap_alloc_new W (.cells #[a, x, c] 97)))
  have HM := fun o => Lib.hid (keep_alloc (o := o) hmk)
  clear hmk hK hm hb HAL HBL HS
  go_wp2
  generalize hV : W.alloc _ = V
  have HBV := Lib.hid (show Below w.heap.size w V by rw [← hV]; exact (HB _).out)
  have hmk : V.cell? ⟨w.heap.size, 1, none⟩ = some (.int .i64 k) := by rw [← hV]; exact (HM _).out
  have hmv : V.cell? ⟨W.heap.size, 1, none⟩ = some (.func (.func 84) #[] #[]) := by rw [← hV]; exact (HV _ _ _).out.2.1
  clear hV HB HV HM
  go_quiet ((go_at_call 84; exact Calls.quiet_of (most_cards _ _)))
  go_wp2
  go_ret
  exact ⟨rfl, below_drewN HBV.out _⟩
set_option maxHeartbeats 1000000 in
theorem ok_2 (n k : Int) (w : World) (h1 : 1 ≤ n) (h2 : n ≤ 12) (h3 : 0 ≤ k) : Calls Tryz.prog 57 #[.int .i64 n, .agg #[.int .i64 2, .int .i64 k]] w fun e w' => e = .returned (.bool (decide (k ≤ n))) ∧ Below w.heap.size w w' := by
  have HAL := Lib.hid ((Below.refl w.heap.size w).alloc (Nat.le_refl _) (.cells #[.int .i64 2, .int .i64 k] 34))
  have HBL := Lib.hid (heap_alloc_new w (.cells #[.int .i64 2, .int .i64 k] 34))
  have HS := Lib.hid (show (w.alloc (.cells #[.int .i64 2, .int .i64 k] 34)).heap.size = w.heap.size + 1 by simp)
  go_enter Tryz.func57, Tryz.ntmps57
  go_wp2_with fail
  refine (kind_2 _ (w.heap.size + 1) HS.out.symm).mono ?_
  rintro e W ⟨rfl, hK⟩
  have hb := HAL.out.trans (hK.below.mono (by rw [HS.out]; omega))
  have hm := (hK.below.block w.heap.size (by rw [HS.out]; omega)).trans HBL.out
  have hmk : W.cell? ⟨w.heap.size, 1, none⟩ = some (.int .i64 k) := by
    unfold World.cell?
    rw [hm]
    rfl
  have HB := fun o => Lib.hid (hb.alloc hb.size o)
  have HV := fun a x c => Lib.hid (cells3 (heap_alloc_new W (.cells #[a, x, c] 97)))
  have HM := fun o => Lib.hid (keep_alloc (o := o) hmk)
  clear hmk hK hm hb HAL HBL HS
  go_wp2
  generalize hV : W.alloc _ = V
  have HBV := Lib.hid (show Below w.heap.size w V by rw [← hV]; exact (HB _).out)
  have hmk : V.cell? ⟨w.heap.size, 1, none⟩ = some (.int .i64 k) := by rw [← hV]; exact (HM _).out
  have hmv : V.cell? ⟨W.heap.size, 1, none⟩ = some (.func (.func 84) #[] #[]) := by rw [← hV]; exact (HV _ _ _).out.2.1
  clear hV HB HV HM
  go_quiet ((go_at_call 84; exact Calls.quiet_of (most_cards _ _)))
  go_wp2
  go_ret
  exact ⟨rfl, below_drewN HBV.out _⟩
set_option maxHeartbeats 1000000 in
theorem ok_3 (n k : Int) (w : World) (h1 : 1 ≤ n) (h2 : n ≤ 12) (h3 : 0 ≤ k) : Calls Tryz.prog 57 #[.int .i64 n, .agg #[.int .i64 3, .int .i64 k]] w fun e w' => e = .returned (.bool (decide (k ≤ n))) ∧ Below w.heap.size w w' := by
  have HAL := Lib.hid ((Below.refl w.heap.size w).alloc (Nat.le_refl _) (.cells #[.int .i64 3, .int .i64 k] 34))
  have HBL := Lib.hid (heap_alloc_new w (.cells #[.int .i64 3, .int .i64 k] 34))
  have HS := Lib.hid (show (w.alloc (.cells #[.int .i64 3, .int .i64 k] 34)).heap.size = w.heap.size + 1 by simp)
  go_enter Tryz.func57, Tryz.ntmps57
  go_wp2_with fail
  refine (kind_3 _ (w.heap.size + 1) HS.out.symm).mono ?_
  rintro e W ⟨rfl, hK⟩
  have hb := HAL.out.trans (hK.below.mono (by rw [HS.out]; omega))
  have hm := (hK.below.block w.heap.size (by rw [HS.out]; omega)).trans HBL.out
  have hmk : W.cell? ⟨w.heap.size, 1, none⟩ = some (.int .i64 k) := by
    unfold World.cell?
    rw [hm]
    rfl
  have HB := fun o => Lib.hid (hb.alloc hb.size o)
  have HV := fun a x c => Lib.hid (cells3 (heap_alloc_new W (.cells #[a, x, c] 97)))
  have HM := fun o => Lib.hid (keep_alloc (o := o) hmk)
  clear hmk hK hm hb HAL HBL HS
  go_wp2
  generalize hV : W.alloc _ = V
  have HBV := Lib.hid (show Below w.heap.size w V by rw [← hV]; exact (HB _).out)
  have hmk : V.cell? ⟨w.heap.size, 1, none⟩ = some (.int .i64 k) := by rw [← hV]; exact (HM _).out
  have hmv : V.cell? ⟨W.heap.size, 1, none⟩ = some (.func (.func 84) #[] #[]) := by rw [← hV]; exact (HV _ _ _).out.2.1
  clear hV HB HV HM
  go_quiet ((go_at_call 84; exact Calls.quiet_of (most_cards _ _)))
  go_wp2
  go_ret
  exact ⟨rfl, below_drewN HBV.out _⟩
set_option maxHeartbeats 1000000 in
theorem ok_4 (n k : Int) (w : World) (h1 : 1 ≤ n) (h2 : n ≤ 12) (h3 : 0 ≤ k) : Calls Tryz.prog 57 #[.int .i64 n, .agg #[.int .i64 4, .int .i64 k]] w fun e w' => e = .returned (.bool (decide (k ≤ 1))) ∧ Below w.heap.size w w' := by
  have HAL := Lib.hid ((Below.refl w.heap.size w).alloc (Nat.le_refl _) (.cells #[.int .i64 4, .int .i64 k] 34))
  have HBL := Lib.hid (heap_alloc_new w (.cells #[.int .i64 4, .int .i64 k] 34))
  have HS := Lib.hid (show (w.alloc (.cells #[.int .i64 4, .int .i64 k] 34)).heap.size = w.heap.size + 1 by simp)
  go_enter Tryz.func57, Tryz.ntmps57
  go_wp2_with fail
  refine (kind_4 _ (w.heap.size + 1) HS.out.symm).mono ?_
  rintro e W ⟨rfl, hK⟩
  have hb := HAL.out.trans (hK.below.mono (by rw [HS.out]; omega))
  have hm := (hK.below.block w.heap.size (by rw [HS.out]; omega)).trans HBL.out
  have hmk : W.cell? ⟨w.heap.size, 1, none⟩ = some (.int .i64 k) := by
    unfold World.cell?
    rw [hm]
    rfl
  have HB := fun o => Lib.hid (hb.alloc hb.size o)
  have HV := fun a x c => Lib.hid (cells3 (heap_alloc_new W (.cells #[a, x, c] 97)))
  have HM := fun o => Lib.hid (keep_alloc (o := o) hmk)
  have hcc := hK.k4
  rw [HS.out] at hcc
  have HCC := fun o => Lib.hid (keep_alloc (o := o) hcc)
  clear hmk hK hm hb HAL HBL HS
  go_wp2
  generalize hV : W.alloc _ = V
  have HBV := Lib.hid (show Below w.heap.size w V by rw [← hV]; exact (HB _).out)
  have hmk : V.cell? ⟨w.heap.size, 1, none⟩ = some (.int .i64 k) := by rw [← hV]; exact (HM _).out
  have hmv : V.cell? ⟨W.heap.size, 1, none⟩ = some (.func (.func 87) #[] #[.pointer (some ⟨w.heap.size + 1 + 1 + 1 + 1, 0, none⟩)]) := by rw [← hV]; exact (HV _ _ _).out.2.1
  have hcl : V.cell? ⟨w.heap.size + 1 + 1 + 1 + 1, 0, none⟩ = some (.int .i64 1) := by rw [← hV]; exact (HCC _).out
  clear hV HB HV HM
  go_quiet ((go_at_call 87; exact Calls.quiet_of (most_always _ _ _ _ hcl)))
  go_wp2
  go_ret
  exact ⟨rfl, below_drewN HBV.out _⟩
set_option maxHeartbeats 1000000 in
theorem ok_5 (n k : Int) (w : World) (h1 : 1 ≤ n) (h2 : n ≤ 12) (h3 : 0 ≤ k) : Calls Tryz.prog 57 #[.int .i64 n, .agg #[.int .i64 5, .int .i64 k]] w fun e w' => e = .returned (.bool (decide (k ≤ 1))) ∧ Below w.heap.size w w' := by
  have HAL := Lib.hid ((Below.refl w.heap.size w).alloc (Nat.le_refl _) (.cells #[.int .i64 5, .int .i64 k] 34))
  have HBL := Lib.hid (heap_alloc_new w (.cells #[.int .i64 5, .int .i64 k] 34))
  have HS := Lib.hid (show (w.alloc (.cells #[.int .i64 5, .int .i64 k] 34)).heap.size = w.heap.size + 1 by simp)
  go_enter Tryz.func57, Tryz.ntmps57
  go_wp2_with fail
  refine (kind_5 _ (w.heap.size + 1) HS.out.symm).mono ?_
  rintro e W ⟨rfl, hK⟩
  have hb := HAL.out.trans (hK.below.mono (by rw [HS.out]; omega))
  have hm := (hK.below.block w.heap.size (by rw [HS.out]; omega)).trans HBL.out
  have hmk : W.cell? ⟨w.heap.size, 1, none⟩ = some (.int .i64 k) := by
    unfold World.cell?
    rw [hm]
    rfl
  have HB := fun o => Lib.hid (hb.alloc hb.size o)
  have HV := fun a x c => Lib.hid (cells3 (heap_alloc_new W (.cells #[a, x, c] 97)))
  have HM := fun o => Lib.hid (keep_alloc (o := o) hmk)
  have hcc := hK.k5
  rw [HS.out] at hcc
  have HCC := fun o => Lib.hid (keep_alloc (o := o) hcc)
  clear hmk hK hm hb HAL HBL HS
  go_wp2
  generalize hV : W.alloc _ = V
  have HBV := Lib.hid (show Below w.heap.size w V by rw [← hV]; exact (HB _).out)
  have hmk : V.cell? ⟨w.heap.size, 1, none⟩ = some (.int .i64 k) := by rw [← hV]; exact (HM _).out
  have hmv : V.cell? ⟨W.heap.size, 1, none⟩ = some (.func (.func 87) #[] #[.pointer (some ⟨w.heap.size + 1 + 1 + 1 + 1 + 1, 0, none⟩)]) := by rw [← hV]; exact (HV _ _ _).out.2.1
  have hcl : V.cell? ⟨w.heap.size + 1 + 1 + 1 + 1 + 1, 0, none⟩ = some (.int .i64 1) := by rw [← hV]; exact (HCC _).out
  clear hV HB HV HM
  go_quiet ((go_at_call 87; exact Calls.quiet_of (most_always _ _ _ _ hcl)))
  go_wp2
  go_ret
  exact ⟨rfl, below_drewN HBV.out _⟩
set_option maxHeartbeats 1000000 in
theorem ok_6 (n k : Int) (w : World) (h1 : 1 ≤ n) (h2 : n ≤ 12) (h3 : 0 ≤ k) : Calls Tryz.prog 57 #[.int .i64 n, .agg #[.int .i64 6, .int .i64 k]] w fun e w' => e = .returned (.bool (decide (k ≤ 0))) ∧ Below w.heap.size w w' := by
  have HAL := Lib.hid ((Below.refl w.heap.size w).alloc (Nat.le_refl _) (.cells #[.int .i64 6, .int .i64 k] 34))
  have HBL := Lib.hid (heap_alloc_new w (.cells #[.int .i64 6, .int .i64 k] 34))
  have HS := Lib.hid (show (w.alloc (.cells #[.int .i64 6, .int .i64 k] 34)).heap.size = w.heap.size + 1 by simp)
  go_enter Tryz.func57, Tryz.ntmps57
  go_wp2_with fail
  refine (kind_6 _ (w.heap.size + 1) HS.out.symm).mono ?_
  rintro e W ⟨rfl, hK⟩
  have hb := HAL.out.trans (hK.below.mono (by rw [HS.out]; omega))
  have hm := (hK.below.block w.heap.size (by rw [HS.out]; omega)).trans HBL.out
  have hmk : W.cell? ⟨w.heap.size, 1, none⟩ = some (.int .i64 k) := by
    unfold World.cell?
    rw [hm]
    rfl
  have HB := fun o => Lib.hid (hb.alloc hb.size o)
  have HV := fun a x c => Lib.hid (cells3 (heap_alloc_new W (.cells #[a, x, c] 97)))
  have HM := fun o => Lib.hid (keep_alloc (o := o) hmk)
  have hcc := hK.k6
  rw [HS.out] at hcc
  have HCC := fun o => Lib.hid (keep_alloc (o := o) hcc)
  clear hmk hK hm hb HAL HBL HS
  go_wp2
  generalize hV : W.alloc _ = V
  have HBV := Lib.hid (show Below w.heap.size w V by rw [← hV]; exact (HB _).out)
  have hmk : V.cell? ⟨w.heap.size, 1, none⟩ = some (.int .i64 k) := by rw [← hV]; exact (HM _).out
  have hmv : V.cell? ⟨W.heap.size, 1, none⟩ = some (.func (.func 87) #[] #[.pointer (some ⟨w.heap.size + 1 + 1 + 1 + 1 + 1 + 1, 0, none⟩)]) := by rw [← hV]; exact (HV _ _ _).out.2.1
  have hcl : V.cell? ⟨w.heap.size + 1 + 1 + 1 + 1 + 1 + 1, 0, none⟩ = some (.int .i64 0) := by rw [← hV]; exact (HCC _).out
  clear hV HB HV HM
  go_quiet ((go_at_call 87; exact Calls.quiet_of (most_always _ _ _ _ hcl)))
  go_wp2
  go_ret
  exact ⟨rfl, below_drewN HBV.out _⟩
set_option maxHeartbeats 1000000 in
theorem ok_7 (n k : Int) (w : World) (h1 : 1 ≤ n) (h2 : n ≤ 12) (h3 : 0 ≤ k) : Calls Tryz.prog 57 #[.int .i64 n, .agg #[.int .i64 7, .int .i64 k]] w fun e w' => e = .returned (.bool (decide (k ≤ 1))) ∧ Below w.heap.size w w' := by
  have HAL := Lib.hid ((Below.refl w.heap.size w).alloc (Nat.le_refl _) (.cells #[.int .i64 7, .int .i64 k] 34))
  have HBL := Lib.hid (heap_alloc_new w (.cells #[.int .i64 7, .int .i64 k] 34))
  have HS := Lib.hid (show (w.alloc (.cells #[.int .i64 7, .int .i64 k] 34)).heap.size = w.heap.size + 1 by simp)
  go_enter Tryz.func57, Tryz.ntmps57
  go_wp2_with fail
  refine (kind_7 _ (w.heap.size + 1) HS.out.symm).mono ?_
  rintro e W ⟨rfl, hK⟩
  have hb := HAL.out.trans (hK.below.mono (by rw [HS.out]; omega))
  have hm := (hK.below.block w.heap.size (by rw [HS.out]; omega)).trans HBL.out
  have hmk : W.cell? ⟨w.heap.size, 1, none⟩ = some (.int .i64 k) := by
    unfold World.cell?
    rw [hm]
    rfl
  have HB := fun o => Lib.hid (hb.alloc hb.size o)
  have HV := fun a x c => Lib.hid (cells3 (heap_alloc_new W (.cells #[a, x, c] 97)))
  have HM := fun o => Lib.hid (keep_alloc (o := o) hmk)
  have hcc := hK.k7
  rw [HS.out] at hcc
  have HCC := fun o => Lib.hid (keep_alloc (o := o) hcc)
  clear hmk hK hm hb HAL HBL HS
  go_wp2
  generalize hV : W.alloc _ = V
  have HBV := Lib.hid (show Below w.heap.size w V by rw [← hV]; exact (HB _).out)
  have hmk : V.cell? ⟨w.heap.size, 1, none⟩ = some (.int .i64 k) := by rw [← hV]; exact (HM _).out
  have hmv : V.cell? ⟨W.heap.size, 1, none⟩ = some (.func (.func 87) #[] #[.pointer (some ⟨w.heap.size + 1 + 1 + 1 + 1 + 1 + 1 + 1, 0, none⟩)]) := by rw [← hV]; exact (HV _ _ _).out.2.1
  have hcl : V.cell? ⟨w.heap.size + 1 + 1 + 1 + 1 + 1 + 1 + 1, 0, none⟩ = some (.int .i64 1) := by rw [← hV]; exact (HCC _).out
  clear hV HB HV HM
  go_quiet ((go_at_call 87; exact Calls.quiet_of (most_always _ _ _ _ hcl)))
  go_wp2
  go_ret
  exact ⟨rfl, below_drewN HBV.out _⟩
set_option maxHeartbeats 1000000 in
theorem ok_8 (n k : Int) (w : World) (h1 : 1 ≤ n) (h2 : n ≤ 12) (h3 : 0 ≤ k) : Calls Tryz.prog 57 #[.int .i64 n, .agg #[.int .i64 8, .int .i64 k]] w fun e w' => e = .returned (.bool (decide (k ≤ n - 1))) ∧ Below w.heap.size w w' := by
  have HAL := Lib.hid ((Below.refl w.heap.size w).alloc (Nat.le_refl _) (.cells #[.int .i64 8, .int .i64 k] 34))
  have HBL := Lib.hid (heap_alloc_new w (.cells #[.int .i64 8, .int .i64 k] 34))
  have HS := Lib.hid (show (w.alloc (.cells #[.int .i64 8, .int .i64 k] 34)).heap.size = w.heap.size + 1 by simp)
  go_enter Tryz.func57, Tryz.ntmps57
  go_wp2_with fail
  refine (kind_8 _ (w.heap.size + 1) HS.out.symm).mono ?_
  rintro e W ⟨rfl, hK⟩
  have hb := HAL.out.trans (hK.below.mono (by rw [HS.out]; omega))
  have hm := (hK.below.block w.heap.size (by rw [HS.out]; omega)).trans HBL.out
  have hmk : W.cell? ⟨w.heap.size, 1, none⟩ = some (.int .i64 k) := by
    unfold World.cell?
    rw [hm]
    rfl
  have HB := fun o => Lib.hid (hb.alloc hb.size o)
  have HV := fun a x c => Lib.hid (cells3 (heap_alloc_new W (.cells #[a, x, c] 97)))
  have HM := fun o => Lib.hid (keep_alloc (o := o) hmk)
  clear hmk hK hm hb HAL HBL HS
  go_wp2
  generalize hV : W.alloc _ = V
  have HBV := Lib.hid (show Below w.heap.size w V by rw [← hV]; exact (HB _).out)
  have hmk : V.cell? ⟨w.heap.size, 1, none⟩ = some (.int .i64 k) := by rw [← hV]; exact (HM _).out
  have hmv : V.cell? ⟨W.heap.size, 1, none⟩ = some (.func (.func 85) #[] #[]) := by rw [← hV]; exact (HV _ _ _).out.2.1
  clear hV HB HV HM
  go_quiet ((go_at_call 85; exact Calls.quiet_of (most_last _ _ h1 h2)))
  go_wp2
  go_ret
  exact ⟨rfl, below_drewN HBV.out _⟩
set_option maxHeartbeats 1000000 in
theorem ok_9 (n k : Int) (w : World) (h1 : 1 ≤ n) (h2 : n ≤ 12) (h3 : 0 ≤ k) : Calls Tryz.prog 57 #[.int .i64 n, .agg #[.int .i64 9, .int .i64 k]] w fun e w' => e = .returned (.bool (decide (k ≤ n - 1))) ∧ Below w.heap.size w w' := by
  have HAL := Lib.hid ((Below.refl w.heap.size w).alloc (Nat.le_refl _) (.cells #[.int .i64 9, .int .i64 k] 34))
  have HBL := Lib.hid (heap_alloc_new w (.cells #[.int .i64 9, .int .i64 k] 34))
  have HS := Lib.hid (show (w.alloc (.cells #[.int .i64 9, .int .i64 k] 34)).heap.size = w.heap.size + 1 by simp)
  go_enter Tryz.func57, Tryz.ntmps57
  go_wp2_with fail
  refine (kind_9 _ (w.heap.size + 1) HS.out.symm).mono ?_
  rintro e W ⟨rfl, hK⟩
  have hb := HAL.out.trans (hK.below.mono (by rw [HS.out]; omega))
  have hm := (hK.below.block w.heap.size (by rw [HS.out]; omega)).trans HBL.out
  have hmk : W.cell? ⟨w.heap.size, 1, none⟩ = some (.int .i64 k) := by
    unfold World.cell?
    rw [hm]
    rfl
  have HB := fun o => Lib.hid (hb.alloc hb.size o)
  have HV := fun a x c => Lib.hid (cells3 (heap_alloc_new W (.cells #[a, x, c] 97)))
  have HM := fun o => Lib.hid (keep_alloc (o := o) hmk)
  clear hmk hK hm hb HAL HBL HS
  go_wp2
  generalize hV : W.alloc _ = V
  have HBV := Lib.hid (show Below w.heap.size w V by rw [← hV]; exact (HB _).out)
  have hmk : V.cell? ⟨w.heap.size, 1, none⟩ = some (.int .i64 k) := by rw [← hV]; exact (HM _).out
  have hmv : V.cell? ⟨W.heap.size, 1, none⟩ = some (.func (.func 85) #[] #[]) := by rw [← hV]; exact (HV _ _ _).out.2.1
  clear hV HB HV HM
  go_quiet ((go_at_call 85; exact Calls.quiet_of (most_last _ _ h1 h2)))
  go_wp2
  go_ret
  exact ⟨rfl, below_drewN HBV.out _⟩
end Go.Proofs.YtibephoepkofnaaGreat.Mok

namespace Go.Proofs.YtibephoepkofnaaGreat.Mok2
open Go.RowKit Fr Own Pk Ins Pfn Rws Lb Cat Mvp Mv1 Mv2 Mv3 Mv4 Mk Mo Mok

theorem flags (n k : Int) (h : ¬ (1 ≤ n ∧ n ≤ 12 ∧ 0 ≤ k)) : decide (1 ≤ n) = false ∨ (1 ≤ n ∧ decide (n ≤ 12) = false) ∨ (1 ≤ n ∧ n ≤ 12 ∧ decide (0 ≤ k) = false) := by
  by_cases h1 : 1 ≤ n
  · by_cases h2 : n ≤ 12
    · exact Or.inr (Or.inr ⟨h1, h2, decide_eq_false (fun h3 => h ⟨h1, h2, h3⟩)⟩)
    · exact Or.inr (Or.inl ⟨h1, decide_eq_false h2⟩)
  · exact Or.inl (decide_eq_false h1)
set_option maxHeartbeats 1000000 in
theorem ok_out (n kd k : Int) (w : World) (hkd : 1 ≤ kd ∧ kd ≤ 9) (h : ¬ (1 ≤ n ∧ n ≤ 12 ∧ 0 ≤ k)) : Calls Tryz.prog 57 #[.int .i64 n, .agg #[.int .i64 kd, .int .i64 k]] w fun e w' => e = .returned (.bool false) ∧ Below w.heap.size w w' := by
  have HAL := Lib.hid ((Below.refl w.heap.size w).alloc (Nat.le_refl _) (.cells #[.int .i64 kd, .int .i64 k] 34))
  have HBL := Lib.hid (heap_alloc_new w (.cells #[.int .i64 kd, .int .i64 k] 34))
  have HS := Lib.hid (show (w.alloc (.cells #[.int .i64 kd, .int .i64 k] 34)).heap.size = w.heap.size + 1 by simp)
  have HC := fun w => Lib.hid (kind_some kd w hkd)
  have hf := flags n k h
  clear h hkd
  rcases hf with h1 | ⟨h1, h2⟩ | ⟨h1, h2, h3⟩
  all_goals
    go_enter Tryz.func57, Tryz.ntmps57
    go_wp2_with fail
    refine (HC _).out.mono ?_
    rintro e W ⟨s, f1, p1, f2, p2, rfl, hK⟩
    have hb := HAL.out.trans (hK.mono (by rw [HS.out]; omega))
    have hm := (hK.block w.heap.size (by rw [HS.out]; omega)).trans HBL.out
    have hmk : W.cell? ⟨w.heap.size, 1, none⟩ = some (.int .i64 k) := by
      unfold World.cell?
      rw [hm]
      rfl
    have HB := fun o => Lib.hid (hb.alloc hb.size o)
    have HM := fun o => Lib.hid (keep_alloc (o := o) hmk)
    clear hmk hK hm hb HAL HBL HS HC
    go_wp2
    generalize hV : W.alloc _ = V
    have HBV := Lib.hid (show Below w.heap.size w V by rw [← hV]; exact (HB _).out)
    have hmk : V.cell? ⟨w.heap.size, 1, none⟩ = some (.int .i64 k) := by rw [← hV]; exact (HM _).out
    clear hV HB HM
    go_quiet (fail)
    go_wp2
    go_ret
    exact ⟨rfl, below_drewN HBV.out _⟩
set_option maxHeartbeats 1000000 in
theorem ok_none (n kd k : Int) (w : World) (hkd : ¬ (1 ≤ kd ∧ kd ≤ 9)) : Calls Tryz.prog 57 #[.int .i64 n, .agg #[.int .i64 kd, .int .i64 k]] w fun e w' => e = .returned (.bool false) ∧ Below w.heap.size w w' := by
  have HAL := Lib.hid ((Below.refl w.heap.size w).alloc (Nat.le_refl _) (.cells #[.int .i64 kd, .int .i64 k] 34))
  have HS := Lib.hid (show (w.alloc (.cells #[.int .i64 kd, .int .i64 k] 34)).heap.size = w.heap.size + 1 by simp)
  have HC := fun w => Lib.hid (kind_no kd w hkd)
  clear hkd
  go_enter Tryz.func57, Tryz.ntmps57
  go_wp2_with fail
  refine (HC _).out.mono ?_
  rintro e W ⟨rfl, hK⟩
  have hb := HAL.out.trans (hK.mono (by rw [HS.out]; omega))
  have HB := fun o => Lib.hid (hb.alloc hb.size o)
  clear hK hb HAL HS HC
  go_wp2
  generalize hV : W.alloc _ = V
  have HBV := Lib.hid (show Below w.heap.size w V by rw [← hV]; exact (HB _).out)
  clear hV HB
  go_quiet (fail)
  go_wp2
  go_ret
  exact ⟨rfl, below_drewN HBV.out _⟩
theorem mvB_some {n kd k : Int} (h1 : 1 ≤ n) (h2 : n ≤ 12) (h3 : 0 ≤ k) (h4 : 0 ≤ kd) : mvB n kd k = kOk kd.toNat k.toNat n.toNat := by
  unfold mvB
  rw [decide_eq_true (show 1 ≤ n ∧ n ≤ 12 from ⟨h1, h2⟩), decide_eq_true (show 0 ≤ k ∧ 0 ≤ kd from ⟨h3, h4⟩)]
  rfl
theorem mvB_out {n kd k : Int} (h : ¬ (1 ≤ n ∧ n ≤ 12 ∧ 0 ≤ k)) : mvB n kd k = false := by
  unfold mvB
  by_cases h1 : 1 ≤ n ∧ n ≤ 12
  · rw [decide_eq_false (p := 0 ≤ k ∧ 0 ≤ kd) (fun h2 => h ⟨h1.1, h1.2, h2.1⟩), Bool.and_false]; rfl
  · rw [decide_eq_false h1]; rfl
theorem mvB_none {n kd k : Int} (h : ¬ (1 ≤ kd ∧ kd ≤ 9)) : mvB n kd k = false := by
  unfold mvB
  by_cases h1 : 0 ≤ k ∧ 0 ≤ kd
  · have e : kOk kd.toNat k.toNat n.toNat = false := by
      unfold kOk
      rw [if_neg (by omega), if_neg (by omega), if_neg (by omega), if_neg (by omega)]
    rw [e, Bool.and_false]
  · rw [decide_eq_false h1, Bool.and_false]; rfl
theorem mvB_at {n kd k m : Int} (h1 : 1 ≤ n) (h2 : n ≤ 12) (h3 : 0 ≤ k) (hkd : 1 ≤ kd ∧ kd ≤ 9) (hm : m = if kd ≤ 3 then n else if kd = 6 then 0 else if kd ≤ 7 then 1 else n - 1) : mvB n kd k = decide (k ≤ m) := by
  rw [mvB_some h1 h2 h3 (by omega)]
  unfold kOk
  by_cases c1 : kd ≤ 3
  · rw [if_pos c1] at hm
    rw [if_pos (by omega)]
    exact decide_eq_decide.2 (by omega)
  rw [if_neg c1] at hm
  rw [if_neg (by omega)]
  by_cases c2 : kd = 6
  · rw [if_pos c2] at hm
    rw [if_neg (by omega), if_pos (by omega)]
    exact decide_eq_decide.2 (by omega)
  rw [if_neg c2] at hm
  by_cases c3 : kd ≤ 7
  · rw [if_pos c3] at hm
    rw [if_pos (by omega)]
    exact decide_eq_decide.2 (by omega)
  rw [if_neg c3] at hm
  rw [if_neg (by omega), if_neg (by omega), if_pos (by omega)]
  exact decide_eq_decide.2 (by omega)
theorem impl_moveok (n kd k : Int) (w : World) : Calls Tryz.prog 57 #[.int .i64 n, .agg #[.int .i64 kd, .int .i64 k]] w fun e w' => e = .returned (.bool (mvB n kd k)) ∧ Below w.heap.size w w' := by
  by_cases hkd : 1 ≤ kd ∧ kd ≤ 9
  · by_cases h : 1 ≤ n ∧ n ≤ 12 ∧ 0 ≤ k
    · obtain ⟨h1, h2, h3⟩ := h
      rw [mvB_at h1 h2 h3 hkd rfl]
      rcases (show kd = 1 ∨ kd = 2 ∨ kd = 3 ∨ kd = 4 ∨ kd = 5 ∨ kd = 6 ∨ kd = 7 ∨ kd = 8 ∨ kd = 9 by omega) with rfl | rfl | rfl | rfl | rfl | rfl | rfl | rfl | rfl
      · exact ok_1 n k w h1 h2 h3
      · exact ok_2 n k w h1 h2 h3
      · exact ok_3 n k w h1 h2 h3
      · exact ok_4 n k w h1 h2 h3
      · exact ok_5 n k w h1 h2 h3
      · exact ok_6 n k w h1 h2 h3
      · exact ok_7 n k w h1 h2 h3
      · exact ok_8 n k w h1 h2 h3
      · exact ok_9 n k w h1 h2 h3
    · rw [mvB_out h]
      exact ok_out n kd k w hkd h
  · rw [mvB_none hkd]
    exact ok_none n kd k w hkd
theorem mvB_in {n kd k m : Int} (h1 : 1 ≤ n) (h2 : n ≤ 12) (hkd : 1 ≤ kd ∧ kd ≤ 9) (hm : m = if kd ≤ 3 then n else if kd = 6 then 0 else if kd ≤ 7 then 1 else n - 1) : mvB n kd k = decide (0 ≤ k ∧ k ≤ m) := by
  by_cases h3 : 0 ≤ k
  · rw [mvB_at h1 h2 h3 hkd hm]
    exact decide_eq_decide.2 ⟨fun h => ⟨h3, h⟩, fun h => h.2⟩
  · rw [mvB_out (fun h => h3 h.2.2), decide_eq_false (fun h => h3 h.1)]
theorem zero_beq (k : Int) : (k == 0) = decide (0 ≤ k ∧ k ≤ 0) := by
  by_cases h : k = 0
  · subst h; rfl
  · rw [decide_eq_false (by omega), beq_eq_false_iff_ne.2 h]
set_option maxHeartbeats 1000000 in
theorem spec_moveok (n kd k : Int) (w : World) : Calls Tryz.prog 51 #[.int .i64 n, .agg #[.int .i64 kd, .int .i64 k]] w fun e w' => e = .returned (.bool (mvB n kd k)) ∧ Below w.heap.size w w' := by
  by_cases hn : 1 ≤ n ∧ n ≤ 12
  · obtain ⟨h1, h2⟩ := hn
    by_cases hkd : 1 ≤ kd ∧ kd ≤ 9
    rcases (show kd = 1 ∨ kd = 2 ∨ kd = 3 ∨ kd = 4 ∨ kd = 5 ∨ kd = 6 ∨ kd = 7 ∨ kd = 8 ∨ kd = 9 by omega) with rfl | rfl | rfl | rfl | rfl | rfl | rfl | rfl | rfl
    · have HAL := Lib.hid ((Below.refl w.heap.size w).alloc (Nat.le_refl _) (.cells #[.int .i64 1, .int .i64 k] 34))
      have HE := Lib.hid (show mvB n 1 k = decide (0 ≤ k ∧ k ≤ n) from mvB_in h1 h2 (by omega) rfl)
      clear hkd
      go_enter Tryz.func51, Tryz.ntmps51
      go_wp2_with fail
      refine (in_yes _ _ _ _ h1 h2).mono ?_
      rintro e w' ⟨rfl, rfl⟩
      go_wp2_with fail
      refine (in_any _ _ _ _).mono ?_
      rintro e w' ⟨rfl, rfl⟩
      go_wp2
      go_ret
      exact ⟨ret_b (by rw [HE.out]; simp), HAL.out⟩
    · have HAL := Lib.hid ((Below.refl w.heap.size w).alloc (Nat.le_refl _) (.cells #[.int .i64 2, .int .i64 k] 34))
      have HE := Lib.hid (show mvB n 2 k = decide (0 ≤ k ∧ k ≤ n) from mvB_in h1 h2 (by omega) rfl)
      clear hkd
      go_enter Tryz.func51, Tryz.ntmps51
      go_wp2_with fail
      refine (in_yes _ _ _ _ h1 h2).mono ?_
      rintro e w' ⟨rfl, rfl⟩
      go_wp2_with fail
      refine (in_any _ _ _ _).mono ?_
      rintro e w' ⟨rfl, rfl⟩
      go_wp2
      go_ret
      exact ⟨ret_b (by rw [HE.out]; simp), HAL.out⟩
    · have HAL := Lib.hid ((Below.refl w.heap.size w).alloc (Nat.le_refl _) (.cells #[.int .i64 3, .int .i64 k] 34))
      have HE := Lib.hid (show mvB n 3 k = decide (0 ≤ k ∧ k ≤ n) from mvB_in h1 h2 (by omega) rfl)
      clear hkd
      go_enter Tryz.func51, Tryz.ntmps51
      go_wp2_with fail
      refine (in_yes _ _ _ _ h1 h2).mono ?_
      rintro e w' ⟨rfl, rfl⟩
      go_wp2_with fail
      refine (in_any _ _ _ _).mono ?_
      rintro e w' ⟨rfl, rfl⟩
      go_wp2
      go_ret
      exact ⟨ret_b (by rw [HE.out]; simp), HAL.out⟩
    · have HAL := Lib.hid ((Below.refl w.heap.size w).alloc (Nat.le_refl _) (.cells #[.int .i64 4, .int .i64 k] 34))
      have HE := Lib.hid (show mvB n 4 k = decide (0 ≤ k ∧ k ≤ 1) from mvB_in h1 h2 (by omega) rfl)
      clear hkd
      go_enter Tryz.func51, Tryz.ntmps51
      go_wp2_with fail
      refine (in_yes _ _ _ _ h1 h2).mono ?_
      rintro e w' ⟨rfl, rfl⟩
      go_wp2_with fail
      refine (in_any _ _ _ _).mono ?_
      rintro e w' ⟨rfl, rfl⟩
      go_wp2
      go_ret
      exact ⟨ret_b (by rw [HE.out]; simp), HAL.out⟩
    · have HAL := Lib.hid ((Below.refl w.heap.size w).alloc (Nat.le_refl _) (.cells #[.int .i64 5, .int .i64 k] 34))
      have HE := Lib.hid (show mvB n 5 k = decide (0 ≤ k ∧ k ≤ 1) from mvB_in h1 h2 (by omega) rfl)
      clear hkd
      go_enter Tryz.func51, Tryz.ntmps51
      go_wp2_with fail
      refine (in_yes _ _ _ _ h1 h2).mono ?_
      rintro e w' ⟨rfl, rfl⟩
      go_wp2_with fail
      refine (in_any _ _ _ _).mono ?_
      rintro e w' ⟨rfl, rfl⟩
      go_wp2
      go_ret
      exact ⟨ret_b (by rw [HE.out]; simp), HAL.out⟩
    · have HAL := Lib.hid ((Below.refl w.heap.size w).alloc (Nat.le_refl _) (.cells #[.int .i64 6, .int .i64 k] 34))
      have HE := Lib.hid (show mvB n 6 k = decide (0 ≤ k ∧ k ≤ 0) from mvB_in h1 h2 (by omega) rfl)
      clear hkd
      go_enter Tryz.func51, Tryz.ntmps51
      go_wp2_with fail
      refine (in_yes _ _ _ _ h1 h2).mono ?_
      rintro e w' ⟨rfl, rfl⟩
      go_wp2
      go_ret
      exact ⟨ret_b (show (k == 0) = mvB n 6 k by rw [HE.out]; exact zero_beq k), HAL.out⟩
    · have HAL := Lib.hid ((Below.refl w.heap.size w).alloc (Nat.le_refl _) (.cells #[.int .i64 7, .int .i64 k] 34))
      have HE := Lib.hid (show mvB n 7 k = decide (0 ≤ k ∧ k ≤ 1) from mvB_in h1 h2 (by omega) rfl)
      clear hkd
      go_enter Tryz.func51, Tryz.ntmps51
      go_wp2_with fail
      refine (in_yes _ _ _ _ h1 h2).mono ?_
      rintro e w' ⟨rfl, rfl⟩
      go_wp2_with fail
      refine (in_any _ _ _ _).mono ?_
      rintro e w' ⟨rfl, rfl⟩
      go_wp2
      go_ret
      exact ⟨ret_b (by rw [HE.out]; simp), HAL.out⟩
    · have HAL := Lib.hid ((Below.refl w.heap.size w).alloc (Nat.le_refl _) (.cells #[.int .i64 8, .int .i64 k] 34))
      have HE := Lib.hid (show mvB n 8 k = decide (0 ≤ k ∧ k ≤ n - 1) from mvB_in h1 h2 (by omega) rfl)
      clear hkd
      go_enter Tryz.func51, Tryz.ntmps51
      go_wp2_with fail
      refine (in_yes _ _ _ _ h1 h2).mono ?_
      rintro e w' ⟨rfl, rfl⟩
      go_wp2_with fail
      refine (in_any _ _ _ _).mono ?_
      rintro e w' ⟨rfl, rfl⟩
      go_wp2
      go_ret
      exact ⟨ret_b (by rw [HE.out]; simp), HAL.out⟩
    · have HAL := Lib.hid ((Below.refl w.heap.size w).alloc (Nat.le_refl _) (.cells #[.int .i64 9, .int .i64 k] 34))
      have HE := Lib.hid (show mvB n 9 k = decide (0 ≤ k ∧ k ≤ n - 1) from mvB_in h1 h2 (by omega) rfl)
      clear hkd
      go_enter Tryz.func51, Tryz.ntmps51
      go_wp2_with fail
      refine (in_yes _ _ _ _ h1 h2).mono ?_
      rintro e w' ⟨rfl, rfl⟩
      go_wp2_with fail
      refine (in_any _ _ _ _).mono ?_
      rintro e w' ⟨rfl, rfl⟩
      go_wp2
      go_ret
      exact ⟨ret_b (by rw [HE.out]; simp), HAL.out⟩
    · have HAL := Lib.hid ((Below.refl w.heap.size w).alloc (Nat.le_refl _) (.cells #[.int .i64 kd, .int .i64 k] 34))
      have HE := Lib.hid (mvB_none (n := n) (k := k) hkd)
      have e1 : (kd == 1) = false := beq_eq_false_iff_ne.2 (by omega)
      have e2 : (kd == 2) = false := beq_eq_false_iff_ne.2 (by omega)
      have e3 : (kd == 3) = false := beq_eq_false_iff_ne.2 (by omega)
      have e4 : (kd == 4) = false := beq_eq_false_iff_ne.2 (by omega)
      have e5 : (kd == 5) = false := beq_eq_false_iff_ne.2 (by omega)
      have e6 : (kd == 6) = false := beq_eq_false_iff_ne.2 (by omega)
      have e7 : (kd == 7) = false := beq_eq_false_iff_ne.2 (by omega)
      have e8 : (kd == 8) = false := beq_eq_false_iff_ne.2 (by omega)
      have e9 : (kd == 9) = false := beq_eq_false_iff_ne.2 (by omega)
      clear hkd
      go_enter Tryz.func51, Tryz.ntmps51
      go_wp2_with fail
      refine (in_yes _ _ _ _ h1 h2).mono ?_
      rintro e w' ⟨rfl, rfl⟩
      go_wp2
      go_ret
      exact ⟨ret_b HE.out.symm, HAL.out⟩
  · have HAL := Lib.hid ((Below.refl w.heap.size w).alloc (Nat.le_refl _) (.cells #[.int .i64 kd, .int .i64 k] 34))
    have HE := Lib.hid (mvB_out (n := n) (kd := kd) (k := k) (fun h => hn ⟨h.1, h.2.1⟩))
    have HN := Lib.hid hn
    clear hn
    go_enter Tryz.func51, Tryz.ntmps51
    go_wp2_with fail
    refine (in_no _ _ _ _ HN.out).mono ?_
    rintro e w' ⟨rfl, rfl⟩
    go_wp2
    go_ret
    exact ⟨ret_b HE.out.symm, HAL.out⟩
end Go.Proofs.YtibephoepkofnaaGreat.Mok2
