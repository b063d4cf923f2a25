/- MoveOk, MoveName and MoveNamed of the program and of the model. -/
import Derived.Test.YtioofakdklghpaaMo
import Derived.BigQuiet
import Derived.Deep.QuietTactic
set_option linter.unusedVariables false
set_option maxRecDepth 20000
namespace Go.Proofs.Ytioofakdklghpaa.Mok
open Go.RowKit Fr Own Pk Ins Pfn Rws Lb Cat Mvp Mv1 Mv2 Mv3 Mv4 Mk Mo

theorem most_cards (n : Int) (w : World) : Calls Try.prog 95 #[.int .i64 n] w fun e w' => e = .returned (.int .i64 n) ∧ ∃ d, w' = w.drewN d := by
  go_enter Try.func95, Try.ntmps95
  go_wp2
  go_ret
  exact ⟨rfl, 0, rfl⟩
theorem most_last (n : Int) (w : World) (h1 : 1 ≤ n) (h2 : n ≤ 12) : Calls Try.prog 96 #[.int .i64 n] w fun e w' => e = .returned (.int .i64 (n - 1)) ∧ ∃ d, w' = w.drewN d := by
  go_enter Try.func96, Try.ntmps96
  go_wp2
  go_ret
  exact ⟨rfl, 0, rfl⟩
theorem most_always (n : Int) (c : Int) (b : Nat) (w : World) (hc : w.cell? ⟨b, 0, none⟩ = some (.int .i64 c)) : Calls Try.prog 98 #[.int .i64 n, .pointer (some ⟨b, 0, none⟩)] w fun e w' => e = .returned (.int .i64 c) ∧ ∃ d, w' = w.drewN d := by
  go_enter Try.func98, Try.ntmps98
  go_wp2
  go_ret
  exact ⟨rfl, 0, rfl⟩
set_option maxHeartbeats 1000000 in
theorem ok_1 (n k : Int) (w : World) (h1 : 1 ≤ n) (h2 : n ≤ 12) (h3 : 0 ≤ k) : Calls Try.prog 87 #[.int .i64 n, .agg #[.int .i64 1, .int .i64 k]] w fun e w' => e = .returned (.bool (decide (k ≤ n))) ∧ Below w.heap.size w w' := by
  have HAL := Lib.hid ((Below.refl w.heap.size w).alloc (Nat.le_refl _) (.cells #[.int .i64 1, .int .i64 k] 94))
  have HBL := Lib.hid (heap_alloc_new w (.cells #[.int .i64 1, .int .i64 k] 94))
  have HS := Lib.hid (show (w.alloc (.cells #[.int .i64 1, .int .i64 k] 94)).heap.size = w.heap.size + 1 by simp)
  go_enter Try.func87, Try.ntmps87
  go_wp2_with fail
  refine (kind_1 _ (w.heap.size + 1) HS.out.symm).mono ?_
  rintro e W ⟨rfl, hK⟩
  have hb := HAL.out.trans (hK.below.mono (by rw [HS.out]; omega))
  have hm := (hK.below.block w.heap.size (by rw [HS.out]; omega)).trans HBL.out
  have hmk : W.cell? ⟨w.heap.size, 1, none⟩ = some (.int .i64 k) := by
    unfold World.cell?
    rw [hm]
    rfl
  have HB := fun o => Lib.hid (hb.alloc hb.size o)
  have HV := fun a x c => Lib.hid (cells3 (heap_alloc_new W (.cells #[a, x, c] 106)))
  have HM := fun o => Lib.hid (keep_alloc (o := o) hmk)
  clear hmk hK hm hb HAL HBL HS
  go_wp2
  generalize hV : W.alloc _ = V
  have HBV := Lib.hid (show Below w.heap.size w V by rw [← hV]; exact (HB _).out)
  have hmk : V.cell? ⟨w.heap.size, 1, none⟩ = some (.int .i64 k) := by rw [← hV]; exact (HM _).out
  have hmv : V.cell? ⟨W.heap.size, 1, none⟩ = some (.func (.func 95) #[] #[]) := by rw [← hV]; exact (HV _ _ _).out.2.1
  clear hV HB HV HM
  go_quiet ((go_at_call 95; exact Calls.quiet_of (most_cards _ _)))
  go_wp2
  go_ret
  exact ⟨rfl, below_drewN HBV.out _⟩
set_option maxHeartbeats 1000000 in
theorem ok_2 (n k : Int) (w : World) (h1 : 1 ≤ n) (h2 : n ≤ 12) (h3 : 0 ≤ k) : Calls Try.prog 87 #[.int .i64 n, .agg #[.int .i64 2, .int .i64 k]] w fun e w' => e = .returned (.bool (decide (k ≤ n))) ∧ Below w.heap.size w w' := by
  have HAL := Lib.hid ((Below.refl w.heap.size w).alloc (Nat.le_refl _) (.cells #[.int .i64 2, .int .i64 k] 94))
  have HBL := Lib.hid (heap_alloc_new w (.cells #[.int .i64 2, .int .i64 k] 94))
  have HS := Lib.hid (show (w.alloc (.cells #[.int .i64 2, .int .i64 k] 94)).heap.size = w.heap.size + 1 by simp)
  go_enter Try.func87, Try.ntmps87
  go_wp2_with fail
  refine (kind_2 _ (w.heap.size + 1) HS.out.symm).mono ?_
  rintro e W ⟨rfl, hK⟩
  have hb := HAL.out.trans (hK.below.mono (by rw [HS.out]; omega))
  have hm := (hK.below.block w.heap.size (by rw [HS.out]; omega)).trans HBL.out
  have hmk : W.cell? ⟨w.heap.size, 1, none⟩ = some (.int .i64 k) := by
    unfold World.cell?
    rw [hm]
    rfl
  have HB := fun o => Lib.hid (hb.alloc hb.size o)
  have HV := fun a x c => Lib.hid (cells3 (heap_alloc_new W (.cells #[a, x, c] 106)))
  have HM := fun o => Lib.hid (keep_alloc (o := o) hmk)
  clear hmk hK hm hb HAL HBL HS
  go_wp2
  generalize hV : W.alloc _ = V
  have HBV := Lib.hid (show Below w.heap.size w V by rw [← hV]; exact (HB _).out)
  have hmk : V.cell? ⟨w.heap.size, 1, none⟩ = some (.int .i64 k) := by rw [← hV]; exact (HM _).out
  have hmv : V.cell? ⟨W.heap.size, 1, none⟩ = some (.func (.func 95) #[] #[]) := by rw [← hV]; exact (HV _ _ _).out.2.1
  clear hV HB HV HM
  go_quiet ((go_at_call 95; exact Calls.quiet_of (most_cards _ _)))
  go_wp2
  go_ret
  exact ⟨rfl, below_drewN HBV.out _⟩
set_option maxHeartbeats 1000000 in
theorem ok_3 (n k : Int) (w : World) (h1 : 1 ≤ n) (h2 : n ≤ 12) (h3 : 0 ≤ k) : Calls Try.prog 87 #[.int .i64 n, .agg #[.int .i64 3, .int .i64 k]] w fun e w' => e = .returned (.bool (decide (k ≤ n))) ∧ Below w.heap.size w w' := by
  have HAL := Lib.hid ((Below.refl w.heap.size w).alloc (Nat.le_refl _) (.cells #[.int .i64 3, .int .i64 k] 94))
  have HBL := Lib.hid (heap_alloc_new w (.cells #[.int .i64 3, .int .i64 k] 94))
  have HS := Lib.hid (show (w.alloc (.cells #[.int .i64 3, .int .i64 k] 94)).heap.size = w.heap.size + 1 by simp)
  go_enter Try.func87, Try.ntmps87
  go_wp2_with fail
  refine (kind_3 _ (w.heap.size + 1) HS.out.symm).mono ?_
  rintro e W ⟨rfl, hK⟩
  have hb := HAL.out.trans (hK.below.mono (by rw [HS.out]; omega))
  have hm := (hK.below.block w.heap.size (by rw [HS.out]; omega)).trans HBL.out
  have hmk : W.cell? ⟨w.heap.size, 1, none⟩ = some (.int .i64 k) := by
    unfold World.cell?
    rw [hm]
    rfl
  have HB := fun o => Lib.hid (hb.alloc hb.size o)
  have HV := fun a x c => Lib.hid (cells3 (heap_alloc_new W (.cells #[a, x, c] 106)))
  have HM := fun o => Lib.hid (keep_alloc (o := o) hmk)
  clear hmk hK hm hb HAL HBL HS
  go_wp2
  generalize hV : W.alloc _ = V
  have HBV := Lib.hid (show Below w.heap.size w V by rw [← hV]; exact (HB _).out)
  have hmk : V.cell? ⟨w.heap.size, 1, none⟩ = some (.int .i64 k) := by rw [← hV]; exact (HM _).out
  have hmv : V.cell? ⟨W.heap.size, 1, none⟩ = some (.func (.func 95) #[] #[]) := by rw [← hV]; exact (HV _ _ _).out.2.1
  clear hV HB HV HM
  go_quiet ((go_at_call 95; exact Calls.quiet_of (most_cards _ _)))
  go_wp2
  go_ret
  exact ⟨rfl, below_drewN HBV.out _⟩
set_option maxHeartbeats 1000000 in
theorem ok_4 (n k : Int) (w : World) (h1 : 1 ≤ n) (h2 : n ≤ 12) (h3 : 0 ≤ k) : Calls Try.prog 87 #[.int .i64 n, .agg #[.int .i64 4, .int .i64 k]] w fun e w' => e = .returned (.bool (decide (k ≤ 1))) ∧ Below w.heap.size w w' := by
  have HAL := Lib.hid ((Below.refl w.heap.size w).alloc (Nat.le_refl _) (.cells #[.int .i64 4, .int .i64 k] 94))
  have HBL := Lib.hid (heap_alloc_new w (.cells #[.int .i64 4, .int .i64 k] 94))
  have HS := Lib.hid (show (w.alloc (.cells #[.int .i64 4, .int .i64 k] 94)).heap.size = w.heap.size + 1 by simp)
  go_enter Try.func87, Try.ntmps87
  go_wp2_with fail
  refine (kind_4 _ (w.heap.size + 1) HS.out.symm).mono ?_
  rintro e W ⟨rfl, hK⟩
  have hb := HAL.out.trans (hK.below.mono (by rw [HS.out]; omega))
  have hm := (hK.below.block w.heap.size (by rw [HS.out]; omega)).trans HBL.out
  have hmk : W.cell? ⟨w.heap.size, 1, none⟩ = some (.int .i64 k) := by
    unfold World.cell?
    rw [hm]
    rfl
  have HB := fun o => Lib.hid (hb.alloc hb.size o)
  have HV := fun a x c => Lib.hid (cells3 (heap_alloc_new W (.cells #[a, x, c] 106)))
  have HM := fun o => Lib.hid (keep_alloc (o := o) hmk)
  have hcc := hK.k4
  rw [HS.out] at hcc
  have HCC := fun o => Lib.hid (keep_alloc (o := o) hcc)
  clear hmk hK hm hb HAL HBL HS
  go_wp2
  generalize hV : W.alloc _ = V
  have HBV := Lib.hid (show Below w.heap.size w V by rw [← hV]; exact (HB _).out)
  have hmk : V.cell? ⟨w.heap.size, 1, none⟩ = some (.int .i64 k) := by rw [← hV]; exact (HM _).out
  have hmv : V.cell? ⟨W.heap.size, 1, none⟩ = some (.func (.func 98) #[] #[.pointer (some ⟨w.heap.size + 1 + 1 + 1 + 1, 0, none⟩)]) := by rw [← hV]; exact (HV _ _ _).out.2.1
  have hcl : V.cell? ⟨w.heap.size + 1 + 1 + 1 + 1, 0, none⟩ = some (.int .i64 1) := by rw [← hV]; exact (HCC _).out
  clear hV HB HV HM
  go_quiet ((go_at_call 98; exact Calls.quiet_of (most_always _ _ _ _ hcl)))
  go_wp2
  go_ret
  exact ⟨rfl, below_drewN HBV.out _⟩
set_option maxHeartbeats 1000000 in
theorem ok_5 (n k : Int) (w : World) (h1 : 1 ≤ n) (h2 : n ≤ 12) (h3 : 0 ≤ k) : Calls Try.prog 87 #[.int .i64 n, .agg #[.int .i64 5, .int .i64 k]] w fun e w' => e = .returned (.bool (decide (k ≤ 1))) ∧ Below w.heap.size w w' := by
  have HAL := Lib.hid ((Below.refl w.heap.size w).alloc (Nat.le_refl _) (.cells #[.int .i64 5, .int .i64 k] 94))
  have HBL := Lib.hid (heap_alloc_new w (.cells #[.int .i64 5, .int .i64 k] 94))
  have HS := Lib.hid (show (w.alloc (.cells #[.int .i64 5, .int .i64 k] 94)).heap.size = w.heap.size + 1 by simp)
  go_enter Try.func87, Try.ntmps87
  go_wp2_with fail
  refine (kind_5 _ (w.heap.size + 1) HS.out.symm).mono ?_
  rintro e W ⟨rfl, hK⟩
  have hb := HAL.out.trans (hK.below.mono (by rw [HS.out]; omega))
  have hm := (hK.below.block w.heap.size (by rw [HS.out]; omega)).trans HBL.out
  have hmk : W.cell? ⟨w.heap.size, 1, none⟩ = some (.int .i64 k) := by
    unfold World.cell?
    rw [hm]
    rfl
  have HB := fun o => Lib.hid (hb.alloc hb.size o)
  have HV := fun a x c => Lib.hid (cells3 (heap_alloc_new W (.cells #[a, x, c] 106)))
  have HM := fun o => Lib.hid (keep_alloc (o := o) hmk)
  have hcc := hK.k5
  rw [HS.out] at hcc
  have HCC := fun o => Lib.hid (keep_alloc (o := o) hcc)
  clear hmk hK hm hb HAL HBL HS
  go_wp2
  generalize hV : W.alloc _ = V
  have HBV := Lib.hid (show Below w.heap.size w V by rw [← hV]; exact (HB _).out)
  have hmk : V.cell? ⟨w.heap.size, 1, none⟩ = some (.int .i64 k) := by rw [← hV]; exact (HM _).out
  have hmv : V.cell? ⟨W.heap.size, 1, none⟩ = some (.func (.func 98) #[] #[.pointer (some ⟨w.heap.size + 1 + 1 + 1 + 1 + 1, 0, none⟩)]) := by rw [← hV]; exact (HV _ _ _).out.2.1
  have hcl : V.cell? ⟨w.heap.size + 1 + 1 + 1 + 1 + 1, 0, none⟩ = some (.int .i64 1) := by rw [← hV]; exact (HCC _).out
  clear hV HB HV HM
  go_quiet ((go_at_call 98; exact Calls.quiet_of (most_always _ _ _ _ hcl)))
  go_wp2
  go_ret
  exact ⟨rfl, below_drewN HBV.out _⟩
set_option maxHeartbeats 1000000 in
theorem ok_6 (n k : Int) (w : World) (h1 : 1 ≤ n) (h2 : n ≤ 12) (h3 : 0 ≤ k) : Calls Try.prog 87 #[.int .i64 n, .agg #[.int .i64 6, .int .i64 k]] w fun e w' => e = .returned (.bool (decide (k ≤ 0))) ∧ Below w.heap.size w w' := by
  have HAL := Lib.hid ((Below.refl w.heap.size w).alloc (Nat.le_refl _) (.cells #[.int .i64 6, .int .i64 k] 94))
  have HBL := Lib.hid (heap_alloc_new w (.cells #[.int .i64 6, .int .i64 k] 94))
  have HS := Lib.hid (show (w.alloc (.cells #[.int .i64 6, .int .i64 k] 94)).heap.size = w.heap.size + 1 by simp)
  go_enter Try.func87, Try.ntmps87
  go_wp2_with fail
  refine (kind_6 _ (w.heap.size + 1) HS.out.symm).mono ?_
  rintro e W ⟨rfl, hK⟩
  have hb := HAL.out.trans (hK.below.mono (by rw [HS.out]; omega))
  have hm := (hK.below.block w.heap.size (by rw [HS.out]; omega)).trans HBL.out
  have hmk : W.cell? ⟨w.heap.size, 1, none⟩ = some (.int .i64 k) := by
    unfold World.cell?
    rw [hm]
    rfl
  have HB := fun o => Lib.hid (hb.alloc hb.size o)
  have HV := fun a x c => Lib.hid (cells3 (heap_alloc_new W (.cells #[a, x, c] 106)))
  have HM := fun o => Lib.hid (keep_alloc (o := o) hmk)
  have hcc := hK.k6
  rw [HS.out] at hcc
  have HCC := fun o => Lib.hid (keep_alloc (o := o) hcc)
  clear hmk hK hm hb HAL HBL HS
  go_wp2
  generalize hV : W.alloc _ = V
  have HBV := Lib.hid (show Below w.heap.size w V by rw [← hV]; exact (HB _).out)
  have hmk : V.cell? ⟨w.heap.size, 1, none⟩ = some (.int .i64 k) := by rw [← hV]; exact (HM _).out
  have hmv : V.cell? ⟨W.heap.size, 1, none⟩ = some (.func (.func 98) #[] #[.pointer (some ⟨w.heap.size + 1 + 1 + 1 + 1 + 1 + 1, 0, none⟩)]) := by rw [← hV]; exact (HV _ _ _).out.2.1
  have hcl : V.cell? ⟨w.heap.size + 1 + 1 + 1 + 1 + 1 + 1, 0, none⟩ = some (.int .i64 0) := by rw [← hV]; exact (HCC _).out
  clear hV HB HV HM
  go_quiet ((go_at_call 98; exact Calls.quiet_of (most_always _ _ _ _ hcl)))
  go_wp2
  go_ret
  exact ⟨rfl, below_drewN HBV.out _⟩
set_option maxHeartbeats 1000000 in
theorem ok_7 (n k : Int) (w : World) (h1 : 1 ≤ n) (h2 : n ≤ 12) (h3 : 0 ≤ k) : Calls Try.prog 87 #[.int .i64 n, .agg #[.int .i64 7, .int .i64 k]] w fun e w' => e = .returned (.bool (decide (k ≤ 1))) ∧ Below w.heap.size w w' := by
  have HAL := Lib.hid ((Below.refl w.heap.size w).alloc (Nat.le_refl _) (.cells #[.int .i64 7, .int .i64 k] 94))
  have HBL := Lib.hid (heap_alloc_new w (.cells #[.int .i64 7, .int .i64 k] 94))
  have HS := Lib.hid (show (w.alloc (.cells #[.int .i64 7, .int .i64 k] 94)).heap.size = w.heap.size + 1 by simp)
  go_enter Try.func87, Try.ntmps87
  go_wp2_with fail
  refine (kind_7 _ (w.heap.size + 1) HS.out.symm).mono ?_
  rintro e W ⟨rfl, hK⟩
  have hb := HAL.out.trans (hK.below.mono (by rw [HS.out]; omega))
  have hm := (hK.below.block w.heap.size (by rw [HS.out]; omega)).trans HBL.out
  have hmk : W.cell? ⟨w.heap.size, 1, none⟩ = some (.int .i64 k) := by
    unfold World.cell?
    rw [hm]
    rfl
  have HB := fun o => Lib.hid (hb.alloc hb.size o)
  have HV := fun a x c => Lib.hid (cells3 (heap_alloc_new W (.cells #[a, x, c] 106)))
  have HM := fun o => Lib.hid (keep_alloc (o := o) hmk)
  have hcc := hK.k7
  rw [HS.out] at hcc
  have HCC := fun o => Lib.hid (keep_alloc (o := o) hcc)
  clear hmk hK hm hb HAL HBL HS
  go_wp2
  generalize hV : W.alloc _ = V
  have HBV := Lib.hid (show Below w.heap.size w V by rw [← hV]; exact (HB _).out)
  have hmk : V.cell? ⟨w.heap.size, 1, none⟩ = some (.int .i64 k) := by rw [← hV]; exact (HM _).out
  have hmv : V.cell? ⟨W.heap.size, 1, none⟩ = some (.func (.func 98) #[] #[.pointer (some ⟨w.heap.size + 1 + 1 + 1 + 1 + 1 + 1 + 1, 0, none⟩)]) := by rw [← hV]; exact (HV _ _ _).out.2.1
  have hcl : V.cell? ⟨w.heap.size + 1 + 1 + 1 + 1 + 1 + 1 + 1, 0, none⟩ = some (.int .i64 1) := by rw [← hV]; exact (HCC _).out
  clear hV HB HV HM
  go_quiet ((go_at_call 98; exact Calls.quiet_of (most_always _ _ _ _ hcl)))
  go_wp2
  go_ret
  exact ⟨rfl, below_drewN HBV.out _⟩
set_option maxHeartbeats 1000000 in
theorem ok_8 (n k : Int) (w : World) (h1 : 1 ≤ n) (h2 : n ≤ 12) (h3 : 0 ≤ k) : Calls Try.prog 87 #[.int .i64 n, .agg #[.int .i64 8, .int .i64 k]] w fun e w' => e = .returned (.bool (decide (k ≤ n - 1))) ∧ Below w.heap.size w w' := by
  have HAL := Lib.hid ((Below.refl w.heap.size w).alloc (Nat.le_refl _) (.cells #[.int .i64 8, .int .i64 k] 94))
  have HBL := Lib.hid (heap_alloc_new w (.cells #[.int .i64 8, .int .i64 k] 94))
  have HS := Lib.hid (show (w.alloc (.cells #[.int .i64 8, .int .i64 k] 94)).heap.size = w.heap.size + 1 by simp)
  go_enter Try.func87, Try.ntmps87
  go_wp2_with fail
  refine (kind_8 _ (w.heap.size + 1) HS.out.symm).mono ?_
  rintro e W ⟨rfl, hK⟩
  have hb := HAL.out.trans (hK.below.mono (by rw [HS.out]; omega))
  have hm := (hK.below.block w.heap.size (by rw [HS.out]; omega)).trans HBL.out
  have hmk : W.cell? ⟨w.heap.size, 1, none⟩ = some (.int .i64 k) := by
    unfold World.cell?
    rw [hm]
    rfl
  have HB := fun o => Lib.hid (hb.alloc hb.size o)
  have HV := fun a x c => Lib.hid (cells3 (heap_alloc_new W (.cells #[a, x, c] 106)))
  have HM := fun o => Lib.hid (keep_alloc (o := o) hmk)
  clear hmk hK hm hb HAL HBL HS
  go_wp2
  generalize hV : W.alloc _ = V
  have HBV := Lib.hid (show Below w.heap.size w V by rw [← hV]; exact (HB _).out)
  have hmk : V.cell? ⟨w.heap.size, 1, none⟩ = some (.int .i64 k) := by rw [← hV]; exact (HM _).out
  have hmv : V.cell? ⟨W.heap.size, 1, none⟩ = some (.func (.func 96) #[] #[]) := by rw [← hV]; exact (HV _ _ _).out.2.1
  clear hV HB HV HM
  go_quiet ((go_at_call 96; exact Calls.quiet_of (most_last _ _ h1 h2)))
  go_wp2
  go_ret
  exact ⟨rfl, below_drewN HBV.out _⟩
set_option maxHeartbeats 1000000 in
theorem ok_9 (n k : Int) (w : World) (h1 : 1 ≤ n) (h2 : n ≤ 12) (h3 : 0 ≤ k) : Calls Try.prog 87 #[.int .i64 n, .agg #[.int .i64 9, .int .i64 k]] w fun e w' => e = .returned (.bool (decide (k ≤ n - 1))) ∧ Below w.heap.size w w' := by
  have HAL := Lib.hid ((Below.refl w.heap.size w).alloc (Nat.le_refl _) (.cells #[.int .i64 9, .int .i64 k] 94))
  have HBL := Lib.hid (heap_alloc_new w (.cells #[.int .i64 9, .int .i64 k] 94))
  have HS := Lib.hid (show (w.alloc (.cells #[.int .i64 9, .int .i64 k] 94)).heap.size = w.heap.size + 1 by simp)
  go_enter Try.func87, Try.ntmps87
  go_wp2_with fail
  refine (kind_9 _ (w.heap.size + 1) HS.out.symm).mono ?_
  rintro e W ⟨rfl, hK⟩
  have hb := HAL.out.trans (hK.below.mono (by rw [HS.out]; omega))
  have hm := (hK.below.block w.heap.size (by rw [HS.out]; omega)).trans HBL.out
  have hmk : W.cell? ⟨w.heap.size, 1, none⟩ = some (.int .i64 k) := by
    unfold World.cell?
    rw [hm]
    rfl
  have HB := fun o => Lib.hid (hb.alloc hb.size o)
  have HV := fun a x c => Lib.hid (cells3 (heap_alloc_new W (.cells #[a, x, c] 106)))
  have HM := fun o => Lib.hid (keep_alloc (o := o) hmk)
  clear hmk hK hm hb HAL HBL HS
  go_wp2
  generalize hV : W.alloc _ = V
  have HBV := Lib.hid (show Below w.heap.size w V by rw [← hV]; exact (HB _).out)
  have hmk : V.cell? ⟨w.heap.size, 1, none⟩ = some (.int .i64 k) := by rw [← hV]; exact (HM _).out
  have hmv : V.cell? ⟨W.heap.size, 1, none⟩ = some (.func (.func 96) #[] #[]) := by rw [← hV]; exact (HV _ _ _).out.2.1
  clear hV HB HV HM
  go_quiet ((go_at_call 96; exact Calls.quiet_of (most_last _ _ h1 h2)))
  go_wp2
  go_ret
  exact ⟨rfl, below_drewN HBV.out _⟩
end Go.Proofs.Ytioofakdklghpaa.Mok
