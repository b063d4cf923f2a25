/- IsMaximal in the program. -/
import Derived.Test.YtkonakfbidnfhaaSkn
import Derived.BigQuiet
import Derived.Deep.QuietTactic
set_option linter.unusedVariables false
set_option maxRecDepth 20000
namespace Go.Proofs.Ytkonakfbidnfhaa.Sko
open Go.RowKit Go.Maps Fr _root_.Go.Proofs.Ytkonakfbidnfhaa.Own Pk Ins Pfn Rws Lb Map Cat Cut Stk Skp Sks Skw Skv Ski Skj Skk Stp Skg Skq Skm Skn

/-- the seed of which only the last color is 1 -/
def eN (n : Nat) : List Int := List.replicate (n - 1) 0 ++ [1]
def maxB (taps : List Int) (n : Int) : Bool := decide (1 ≤ n ∧ n ≤ 6) && decide ((shS taps (eN n.toNat)).length = 2 ^ n.toNat - 1)
theorem eN_len {n : Nat} (h : 1 ≤ n) : (eN n).length = n := by
  unfold eN
  rw [List.length_append, List.length_replicate]
  show n - 1 + 1 = n
  omega
theorem eN_fits (n : Nat) : Fits (eN n) := fits_bits (fun x hx => by
  unfold eN at hx
  rcases List.mem_append.1 hx with hx | hx
  · rw [List.eq_of_mem_replicate hx]; exact ⟨by decide, by decide⟩
  · rw [List.mem_singleton.1 hx]; exact ⟨by decide, by decide⟩)
theorem eN_set {n : Nat} (h : 1 ≤ n) : (vals (List.replicate n 0)).set (n - 1) (.int .i64 1) = vals (eN n) := by
  obtain ⟨k, rfl⟩ : ∃ k, n = k + 1 := ⟨n - 1, by omega⟩
  unfold eN vals
  rw [Nat.add_sub_cancel]
  apply List.ext_getElem
  · simp
  · intro i h1 h2
    simp only [List.length_set, List.length_map, List.length_replicate] at h1
    by_cases e : i = k
    · subst e
      simp
    · rw [List.getElem_set_ne (by omega)]
      simp only [List.getElem_map, List.getElem_replicate]
      rw [List.getElem_append_left (by simp; omega)]
      simp
/-- the program's and the model's way to make it -/
theorem make_seed (n : Nat) (h1 : 1 ≤ n) (h6 : n ≤ 6) (w : World) : ∃ Z : Array Value, (∀ w', (Instr.makeSlice 23 (.int .i64 (n : Int)) (.int .i64 (n : Int))).run Try.prog w' = .ok (.slice (some ⟨w'.heap.size, 0, none⟩) n n) (w'.alloc (.cells Z 3))) ∧
    (w.alloc (.cells Z 3)).cell? ⟨w.heap.size, n - 1, none⟩ = some (.int .i64 0) ∧ (w.alloc (.cells Z 3)).frozen? ⟨w.heap.size, n - 1, none⟩ = false ∧
    ((w.alloc (.cells Z 3)).setCell ⟨w.heap.size, n - 1, none⟩ (.int .i64 1)).ownsRow w.heap.size 3 1 (.slice (some ⟨w.heap.size, 0, none⟩) n n) n (vals (eN n)) ∧ Below w.heap.size w ((w.alloc (.cells Z 3)).setCell ⟨w.heap.size, n - 1, none⟩ (.int .i64 1)) ∧
    ((w.alloc (.cells Z 3)).setCell ⟨w.heap.size, n - 1, none⟩ (.int .i64 1)).heap.size = w.heap.size + 1 := by
  obtain ⟨i0, hi, hz0, hz1, hz2⟩ := info_parts infoInt
  have hb := (Below.refl w.heap.size w).alloc (Nat.le_refl _) (.cells (madeCells #[.int .i64 0] n) 3)
  have ho : (w.alloc (.cells (madeCells #[.int .i64 0] n) 3)).ownsRow w.heap.size 3 1 (.slice (some ⟨w.heap.size, 0, none⟩) n n) n (vals (List.replicate n 0)) := by
    have h := World.ownsRow_lit (base := w.heap.size) (e := 3) (size := 1) w (madeCells #[.int .i64 0] n) n (Nat.le_refl _) (by unfold maxLen; omega) (by rw [size_madeCells]; omega)
    rw [toList_madeCells_one] at h
    unfold vals
    rw [List.map_replicate]
    exact h
  have hst := ho.stored (n - 1) (.int .i64 1)
  rw [eN_set h1] at hst
  refine ⟨madeCells #[.int .i64 0] n, fun w' => ?_, ?_, ho.frozenAt _, hst.1, hb.grown hst.2 hb.size (fun k hk => by simp only [Option.some.injEq] at hk; omega), by simp [World.setCell]⟩
  · have h := run_makeSlice (P := Try.prog) w' 23 3 i0 (.int .i64 0) Try.underlying23 hi hz0 .i64 .i64 (n : Int) (n : Int) (by omega) (Int.le_refl _) (by rw [hz1]; omega) (by rw [hz2]; omega) (by omega)
    rw [hz1] at h
    simp only [Int.toNat_natCast, Nat.mul_one] at h
    exact h
  · rw [ho.cellAt (n - 1) (by omega), vals_get (by rw [List.length_replicate]; omega)]
    simp [List.getD_eq_getElem?_getD, show n - 1 < n by omega]
set_option maxHeartbeats 8000000 in
theorem impl_max (A0 : Option Addr) (n0 c0 : Nat) (taps : List Int) (n : Int) (w : World) (hn0 : taps.length = n0) (hc0 : n0 ≤ c0) (hn0b : n0 ≤ 1048576) (hz0 : Fits taps) (ha0 : IntsAt w w.heap.size .i64 A0 taps) (h1 : -9223372036854775808 ≤ n) (h2 : n ≤ 9223372036854775807) :
    Calls Try.prog 20 #[.slice A0 n0 c0, .int .i64 n] w fun e w' => e = .returned (.bool (maxB taps n)) ∧ Below w.heap.size w w' := by
  have HN0 := Lib.hid hn0
  have HA0 := Lib.hid ha0
  clear ha0 hn0
  by_cases hm : 1 ≤ n ∧ n ≤ 6
  · have hmx : maxB taps n = decide ((shS taps (eN n.toNat)).length = 2 ^ n.toNat - 1) := by unfold maxB; rw [decide_eq_true hm, Bool.true_and]
    rw [hmx]
    clear hmx
    have hc : n = 1 ∨ n = 2 ∨ n = 3 ∨ n = 4 ∨ n = 5 ∨ n = 6 := by omega
    rcases hc with rfl | rfl | rfl | rfl | rfl | rfl
    · obtain ⟨Z, hms0, hcc0, hcf0, ho1, hb1, hs1⟩ := make_seed 1 (by decide) (by decide) w
      have hms : ∀ w', (Instr.makeSlice 23 (.int .i64 1) (.int .i64 1)).run Try.prog w' = .ok (.slice (some ⟨w'.heap.size, 0, none⟩) 1 1) (w'.alloc (.cells Z 3)) := hms0
      have hcc : (w.alloc (.cells Z 3)).cell? ⟨w.heap.size, 0, none⟩ = some (.int .i64 0) := hcc0
      have hcf : (w.alloc (.cells Z 3)).frozen? ⟨w.heap.size, 0, none⟩ = false := hcf0
      obtain ⟨W, hW⟩ : ∃ W, W = (w.alloc (.cells Z 3)).setCell ⟨w.heap.size, 0, none⟩ (.int .i64 1) := ⟨_, rfl⟩
      have HO1 := Lib.hid (show W.ownsRow w.heap.size 3 1 (.slice (some ⟨w.heap.size, 0, none⟩) 1 1) 1 (vals (eN 1)) by rw [hW]; exact ho1)
      have HB1 := Lib.hid (show Below w.heap.size w W by rw [hW]; exact hb1)
      have hsz := HB1.out.size
      rw [World.setCell_alloc_at _ _ _ _ _ rfl] at hW
      obtain ⟨R, hR⟩ : ∃ R, R = shS taps (eN 1) := ⟨_, rfl⟩
      have HSH := Lib.hid (impl_shift A0 n0 c0 taps (some ⟨w.heap.size, 0, none⟩) 1 1 (eN 1) W HN0.out hc0 hn0b hz0 ((HA0.out.below HB1.out).more HB1.out.size) (eN_len (by decide)) (Nat.le_refl _) (by decide) (eN_fits _) (ints_of HO1.out))
      rw [← hR] at HSH
      have e0 : ((1 : Int)).toNat = 1 := rfl
      rw [e0, ← hR]
      have hRl : R.length ≤ 1048576 := by rw [hR]; exact sh_short _ _
      obtain ⟨L, hL⟩ : ∃ L, L = R.length := ⟨_, rfl⟩
      have HL := Lib.hid hL.symm
      rw [← hL] at hRl ⊢
      clear hms0 hcc0 hcf0 ho1 hb1 hs1 hR e0 hm hL
      go_enter Try.func20, Try.ntmps20
      go_wp2_with fail
      refine (is_win_yes _ (by decide) _).mono ?_
      rintro e w1 ⟨rfl, rfl⟩
      go_wp2_with fail
      rw [← hW]
      clear hW hcc hcf hms
      refine HSH.out.mono ?_
      rintro e w3 ⟨A3, c3, rfl, ho, hb⟩
      rw [HL.out]
      obtain ⟨bx, hbx⟩ : ∃ b, b = shM taps (eN 1) := ⟨_, rfl⟩
      rw [← hbx]
      obtain ⟨W4, hW4, q1, q2, hb4, hs4⟩ := box1 w3 (.slice A3 L c3) (.int .i64 bx)
      have HB4 := Lib.hid (HB1.out.trans ((hb.trans (hb4.mono hb.size)).mono HB1.out.size))
      have HEQ := Lib.hid (show ((L : Int) == 1) = decide (L = 2 ^ 1 - 1) by rw [Bool.eq_iff_iff]; simp; omega)
      clear ho hb hbx HSH hb4 hs4
      go_wp2
      rw [← hW4]
      clear hW4
      go_quiet (fail)
      go_wp2
      go_ret
      exact ⟨congrArg (fun z => Ending.returned (.bool z)) HEQ.out, below_drewN HB4.out _⟩
    · obtain ⟨Z, hms0, hcc0, hcf0, ho1, hb1, hs1⟩ := make_seed 2 (by decide) (by decide) w
      have hms : ∀ w', (Instr.makeSlice 23 (.int .i64 2) (.int .i64 2)).run Try.prog w' = .ok (.slice (some ⟨w'.heap.size, 0, none⟩) 2 2) (w'.alloc (.cells Z 3)) := hms0
      have hcc : (w.alloc (.cells Z 3)).cell? ⟨w.heap.size, 1, none⟩ = some (.int .i64 0) := hcc0
      have hcf : (w.alloc (.cells Z 3)).frozen? ⟨w.heap.size, 1, none⟩ = false := hcf0
      obtain ⟨W, hW⟩ : ∃ W, W = (w.alloc (.cells Z 3)).setCell ⟨w.heap.size, 1, none⟩ (.int .i64 1) := ⟨_, rfl⟩
      have HO1 := Lib.hid (show W.ownsRow w.heap.size 3 1 (.slice (some ⟨w.heap.size, 0, none⟩) 2 2) 2 (vals (eN 2)) by rw [hW]; exact ho1)
      have HB1 := Lib.hid (show Below w.heap.size w W by rw [hW]; exact hb1)
      have hsz := HB1.out.size
      rw [World.setCell_alloc_at _ _ _ _ _ rfl] at hW
      obtain ⟨R, hR⟩ : ∃ R, R = shS taps (eN 2) := ⟨_, rfl⟩
      have HSH := Lib.hid (impl_shift A0 n0 c0 taps (some ⟨w.heap.size, 0, none⟩) 2 2 (eN 2) W HN0.out hc0 hn0b hz0 ((HA0.out.below HB1.out).more HB1.out.size) (eN_len (by decide)) (Nat.le_refl _) (by decide) (eN_fits _) (ints_of HO1.out))
      rw [← hR] at HSH
      have e0 : ((2 : Int)).toNat = 2 := rfl
      rw [e0, ← hR]
      have hRl : R.length ≤ 1048576 := by rw [hR]; exact sh_short _ _
      obtain ⟨L, hL⟩ : ∃ L, L = R.length := ⟨_, rfl⟩
      have HL := Lib.hid hL.symm
      rw [← hL] at hRl ⊢
      clear hms0 hcc0 hcf0 ho1 hb1 hs1 hR e0 hm hL
      go_enter Try.func20, Try.ntmps20
      go_wp2_with fail
      refine (is_win_yes _ (by decide) _).mono ?_
      rintro e w1 ⟨rfl, rfl⟩
      go_wp2_with fail
      rw [← hW]
      clear hW hcc hcf hms
      refine HSH.out.mono ?_
      rintro e w3 ⟨A3, c3, rfl, ho, hb⟩
      rw [HL.out]
      obtain ⟨bx, hbx⟩ : ∃ b, b = shM taps (eN 2) := ⟨_, rfl⟩
      rw [← hbx]
      obtain ⟨W4, hW4, q1, q2, hb4, hs4⟩ := box1 w3 (.slice A3 L c3) (.int .i64 bx)
      have HB4 := Lib.hid (HB1.out.trans ((hb.trans (hb4.mono hb.size)).mono HB1.out.size))
      have HEQ := Lib.hid (show ((L : Int) == 3) = decide (L = 2 ^ 2 - 1) by rw [Bool.eq_iff_iff]; simp; omega)
      clear ho hb hbx HSH hb4 hs4
      go_wp2
      rw [← hW4]
      clear hW4
      go_quiet (fail)
      go_wp2
      go_ret
      exact ⟨congrArg (fun z => Ending.returned (.bool z)) HEQ.out, below_drewN HB4.out _⟩
    · obtain ⟨Z, hms0, hcc0, hcf0, ho1, hb1, hs1⟩ := make_seed 3 (by decide) (by decide) w
      have hms : ∀ w', (Instr.makeSlice 23 (.int .i64 3) (.int .i64 3)).run Try.prog w' = .ok (.slice (some ⟨w'.heap.size, 0, none⟩) 3 3) (w'.alloc (.cells Z 3)) := hms0
      have hcc : (w.alloc (.cells Z 3)).cell? ⟨w.heap.size, 2, none⟩ = some (.int .i64 0) := hcc0
      have hcf : (w.alloc (.cells Z 3)).frozen? ⟨w.heap.size, 2, none⟩ = false := hcf0
      obtain ⟨W, hW⟩ : ∃ W, W = (w.alloc (.cells Z 3)).setCell ⟨w.heap.size, 2, none⟩ (.int .i64 1) := ⟨_, rfl⟩
      have HO1 := Lib.hid (show W.ownsRow w.heap.size 3 1 (.slice (some ⟨w.heap.size, 0, none⟩) 3 3) 3 (vals (eN 3)) by rw [hW]; exact ho1)
      have HB1 := Lib.hid (show Below w.heap.size w W by rw [hW]; exact hb1)
      have hsz := HB1.out.size
      rw [World.setCell_alloc_at _ _ _ _ _ rfl] at hW
      obtain ⟨R, hR⟩ : ∃ R, R = shS taps (eN 3) := ⟨_, rfl⟩
      have HSH := Lib.hid (impl_shift A0 n0 c0 taps (some ⟨w.heap.size, 0, none⟩) 3 3 (eN 3) W HN0.out hc0 hn0b hz0 ((HA0.out.below HB1.out).more HB1.out.size) (eN_len (by decide)) (Nat.le_refl _) (by decide) (eN_fits _) (ints_of HO1.out))
      rw [← hR] at HSH
      have e0 : ((3 : Int)).toNat = 3 := rfl
      rw [e0, ← hR]
      have hRl : R.length ≤ 1048576 := by rw [hR]; exact sh_short _ _
      obtain ⟨L, hL⟩ : ∃ L, L = R.length := ⟨_, rfl⟩
      have HL := Lib.hid hL.symm
      rw [← hL] at hRl ⊢
      clear hms0 hcc0 hcf0 ho1 hb1 hs1 hR e0 hm hL
      go_enter Try.func20, Try.ntmps20
      go_wp2_with fail
      refine (is_win_yes _ (by decide) _).mono ?_
      rintro e w1 ⟨rfl, rfl⟩
      go_wp2_with fail
      rw [← hW]
      clear hW hcc hcf hms
      refine HSH.out.mono ?_
      rintro e w3 ⟨A3, c3, rfl, ho, hb⟩
      rw [HL.out]
      obtain ⟨bx, hbx⟩ : ∃ b, b = shM taps (eN 3) := ⟨_, rfl⟩
      rw [← hbx]
      obtain ⟨W4, hW4, q1, q2, hb4, hs4⟩ := box1 w3 (.slice A3 L c3) (.int .i64 bx)
      have HB4 := Lib.hid (HB1.out.trans ((hb.trans (hb4.mono hb.size)).mono HB1.out.size))
      have HEQ := Lib.hid (show ((L : Int) == 7) = decide (L = 2 ^ 3 - 1) by rw [Bool.eq_iff_iff]; simp; omega)
      clear ho hb hbx HSH hb4 hs4
      go_wp2
      rw [← hW4]
      clear hW4
      go_quiet (fail)
      go_wp2
      go_ret
      exact ⟨congrArg (fun z => Ending.returned (.bool z)) HEQ.out, below_drewN HB4.out _⟩
    · obtain ⟨Z, hms0, hcc0, hcf0, ho1, hb1, hs1⟩ := make_seed 4 (by decide) (by decide) w
      have hms : ∀ w', (Instr.makeSlice 23 (.int .i64 4) (.int .i64 4)).run Try.prog w' = .ok (.slice (some ⟨w'.heap.size, 0, none⟩) 4 4) (w'.alloc (.cells Z 3)) := hms0
      have hcc : (w.alloc (.cells Z 3)).cell? ⟨w.heap.size, 3, none⟩ = some (.int .i64 0) := hcc0
      have hcf : (w.alloc (.cells Z 3)).frozen? ⟨w.heap.size, 3, none⟩ = false := hcf0
      obtain ⟨W, hW⟩ : ∃ W, W = (w.alloc (.cells Z 3)).setCell ⟨w.heap.size, 3, none⟩ (.int .i64 1) := ⟨_, rfl⟩
      have HO1 := Lib.hid (show W.ownsRow w.heap.size 3 1 (.slice (some ⟨w.heap.size, 0, none⟩) 4 4) 4 (vals (eN 4)) by rw [hW]; exact ho1)
      have HB1 := Lib.hid (show Below w.heap.size w W by rw [hW]; exact hb1)
      have hsz := HB1.out.size
      rw [World.setCell_alloc_at _ _ _ _ _ rfl] at hW
      obtain ⟨R, hR⟩ : ∃ R, R = shS taps (eN 4) := ⟨_, rfl⟩
      have HSH := Lib.hid (impl_shift A0 n0 c0 taps (some ⟨w.heap.size, 0, none⟩) 4 4 (eN 4) W HN0.out hc0 hn0b hz0 ((HA0.out.below HB1.out).more HB1.out.size) (eN_len (by decide)) (Nat.le_refl _) (by decide) (eN_fits _) (ints_of HO1.out))
      rw [← hR] at HSH
      have e0 : ((4 : Int)).toNat = 4 := rfl
      rw [e0, ← hR]
      have hRl : R.length ≤ 1048576 := by rw [hR]; exact sh_short _ _
      obtain ⟨L, hL⟩ : ∃ L, L = R.length := ⟨_, rfl⟩
      have HL := Lib.hid hL.symm
      rw [← hL] at hRl ⊢
      clear hms0 hcc0 hcf0 ho1 hb1 hs1 hR e0 hm hL
      go_enter Try.func20, Try.ntmps20
      go_wp2_with fail
      refine (is_win_yes _ (by decide) _).mono ?_
      rintro e w1 ⟨rfl, rfl⟩
      go_wp2_with fail
      rw [← hW]
      clear hW hcc hcf hms
      refine HSH.out.mono ?_
      rintro e w3 ⟨A3, c3, rfl, ho, hb⟩
      rw [HL.out]
      obtain ⟨bx, hbx⟩ : ∃ b, b = shM taps (eN 4) := ⟨_, rfl⟩
      rw [← hbx]
      obtain ⟨W4, hW4, q1, q2, hb4, hs4⟩ := box1 w3 (.slice A3 L c3) (.int .i64 bx)
      have HB4 := Lib.hid (HB1.out.trans ((hb.trans (hb4.mono hb.size)).mono HB1.out.size))
      have HEQ := Lib.hid (show ((L : Int) == 15) = decide (L = 2 ^ 4 - 1) by rw [Bool.eq_iff_iff]; simp; omega)
      clear ho hb hbx HSH hb4 hs4
      go_wp2
      rw [← hW4]
      clear hW4
      go_quiet (fail)
      go_wp2
      go_ret
      exact ⟨congrArg (fun z => Ending.returned (.bool z)) HEQ.out, below_drewN HB4.out _⟩
    · obtain ⟨Z, hms0, hcc0, hcf0, ho1, hb1, hs1⟩ := make_seed 5 (by decide) (by decide) w
      have hms : ∀ w', (Instr.makeSlice 23 (.int .i64 5) (.int .i64 5)).run Try.prog w' = .ok (.slice (some ⟨w'.heap.size, 0, none⟩) 5 5) (w'.alloc (.cells Z 3)) := hms0
      have hcc : (w.alloc (.cells Z 3)).cell? ⟨w.heap.size, 4, none⟩ = some (.int .i64 0) := hcc0
      have hcf : (w.alloc (.cells Z 3)).frozen? ⟨w.heap.size, 4, none⟩ = false := hcf0
      obtain ⟨W, hW⟩ : ∃ W, W = (w.alloc (.cells Z 3)).setCell ⟨w.heap.size, 4, none⟩ (.int .i64 1) := ⟨_, rfl⟩
      have HO1 := Lib.hid (show W.ownsRow w.heap.size 3 1 (.slice (some ⟨w.heap.size, 0, none⟩) 5 5) 5 (vals (eN 5)) by rw [hW]; exact ho1)
      have HB1 := Lib.hid (show Below w.heap.size w W by rw [hW]; exact hb1)
      have hsz := HB1.out.size
      rw [World.setCell_alloc_at _ _ _ _ _ rfl] at hW
      obtain ⟨R, hR⟩ : ∃ R, R = shS taps (eN 5) := ⟨_, rfl⟩
      have HSH := Lib.hid (impl_shift A0 n0 c0 taps (some ⟨w.heap.size, 0, none⟩) 5 5 (eN 5) W HN0.out hc0 hn0b hz0 ((HA0.out.below HB1.out).more HB1.out.size) (eN_len (by decide)) (Nat.le_refl _) (by decide) (eN_fits _) (ints_of HO1.out))
      rw [← hR] at HSH
      have e0 : ((5 : Int)).toNat = 5 := rfl
      rw [e0, ← hR]
      have hRl : R.length ≤ 1048576 := by rw [hR]; exact sh_short _ _
      obtain ⟨L, hL⟩ : ∃ L, L = R.length := ⟨_, rfl⟩
      have HL := Lib.hid hL.symm
      rw [← hL] at hRl ⊢
      clear hms0 hcc0 hcf0 ho1 hb1 hs1 hR e0 hm hL
      go_enter Try.func20, Try.ntmps20
      go_wp2_with fail
      refine (is_win_yes _ (by decide) _).mono ?_
      rintro e w1 ⟨rfl, rfl⟩
      go_wp2_with fail
      rw [← hW]
      clear hW hcc hcf hms
      refine HSH.out.mono ?_
      rintro e w3 ⟨A3, c3, rfl, ho, hb⟩
      rw [HL.out]
      obtain ⟨bx, hbx⟩ : ∃ b, b = shM taps (eN 5) := ⟨_, rfl⟩
      rw [← hbx]
      obtain ⟨W4, hW4, q1, q2, hb4, hs4⟩ := box1 w3 (.slice A3 L c3) (.int .i64 bx)
      have HB4 := Lib.hid (HB1.out.trans ((hb.trans (hb4.mono hb.size)).mono HB1.out.size))
      have HEQ := Lib.hid (show ((L : Int) == 31) = decide (L = 2 ^ 5 - 1) by rw [Bool.eq_iff_iff]; simp; omega)
      clear ho hb hbx HSH hb4 hs4
      go_wp2
      rw [← hW4]
      clear hW4
      go_quiet (fail)
      go_wp2
      go_ret
      exact ⟨congrArg (fun z => Ending.returned (.bool z)) HEQ.out, below_drewN HB4.out _⟩
    · obtain ⟨Z, hms0, hcc0, hcf0, ho1, hb1, hs1⟩ := make_seed 6 (by decide) (by decide) w
      have hms : ∀ w', (Instr.makeSlice 23 (.int .i64 6) (.int .i64 6)).run Try.prog w' = .ok (.slice (some ⟨w'.heap.size, 0, none⟩) 6 6) (w'.alloc (.cells Z 3)) := hms0
      have hcc : (w.alloc (.cells Z 3)).cell? ⟨w.heap.size, 5, none⟩ = some (.int .i64 0) := hcc0
      have hcf : (w.alloc (.cells Z 3)).frozen? ⟨w.heap.size, 5, none⟩ = false := hcf0
      obtain ⟨W, hW⟩ : ∃ W, W = (w.alloc (.cells Z 3)).setCell ⟨w.heap.size, 5, none⟩ (.int .i64 1) := ⟨_, rfl⟩
      have HO1 := Lib.hid (show W.ownsRow w.heap.size 3 1 (.slice (some ⟨w.heap.size, 0, none⟩) 6 6) 6 (vals (eN 6)) by rw [hW]; exact ho1)
      have HB1 := Lib.hid (show Below w.heap.size w W by rw [hW]; exact hb1)
      have hsz := HB1.out.size
      rw [World.setCell_alloc_at _ _ _ _ _ rfl] at hW
      obtain ⟨R, hR⟩ : ∃ R, R = shS taps (eN 6) := ⟨_, rfl⟩
      have HSH := Lib.hid (impl_shift A0 n0 c0 taps (some ⟨w.heap.size, 0, none⟩) 6 6 (eN 6) W HN0.out hc0 hn0b hz0 ((HA0.out.below HB1.out).more HB1.out.size) (eN_len (by decide)) (Nat.le_refl _) (by decide) (eN_fits _) (ints_of HO1.out))
      rw [← hR] at HSH
      have e0 : ((6 : Int)).toNat = 6 := rfl
      rw [e0, ← hR]
      have hRl : R.length ≤ 1048576 := by rw [hR]; exact sh_short _ _
      obtain ⟨L, hL⟩ : ∃ L, L = R.length := ⟨_, rfl⟩
      have HL := Lib.hid hL.symm
      rw [← hL] at hRl ⊢
      clear hms0 hcc0 hcf0 ho1 hb1 hs1 hR e0 hm hL
      go_enter Try.func20, Try.ntmps20
      go_wp2_with fail
      refine (is_win_yes _ (by decide) _).mono ?_
      rintro e w1 ⟨rfl, rfl⟩
      go_wp2_with fail
      rw [← hW]
      clear hW hcc hcf hms
      refine HSH.out.mono ?_
      rintro e w3 ⟨A3, c3, rfl, ho, hb⟩
      rw [HL.out]
      obtain ⟨bx, hbx⟩ : ∃ b, b = shM taps (eN 6) := ⟨_, rfl⟩
      rw [← hbx]
      obtain ⟨W4, hW4, q1, q2, hb4, hs4⟩ := box1 w3 (.slice A3 L c3) (.int .i64 bx)
      have HB4 := Lib.hid (HB1.out.trans ((hb.trans (hb4.mono hb.size)).mono HB1.out.size))
      have HEQ := Lib.hid (show ((L : Int) == 63) = decide (L = 2 ^ 6 - 1) by rw [Bool.eq_iff_iff]; simp; omega)
      clear ho hb hbx HSH hb4 hs4
      go_wp2
      rw [← hW4]
      clear hW4
      go_quiet (fail)
      go_wp2
      go_ret
      exact ⟨congrArg (fun z => Ending.returned (.bool z)) HEQ.out, below_drewN HB4.out _⟩
  · have hmx : maxB taps n = false := by unfold maxB; rw [decide_eq_false hm]; rfl
    have HMM := Lib.hid (decide_eq_false hm)
    rw [hmx]
    clear hmx hm
    go_enter Try.func20, Try.ntmps20
    go_wp2_with fail
    refine (is_win _ _).mono ?_
    rintro e w1 ⟨rfl, rfl⟩
    rw [HMM.out]
    go_wp2
    go_ret
    exact ⟨rfl, Below.refl _ _⟩
end Go.Proofs.Ytkonakfbidnfhaa.Sko
