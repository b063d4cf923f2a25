/- The program's tests of stacks: isWindow, areColors, windowFrom; plain facts on windows. -/
import Derived.Test.YtkonakfbidnfhaaSkw
import Derived.Test.YtkonakfbidnfhaaCut
import Derived.Test.YtkonakfbidnfhaaSks
set_option linter.unusedVariables false
set_option maxRecDepth 20000
namespace Go.Proofs.Ytkonakfbidnfhaa.Skv
open Go.RowKit Go.Maps Fr _root_.Go.Proofs.Ytkonakfbidnfhaa.Own Pk Ins Pfn Rws Lb Map Cat Cut Stk Skp Sks Skw

theorem ret_b {b c : Bool} (h : b = c) : Ending.returned (.bool b) = .returned (.bool c) := by rw [h]
def isCol (x : Int) : Bool := x == 0 || x == 1
theorem col_stk (zs : List Int) : zs.all (fun x => decide (x = 0 ∨ x = 1)) = zs.all isCol := by
  congr 1
  funext x
  unfold isCol
  rw [Bool.eq_iff_iff]
  simp
theorem all_hit {zs : List Int} {k : Nat} (hk : k < zs.length) (h : isCol (zs.getD k 0) = false) : zs.all isCol = false := by
  refine Bool.eq_false_iff.2 fun hall => ?_
  have := List.all_eq_true.1 hall (zs.getD k 0) (by rw [List.getD_eq_getElem?_getD, List.getElem?_eq_getElem hk]; exact List.getElem_mem _)
  rw [h] at this; cases this
theorem all_done {zs : List Int} (h : ∀ i, i < zs.length → isCol (zs.getD i 0) = true) : zs.all isCol = true := by
  refine List.all_eq_true.2 fun x hx => ?_
  obtain ⟨i, hi, rfl⟩ := List.getElem_of_mem hx
  have := h i hi
  rwa [List.getD_eq_getElem?_getD, List.getElem?_eq_getElem hi] at this
theorem is_win (m : Int) (w : World) : Calls Try.prog 45 #[.int .i64 m] w fun e w' => e = .returned (.bool (decide (1 ≤ m ∧ m ≤ 6))) ∧ w = w' := by
  by_cases h1 : 1 ≤ m
  · by_cases h2 : m ≤ 6
    · rw [decide_eq_true (⟨h1, h2⟩ : 1 ≤ m ∧ m ≤ 6)]
      have k1 := decide_eq_true h1
      have k2 := decide_eq_true h2
      go_enter Try.func45, Try.ntmps45
      go_wp2
      go_ret
      exact ⟨rfl, rfl⟩
    · rw [decide_eq_false (show ¬ (1 ≤ m ∧ m ≤ 6) from fun h => h2 h.2)]
      have k1 := decide_eq_true h1
      have k2 := decide_eq_false h2
      go_enter Try.func45, Try.ntmps45
      go_wp2
      go_ret
      exact ⟨rfl, rfl⟩
  · rw [decide_eq_false (show ¬ (1 ≤ m ∧ m ≤ 6) from fun h => h1 h.1)]
    have k1 := decide_eq_false h1
    go_enter Try.func45, Try.ntmps45
    go_wp2
    go_ret
    exact ⟨rfl, rfl⟩
theorem is_col (x : Int) (w : World) (h1 : -9223372036854775808 ≤ x) (h2 : x ≤ 9223372036854775807) :
    Calls Try.prog 65 #[.int .i64 x] w fun e w' => e = .returned (.bool (!isCol x)) ∧ w = w' := by
  by_cases h0 : x = 0
  · subst h0
    go_enter Try.func65, Try.ntmps65
    go_wp2
    go_ret
    exact ⟨rfl, rfl⟩
  · have E := Lib.hid (show (x != 0 && x != 1) = !isCol x by simp [isCol, Bool.not_or, bne])
    go_enter Try.func65, Try.ntmps65
    go_wp2
    go_ret
    exact ⟨ret_b E.out, rfl⟩
set_option maxHeartbeats 1000000 in
theorem ixf_any (A : Option Addr) (n c : Nat) (zs : List Int) (w : World) (hn : zs.length = n) (hn2 : n ≤ 1048576) (hz : Fits zs) (hss : IntsAt w w.heap.size .i64 A zs) :
    Calls Try.prog 68 #[.slice A n c, .func (.func 65) #[] #[]] w fun e w' => (∃ x, e = .returned (.int .i64 x) ∧ decide (0 ≤ x) = !(zs.all isCol)) ∧ w = w' := by
  have HN := Lib.hid hn
  clear hn
  go_enter Try.func68, Try.ntmps68
  go_wp2
  go_loop [5, 8] (fun _ i => ∃ k : Nat, k ≤ n ∧ i = .int .i64 k ∧ Hid (∀ i, i < k → isCol (zs.getD i 0) = true)) (fun _ i => n - (intOf i).toNat)
  case atStart => exact ⟨0, Nat.zero_le _, rfl, (fun i hi => absurd hi (Nat.not_lt_zero _))⟩
  case round =>
    obtain ⟨k, hk, rfl, HG⟩ := hrel
    by_cases hlt : k < n
    · obtain ⟨b, o, rfl, hbb, hc⟩ := hss k (by rw [HN.out]; exact hlt)
      obtain ⟨hx1, hx2⟩ := hz k (by rw [HN.out]; exact hlt)
      have hbad : isCol (zs.getD k 0) = false → zs.all isCol = false := fun h => all_hit (by rw [HN.out]; exact hlt) h
      have hok : isCol (zs.getD k 0) = true → ∀ i, i < k + 1 → isCol (zs.getD i 0) = true := fun h i hi => by
        by_cases e : i = k
        · rw [e]; exact h
        · exact HG.out i (by omega)
      generalize zs.getD k 0 = x at hc hx1 hx2 hbad hok
      go_wp2_with fail
      refine (is_col x _ hx1 hx2).mono ?_
      rintro e w' ⟨rfl, rfl⟩
      cases hx : isCol x with
      | false =>
        have HS := Lib.hid (hbad hx)
        clear hbad hok HG hx
        go_wp2
        go_ret
        exact ⟨⟨_, rfl, by rw [HS.out]; exact decide_eq_true (by omega)⟩, rfl⟩
      | true =>
        have HS := Lib.hid (hok hx)
        clear hbad hok HG hx
        go_wp2
        go_round
        case rel => exact ⟨k + 1, by omega, by go_num, HS.out⟩
        case measure => simp [intOf]; omega
    · have hkn : k = n := by omega
      have HS := Lib.hid (all_done (zs := zs) fun i hi => HG.out i (by rw [hkn, ← HN.out]; exact hi))
      clear HG hkn
      go_wp2
      go_ret
      exact ⟨⟨_, rfl, by rw [HS.out]; rfl⟩, rfl⟩
theorem cf_any (A : Option Addr) (n c : Nat) (zs : List Int) (w : World) (hn : zs.length = n) (hn2 : n ≤ 1048576) (hz : Fits zs) (hss : IntsAt w w.heap.size .i64 A zs) :
    Calls Try.prog 64 #[.slice A n c, .func (.func 65) #[] #[]] w fun e w' => e = .returned (.bool (!(zs.all isCol))) ∧ w = w' := by
  have H := Lib.hid (ixf_any A n c zs w hn hn2 hz hss)
  go_enter Try.func64, Try.ntmps64
  clear hn hz hss
  go_wp2_with fail
  refine H.out.mono ?_
  rintro e w' ⟨⟨x, rfl, hx⟩, rfl⟩
  have HX := Lib.hid hx
  clear hx
  go_wp2
  go_ret
  exact ⟨ret_b HX.out, rfl⟩
theorem impl_colors (A : Option Addr) (n c : Nat) (zs : List Int) (w : World) (hn : zs.length = n) (hn2 : n ≤ 1048576) (hz : Fits zs) (hss : IntsAt w w.heap.size .i64 A zs) :
    Calls Try.prog 49 #[.slice A n c] w fun e w' => e = .returned (.bool (zs.all isCol)) ∧ w = w' := by
  have H := Lib.hid (cf_any A n c zs w hn hn2 hz hss)
  go_enter Try.func49, Try.ntmps49
  clear hn hz hss
  go_wp2_with fail
  refine H.out.mono ?_
  rintro e w' ⟨rfl, rfl⟩
  go_wp2
  go_ret
  exact ⟨ret_b (by simp), rfl⟩
theorem own_prefix {w : World} {base : Nat} {e : TypeId} {g n c m : Nat} {xs : List Value} (h : w.ownsRow base e 1 (.slice (some ⟨g, 0, none⟩) n c) n xs) (hm : m ≤ n) : w.ownsRow base e 1 (.slice (some ⟨g, 0, none⟩) m c) m (xs.take m) := by
  have hl : xs.length = n := by have := h.1; simp at this; omega
  refine ⟨by rw [List.length_take]; omega, ?_⟩
  rcases h.2 with ⟨h2, _⟩ | ⟨g', cap, cur, hv, hg', hh, h1, h2, h3, h4⟩
  · simp at h2
  · simp only [Value.slice.injEq, Option.some.injEq, Addr.mk.injEq, and_true, true_and] at hv
    obtain ⟨rfl, rfl⟩ := hv
    refine Or.inr ⟨g, c, cur, rfl, hg', hh, by omega, h2, h3, ?_⟩
    have := congrArg (List.take m) h4
    rw [List.take_take] at this
    rw [Nat.mul_one, ← this, Nat.min_eq_left (by omega)]
theorem win_cut {zs : List Int} {m a : Nat} (ha : a < zs.length) (hm : m ≤ zs.length) : winF zs m a = (cutF zs a).take m := by
  apply List.ext_getElem
  · rw [winF_len, List.length_take]; unfold cutF; rw [List.length_append, List.length_drop, List.length_take]; omega
  · intro i h1 h2
    have e0 : (winF zs m a)[i] = zs.getD ((a + i) % zs.length) 0 := by simp [winF]
    rw [winF_len] at h1
    rw [e0, List.getElem_take]
    unfold cutF
    by_cases h : a + i < zs.length
    · rw [Nat.mod_eq_of_lt h, List.getElem_append_left (by rw [List.length_drop]; omega), List.getElem_drop, List.getD_eq_getElem?_getD, List.getElem?_eq_getElem h]
      rfl
    · have e : (a + i) % zs.length = a + i - zs.length := by
        rw [Nat.mod_eq_sub_mod (by omega), Nat.mod_eq_of_lt (by omega)]
      rw [e, List.getElem_append_right (by rw [List.length_drop]; omega), List.getElem_take, List.getD_eq_getElem?_getD, List.getElem?_eq_getElem (by omega)]
      simp only [Option.getD_some, List.length_drop]
      congr 1
      omega
set_option maxHeartbeats 1000000 in
theorem impl_from (A : Option Addr) (n c mm a : Nat) (zs : List Int) (w : World) (hn : zs.length = n) (h0 : 1 ≤ n) (hn2 : n ≤ 4096) (hnc : n ≤ c) (hm : mm ≤ n) (ha : a < n) (hss : IntsAt w w.heap.size .i64 A zs) :
    Calls Try.prog 41 #[stV A n c (mm : Int), .int .i64 (a : Int)] w (IsIL w.heap.size (winF zs mm a) w) := by
  have HN := Lib.hid hn
  have hb0 := box_below w (.cells #[.slice A n c, .int .i64 (mm : Int)] 25)
  obtain ⟨ba, bb⟩ := cell2 (heap_alloc_new w (.cells #[.slice A n c, .int .i64 (mm : Int)] 25))
  have hs0 : w.heap.size < (w.alloc (.cells #[.slice A n c, .int .i64 (mm : Int)] 25)).heap.size := by simp
  have HI := Lib.hid ((hss.below hb0).more hb0.size)
  have HW := Lib.hid (win_cut (m := mm) (a := a) (by rw [hn]; exact ha) (by rw [hn]; exact hm))
  have HCL := Lib.hid (show (cutF zs a).length = n by unfold cutF; rw [List.length_append, List.length_drop, List.length_take]; omega)
  have HB0 := Lib.hid hb0
  obtain ⟨R, hR⟩ : ∃ R, R = winF zs mm a := ⟨_, rfl⟩
  have HR := Lib.hid (show R = (cutF zs a).take mm by rw [hR, HW.out])
  have HRL := Lib.hid (show R.length = mm by rw [hR, winF_len])
  rw [← hR]
  clear hR HW hss hb0 hn
  go_enter Try.func41, Try.ntmps41
  go_wp2
  obtain ⟨W, hW⟩ : ∃ W, W = w.alloc (.cells #[.slice A n c, .int .i64 (mm : Int)] 25) := ⟨_, rfl⟩
  rw [← hW] at ba bb hs0 HI HB0
  rw [← hW]
  clear hW
  have HC := Lib.hid (cut_any A n c a zs W.drew HN.out h0 hn2 hnc (by omega) ((HI.out.below (Below.refl _ _).drew)))
  go_region_held3 (fun w' => w'.cell? ⟨w.heap.size, 0, none⟩ = some (.slice A n c) ∧ w'.cell? ⟨w.heap.size, 1, none⟩ = some (.int .i64 (mm : Int))) ((first | exact ⟨ba, bb⟩)) ((first | (go_at_call 42; refine HC.out.mono ?_; rintro e w3 ⟨A3, c3, rfl, ho, hb⟩; rw [HCL.out] at ho; rw [HCL.out]; obtain ⟨g3, rfl⟩ := own_shape ho (by omega); have hnc3 : n ≤ c3 := own_cap ho; have hmc3 : mm ≤ c3 := (by omega); replace ba := (hb.cell (p := ⟨w.heap.size, 0, none⟩) hs0).trans ba; replace bb := (hb.cell (p := ⟨w.heap.size, 1, none⟩) hs0).trans bb; have HO := Lib.hid (own_mono (own_prefix ho hm) HB0.out.size); have HB3 := Lib.hid (HB0.out.drew.trans (hb.mono HB0.out.size)); clear ho hb)))
  all_goals
    go_wp2
    go_ret
    refine ⟨some ⟨g3, 0, none⟩, c3, by rw [HRL.out]; rfl, ?_, HB3.out⟩
    rw [HRL.out, HR.out]
    have := HO.out
    rw [← List.map_take] at this
    exact this
end Go.Proofs.Ytkonakfbidnfhaa.Skv
