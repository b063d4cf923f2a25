/- Which steps and claims and tricks are valid, of the model (StepOk, TrickOk), and what it counts and starts with (CountChoices, StartScene). -/
import Derived.Test.YtibephoepkofnaaTfp
import Derived.Test.YtibephoepkofnaaMok
import Derived.Test.YtibephoepkofnaaTrk
set_option linter.unusedVariables false
set_option maxRecDepth 20000
namespace Go.Proofs.Ytibephoepkofnaa.Tso
open Go.RowKit Fr _root_.Go.Proofs.Ytibephoepkofnaa.Own Pk Pl Ins Pok Arr Mvp Tst Tfp

theorem beq0 (a : Int) : (a == 0) = decide (a = 0) := by
  by_cases h : a = 0
  · subst h; rfl
  · rw [decide_eq_false h, beq_eq_false_iff_ne.2 h]
theorem choice_out {n k : Int} (h : ¬ (0 ≤ k ∧ k ≤ 4)) : choiceB n k = false := by unfold choiceB; rw [decide_eq_false h]; rfl
theorem spec_choice (n k : Int) (w : World) : Calls Try.prog 30 #[.int .i64 n, .int .i64 k] w fun e w' => e = .returned (.bool (choiceB n k)) ∧ w = w' := by
  by_cases hk : 0 ≤ k ∧ k ≤ 4
  · rcases (show k = 0 ∨ k = 1 ∨ k = 2 ∨ k = 3 ∨ k = 4 by omega) with rfl | rfl | rfl | rfl | rfl
    all_goals
      go_enter Try.func30, Try.ntmps30
      go_wp2_with fail
      refine (in_yes _ _ _ _ (by omega) (by omega)).mono ?_
      rintro e w' ⟨rfl, rfl⟩
      go_wp2
      all_goals (go_ret; exact ⟨ret_b (by unfold choiceB; simp <;> omega), rfl⟩)
  · have HS := Lib.hid (choice_out (n := n) hk)
    go_enter Try.func30, Try.ntmps30
    go_wp2_with fail
    refine (in_no _ _ _ _ hk).mono ?_
    rintro e w' ⟨rfl, rfl⟩
    go_wp2
    go_ret
    exact ⟨ret_b HS.out.symm, rfl⟩
set_option maxHeartbeats 1000000 in
theorem spec_step (n : Int) (s : SR) (w : World) : Calls Try.prog 8 #[.int .i64 n, s.v] w fun e w' => e = .returned (.bool (stepB n s)) ∧ Below w.heap.size w w' := by
  obtain ⟨k, d, q, a⟩ := s
  obtain ⟨R, hR⟩ : ∃ R, R = stepB n ⟨k, d, q, a⟩ := ⟨_, rfl⟩
  rw [← hR]
  have A0 := Lib.hid (heap_alloc_new w (.cells #[.int .i64 k, .int .i64 d, .int .i64 q, .int .i64 a] 29))
  have HB0 := Lib.hid (box_below w (.cells #[.int .i64 k, .int .i64 d, .int .i64 q, .int .i64 a] 29))
  have u0 := (cell_at A0.out 0).trans rfl
  have u1 := (cell_at A0.out 1).trans rfl
  have u2 := (cell_at A0.out 2).trans rfl
  have u3 := (cell_at A0.out 3).trans rfl
  by_cases hn : 1 ≤ n ∧ n ≤ 12
  · by_cases h1 : k = 1
    · subst h1
      have HS := Lib.hid (show (mvB n d q && decide (a = 0)) = R by rw [hR]; unfold stepB; rw [decide_eq_true hn]; simp)
      have CM := fun W => Mok2.spec_moveok n d q W
      clear hR
      obtain ⟨m, hm⟩ : ∃ m, m = mvB n d q := ⟨_, rfl⟩
      rw [← hm] at HS CM
      clear hm
      cases m with
      | true =>
        go_enter Try.func8, Try.ntmps8
        go_wp2_with fail
        refine (in_yes _ _ _ _ hn.1 hn.2).mono ?_
        rintro e w' ⟨rfl, rfl⟩
        go_wp2_with fail
        refine (CM _).mono ?_
        rintro e w1 ⟨rfl, hb⟩
        have HB1 := Lib.hid (HB0.out.trans (hb.mono HB0.out.size))
        have c0 := (hb.block w.heap.size (by simp)).trans A0.out
        have y3 := (cell_at c0 3).trans rfl
        clear hb c0 u0 u1 u2 u3
        go_wp2
        go_ret
        exact ⟨ret_b (by rw [← HS.out, beq0]; rfl), HB1.out⟩
      | false =>
        go_enter Try.func8, Try.ntmps8
        go_wp2_with fail
        refine (in_yes _ _ _ _ hn.1 hn.2).mono ?_
        rintro e w' ⟨rfl, rfl⟩
        go_wp2_with fail
        refine (CM _).mono ?_
        rintro e w1 ⟨rfl, hb⟩
        have HB1 := Lib.hid (HB0.out.trans (hb.mono HB0.out.size))
        clear hb u0 u1 u2 u3
        go_wp2
        go_ret
        exact ⟨ret_b (by rw [← HS.out]; simp), HB1.out⟩
    by_cases h2 : k = 2
    · subst h2
      have HS := Lib.hid (show (decide (d = 0 ∧ q = 0) && choiceB n a) = R by rw [hR]; unfold stepB; rw [decide_eq_true hn]; simp)
      clear hR h1
      by_cases hd : d = 0 ∧ q = 0
      · obtain ⟨rfl, rfl⟩ := hd
        go_enter Try.func8, Try.ntmps8
        go_wp2_with fail
        refine (in_yes _ _ _ _ hn.1 hn.2).mono ?_
        rintro e w' ⟨rfl, rfl⟩
        go_wp2_with fail
        refine (spec_choice _ _ _).mono ?_
        rintro e w' ⟨rfl, rfl⟩
        go_wp2
        go_ret
        exact ⟨ret_b (by rw [← HS.out]; simp), HB0.out⟩
      · go_enter Try.func8, Try.ntmps8
        go_wp2_with fail
        refine (in_yes _ _ _ _ hn.1 hn.2).mono ?_
        rintro e w' ⟨rfl, rfl⟩
        go_wp2
        all_goals (go_ret; exact ⟨ret_b (by rw [← HS.out, decide_eq_false hd]; rfl), box_below _ _⟩)
    by_cases h3 : k = 3
    · subst h3
      have HS := Lib.hid (show (decide (d = 0 ∧ q = 0) && decide (0 ≤ a ∧ a < n)) = R by rw [hR]; unfold stepB; rw [decide_eq_true hn]; simp)
      clear hR h1 h2
      by_cases hd : d = 0 ∧ q = 0
      · obtain ⟨rfl, rfl⟩ := hd
        have hw : wrap64 (n - 1) = n - 1 := IntWalk.wrap64_in _ (by omega)
        go_enter Try.func8, Try.ntmps8
        go_wp2_with fail
        refine (in_yes _ _ _ _ hn.1 hn.2).mono ?_
        rintro e w' ⟨rfl, rfl⟩
        go_wp2_with fail
        refine (in_any _ _ _ _).mono ?_
        rintro e w' ⟨rfl, rfl⟩
        go_wp2
        go_ret
        exact ⟨ret_b (by rw [← HS.out, Bool.eq_iff_iff]; simp; omega), HB0.out⟩
      · go_enter Try.func8, Try.ntmps8
        go_wp2_with fail
        refine (in_yes _ _ _ _ hn.1 hn.2).mono ?_
        rintro e w' ⟨rfl, rfl⟩
        go_wp2
        all_goals (go_ret; exact ⟨ret_b (by rw [← HS.out, decide_eq_false hd]; rfl), box_below _ _⟩)
    · have HS := Lib.hid (show false = R by rw [hR]; unfold stepB; rw [decide_eq_true hn]; simp [h1, h2, h3])
      clear hR
      go_enter Try.func8, Try.ntmps8
      go_wp2_with fail
      refine (in_yes _ _ _ _ hn.1 hn.2).mono ?_
      rintro e w' ⟨rfl, rfl⟩
      go_wp2
      go_ret
      exact ⟨ret_b HS.out, HB0.out⟩
  · have HS := Lib.hid (show false = R by rw [hR]; unfold stepB; rw [decide_eq_false hn]; rfl)
    go_enter Try.func8, Try.ntmps8
    go_wp2_with fail
    refine (in_no _ _ _ _ hn).mono ?_
    rintro e w' ⟨rfl, rfl⟩
    go_wp2
    go_ret
    exact ⟨ret_b HS.out, HB0.out⟩
theorem five_at (w : World) (v0 v1 v2 v3 v4 : Value) (t : TypeId) :
    (w.alloc (.cells #[v0, v1, v2, v3, v4] t)).cell? ⟨w.heap.size, 0, none⟩ = some v0 ∧ (w.alloc (.cells #[v0, v1, v2, v3, v4] t)).cell? ⟨w.heap.size, 1, none⟩ = some v1 ∧ (w.alloc (.cells #[v0, v1, v2, v3, v4] t)).cell? ⟨w.heap.size, 2, none⟩ = some v2 ∧
      (w.alloc (.cells #[v0, v1, v2, v3, v4] t)).cell? ⟨w.heap.size, 3, none⟩ = some v3 ∧ (w.alloc (.cells #[v0, v1, v2, v3, v4] t)).cell? ⟨w.heap.size, 4, none⟩ = some v4 :=
  have h := heap_alloc_new w (.cells #[v0, v1, v2, v3, v4] t)
  ⟨(cell_at h 0).trans rfl, (cell_at h 1).trans rfl, (cell_at h 2).trans rfl, (cell_at h 3).trans rfl, (cell_at h 4).trans rfl⟩
set_option maxHeartbeats 1000000 in
theorem spec_claim (A : Option Addr) (n c : Nat) (zs : List Int) (S : Option Addr) (m d : Nat) (x a b : Int) (t : Bool) (w : World) (hn : zs.length = n) (h1 : 1 ≤ n) (hn2 : n ≤ 12) (hz : Fits zs) (hss : IntsAt w w.heap.size .i64 A zs) :
    Calls Try.prog 36 #[Trk.trV A n c S m d x a b, .int .i64 (n : Int), .bool t] w fun e w' => e = .returned (.bool (claimB zs x a b t)) ∧ Below w.heap.size w w' := by
  obtain ⟨R, hR⟩ : ∃ R, R = claimB zs x a b t := ⟨_, rfl⟩
  rw [← hR]
  obtain ⟨u0, u1, u2, u3, u4⟩ := five_at w (.slice A n c) (.slice S m d) (.int .i64 x) (.int .i64 a) (.int .i64 b) 40
  have hw : wrap64 ((n : Int) - 1) = (n : Int) - 1 := IntWalk.wrap64_in _ (by omega)
  have HP := Lib.hid (fun y : Int => spec_pos A n c zs y _ hn (by omega) hz ((hss.below (box_below w (.cells #[.slice A n c, .slice S m d, .int .i64 x, .int .i64 a, .int .i64 b] 40))).more (by simp)))
  have HN := Lib.hid hn
  clear hn
  by_cases x0 : x = 0 ∨ x = 4
  · have HS := Lib.hid (show decide (a = 0 ∧ b = 0) = R by rw [hR]; unfold claimB; rw [if_pos x0])
    clear hR
    rcases x0 with rfl | rfl
    all_goals
      go_enter Try.func36, Try.ntmps36
      go_wp2
      all_goals (go_ret; exact ⟨ret_b (by rw [← HS.out, Bool.eq_iff_iff]; simp <;> omega), box_below _ _⟩)
  by_cases x1 : x = 1
  · subst x1
    have HS := Lib.hid (show (t && decide (0 ≤ a ∧ a < (n : Int) ∧ b = 0)) = R by rw [hR]; unfold claimB; rw [HN.out]; rfl)
    clear hR
    cases t with
    | false =>
      go_enter Try.func36, Try.ntmps36
      go_wp2
      go_ret
      exact ⟨ret_b (by rw [← HS.out]; rfl), box_below _ _⟩
    | true =>
      by_cases ha : 0 ≤ a ∧ a ≤ (n : Int) - 1
      · go_enter Try.func36, Try.ntmps36
        go_wp2_with fail
        refine (in_yes _ _ _ _ ha.1 ha.2).mono ?_
        rintro e w' ⟨rfl, rfl⟩
        go_wp2
        all_goals (go_ret; exact ⟨ret_b (by rw [← HS.out, Bool.eq_iff_iff]; simp <;> omega), box_below _ _⟩)
      · go_enter Try.func36, Try.ntmps36
        go_wp2_with fail
        refine (in_no _ _ _ _ ha).mono ?_
        rintro e w' ⟨rfl, rfl⟩
        go_wp2
        all_goals (go_ret; exact ⟨ret_b (by rw [← HS.out, Bool.eq_iff_iff]; simp <;> omega), box_below _ _⟩)
  by_cases x2 : x = 2
  · subst x2
    have HS := Lib.hid (show decide (0 ≤ a ∧ a ≤ (n : Int) ∧ b = 0) = R by rw [hR]; unfold claimB; rw [HN.out]; rfl)
    clear hR
    by_cases ha : 0 ≤ a ∧ a ≤ (n : Int)
    · go_enter Try.func36, Try.ntmps36
      go_wp2_with fail
      refine (in_yes _ _ _ _ ha.1 ha.2).mono ?_
      rintro e w' ⟨rfl, rfl⟩
      go_wp2
      all_goals (go_ret; exact ⟨ret_b (by rw [← HS.out, Bool.eq_iff_iff]; simp <;> omega), box_below _ _⟩)
    · go_enter Try.func36, Try.ntmps36
      go_wp2_with fail
      refine (in_no _ _ _ _ ha).mono ?_
      rintro e w' ⟨rfl, rfl⟩
      go_wp2
      all_goals (go_ret; exact ⟨ret_b (by rw [← HS.out, Bool.eq_iff_iff]; simp <;> omega), box_below _ _⟩)
  by_cases x3 : x = 3
  · subst x3
    have HS := Lib.hid (show (decide (0 ≤ posF zs a) && decide (0 ≤ b ∧ b < (n : Int))) = R by rw [hR]; unfold claimB; rw [HN.out]; rfl)
    clear hR
    have CP := HP.out a
    generalize posF zs a = p at CP HS
    by_cases hp : 0 ≤ p
    · go_enter Try.func36, Try.ntmps36
      go_wp2_with fail
      refine CP.mono ?_
      rintro e w' ⟨rfl, rfl⟩
      go_wp2_with fail
      refine (in_any _ _ _ _).mono ?_
      rintro e w' ⟨rfl, rfl⟩
      go_wp2
      all_goals (go_ret; exact ⟨ret_b (by rw [← HS.out, Bool.eq_iff_iff]; simp <;> omega), box_below _ _⟩)
    · go_enter Try.func36, Try.ntmps36
      go_wp2_with fail
      refine CP.mono ?_
      rintro e w' ⟨rfl, rfl⟩
      go_wp2
      all_goals (go_ret; exact ⟨ret_b (by rw [← HS.out, Bool.eq_iff_iff]; simp <;> omega), box_below _ _⟩)
  · have HS := Lib.hid (show false = R by rw [hR]; unfold claimB; rw [if_neg x0, if_neg x1, if_neg x2, if_neg x3])
    have h0 : ¬ x = 0 := fun h => x0 (Or.inl h)
    have h4 : ¬ x = 4 := fun h => x0 (Or.inr h)
    clear hR x0
    go_enter Try.func36, Try.ntmps36
    go_wp2
    go_ret
    exact ⟨ret_b HS.out, box_below _ _⟩
theorem trick_no1 {zs : List Int} {ss : List SR} {x a b : Int} (h : okB zs = false) : trickB zs ss x a b = false := by unfold trickB; rw [h]; rfl
theorem trick_no2 {zs : List Int} {ss : List SR} {x a b : Int} (h : ¬ (1 ≤ zs.length ∧ ss.length ≤ 12)) : trickB zs ss x a b = false := by unfold trickB; rw [decide_eq_false h]; simp
theorem trick_no3 {zs : List Int} {ss : List SR} {x a b : Int} {i : Nat} (hi : i < ss.length) (h : stepB zs.length (ss.getD i sr0) = false) : trickB zs ss x a b = false := by
  have hf : (List.range ss.length).all (fun i => stepB zs.length (ss.getD i sr0)) = false := by
    rw [Bool.eq_false_iff]
    intro hk
    rw [List.all_eq_true] at hk
    rw [hk i (List.mem_range.2 hi)] at h
    cases h
  unfold trickB; rw [hf]; simp
theorem trick_yes {zs : List Int} {ss : List SR} {x a b : Int} (h0 : okB zs = true) (h1 : 1 ≤ zs.length ∧ ss.length ≤ 12) (h : ∀ i, i < ss.length → stepB zs.length (ss.getD i sr0) = true) : trickB zs ss x a b = claimB zs x a b (notedB ss ss.length) := by
  have hf : (List.range ss.length).all (fun i => stepB zs.length (ss.getD i sr0)) = true := by
    rw [List.all_eq_true]
    intro i hi
    exact h i (List.mem_range.1 hi)
  unfold trickB; rw [hf, h0, decide_eq_true h1]; simp
theorem trick_parts {zs : List Int} {ss : List SR} {x a b : Int} (h : trickB zs ss x a b = true) : okB zs = true ∧ 1 ≤ zs.length ∧ ss.length ≤ 12 ∧ (∀ i, i < ss.length → stepB zs.length (ss.getD i sr0) = true) ∧ claimB zs x a b (notedB ss ss.length) = true := by
  unfold trickB at h
  rw [Bool.and_eq_true, Bool.and_eq_true, Bool.and_eq_true, List.all_eq_true] at h
  exact ⟨h.1, (of_decide_eq_true h.2.1).1, (of_decide_eq_true h.2.1).2, fun i hi => h.2.2.1 i (List.mem_range.2 hi), h.2.2.2⟩
theorem noted_next {ss : List SR} {k : Nat} (hk : k < ss.length) : notedB ss (k + 1) = (notedB ss k || decide ((ss.getD k sr0).k = 3)) := by
  unfold notedB
  rw [List.take_add_one, List.any_append]
  congr 1
  rw [List.getElem?_eq_getElem hk, List.getD_eq_getElem?_getD, List.getElem?_eq_getElem hk]
  simp
end Go.Proofs.Ytibephoepkofnaa.Tso
