/- Tricks, plainly: which steps, claims and tricks are valid, which scenes follow by a step, how a run goes, whether a claim holds. Which steps and claims and tricks are valid, of the model (StepOk, TrickOk), and what it counts and starts with (CountChoices, StartScene). Tricks, of the model: which are valid (TrickOk), how many choices they have (CountChoices), how they start (StartScene). Tricks, of the model: whether a claim holds (ClaimHolds). -/
import Derived.Test.YtibephoepkofnaaGreatTrk
import Derived.Test.YtibephoepkofnaaGreatArr
import Derived.Test.YtibephoepkofnaaGreatMvp
import Derived.Test.YtibephoepkofnaaGreatMok
import Derived.Test.YtibephoepkofnaaGreatCat
import Derived.BigQuiet
import Derived.Deep.QuietTactic
set_option linter.unusedVariables false
set_option maxRecDepth 20000
namespace Go.Proofs.YtibephoepkofnaaGreat.Tfp
open Go.RowKit Fr _root_.Go.Proofs.YtibephoepkofnaaGreat.Own Pk Pl Ins Pok Arr Mvp Tst

def choiceB (n k : Int) : Bool := decide (0 ≤ k ∧ k ≤ 4) && (decide (k ≠ 3 ∨ 2 ≤ n) && decide (k ≠ 2 ∨ n ≤ 7))
def stepB (n : Int) (s : SR) : Bool :=
  decide (1 ≤ n ∧ n ≤ 12) && (if s.k = 1 then mvB n s.d s.q && decide (s.a = 0) else if s.k = 2 then decide (s.d = 0 ∧ s.q = 0) && choiceB n s.a else if s.k = 3 then decide (s.d = 0 ∧ s.q = 0) && decide (0 ≤ s.a ∧ s.a < n) else false)
/-- is there a step that notes a card among the first k? -/
def notedB (ss : List SR) (k : Nat) : Bool := (ss.take k).any fun s => decide (s.k = 3)
def claimB (zs : List Int) (x a b : Int) (noted : Bool) : Bool :=
  if x = 0 ∨ x = 4 then decide (a = 0 ∧ b = 0) else if x = 1 then noted && decide (0 ≤ a ∧ a < zs.length ∧ b = 0) else if x = 2 then decide (0 ≤ a ∧ a ≤ zs.length ∧ b = 0) else if x = 3 then decide (0 ≤ posF zs a) && decide (0 ≤ b ∧ b < zs.length) else false
def trickB (zs : List Int) (ss : List SR) (x a b : Int) : Bool :=
  okB zs && (decide (1 ≤ zs.length ∧ ss.length ≤ 12) && ((List.range ss.length).all (fun i => stepB zs.length (ss.getD i sr0)) && claimB zs x a b (notedB ss ss.length)))
/-- a scene: the packet and the noted card -/
abbrev SC := List Int × Int
def countF (ss : List SR) : Nat := (ss.filter fun s => decide (s.k = 2)).length
def holdB (zs : List Int) (x a b : Int) (c : SC) : Bool :=
  if x = 1 then decide (0 ≤ c.2 ∧ posF c.1 c.2 = a) else if x = 2 then decide ((upTo c.1 c.1.length : Int) = a) else if x = 3 then decide (posF c.1 a = b) else if x = 4 then decide (c.1 = zs) else true
end Go.Proofs.YtibephoepkofnaaGreat.Tfp

namespace Go.Proofs.YtibephoepkofnaaGreat.Tso
open Go.RowKit Fr _root_.Go.Proofs.YtibephoepkofnaaGreat.Own Pk Pl Ins Pok Arr Mvp Tst Tfp

theorem beq0 (a : Int) : (a == 0) = decide (a = 0) := by
  by_cases h : a = 0
  · subst h; rfl
  · rw [decide_eq_false h, beq_eq_false_iff_ne.2 h]
theorem choice_out {n k : Int} (h : ¬ (0 ≤ k ∧ k ≤ 4)) : choiceB n k = false := by unfold choiceB; rw [decide_eq_false h]; rfl
theorem spec_choice (n k : Int) (w : World) : Calls Tryz.prog 52 #[.int .i64 n, .int .i64 k] w fun e w' => e = .returned (.bool (choiceB n k)) ∧ w = w' := by
  by_cases hk : 0 ≤ k ∧ k ≤ 4
  · rcases (show k = 0 ∨ k = 1 ∨ k = 2 ∨ k = 3 ∨ k = 4 by omega) with rfl | rfl | rfl | rfl | rfl
    all_goals
      go_enter Tryz.func52, Tryz.ntmps52
      go_wp2_with fail
      refine (in_yes _ _ _ _ (by omega) (by omega)).mono ?_
      rintro e w' ⟨rfl, rfl⟩
      go_wp2
      all_goals (go_ret; exact ⟨ret_b (by unfold choiceB; simp <;> omega), rfl⟩)
  · have HS := Lib.hid (choice_out (n := n) hk)
    go_enter Tryz.func52, Tryz.ntmps52
    go_wp2_with fail
    refine (in_no _ _ _ _ hk).mono ?_
    rintro e w' ⟨rfl, rfl⟩
    go_wp2
    go_ret
    exact ⟨ret_b HS.out.symm, rfl⟩
set_option maxHeartbeats 1000000 in
theorem spec_step (n : Int) (s : SR) (w : World) : Calls Tryz.prog 28 #[.int .i64 n, s.v] w fun e w' => e = .returned (.bool (stepB n s)) ∧ Below w.heap.size w w' := by
  obtain ⟨k, d, q, a⟩ := s
  obtain ⟨R, hR⟩ : ∃ R, R = stepB n ⟨k, d, q, a⟩ := ⟨_, rfl⟩
  rw [← hR]
  have A0 := Lib.hid (heap_alloc_new w (.cells #[.int .i64 k, .int .i64 d, .int .i64 q, .int .i64 a] 36))
  have HB0 := Lib.hid (box_below w (.cells #[.int .i64 k, .int .i64 d, .int .i64 q, .int .i64 a] 36))
  have u0 := (cell_at A0.out 0).trans rfl
  have u1 := (cell_at A0.out 1).trans rfl
  have u2 := (cell_at A0.out 2).trans rfl
  have u3 := (cell_at A0.out 3).trans rfl
  by_cases hn : 1 ≤ n ∧ n ≤ 12
  · by_cases h1 : k = 1
    · subst h1
      have HS := Lib.hid (show (mvB n d q && decide (a = 0)) = R by rw [hR]; unfold stepB; rw [decide_eq_true hn]; simp)
      have CM := fun W => Mok2.spec_moveok n d q W
      clear hR
      obtain ⟨m, hm⟩ : ∃ m, m = mvB n d q := ⟨_, rfl⟩
      rw [← hm] at HS CM
      clear hm
      cases m with
      | true =>
        go_enter Tryz.func28, Tryz.ntmps28
        go_wp2_with fail
        refine (in_yes _ _ _ _ hn.1 hn.2).mono ?_
        rintro e w' ⟨rfl, rfl⟩
        go_wp2_with fail
        refine (CM _).mono ?_
        rintro e w1 ⟨rfl, hb⟩
        have HB1 := Lib.hid (HB0.out.trans (hb.mono HB0.out.size))
        have c0 := (hb.block w.heap.size (by simp)).trans A0.out
        have y3 := (cell_at c0 3).trans rfl
        clear hb c0 u0 u1 u2 u3
        go_wp2
        go_ret
        exact ⟨ret_b (by rw [← HS.out, beq0]; rfl), HB1.out⟩
      | false =>
        go_enter Tryz.func28, Tryz.ntmps28
        go_wp2_with fail
        refine (in_yes _ _ _ _ hn.1 hn.2).mono ?_
        rintro e w' ⟨rfl, rfl⟩
        go_wp2_with fail
        refine (CM _).mono ?_
        rintro e w1 ⟨rfl, hb⟩
        have HB1 := Lib.hid (HB0.out.trans (hb.mono HB0.out.size))
        clear hb u0 u1 u2 u3
        go_wp2
        go_ret
        exact ⟨ret_b (by rw [← HS.out]; simp), HB1.out⟩
    by_cases h2 : k = 2
    · subst h2
      have HS := Lib.hid (show (decide (d = 0 ∧ q = 0) && choiceB n a) = R by rw [hR]; unfold stepB; rw [decide_eq_true hn]; simp)
      clear hR h1
      by_cases hd : d = 0 ∧ q = 0
      · obtain ⟨rfl, rfl⟩ := hd
        go_enter Tryz.func28, Tryz.ntmps28
        go_wp2_with fail
        refine (in_yes _ _ _ _ hn.1 hn.2).mono ?_
        rintro e w' ⟨rfl, rfl⟩
        go_wp2_with fail
        refine (spec_choice _ _ _).mono ?_
        rintro e w' ⟨rfl, rfl⟩
        go_wp2
        go_ret
        exact ⟨ret_b (by rw [← HS.out]; simp), HB0.out⟩
      · go_enter Tryz.func28, Tryz.ntmps28
        go_wp2_with fail
        refine (in_yes _ _ _ _ hn.1 hn.2).mono ?_
        rintro e w' ⟨rfl, rfl⟩
        go_wp2
        all_goals (go_ret; exact ⟨ret_b (by rw [← HS.out, decide_eq_false hd]; rfl), box_below _ _⟩)
    by_cases h3 : k = 3
    · subst h3
      have HS := Lib.hid (show (decide (d = 0 ∧ q = 0) && decide (0 ≤ a ∧ a < n)) = R by rw [hR]; unfold stepB; rw [decide_eq_true hn]; simp)
      clear hR h1 h2
      by_cases hd : d = 0 ∧ q = 0
      · obtain ⟨rfl, rfl⟩ := hd
        have hw : wrap64 (n - 1) = n - 1 := IntWalk.wrap64_in _ (by omega)
        go_enter Tryz.func28, Tryz.ntmps28
        go_wp2_with fail
        refine (in_yes _ _ _ _ hn.1 hn.2).mono ?_
        rintro e w' ⟨rfl, rfl⟩
        go_wp2_with fail
        refine (in_any _ _ _ _).mono ?_
        rintro e w' ⟨rfl, rfl⟩
        go_wp2
        go_ret
        exact ⟨ret_b (by rw [← HS.out, Bool.eq_iff_iff]; simp; omega), HB0.out⟩
      · go_enter Tryz.func28, Tryz.ntmps28
        go_wp2_with fail
        refine (in_yes _ _ _ _ hn.1 hn.2).mono ?_
        rintro e w' ⟨rfl, rfl⟩
        go_wp2
        all_goals (go_ret; exact ⟨ret_b (by rw [← HS.out, decide_eq_false hd]; rfl), box_below _ _⟩)
    · have HS := Lib.hid (show false = R by rw [hR]; unfold stepB; rw [decide_eq_true hn]; simp [h1, h2, h3])
      clear hR
      go_enter Tryz.func28, Tryz.ntmps28
      go_wp2_with fail
      refine (in_yes _ _ _ _ hn.1 hn.2).mono ?_
      rintro e w' ⟨rfl, rfl⟩
      go_wp2
      go_ret
      exact ⟨ret_b HS.out, HB0.out⟩
  · have HS := Lib.hid (show false = R by rw [hR]; unfold stepB; rw [decide_eq_false hn]; rfl)
    go_enter Tryz.func28, Tryz.ntmps28
    go_wp2_with fail
    refine (in_no _ _ _ _ hn).mono ?_
    rintro e w' ⟨rfl, rfl⟩
    go_wp2
    go_ret
    exact ⟨ret_b HS.out, HB0.out⟩
theorem five_at (w : World) (v0 v1 v2 v3 v4 : Value) (t : TypeId) :
    (w.alloc (.cells #[v0, v1, v2, v3, v4] t)).cell? ⟨w.heap.size, 0, none⟩ = some v0 ∧ (w.alloc (.cells #[v0, v1, v2, v3, v4] t)).cell? ⟨w.heap.size, 1, none⟩ = some v1 ∧ (w.alloc (.cells #[v0, v1, v2, v3, v4] t)).cell? ⟨w.heap.size, 2, none⟩ = some v2 ∧
      (w.alloc (.cells #[v0, v1, v2, v3, v4] t)).cell? ⟨w.heap.size, 3, none⟩ = some v3 ∧ (w.alloc (.cells #[v0, v1, v2, v3, v4] t)).cell? ⟨w.heap.size, 4, none⟩ = some v4 :=
  have h := heap_alloc_new w (.cells #[v0, v1, v2, v3, v4] t)
  ⟨(cell_at h 0).trans rfl, (cell_at h 1).trans rfl, (cell_at h 2).trans rfl, (cell_at h 3).trans rfl, (cell_at h 4).trans rfl⟩
set_option maxHeartbeats 1000000 in
theorem spec_claim (A : Option Addr) (n c : Nat) (zs : List Int) (S : Option Addr) (m d : Nat) (x a b : Int) (t : Bool) (w : World) (hn : zs.length = n) (h1 : 1 ≤ n) (hn2 : n ≤ 12) (hz : Fits zs) (hss : IntsAt w w.heap.size .i64 A zs) :
    Calls Tryz.prog 79 #[Trk.trV A n c S m d x a b, .int .i64 (n : Int), .bool t] w fun e w' => e = .returned (.bool (claimB zs x a b t)) ∧ Below w.heap.size w w' := by
  obtain ⟨R, hR⟩ : ∃ R, R = claimB zs x a b t := ⟨_, rfl⟩
  rw [← hR]
  obtain ⟨u0, u1, u2, u3, u4⟩ := five_at w (.slice A n c) (.slice S m d) (.int .i64 x) (.int .i64 a) (.int .i64 b) 51
  have hw : wrap64 ((n : Int) - 1) = (n : Int) - 1 := IntWalk.wrap64_in _ (by omega)
  have HP := Lib.hid (fun y : Int => spec_pos A n c zs y _ hn (by omega) hz ((hss.below (box_below w (.cells #[.slice A n c, .slice S m d, .int .i64 x, .int .i64 a, .int .i64 b] 51))).more (by simp)))
  have HN := Lib.hid hn
  clear hn
  by_cases x0 : x = 0 ∨ x = 4
  · have HS := Lib.hid (show decide (a = 0 ∧ b = 0) = R by rw [hR]; unfold claimB; rw [if_pos x0])
    clear hR
    rcases x0 with rfl | rfl
    all_goals
      go_enter Tryz.func79, Tryz.ntmps79
      go_wp2
      all_goals (go_ret; exact ⟨ret_b (by rw [← HS.out, Bool.eq_iff_iff]; simp <;> omega), box_below _ _⟩)
  by_cases x1 : x = 1
  · subst x1
    have HS := Lib.hid (show (t && decide (0 ≤ a ∧ a < (n : Int) ∧ b = 0)) = R by rw [hR]; unfold claimB; rw [HN.out]; rfl)
    clear hR
    cases t with
    | false =>
      go_enter Tryz.func79, Tryz.ntmps79
      go_wp2
      go_ret
      exact ⟨ret_b (by rw [← HS.out]; rfl), box_below _ _⟩
    | true =>
      by_cases ha : 0 ≤ a ∧ a ≤ (n : Int) - 1
      · go_enter Tryz.func79, Tryz.ntmps79
        go_wp2_with fail
        refine (in_yes _ _ _ _ ha.1 ha.2).mono ?_
        rintro e w' ⟨rfl, rfl⟩
        go_wp2
        all_goals (go_ret; exact ⟨ret_b (by rw [← HS.out, Bool.eq_iff_iff]; simp <;> omega), box_below _ _⟩)
      · go_enter Tryz.func79, Tryz.ntmps79
        go_wp2_with fail
        refine (in_no _ _ _ _ ha).mono ?_
        rintro e w' ⟨rfl, rfl⟩
        go_wp2
        all_goals (go_ret; exact ⟨ret_b (by rw [← HS.out, Bool.eq_iff_iff]; simp <;> omega), box_below _ _⟩)
  by_cases x2 : x = 2
  · subst x2
    have HS := Lib.hid (show decide (0 ≤ a ∧ a ≤ (n : Int) ∧ b = 0) = R by rw [hR]; unfold claimB; rw [HN.out]; rfl)
    clear hR
    by_cases ha : 0 ≤ a ∧ a ≤ (n : Int)
    · go_enter Tryz.func79, Tryz.ntmps79
      go_wp2_with fail
      refine (in_yes _ _ _ _ ha.1 ha.2).mono ?_
      rintro e w' ⟨rfl, rfl⟩
      go_wp2
      all_goals (go_ret; exact ⟨ret_b (by rw [← HS.out, Bool.eq_iff_iff]; simp <;> omega), box_below _ _⟩)
    · go_enter Tryz.func79, Tryz.ntmps79
      go_wp2_with fail
      refine (in_no _ _ _ _ ha).mono ?_
      rintro e w' ⟨rfl, rfl⟩
      go_wp2
      all_goals (go_ret; exact ⟨ret_b (by rw [← HS.out, Bool.eq_iff_iff]; simp <;> omega), box_below _ _⟩)
  by_cases x3 : x = 3
  · subst x3
    have HS := Lib.hid (show (decide (0 ≤ posF zs a) && decide (0 ≤ b ∧ b < (n : Int))) = R by rw [hR]; unfold claimB; rw [HN.out]; rfl)
    clear hR
    have CP := HP.out a
    generalize posF zs a = p at CP HS
    by_cases hp : 0 ≤ p
    · go_enter Tryz.func79, Tryz.ntmps79
      go_wp2_with fail
      refine CP.mono ?_
      rintro e w' ⟨rfl, rfl⟩
      go_wp2_with fail
      refine (in_any _ _ _ _).mono ?_
      rintro e w' ⟨rfl, rfl⟩
      go_wp2
      all_goals (go_ret; exact ⟨ret_b (by rw [← HS.out, Bool.eq_iff_iff]; simp <;> omega), box_below _ _⟩)
    · go_enter Tryz.func79, Tryz.ntmps79
      go_wp2_with fail
      refine CP.mono ?_
      rintro e w' ⟨rfl, rfl⟩
      go_wp2
      all_goals (go_ret; exact ⟨ret_b (by rw [← HS.out, Bool.eq_iff_iff]; simp <;> omega), box_below _ _⟩)
  · have HS := Lib.hid (show false = R by rw [hR]; unfold claimB; rw [if_neg x0, if_neg x1, if_neg x2, if_neg x3])
    have h0 : ¬ x = 0 := fun h => x0 (Or.inl h)
    have h4 : ¬ x = 4 := fun h => x0 (Or.inr h)
    clear hR x0
    go_enter Tryz.func79, Tryz.ntmps79
    go_wp2
    go_ret
    exact ⟨ret_b HS.out, box_below _ _⟩
theorem trick_no1 {zs : List Int} {ss : List SR} {x a b : Int} (h : okB zs = false) : trickB zs ss x a b = false := by unfold trickB; rw [h]; rfl
theorem trick_no2 {zs : List Int} {ss : List SR} {x a b : Int} (h : ¬ (1 ≤ zs.length ∧ ss.length ≤ 12)) : trickB zs ss x a b = false := by unfold trickB; rw [decide_eq_false h]; simp
theorem trick_no3 {zs : List Int} {ss : List SR} {x a b : Int} {i : Nat} (hi : i < ss.length) (h : stepB zs.length (ss.getD i sr0) = false) : trickB zs ss x a b = false := by
  have hf : (List.range ss.length).all (fun i => stepB zs.length (ss.getD i sr0)) = false := by
    rw [Bool.eq_false_iff]
    intro hk
    rw [List.all_eq_true] at hk
    rw [hk i (List.mem_range.2 hi)] at h
    cases h
  unfold trickB; rw [hf]; simp
theorem trick_yes {zs : List Int} {ss : List SR} {x a b : Int} (h0 : okB zs = true) (h1 : 1 ≤ zs.length ∧ ss.length ≤ 12) (h : ∀ i, i < ss.length → stepB zs.length (ss.getD i sr0) = true) : trickB zs ss x a b = claimB zs x a b (notedB ss ss.length) := by
  have hf : (List.range ss.length).all (fun i => stepB zs.length (ss.getD i sr0)) = true := by
    rw [List.all_eq_true]
    intro i hi
    exact h i (List.mem_range.1 hi)
  unfold trickB; rw [hf, h0, decide_eq_true h1]; simp
theorem trick_parts {zs : List Int} {ss : List SR} {x a b : Int} (h : trickB zs ss x a b = true) : okB zs = true ∧ 1 ≤ zs.length ∧ ss.length ≤ 12 ∧ (∀ i, i < ss.length → stepB zs.length (ss.getD i sr0) = true) ∧ claimB zs x a b (notedB ss ss.length) = true := by
  unfold trickB at h
  rw [Bool.and_eq_true, Bool.and_eq_true, Bool.and_eq_true, List.all_eq_true] at h
  exact ⟨h.1, (of_decide_eq_true h.2.1).1, (of_decide_eq_true h.2.1).2, fun i hi => h.2.2.1 i (List.mem_range.2 hi), h.2.2.2⟩
theorem noted_next {ss : List SR} {k : Nat} (hk : k < ss.length) : notedB ss (k + 1) = (notedB ss k || decide ((ss.getD k sr0).k = 3)) := by
  unfold notedB
  rw [List.take_add_one, List.any_append]
  congr 1
  rw [List.getElem?_eq_getElem hk, List.getD_eq_getElem?_getD, List.getElem?_eq_getElem hk]
  simp
end Go.Proofs.YtibephoepkofnaaGreat.Tso

namespace Go.Proofs.YtibephoepkofnaaGreat.Tsp
open Go.RowKit Fr _root_.Go.Proofs.YtibephoepkofnaaGreat.Own Pk Pl Ins Pok Arr Mvp Tst Tfp Tso

set_option maxHeartbeats 2000000 in
theorem spec_trick (A : Option Addr) (n c : Nat) (zs : List Int) (S : Option Addr) (m d : Nat) (ss : List SR) (x a b : Int) (w : World) (hn : zs.length = n) (hn2 : n ≤ 1048576) (hz : Fits zs) (hss : IntsAt w w.heap.size .i64 A zs)
    (hm : ss.length = m) (hm2 : m ≤ 1048576) (hst : StepsAt w w.heap.size S ss) :
    Calls Tryz.prog 60 #[Trk.trV A n c S m d x a b] w fun e w' => e = .returned (.bool (trickB zs ss x a b)) ∧ Below w.heap.size w w' := by
  obtain ⟨R, hR⟩ : ∃ R, R = trickB zs ss x a b := ⟨_, rfl⟩
  rw [← hR]
  obtain ⟨W0, hW0⟩ : ∃ W0, W0 = w.alloc (.cells #[.slice A n c, .slice S m d, .int .i64 x, .int .i64 a, .int .i64 b] 51) := ⟨_, rfl⟩
  have hs0 : W0.heap.size = w.heap.size + 1 := by rw [hW0]; simp
  have hb0 : Below w.heap.size w W0 := by rw [hW0]; exact box_below _ _
  have A0 : W0.heap[w.heap.size]? = some (.cells #[.slice A n c, .slice S m d, .int .i64 x, .int .i64 a, .int .i64 b] 51 (0, 0)) := by rw [hW0]; exact heap_alloc_new _ _
  have CO := spec_ok A n c zs W0 hn (by omega) hz ((hss.below hb0).more (by omega))
  have u0 := (cell_at A0 0).trans rfl
  obtain ⟨t, ht⟩ : ∃ t, t = okB zs := ⟨_, rfl⟩
  rw [← ht] at CO
  have HZ := Lib.hid hz
  have HI := Lib.hid hss
  have HST := Lib.hid hst
  have HB0 := Lib.hid hb0
  have HA0 := Lib.hid A0
  have HS0 := Lib.hid hs0
  have HN := Lib.hid hn
  have HM := Lib.hid hm
  clear hss hst hb0 A0 hs0 hz
  cases t with
  | false =>
    have HS := Lib.hid (show false = R by rw [hR, trick_no1 ht.symm])
    clear hR hn hm ht
    go_enter Tryz.func60, Tryz.ntmps60
    go_wp2_with fail
    rw [← hW0]
    clear hW0
    go_wp2_with fail
    refine CO.mono ?_
    rintro e w1 ⟨rfl, hb1⟩
    have HB1 := Lib.hid (HB0.out.trans (hb1.mono (by rw [HS0.out]; omega)))
    clear hb1 CO u0
    go_wp2
    go_ret
    exact ⟨ret_b HS.out, HB1.out⟩
  | true =>
    by_cases h0 : 1 ≤ n ∧ m ≤ 12
    · have HYES := Lib.hid (fun h : (∀ i, i < m → stepB (n : Int) (ss.getD i sr0) = true) => (show claimB zs x a b (notedB ss m) = R by rw [hR, trick_yes ht.symm (by rw [hn, hm]; exact h0) (by rw [hn, hm]; exact h), hm]))
      have HNO := Lib.hid (fun (k : Nat) (hk : k < m) (h : stepB (n : Int) (ss.getD k sr0) = false) => (show false = R by rw [hR, trick_no3 (by rw [hm]; exact hk) (by rw [hn]; exact h)]))
      have H0 := Lib.hid h0
      have H12 := Lib.hid (show n ≤ 12 by rw [← hn]; exact (okB_yes ht.symm).1)
      have hne : ((n : Int) == 0) = false := by rw [beq_eq_false_iff_ne]; omega
      have hm12 : (m : Int) ≤ 12 := by omega
      clear hR hn hm ht h0
      go_enter Tryz.func60, Tryz.ntmps60
      go_wp2_with fail
      rw [← hW0]
      clear hW0
      go_wp2_with fail
      refine CO.mono ?_
      rintro e w1 ⟨rfl, hb1⟩
      have HB1 := Lib.hid hb1
      have c0 := (hb1.block w.heap.size (by rw [HS0.out]; omega)).trans HA0.out
      have y1 := (cell_at c0 1).trans rfl
      clear hb1 CO u0 c0
      go_wp2
      go_loopg [4, 6, 27] m (fun g s4 _ s27 wr => ∃ k : Nat, k ≤ m ∧ g = m - k ∧ s27 = .int .i64 (k : Int) ∧ s4 = .bool (notedB ss k) ∧ Hid (∀ i, i < k → stepB (n : Int) (ss.getD i sr0) = true) ∧ Hid (Below W0.heap.size W0 wr))
      case atStart => exact ⟨0, Nat.zero_le _, rfl, rfl, rfl, Lib.hid (fun i hi => absurd hi (Nat.not_lt_zero _)), HB1⟩
      case round =>
        obtain ⟨k, hk, hg, rfl, rfl, HE, HBW⟩ := hrel
        clear y1
        have hsz := HBW.out.size
        by_cases hlt : k < m
        · obtain ⟨b1, o1, rfl, hbb, p0, p1, p2, p3⟩ := (HST.out.below (HB0.out.trans (HBW.out.mono (by rw [HS0.out]; omega)))) k (by rw [HM.out]; exact hlt)
          have HNX := Lib.hid (noted_next (ss := ss) (k := k) (by rw [HM.out]; exact hlt))
          have HNOk := Lib.hid (HNO.out k hlt)
          have CS := fun W => spec_step (n : Int) (ss.getD k sr0) W
          obtain ⟨r, hr⟩ : ∃ r, r = stepB (n : Int) (ss.getD k sr0) := ⟨_, rfl⟩
          rw [← hr] at CS HNOk
          have HY := Lib.hid (fun e : r = true => (show ∀ i, i < k + 1 → stepB (n : Int) (ss.getD i sr0) = true from fun i hi => by
            by_cases hik : i = k
            · rw [hik, ← hr]; exact e
            · exact HE.out i (by omega)))
          clear hr
          generalize ss.getD k sr0 = st at *
          obtain ⟨x0, x1, x2, x3⟩ := st
          simp only at p0 p1 p2 p3 HNX
          generalize notedB ss k = nt at *
          have q0 := heap_alloc_new wr (.cells #[.int .i64 x0, .int .i64 x1, .int .i64 x2, .int .i64 x3] 36)
          have HBA := Lib.hid (box_below wr (.cells #[.int .i64 x0, .int .i64 x1, .int .i64 x2, .int .i64 x3] 36))
          cases r with
          | false =>
            have HS := Lib.hid (HNOk.out rfl)
            clear HNOk HY HNX q0
            go_wp2_with fail
            refine (CS _).mono ?_
            rintro e w5 ⟨rfl, hb5⟩
            have HB5 := Lib.hid ((HB0.out.trans (HBW.out.mono (by rw [HS0.out]; omega))).trans ((HBA.out.trans (hb5.mono HBA.out.size)).mono (by rw [HS0.out] at hsz; omega)))
            clear hb5 CS
            go_wp2
            go_ret
            exact ⟨ret_b HS.out, HB5.out⟩
          | true =>
            have HE2 := Lib.hid (HY.out rfl)
            clear HNOk HY
            go_wp2_with fail
            refine (CS _).mono ?_
            rintro e w5 ⟨rfl, hb5⟩
            have HB5 := Lib.hid (HBW.out.trans ((HBA.out.trans (hb5.mono HBA.out.size)).mono hsz))
            have c5 := (hb5.block wr.heap.size (by simp)).trans q0
            have y0 := (cell_at c5 0).trans rfl
            clear hb5 CS q0 c5
            cases nt with
            | true =>
              go_wp2
              go_roundg (m - (k + 1))
              case rel => exact ⟨k + 1, by omega, rfl, by go_num, by rw [HNX.out]; rfl, HE2, HB5⟩
              case measure => omega
            | false =>
              have hx3 : (x0 == 3) = decide (x0 = 3) := by
                by_cases h : x0 = 3
                · subst h; rfl
                · rw [decide_eq_false h, beq_eq_false_iff_ne.2 h]
              go_wp2
              go_roundg (m - (k + 1))
              case rel => exact ⟨k + 1, by omega, rfl, by go_num, by rw [HNX.out]; rfl, HE2, HB5⟩
              case measure => omega
        · have hkm : k = m := by omega
          subst hkm
          have HYS := Lib.hid (HYES.out HE.out)
          have hbt := HB0.out.trans (HBW.out.mono (by rw [HS0.out]; omega))
          have CC := spec_claim A n c zs S k d x a b (notedB ss k) wr HN.out H0.out.1 H12.out HZ.out ((HI.out.below hbt).more hbt.size)
          rw [HYS.out] at CC
          have HB5 := Lib.hid hbt
          have c5 := (HBW.out.block w.heap.size (by rw [HS0.out]; omega)).trans HA0.out
          have y0 := (cell_at c5 0).trans rfl
          have y1 := (cell_at c5 1).trans rfl
          have y2 := (cell_at c5 2).trans rfl
          have y3 := (cell_at c5 3).trans rfl
          have y4 := (cell_at c5 4).trans rfl
          clear hbt c5 HE HBW HYS
          go_wp2_with fail
          refine CC.mono ?_
          rintro e w6 ⟨rfl, hb6⟩
          have HB6 := Lib.hid (HB5.out.trans (hb6.mono HB5.out.size))
          clear hb6 CC y0 y1 y2 y3 y4
          go_wp2
          go_ret
          exact ⟨rfl, HB6.out⟩
    · have HS := Lib.hid (show false = R by rw [hR, trick_no2 (by rw [hn, hm]; exact h0)])
      clear hR hn hm ht
      by_cases hz0 : n = 0
      · subst hz0
        clear h0
        go_enter Tryz.func60, Tryz.ntmps60
        go_wp2_with fail
        rw [← hW0]
        clear hW0
        go_wp2_with fail
        refine CO.mono ?_
        rintro e w1 ⟨rfl, hb1⟩
        have HB1 := Lib.hid (HB0.out.trans (hb1.mono (by rw [HS0.out]; omega)))
        clear hb1 CO u0
        go_wp2
        go_ret
        exact ⟨ret_b HS.out, HB1.out⟩
      · have hne : ((n : Int) == 0) = false := by rw [beq_eq_false_iff_ne]; omega
        have hm12 : 12 < (m : Int) := by omega
        clear h0
        go_enter Tryz.func60, Tryz.ntmps60
        go_wp2_with fail
        rw [← hW0]
        clear hW0
        go_wp2_with fail
        refine CO.mono ?_
        rintro e w1 ⟨rfl, hb1⟩
        have HB1 := Lib.hid (HB0.out.trans (hb1.mono (by rw [HS0.out]; omega)))
        have c0 := (hb1.block w.heap.size (by rw [HS0.out]; omega)).trans HA0.out
        have y1 := (cell_at c0 1).trans rfl
        clear hb1 CO u0 c0
        go_wp2
        go_ret
        exact ⟨ret_b HS.out, HB1.out⟩
theorem count_next {ss : List SR} {k : Nat} (hk : k < ss.length) : countF (ss.take (k + 1)) = countF (ss.take k) + if (ss.getD k sr0).k = 2 then 1 else 0 := by
  unfold countF
  rw [List.take_add_one, List.filter_append, List.length_append, List.getElem?_eq_getElem hk, List.getD_eq_getElem?_getD, List.getElem?_eq_getElem hk]
  simp only [Option.toList_some, Option.getD_some]
  by_cases h : ss[k].k = 2
  · rw [if_pos h, List.filter_cons_of_pos (by rw [decide_eq_true_eq]; exact h)]; rfl
  · rw [if_neg h, List.filter_cons_of_neg (by rw [decide_eq_true_eq]; exact h)]; rfl
theorem count_le (ss : List SR) : countF ss ≤ ss.length := List.length_filter_le _ _
/-- the number of choices of a trick -/
def cntF (zs : List Int) (ss : List SR) (x a b : Int) : Int := if trickB zs ss x a b then (countF ss : Int) else -1
set_option maxHeartbeats 2000000 in
theorem spec_choices (A : Option Addr) (n c : Nat) (zs : List Int) (S : Option Addr) (m d : Nat) (ss : List SR) (x a b : Int) (w : World) (hn : zs.length = n) (hn2 : n ≤ 1048576) (hz : Fits zs) (hss : IntsAt w w.heap.size .i64 A zs)
    (hm : ss.length = m) (hm2 : m ≤ 1048576) (hst : StepsAt w w.heap.size S ss) :
    Calls Tryz.prog 41 #[Trk.trV A n c S m d x a b] w fun e w' => e = .returned (.int .i64 (cntF zs ss x a b)) ∧ Below w.heap.size w w' := by
  obtain ⟨W0, hW0⟩ : ∃ W0, W0 = w.alloc (.cells #[.slice A n c, .slice S m d, .int .i64 x, .int .i64 a, .int .i64 b] 51) := ⟨_, rfl⟩
  have hs0 : W0.heap.size = w.heap.size + 1 := by rw [hW0]; simp
  have hb0 : Below w.heap.size w W0 := by rw [hW0]; exact box_below _ _
  have A0 : W0.heap[w.heap.size]? = some (.cells #[.slice A n c, .slice S m d, .int .i64 x, .int .i64 a, .int .i64 b] 51 (0, 0)) := by rw [hW0]; exact heap_alloc_new _ _
  have CT := spec_trick A n c zs S m d ss x a b W0 hn hn2 hz ((hss.below hb0).more (by omega)) hm hm2 ((hst.below hb0).more (by omega))
  have u0 := (cell_at A0 0).trans rfl
  have u1 := (cell_at A0 1).trans rfl
  have u2 := (cell_at A0 2).trans rfl
  have u3 := (cell_at A0 3).trans rfl
  have u4 := (cell_at A0 4).trans rfl
  have HST := Lib.hid hst
  have HB0 := Lib.hid hb0
  have HA0 := Lib.hid A0
  have HS0 := Lib.hid hs0
  have HM := Lib.hid hm
  obtain ⟨t, ht⟩ : ∃ t, t = trickB zs ss x a b := ⟨_, rfl⟩
  rw [← ht] at CT
  unfold cntF
  rw [← ht]
  clear hss hst hb0 A0 hs0 hz hn hm ht
  cases t with
  | false =>
    go_enter Tryz.func41, Tryz.ntmps41
    go_wp2_with fail
    rw [← hW0]
    clear hW0
    go_wp2_with fail
    refine CT.mono ?_
    rintro e w1 ⟨rfl, hb1⟩
    have HB1 := Lib.hid (HB0.out.trans (hb1.mono (by rw [HS0.out]; omega)))
    clear hb1 CT u0 u1 u2 u3 u4
    go_wp2
    go_ret
    exact ⟨rfl, HB1.out⟩
  | true =>
    have HML := Lib.hid (show countF (ss.take m) = countF ss by rw [List.take_of_length_le (by rw [HM.out]; exact Nat.le_refl _)])
    go_enter Tryz.func41, Tryz.ntmps41
    go_wp2_with fail
    rw [← hW0]
    clear hW0
    go_wp2_with fail
    refine CT.mono ?_
    rintro e w1 ⟨rfl, hb1⟩
    have HB1 := Lib.hid hb1
    have c0 := (hb1.block w.heap.size (by rw [HS0.out]; omega)).trans HA0.out
    have y1 := (cell_at c0 1).trans rfl
    clear hb1 CT u0 u1 u2 u3 u4 c0
    go_wp2
    go_loopg [3, 5, 12] m (fun g s3 _ s12 wr => ∃ k : Nat, k ≤ m ∧ g = m - k ∧ s12 = .int .i64 (k : Int) ∧ (∃ q : Nat, q ≤ k ∧ Hid (q = countF (ss.take k)) ∧ s3 = .int .i64 (q : Int)) ∧ Hid (Below W0.heap.size W0 wr))
    case atStart => exact ⟨0, Nat.zero_le _, rfl, rfl, ⟨0, Nat.le_refl _, Lib.hid rfl, rfl⟩, HB1⟩
    case round =>
      obtain ⟨k, hk, hg, rfl, ⟨q, hq, HQ, rfl⟩, HBW⟩ := hrel
      clear y1
      have hsz := HBW.out.size
      by_cases hlt : k < m
      · obtain ⟨b1, o1, rfl, hbb, p0, p1, p2, p3⟩ := (HST.out.below (HB0.out.trans (HBW.out.mono (by rw [HS0.out]; omega)))) k (by rw [HM.out]; exact hlt)
        have HNX := Lib.hid (count_next (ss := ss) (k := k) (by rw [HM.out]; exact hlt))
        generalize ss.getD k sr0 = st at *
        obtain ⟨x0, x1, x2, x3⟩ := st
        simp only at p0 p1 p2 p3 HNX
        have q0 := (cell_at (heap_alloc_new wr (.cells #[.int .i64 x0, .int .i64 x1, .int .i64 x2, .int .i64 x3] 36)) 0).trans rfl
        have HBA := Lib.hid (HBW.out.trans ((box_below wr (.cells #[.int .i64 x0, .int .i64 x1, .int .i64 x2, .int .i64 x3] 36)).mono hsz))
        by_cases h2 : x0 = 2
        · have HX := Lib.hid (show q + 1 = countF (ss.take (k + 1)) by rw [HNX.out, if_pos h2, HQ.out])
          subst h2
          clear HNX HQ
          go_wp2
          go_roundg (m - (k + 1))
          case rel => exact ⟨k + 1, by omega, rfl, by go_num, ⟨q + 1, by omega, HX, by go_num⟩, HBA⟩
          case measure => omega
        · have HX := Lib.hid (show q = countF (ss.take (k + 1)) by rw [HNX.out, if_neg h2, HQ.out]; rfl)
          clear HNX HQ
          go_wp2
          go_roundg (m - (k + 1))
          case rel => exact ⟨k + 1, by omega, rfl, by go_num, ⟨q, by omega, HX, rfl⟩, HBA⟩
          case measure => omega
      · have hkm : k = m := by omega
        subst hkm
        have HE := Lib.hid (HQ.out.trans HML.out)
        have HB5 := Lib.hid (HB0.out.trans (HBW.out.mono (by rw [HS0.out]; omega)))
        clear HQ HBW
        go_wp2
        go_ret
        exact ⟨by rw [HE.out]; rfl, HB5.out⟩
end Go.Proofs.YtibephoepkofnaaGreat.Tsp

namespace Go.Proofs.YtibephoepkofnaaGreat.Tsq
open Go.RowKit Fr _root_.Go.Proofs.YtibephoepkofnaaGreat.Own Pk Pl Ins Sam Rws Cat Pok Arr Mvp Tst Tfp Tso Tsp

theorem beqd (p a : Int) : (p == a) = decide (p = a) := by
  by_cases h : p = a
  · subst h; simp
  · rw [decide_eq_false h, beq_eq_false_iff_ne.2 h]
/-- the trick is valid, the scene's packet an arrangement of its start, and the claim holds -/
def claimF (zs : List Int) (ss : List SR) (x a b : Int) (c : SC) : Bool := trickB zs ss x a b && arrB zs c.1 && holdB zs x a b c
/-- a call hands back a scene, whose list is of its own, and a bool -/
def IsScB (B : Nat) (zs : List Int) (m : Int) (b : Bool) (w : World) (e : Ending) (w' : World) : Prop :=
  ∃ A c, e = .returned (.tuple #[Scn.scV A zs.length c m, .bool b]) ∧ w'.ownsRow B 3 1 (.slice A zs.length c) zs.length (zs.map (Value.int .i64)) ∧ Below B w w'
theorem results_cs {P : Program} {fn : Func} {a b : Tmp} {t : TypeId} {p : Addr} {v x : Value} {w : World} (h : fn.results = #[.cell a t, .tmp b]) (tmps : Array Value) (hp : tmps.getD a undef = .pointer (some p)) (hx : tmps.getD b undef = x) (hl : (loadVar t p).run P w = .ok v w) :
    (results fn tmps).run P w = .ok (.tuple #[v, x]) w := by
  have hp2 : tmps[a]?.getD undef = .pointer (some p) := by simpa using hp
  have hx2 : tmps[b]?.getD undef = x := by simpa using hx
  simp [results, h, hp2, hx2, asAddr, hl]
/-- what is stored in the result's box -/
theorem put_box {w W : World} {p : Nat} {a b x y : Value} (hp : W.heap[p]? = some (.cells #[a, b] 32 (0, 0))) (hB : Below w.heap.size w W) (hwp : w.heap.size ≤ p) :
    (loadVar 32 ⟨p, 0, none⟩).run Tryz.prog ((W.setCell ⟨p, 0, none⟩ x).setCell ⟨p, 1, none⟩ y) = .ok (.agg #[x, y]) ((W.setCell ⟨p, 0, none⟩ x).setCell ⟨p, 1, none⟩ y) ∧ Below w.heap.size w ((W.setCell ⟨p, 0, none⟩ x).setCell ⟨p, 1, none⟩ y) ∧ W.grownBy ((W.setCell ⟨p, 0, none⟩ x).setCell ⟨p, 1, none⟩ y) (some p) := by
  have hg := (set_grown W p 0 x).trans (set_grown _ p 1 y)
  exact ⟨Scn.loadS (Scn.put2 hp), hB.grown hg hB.size (fun k hk => by injection hk with hk; omega), hg⟩
/-- what a trick starts with -/
def startS (zs : List Int) (ss : List SR) (x a b : Int) : List Int := if trickB zs ss x a b then zs else []
def startM (zs : List Int) (ss : List SR) (x a b : Int) : Int := if trickB zs ss x a b then -1 else 0
theorem start_len (zs : List Int) (ss : List SR) (x a b : Int) : (startS zs ss x a b).length ≤ 1048576 := by
  unfold startS
  split
  · next h => have := (okB_yes (trick_parts h).1).1; omega
  · simp
set_option maxHeartbeats 2000000 in
theorem spec_start (A : Option Addr) (n c : Nat) (zs : List Int) (S : Option Addr) (m d : Nat) (ss : List SR) (x a b : Int) (w : World) (hn : zs.length = n) (hn2 : n ≤ 1048576) (hz : Fits zs) (hss : IntsAt w w.heap.size .i64 A zs)
    (hk : ss.length = m) (hk2 : m ≤ 1048576) (hst : StepsAt w w.heap.size S ss) :
    Calls Tryz.prog 40 #[Trk.trV A n c S m d x a b] w (IsScB w.heap.size (startS zs ss x a b) (startM zs ss x a b) (trickB zs ss x a b) w) := by
  obtain ⟨i0, hi, hz0, hz1, hz2⟩ := info_parts infoInt
  obtain ⟨hs, hb0, a0, a1⟩ := two_at w #[.slice A n c, .slice S m d, .int .i64 x, .int .i64 a, .int .i64 b] #[.slice none 0 0, .int .i64 0] 51 32
  obtain ⟨W0, hW0⟩ : ∃ W0, W0 = (w.alloc (.cells #[.slice A n c, .slice S m d, .int .i64 x, .int .i64 a, .int .i64 b] 51)).alloc (.cells #[.slice none 0 0, .int .i64 0] 32) := ⟨_, rfl⟩
  rw [← hW0] at hs hb0 a0 a1
  have t0 := (cell_at a0 0).trans rfl
  have t1 := (cell_at a0 1).trans rfl
  have t2 := (cell_at a0 2).trans rfl
  have t3 := (cell_at a0 3).trans rfl
  have t4 := (cell_at a0 4).trans rfl
  have HB0 := Lib.hid hb0
  have HA0 := Lib.hid a0
  have HA1 := Lib.hid a1
  have HS0 := Lib.hid hs
  have CT := spec_trick A n c zs S m d ss x a b W0 hn hn2 hz ((hss.below hb0).more (by omega)) hk hk2 ((hst.below hb0).more (by omega))
  have HI := Lib.hid ((hss.below hb0).more (show w.heap.size ≤ W0.heap.size by omega))
  unfold startS startM
  have HN := Lib.hid hn
  clear hss hst hb0 a0 a1 hs hk hz
  cases ht : trickB zs ss x a b with
  | false =>
    rw [ht] at CT
    clear ht hn
    go_enter Tryz.func40, Tryz.ntmps40
    go_wp2_with fail
    rw [← hW0]
    clear hW0
    go_wp2_with fail
    refine CT.mono ?_
    rintro e w1 ⟨rfl, hb1⟩
    have HB1 := Lib.hid (HB0.out.trans (hb1.mono (by rw [HS0.out]; omega)))
    have HX := Lib.hid ((hb1.block (w.heap.size + 1) (by rw [HS0.out]; omega)).trans HA1.out)
    have k4 := (cell_at HX.out 0).trans rfl
    have k5 := (cell_at HX.out 1).trans rfl
    have f4 := frz HX.out 0
    have f5 := frz HX.out 1
    obtain ⟨HP1, HP2, _⟩ := put_box (x := .slice none 0 0) (y := .int .i64 0) HX.out HB1.out (by omega)
    have HP1 := Lib.hid HP1
    have HP2 := Lib.hid HP2
    clear hb1 CT t0 t1 t2 t3 t4
    go_wp2
    (try simp only [Exit.inBlock, Exit.then])
    refine bodyPost_ret (results_cs rfl _ rfl rfl HP1.out) rfl ?_
    exact ⟨none, 0, rfl, World.ownsRow_nil _ _ _ _, HP2.out⟩
  | true =>
    have hp := (trick_parts ht).2.1
    have h12 := (okB_yes (trick_parts ht).1).1
    rw [hn] at hp h12
    rw [ht] at CT
    clear ht hn
    go_enter Tryz.func40, Tryz.ntmps40
    go_wp2_with fail
    rw [← hW0]
    clear hW0
    go_wp2_with fail
    refine CT.mono ?_
    rintro e w1 ⟨rfl, hb1⟩
    obtain ⟨ba, oa, rfl, _, _⟩ := HI.out 0 (by rw [HN.out]; omega)
    have HB1 := Lib.hid hb1
    have c00 := (hb1.block w.heap.size (by rw [HS0.out]; omega)).trans HA0.out
    have HL := Lib.hid (World.ownsRow_lit (base := w1.heap.size) (e := 3) (size := 1) w1 #[] 0 (Nat.le_refl _) (Nat.zero_le _) rfl)
    have HL2 := Lib.hid ((Below.refl w1.heap.size w1).alloc (Nat.le_refl _) (.cells #[] 3))
    have hl2s := HL2.out.size
    have HXL := Lib.hid (((HI.out.below hb1).more hb1.size).below HL2.out)
    have hs1 := hb1.size
    have c0 := (cell_at ((HL2.out.block w.heap.size (by have := HS0.out; omega)).trans c00) 0).trans rfl
    clear c00 hb1 CT t0 t1 t2 t3 t4
    go_wp2_with (at_builtin; refine app_any rfl (.tmp 8) (.tmp 10) 22 rfl w1.heap.size 3 i0 8 Tryz.underlying22 hi hz0 hz1 hz2 (by decide) (some ⟨w1.heap.size, 0, none⟩) 0 0 [] rfl HL.out (some ⟨ba, oa, none⟩) n c zs rfl HN.out (fun e => by cases e) w1.heap.size HXL.out (by decide) (by omega) hl2s (fun a e => by cases e; rfl) ?_)
    intro A5 c5 w5 hown5 hgr5
    (try rw [Nat.zero_add] at hown5)
    have HB5 := Lib.hid ((HB1.out.trans (HL2.out.mono hs1)).grown hgr5 (by omega) (fun k hk => by simp only [Option.some.injEq] at hk; omega))
    have HBW := Lib.hid (HB0.out.trans (HB5.out.mono (by rw [HS0.out]; omega)))
    have HX := Lib.hid ((HB5.out.block (w.heap.size + 1) (by rw [HS0.out]; omega)).trans HA1.out)
    have k4 := (cell_at HX.out 0).trans rfl
    have k5 := (cell_at HX.out 1).trans rfl
    have f4 := frz HX.out 0
    have f5 := frz HX.out 1
    obtain ⟨HP1, HP2, HP3⟩ := put_box (x := .slice A5 n c5) (y := .int .i64 (-1)) HX.out HBW.out (by omega)
    have HP1 := Lib.hid HP1
    have HP2 := Lib.hid HP2
    have HO := Lib.hid (own_mono (base' := w.heap.size) (own_gr hown5 HP3 (fun j hj e => by have h1 := (own_lo hown5 j hj).1; injection e with e; have h2 := HS0.out; omega)) (by have h2 := HS0.out; omega))
    clear hown5 hgr5 c0 HP3
    go_wp2
    (try simp only [Exit.inBlock, Exit.then])
    refine bodyPost_ret (results_cs rfl _ rfl rfl HP1.out) rfl ?_
    exact ⟨A5, c5, by rw [HN.out]; rfl, by rw [HN.out]; exact HO.out, HP2.out⟩
end Go.Proofs.YtibephoepkofnaaGreat.Tsq
