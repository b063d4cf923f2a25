/- Tricks, of the program: which claims and tricks are valid (claimOk, TrickOk), how many choices one has (CountChoices), how it starts (StartScene), whether its claim holds (ClaimHolds). -/
import Derived.Test.YtibephoepkofnaaTia
import Derived.Test.YtibephoepkofnaaTsq
import Derived.Test.YtibephoepkofnaaShelf
set_option linter.unusedVariables false
set_option maxRecDepth 20000
namespace Go.Proofs.Ytibephoepkofnaa.Tip
open Go.RowKit Fr _root_.Go.Proofs.Ytibephoepkofnaa.Own Pk Pl Ins Sam Rws Cat Pok Arr Mvp Tst Tfp Tso Tsp Tsq
open Tia (idxB)

theorem impl_step (n : Int) (s : SR) (w : World) : Calls Try.prog 10 #[.int .i64 n, s.v] w fun e w' => e = .returned (.bool (stepB n s)) ∧ Below w.heap.size w w' := Tia.impl_step n s w
/-- where the first of m things lies of which p holds -/
def firstI (p : Nat → Bool) (m : Nat) : Int := match (List.range m).find? p with | some j => (j : Int) | none => -1
def anyI (p : Nat → Bool) (m : Nat) : Bool := (List.range m).any p
theorem find_range {p : Nat → Bool} {m : Nat} : ∀ k, k < m → p k = true → (∀ j, j < k → p j = false) → (List.range m).find? p = some k := by
  intro k hk h1 h2
  rw [List.find?_eq_some_iff_append]
  refine ⟨h1, List.range k, (List.range (m - k - 1)).map fun i => k + 1 + i, ?_, fun a ha => by simp [h2 a (List.mem_range.1 ha)]⟩
  obtain ⟨d, rfl⟩ : ∃ d, m = k + 1 + d := ⟨m - k - 1, by omega⟩
  rw [show k + 1 + d - k - 1 = d by omega, List.range_add, List.range_succ, List.append_assoc]
  rfl
theorem first_at {p : Nat → Bool} {m k : Nat} (hk : k < m) (h1 : p k = true) (h2 : ∀ j, j < k → p j = false) : firstI p m = k := by
  unfold firstI; rw [find_range k hk h1 h2]
theorem first_no {p : Nat → Bool} {m : Nat} (h2 : ∀ j, j < m → p j = false) : firstI p m = -1 := by
  unfold firstI
  have : (List.range m).find? p = none := by
    rw [List.find?_eq_none]
    intro j hj
    rw [h2 j (List.mem_range.1 hj)]
    simp
  rw [this]
theorem any_first (p : Nat → Bool) (m : Nat) : decide (0 ≤ firstI p m) = anyI p m := by
  unfold firstI anyI
  cases h : (List.range m).find? p with
  | none =>
    have := List.find?_eq_none.1 h
    rw [decide_eq_false (by simp)]
    symm
    rw [List.any_eq_false]
    intro j hj
    exact this j hj
  | some j =>
    rw [decide_eq_true (by simp)]
    symm
    rw [List.any_eq_true]
    exact ⟨j, List.mem_of_find?_eq_some h, by simpa using List.find?_some h⟩
/-- does a step note a card? -/
def noteB (s : SR) : Bool := decide (s.k = 3 ∧ s.d = 0 ∧ s.q = 0)
set_option maxHeartbeats 1000000 in
theorem index_any (S : Option Addr) (m d : Nat) (ss : List SR) (w : World) (hm : ss.length = m) (hm2 : m ≤ 1048576) (hst : StepsAt w w.heap.size S ss) :
    Calls Try.prog 67 #[.slice S m d, .func (.func 59) #[] #[]] w
      fun e w' => e = .returned (.int .i64 (firstI (fun j => noteB (ss.getD j sr0)) m)) ∧ Below w.heap.size w w' := by
  obtain ⟨R, hR⟩ : ∃ R, R = firstI (fun j => noteB (ss.getD j sr0)) m := ⟨_, rfl⟩
  rw [← hR]
  have HR := Lib.hid hR
  have HST := Lib.hid hst
  have HM := Lib.hid hm
  clear hR hst hm
  go_enter Try.func67, Try.ntmps67
  go_wp2
  go_loopg [5, 8] m (fun g _ i wr => ∃ k : Nat, k ≤ m ∧ g = m - k ∧ i = .int .i64 (k : Int) ∧ Hid (∀ j, j < k → noteB (ss.getD j sr0) = false) ∧ Hid (Below w.heap.size w wr))
  case atStart => exact ⟨0, Nat.zero_le _, rfl, rfl, Lib.hid (fun j hj => absurd hj (Nat.not_lt_zero _)), Lib.hid (Below.refl _ _)⟩
  case round =>
    obtain ⟨k, hk, hg, rfl, HK, HB⟩ := hrel
    by_cases hlt : k < m
    · obtain ⟨b1, o1, rfl, hbb, p0, p1, p2, p3⟩ := (HST.out.below HB.out) k (by rw [HM.out]; exact hlt)
      have HN := Lib.hid (fun (W : World) => Tia.is_note (ss.getD k sr0) W)
      have hnn : noteB (ss.getD k sr0) = decide ((ss.getD k sr0).k = 3 ∧ (ss.getD k sr0).d = 0 ∧ (ss.getD k sr0).q = 0) := rfl
      cases hp : noteB (ss.getD k sr0) with
      | true =>
        have HE := Lib.hid (show R = (k : Int) by rw [HR.out]; exact first_at hlt hp HK.out)
        rw [← hnn, hp] at HN
        clear hnn hp
        generalize ss.getD k sr0 = st at *
        obtain ⟨x0, x1, x2, x3⟩ := st
        simp only at p0 p1 p2 p3
        go_wp2_with fail
        refine (HN.out _).mono ?_
        rintro e w' ⟨rfl, hb⟩
        have HB2 := Lib.hid (HB.out.trans (hb.mono HB.out.size))
        clear hb
        go_wp2
        go_ret
        exact ⟨by rw [HE.out]; rfl, HB2.out⟩
      | false =>
        have HE := Lib.hid (show ∀ j, j < k + 1 → noteB (ss.getD j sr0) = false from fun j hj => by
          by_cases e : j = k
          · rw [e]; exact hp
          · exact HK.out j (by omega))
        rw [← hnn, hp] at HN
        clear hnn hp
        generalize ss.getD k sr0 = st at *
        obtain ⟨x0, x1, x2, x3⟩ := st
        simp only at p0 p1 p2 p3
        go_wp2_with fail
        refine (HN.out _).mono ?_
        rintro e w' ⟨rfl, hb⟩
        have HB2 := Lib.hid (HB.out.trans (hb.mono HB.out.size))
        clear hb
        go_wp2
        go_roundg (m - (k + 1))
        case rel => exact ⟨k + 1, by omega, rfl, by go_num, HE, HB2⟩
        case measure => omega
    · have HE := Lib.hid (show R = -1 by rw [HR.out]; exact first_no fun j hj => HK.out j (by omega))
      go_wp2
      go_ret
      exact ⟨by rw [HE.out]; rfl, HB.out⟩
theorem contains_any (S : Option Addr) (m d : Nat) (ss : List SR) (w : World) (hm : ss.length = m) (hm2 : m ≤ 1048576) (hst : StepsAt w w.heap.size S ss) :
    Calls Try.prog 58 #[.slice S m d, .func (.func 59) #[] #[]] w
      fun e w' => e = .returned (.bool (anyI (fun j => noteB (ss.getD j sr0)) m)) ∧ Below w.heap.size w w' := by
  have HI := Lib.hid (index_any S m d ss w hm hm2 hst)
  have HA := Lib.hid (any_first (fun j => noteB (ss.getD j sr0)) m)
  clear hst
  generalize firstI (fun j => noteB (ss.getD j sr0)) m = x at *
  go_enter Try.func58, Try.ntmps58
  go_wp2_with fail
  refine HI.out.mono ?_
  rintro e w1 ⟨rfl, hb⟩
  have HB := Lib.hid hb
  clear hb
  go_wp2
  go_ret
  exact ⟨by rw [← HA.out]; rfl, HB.out⟩
/-- where all steps are valid, a step notes a card exactly if its kind says so -/
theorem any_noted {ss : List SR} {n : Int} (h : ∀ i, i < ss.length → stepB n (ss.getD i sr0) = true) : anyI (fun j => noteB (ss.getD j sr0)) ss.length = notedB ss ss.length := by
  have e : ∀ i, i < ss.length → noteB (ss.getD i sr0) = decide ((ss.getD i sr0).k = 3) := fun i hi => by
    have hs := h i hi
    unfold noteB
    by_cases hk : (ss.getD i sr0).k = 3
    · unfold stepB at hs
      rw [Bool.and_eq_true, if_neg (by rw [hk]; decide), if_neg (by rw [hk]; decide), if_pos hk, Bool.and_eq_true] at hs
      rw [decide_eq_true hk, decide_eq_true ⟨hk, of_decide_eq_true hs.2.1⟩]
    · rw [decide_eq_false hk, decide_eq_false (fun c => hk c.1)]
  unfold anyI notedB
  rw [List.take_length, Bool.eq_iff_iff, List.any_eq_true, List.any_eq_true]
  constructor
  · rintro ⟨i, hi, hn⟩
    have hi' := List.mem_range.1 hi
    refine ⟨ss.getD i sr0, ?_, by rw [← e i hi']; exact hn⟩
    rw [List.getD_eq_getElem?_getD, List.getElem?_eq_getElem hi']
    exact List.getElem_mem _
  · rintro ⟨s, hs, hn⟩
    obtain ⟨i, hi, rfl⟩ := List.getElem_of_mem hs
    refine ⟨i, List.mem_range.2 hi, ?_⟩
    show noteB (ss.getD i sr0) = true
    rw [e i hi, List.getD_eq_getElem?_getD, List.getElem?_eq_getElem hi]
    exact hn
set_option maxHeartbeats 2000000 in
theorem impl_claim (A : Option Addr) (n c : Nat) (zs : List Int) (S : Option Addr) (m d : Nat) (ss : List SR) (x a b : Int) (w : World) (hn : zs.length = n) (h1 : 1 ≤ n) (hn2 : n ≤ 12) (hz : Fits zs) (hss : IntsAt w w.heap.size .i64 A zs)
    (hm : ss.length = m) (hm2 : m ≤ 1048576) (hst : StepsAt w w.heap.size S ss) :
    Calls Try.prog 40 #[Trk.trV A n c S m d x a b] w fun e w' => e = .returned (.bool (claimB zs x a b (anyI (fun j => noteB (ss.getD j sr0)) m))) ∧ Below w.heap.size w w' := by
  obtain ⟨R, hR⟩ : ∃ R, R = claimB zs x a b (anyI (fun j => noteB (ss.getD j sr0)) m) := ⟨_, rfl⟩
  rw [← hR]
  have hA0 := heap_alloc_new w (.cells #[.slice A n c, .slice S m d, .int .i64 x, .int .i64 a, .int .i64 b] 40)
  have hbb := box_below w (.cells #[.slice A n c, .slice S m d, .int .i64 x, .int .i64 a, .int .i64 b] 40)
  obtain ⟨u0, u1, u2, u3, u4⟩ := five_at w (.slice A n c) (.slice S m d) (.int .i64 x) (.int .i64 a) (.int .i64 b) 40
  have HP := Lib.hid (fun y : Int => impl_pos A n c zs y _ hn (by omega) hz ((hss.below hbb).more (by simp)))
  have HC := Lib.hid (contains_any S m d ss _ hm hm2 ((hst.below hbb).more (by simp)))
  have HA0 := Lib.hid hA0
  have HBB := Lib.hid hbb
  have HN := Lib.hid hn
  clear hn hm hst hss hA0 hbb
  by_cases x0 : x = 0 ∨ x = 4
  · have HS := Lib.hid (show decide (a = 0 ∧ b = 0) = R by rw [hR]; unfold claimB; rw [if_pos x0])
    have ha := beqd a 0
    have hb := beqd b 0
    clear hR
    rcases x0 with rfl | rfl
    all_goals
      go_enter Try.func40, Try.ntmps40
      go_wp2
      all_goals (go_ret; exact ⟨ret_b (by rw [← HS.out, Bool.eq_iff_iff]; simp_all), box_below _ _⟩)
  by_cases x1 : x = 1
  · subst x1
    generalize anyI (fun j => noteB (ss.getD j sr0)) m = t at *
    have HS := Lib.hid (show (t && decide (0 ≤ a ∧ a < (n : Int) ∧ b = 0)) = R by rw [hR]; unfold claimB; rw [HN.out]; rfl)
    have HI := fun W => Tia.impl_in a (n : Int) W
    have hie : idxB a (n : Int) = decide (0 ≤ a ∧ a < (n : Int)) := rfl
    clear hR
    cases t with
    | false =>
      go_enter Try.func40, Try.ntmps40
      go_wp2_with fail
      refine HC.out.mono ?_
      rintro e w1 ⟨rfl, hb⟩
      have HB1 := Lib.hid (HBB.out.trans (hb.mono HBB.out.size))
      clear hb u0 u1 u2 u3 u4
      go_wp2
      go_ret
      exact ⟨ret_b (by rw [← HS.out]; rfl), HB1.out⟩
    | true =>
      go_enter Try.func40, Try.ntmps40
      go_wp2_with fail
      refine HC.out.mono ?_
      rintro e w1 ⟨rfl, hb⟩
      have HB1 := Lib.hid (HBB.out.trans (hb.mono HBB.out.size))
      have c0 := (hb.block w.heap.size (by simp)).trans HA0.out
      have y3 := (cell_at c0 3).trans rfl
      have y4 := (cell_at c0 4).trans rfl
      clear hb u0 u1 u2 u3 u4 c0
      go_wp2_with fail
      refine (HI _).mono ?_
      rintro e w2 ⟨rfl, rfl⟩
      rw [hie]
      by_cases ha : 0 ≤ a ∧ a < (n : Int)
      · rw [decide_eq_true ha]
        go_wp2
        all_goals (go_ret; exact ⟨ret_b (by rw [← HS.out, beqd, Bool.eq_iff_iff]; simp_all), HB1.out⟩)
      · rw [decide_eq_false ha]
        go_wp2
        all_goals (go_ret; exact ⟨ret_b (by rw [← HS.out, Bool.eq_iff_iff]; simp; omega), HB1.out⟩)
  by_cases x2 : x = 2
  · subst x2
    have HS := Lib.hid (show decide (0 ≤ a ∧ a ≤ (n : Int) ∧ b = 0) = R by rw [hR]; unfold claimB; rw [HN.out]; rfl)
    clear hR
    go_enter Try.func40, Try.ntmps40
    go_wp2
    all_goals (go_ret; exact ⟨ret_b (by rw [← HS.out, Bool.eq_iff_iff]; simp_all <;> omega), box_below _ _⟩)
  by_cases x3 : x = 3
  · subst x3
    have HS := Lib.hid (show (decide (0 ≤ posF zs a) && decide (0 ≤ b ∧ b < (n : Int))) = R by rw [hR]; unfold claimB; rw [HN.out]; rfl)
    have CP := HP.out a
    have HI := fun W => Tia.impl_in b (n : Int) W
    have hie : idxB b (n : Int) = decide (0 ≤ b ∧ b < (n : Int)) := rfl
    clear hR
    generalize posF zs a = p at CP HS
    by_cases hp : 0 ≤ p
    · go_enter Try.func40, Try.ntmps40
      go_wp2_with fail
      refine CP.mono ?_
      rintro e w' ⟨rfl, rfl⟩
      go_wp2_with fail
      refine (HI _).mono ?_
      rintro e w' ⟨rfl, rfl⟩
      go_wp2
      all_goals (go_ret; exact ⟨ret_b (by rw [← HS.out, Bool.eq_iff_iff]; simp [hp]), HBB.out⟩)
    · go_enter Try.func40, Try.ntmps40
      go_wp2_with fail
      refine CP.mono ?_
      rintro e w' ⟨rfl, rfl⟩
      go_wp2
      all_goals (go_ret; exact ⟨ret_b (by rw [← HS.out, Bool.eq_iff_iff]; simp; omega), HBB.out⟩)
  · have HS := Lib.hid (show false = R by rw [hR]; unfold claimB; rw [if_neg x0, if_neg x1, if_neg x2, if_neg x3])
    have h0 : ¬ x = 0 := fun h => x0 (Or.inl h)
    have h4 : ¬ x = 4 := fun h => x0 (Or.inr h)
    clear hR x0
    go_enter Try.func40, Try.ntmps40
    go_wp2
    go_ret
    exact ⟨ret_b HS.out, HBB.out⟩
set_option maxHeartbeats 2000000 in
theorem impl_trick (A : Option Addr) (n c : Nat) (zs : List Int) (S : Option Addr) (m d : Nat) (ss : List SR) (x a b : Int) (w : World) (hn : zs.length = n) (hn2 : n ≤ 1048576) (hz : Fits zs) (hss : IntsAt w w.heap.size .i64 A zs)
    (hm : ss.length = m) (hm2 : m ≤ 1048576) (hst : StepsAt w w.heap.size S ss) :
    Calls Try.prog 14 #[Trk.trV A n c S m d x a b] w fun e w' => e = .returned (.bool (trickB zs ss x a b)) ∧ Below w.heap.size w w' := by
  obtain ⟨R, hR⟩ : ∃ R, R = trickB zs ss x a b := ⟨_, rfl⟩
  rw [← hR]
  obtain ⟨W0, hW0⟩ : ∃ W0, W0 = w.alloc (.cells #[.slice A n c, .slice S m d, .int .i64 x, .int .i64 a, .int .i64 b] 40) := ⟨_, rfl⟩
  have hs0 : W0.heap.size = w.heap.size + 1 := by rw [hW0]; simp
  have hb0 : Below w.heap.size w W0 := by rw [hW0]; exact box_below _ _
  have A0 : W0.heap[w.heap.size]? = some (.cells #[.slice A n c, .slice S m d, .int .i64 x, .int .i64 a, .int .i64 b] 40 (0, 0)) := by rw [hW0]; exact heap_alloc_new _ _
  have CO := impl_ok A n c zs W0 hn (by omega) hz ((hss.below hb0).more (by omega))
  have u0 := (cell_at A0 0).trans rfl
  obtain ⟨t, ht⟩ : ∃ t, t = okB zs := ⟨_, rfl⟩
  rw [← ht] at CO
  have HZ := Lib.hid hz
  have HI := Lib.hid hss
  have HST := Lib.hid hst
  have HB0 := Lib.hid hb0
  have HA0 := Lib.hid A0
  have HS0 := Lib.hid hs0
  have HN := Lib.hid hn
  have HM := Lib.hid hm
  clear hss hst hb0 A0 hs0 hz
  cases t with
  | false =>
    have HS := Lib.hid (show false = R by rw [hR, trick_no1 ht.symm])
    clear hR hn hm ht
    go_enter Try.func14, Try.ntmps14
    go_wp2_with fail
    rw [← hW0]
    clear hW0
    go_wp2_with fail
    refine CO.mono ?_
    rintro e w1 ⟨rfl, hb1⟩
    have HB1 := Lib.hid (HB0.out.trans (hb1.mono (by rw [HS0.out]; omega)))
    clear hb1 CO u0
    go_wp2
    go_ret
    exact ⟨ret_b HS.out, HB1.out⟩
  | true =>
    by_cases h0 : 1 ≤ n ∧ m ≤ 12
    · have HYES := Lib.hid (fun h : (∀ i, i < m → stepB (n : Int) (ss.getD i sr0) = true) => (show claimB zs x a b (notedB ss m) = R by rw [hR, trick_yes ht.symm (by rw [hn, hm]; exact h0) (by rw [hn, hm]; exact h), hm]))
      have HNO := Lib.hid (fun (k : Nat) (hk : k < m) (h : stepB (n : Int) (ss.getD k sr0) = false) => (show false = R by rw [hR, trick_no3 (by rw [hm]; exact hk) (by rw [hn]; exact h)]))
      have H0 := Lib.hid h0
      have H12 := Lib.hid (show n ≤ 12 by rw [← hn]; exact (okB_yes ht.symm).1)
      have hne : ((n : Int) == 0) = false := by rw [beq_eq_false_iff_ne]; omega
      have hm12 : (m : Int) ≤ 12 := by omega
      clear hR hn hm ht h0
      go_enter Try.func14, Try.ntmps14
      go_wp2_with fail
      rw [← hW0]
      clear hW0
      go_wp2_with fail
      refine CO.mono ?_
      rintro e w1 ⟨rfl, hb1⟩
      have HB1 := Lib.hid hb1
      have c0 := (hb1.block w.heap.size (by rw [HS0.out]; omega)).trans HA0.out
      have y1 := (cell_at c0 1).trans rfl
      have y0 := (cell_at c0 0).trans rfl
      clear hb1 CO u0 c0
      go_wp2
      go_loopg [4, 24] m (fun g _ s24 wr => ∃ k : Nat, k ≤ m ∧ g = m - k ∧ s24 = .int .i64 (k : Int) ∧ Hid (∀ i, i < k → stepB (n : Int) (ss.getD i sr0) = true) ∧ Hid (Below W0.heap.size W0 wr))
      case atStart => exact ⟨0, Nat.zero_le _, rfl, rfl, Lib.hid (fun i hi => absurd hi (Nat.not_lt_zero _)), HB1⟩
      case round =>
        obtain ⟨k, hk, hg, rfl, HE, HBW⟩ := hrel
        clear y1 y0
        have hsz := HBW.out.size
        by_cases hlt : k < m
        · obtain ⟨b1, o1, rfl, hbb, p0, p1, p2, p3⟩ := (HST.out.below (HB0.out.trans (HBW.out.mono (by rw [HS0.out]; omega)))) k (by rw [HM.out]; exact hlt)
          have HNOk := Lib.hid (HNO.out k hlt)
          have CS := fun W => Tia.impl_step (n : Int) (ss.getD k sr0) W
          obtain ⟨r, hr⟩ : ∃ r, r = stepB (n : Int) (ss.getD k sr0) := ⟨_, rfl⟩
          rw [← hr] at CS HNOk
          have HY := Lib.hid (fun e : r = true => (show ∀ i, i < k + 1 → stepB (n : Int) (ss.getD i sr0) = true from fun i hi => by
            by_cases hik : i = k
            · rw [hik, ← hr]; exact e
            · exact HE.out i (by omega)))
          clear hr
          generalize ss.getD k sr0 = st at *
          obtain ⟨x0, x1, x2, x3⟩ := st
          simp only at p0 p1 p2 p3
          have q0 := heap_alloc_new wr (.cells #[.int .i64 x0, .int .i64 x1, .int .i64 x2, .int .i64 x3] 29)
          have HBA := Lib.hid (box_below wr (.cells #[.int .i64 x0, .int .i64 x1, .int .i64 x2, .int .i64 x3] 29))
          have z0 := (cell_at ((HBA.out.block w.heap.size (by have h := HS0.out; omega)).trans ((HBW.out.block w.heap.size (by rw [HS0.out]; omega)).trans HA0.out)) 0).trans rfl
          cases r with
          | false =>
            have HS := Lib.hid (HNOk.out rfl)
            clear HNOk HY q0
            go_wp2_with fail
            refine (CS _).mono ?_
            rintro e w5 ⟨rfl, hb5⟩
            have HB5 := Lib.hid ((HB0.out.trans (HBW.out.mono (by rw [HS0.out]; omega))).trans ((HBA.out.trans (hb5.mono HBA.out.size)).mono (by rw [HS0.out] at hsz; omega)))
            clear hb5 CS z0
            go_wp2
            go_ret
            exact ⟨ret_b HS.out, HB5.out⟩
          | true =>
            have HE2 := Lib.hid (HY.out rfl)
            clear HNOk HY
            go_wp2_with fail
            refine (CS _).mono ?_
            rintro e w5 ⟨rfl, hb5⟩
            have HB5 := Lib.hid (HBW.out.trans ((HBA.out.trans (hb5.mono HBA.out.size)).mono hsz))
            have c5 := (hb5.block wr.heap.size (by simp)).trans q0
            have y0 := (cell_at c5 0).trans rfl
            clear hb5 CS q0 c5 z0
            go_wp2
            go_roundg (m - (k + 1))
            case rel => exact ⟨k + 1, by omega, rfl, by go_num, HE2, HB5⟩
            case measure => omega
        · have hkm : k = m := by omega
          subst hkm
          have HYS := Lib.hid (HYES.out HE.out)
          have hbt := HB0.out.trans (HBW.out.mono (by rw [HS0.out]; omega))
          have CC := impl_claim A n c zs S k d ss x a b wr HN.out H0.out.1 H12.out HZ.out ((HI.out.below hbt).more hbt.size) HM.out hm2 ((HST.out.below hbt).more hbt.size)
          rw [show anyI (fun j => noteB (ss.getD j sr0)) k = notedB ss k by rw [← HM.out]; exact any_noted (n := (n : Int)) (by rw [HM.out]; exact HE.out), HYS.out] at CC
          have HB5 := Lib.hid hbt
          have c5 := (HBW.out.block w.heap.size (by rw [HS0.out]; omega)).trans HA0.out
          have y0 := (cell_at c5 0).trans rfl
          have y1 := (cell_at c5 1).trans rfl
          have y2 := (cell_at c5 2).trans rfl
          have y3 := (cell_at c5 3).trans rfl
          have y4 := (cell_at c5 4).trans rfl
          clear hbt c5 HE HBW HYS
          go_wp2_with fail
          refine CC.mono ?_
          rintro e w6 ⟨rfl, hb6⟩
          have HB6 := Lib.hid (HB5.out.trans (hb6.mono HB5.out.size))
          clear hb6 CC y0 y1 y2 y3 y4
          go_wp2
          go_ret
          exact ⟨rfl, HB6.out⟩
    · have HS := Lib.hid (show false = R by rw [hR, trick_no2 (by rw [hn, hm]; exact h0)])
      clear hR hn hm ht
      by_cases hz0 : n = 0
      · subst hz0
        clear h0
        go_enter Try.func14, Try.ntmps14
        go_wp2_with fail
        rw [← hW0]
        clear hW0
        go_wp2_with fail
        refine CO.mono ?_
        rintro e w1 ⟨rfl, hb1⟩
        have HB1 := Lib.hid (HB0.out.trans (hb1.mono (by rw [HS0.out]; omega)))
        have c0 := (hb1.block w.heap.size (by rw [HS0.out]; omega)).trans HA0.out
        have y0 := (cell_at c0 0).trans rfl
        clear hb1 CO u0 c0
        go_wp2
        go_ret
        exact ⟨ret_b HS.out, HB1.out⟩
      · have hne : ((n : Int) == 0) = false := by rw [beq_eq_false_iff_ne]; omega
        have hm12 : 12 < (m : Int) := by omega
        clear h0
        go_enter Try.func14, Try.ntmps14
        go_wp2_with fail
        rw [← hW0]
        clear hW0
        go_wp2_with fail
        refine CO.mono ?_
        rintro e w1 ⟨rfl, hb1⟩
        have HB1 := Lib.hid (HB0.out.trans (hb1.mono (by rw [HS0.out]; omega)))
        have c0 := (hb1.block w.heap.size (by rw [HS0.out]; omega)).trans HA0.out
        have y1 := (cell_at c0 1).trans rfl
        have y0 := (cell_at c0 0).trans rfl
        clear hb1 CO u0 c0
        go_wp2
        go_ret
        exact ⟨ret_b HS.out, HB1.out⟩
/-- a valid step is a choice exactly if its kind says so -/
theorem choice_kind {n : Int} {s : SR} (h : stepB n s = true) : decide (s.k = 2 ∧ s.d = 0 ∧ s.q = 0) = decide (s.k = 2) := by
  by_cases hk : s.k = 2
  · unfold stepB at h
    rw [Bool.and_eq_true, if_neg (by rw [hk]; decide), if_pos hk, Bool.and_eq_true] at h
    rw [decide_eq_true hk, decide_eq_true ⟨hk, of_decide_eq_true h.2.1⟩]
  · rw [decide_eq_false hk, decide_eq_false (fun c => hk c.1)]
set_option maxHeartbeats 2000000 in
theorem impl_choices (A : Option Addr) (n c : Nat) (zs : List Int) (S : Option Addr) (m d : Nat) (ss : List SR) (x a b : Int) (w : World) (hn : zs.length = n) (hn2 : n ≤ 1048576) (hz : Fits zs) (hss : IntsAt w w.heap.size .i64 A zs)
    (hm : ss.length = m) (hm2 : m ≤ 1048576) (hst : StepsAt w w.heap.size S ss) :
    Calls Try.prog 27 #[Trk.trV A n c S m d x a b] w fun e w' => e = .returned (.int .i64 (cntF zs ss x a b)) ∧ Below w.heap.size w w' := by
  obtain ⟨W0, hW0⟩ : ∃ W0, W0 = w.alloc (.cells #[.slice A n c, .slice S m d, .int .i64 x, .int .i64 a, .int .i64 b] 40) := ⟨_, rfl⟩
  have hs0 : W0.heap.size = w.heap.size + 1 := by rw [hW0]; simp
  have hb0 : Below w.heap.size w W0 := by rw [hW0]; exact box_below _ _
  have A0 : W0.heap[w.heap.size]? = some (.cells #[.slice A n c, .slice S m d, .int .i64 x, .int .i64 a, .int .i64 b] 40 (0, 0)) := by rw [hW0]; exact heap_alloc_new _ _
  have CT := impl_trick A n c zs S m d ss x a b W0 hn hn2 hz ((hss.below hb0).more (by omega)) hm hm2 ((hst.below hb0).more (by omega))
  have u0 := (cell_at A0 0).trans rfl
  have u1 := (cell_at A0 1).trans rfl
  have u2 := (cell_at A0 2).trans rfl
  have u3 := (cell_at A0 3).trans rfl
  have u4 := (cell_at A0 4).trans rfl
  have HST := Lib.hid hst
  have HB0 := Lib.hid hb0
  have HA0 := Lib.hid A0
  have HS0 := Lib.hid hs0
  have HM := Lib.hid hm
  obtain ⟨t, ht⟩ : ∃ t, t = trickB zs ss x a b := ⟨_, rfl⟩
  rw [← ht] at CT
  unfold cntF
  rw [← ht]
  clear hss hst hb0 A0 hs0 hz hn hm
  cases t with
  | false =>
    clear ht
    go_enter Try.func27, Try.ntmps27
    go_wp2_with fail
    rw [← hW0]
    clear hW0
    go_wp2_with fail
    refine CT.mono ?_
    rintro e w1 ⟨rfl, hb1⟩
    have HB1 := Lib.hid (HB0.out.trans (hb1.mono (by rw [HS0.out]; omega)))
    clear hb1 CT u0 u1 u2 u3 u4
    go_wp2
    go_ret
    exact ⟨rfl, HB1.out⟩
  | true =>
    have HTP := Lib.hid (fun i (hi : i < m) => choice_kind ((trick_parts ht.symm).2.2.2.1 i (by rw [HM.out]; exact hi)))
    have HML := Lib.hid (show countF (ss.take m) = countF ss by rw [List.take_of_length_le (by rw [HM.out]; exact Nat.le_refl _)])
    clear ht
    go_enter Try.func27, Try.ntmps27
    go_wp2_with fail
    rw [← hW0]
    clear hW0
    go_wp2_with fail
    refine CT.mono ?_
    rintro e w1 ⟨rfl, hb1⟩
    have HB1 := Lib.hid hb1
    have c0 := (hb1.block w.heap.size (by rw [HS0.out]; omega)).trans HA0.out
    have y1 := (cell_at c0 1).trans rfl
    clear hb1 CT u0 u1 u2 u3 u4 c0
    go_wp2
    go_loopg [3, 5, 12] m (fun g s3 _ s12 wr => ∃ k : Nat, k ≤ m ∧ g = m - k ∧ s12 = .int .i64 (k : Int) ∧ (∃ q : Nat, q ≤ k ∧ Hid (q = countF (ss.take k)) ∧ s3 = .int .i64 (q : Int)) ∧ Hid (Below W0.heap.size W0 wr))
    case atStart => exact ⟨0, Nat.zero_le _, rfl, rfl, ⟨0, Nat.le_refl _, Lib.hid rfl, rfl⟩, HB1⟩
    case round =>
      obtain ⟨k, hk, hg, rfl, ⟨q, hq, HQ, rfl⟩, HBW⟩ := hrel
      clear y1
      have hsz := HBW.out.size
      by_cases hlt : k < m
      · obtain ⟨b1, o1, rfl, hbb, p0, p1, p2, p3⟩ := (HST.out.below (HB0.out.trans (HBW.out.mono (by rw [HS0.out]; omega)))) k (by rw [HM.out]; exact hlt)
        have HNX := Lib.hid (count_next (ss := ss) (k := k) (by rw [HM.out]; exact hlt))
        have HC := Lib.hid (fun W => Tia.is_choice (ss.getD k sr0) W)
        have HTK := Lib.hid (HTP.out k hlt)
        rw [HTK.out] at HC
        clear HTK
        generalize ss.getD k sr0 = st at *
        obtain ⟨x0, x1, x2, x3⟩ := st
        simp only at p0 p1 p2 p3 HNX HC
        have HBA := Lib.hid (HBW.out.trans ((box_below wr (.cells #[.int .i64 x0, .int .i64 x1, .int .i64 x2, .int .i64 x3] 29)).mono hsz))
        have q0 := heap_alloc_new wr (.cells #[.int .i64 x0, .int .i64 x1, .int .i64 x2, .int .i64 x3] 29)
        have y0 := (cell_at q0 0).trans rfl
        have y1 := (cell_at q0 1).trans rfl
        have y2 := (cell_at q0 2).trans rfl
        have y3 := (cell_at q0 3).trans rfl
        clear q0
        by_cases h2 : x0 = 2
        · have HX := Lib.hid (show q + 1 = countF (ss.take (k + 1)) by rw [HNX.out, if_pos h2, HQ.out])
          rw [decide_eq_true h2] at HC
          clear HNX HQ h2
          go_wp2_with fail
          refine (HC.out _).mono ?_
          rintro e w5 ⟨rfl, hb5⟩
          have HB5 := Lib.hid (HBA.out.trans (hb5.mono HBA.out.size))
          clear hb5 y0 y1 y2 y3
          go_wp2
          go_roundg (m - (k + 1))
          case rel => exact ⟨k + 1, by omega, rfl, by go_num, ⟨q + 1, by omega, HX, by go_num⟩, HB5⟩
          case measure => omega
        · have HX := Lib.hid (show q = countF (ss.take (k + 1)) by rw [HNX.out, if_neg h2, HQ.out]; rfl)
          rw [decide_eq_false h2] at HC
          clear HNX HQ h2
          go_wp2_with fail
          refine (HC.out _).mono ?_
          rintro e w5 ⟨rfl, hb5⟩
          have HB5 := Lib.hid (HBA.out.trans (hb5.mono HBA.out.size))
          clear hb5 y0 y1 y2 y3
          go_wp2
          go_roundg (m - (k + 1))
          case rel => exact ⟨k + 1, by omega, rfl, by go_num, ⟨q, by omega, HX, rfl⟩, HB5⟩
          case measure => omega
      · have hkm : k = m := by omega
        subst hkm
        have HE := Lib.hid (HQ.out.trans HML.out)
        have HB5 := Lib.hid (HB0.out.trans (HBW.out.mono (by rw [HS0.out]; omega)))
        clear HQ HBW
        go_wp2
        go_ret
        exact ⟨by rw [HE.out]; rfl, HB5.out⟩

theorem pos_of {zs : List Int} (hz : okB zs = true) {y : Int} (h : 0 ≤ posF zs y) : ∃ j, j < zs.length ∧ cardF (zs.getD j 0) = y ∧ posF zs y = (j : Int) ∧ 0 ≤ y := by
  by_cases hc : ∃ j, j < zs.length ∧ (0 ≤ y ∧ cardF (zs.getD j 0) = y)
  · obtain ⟨j, hj, h0, he⟩ := hc
    exact ⟨j, hj, he, by rw [← he, pos_at hz hj], h0⟩
  · have := (posF_neg zs y).2 (fun j hj hk => hc ⟨j, hj, hk⟩)
    omega
/-- the noted card is at an index: two ways to say it -/
theorem hold_noted {zs : List Int} (hz : okB zs = true) {y : Int} {j : Nat} (hj : j < zs.length) : decide (cardF (zs.getD j 0) = y) = decide (0 ≤ y ∧ posF zs y = (j : Int)) := by
  rw [decide_eq_decide]
  constructor
  · intro h
    subst h
    exact ⟨(ok_parts hz).2.1 j hj, pos_at hz hj⟩
  · rintro ⟨h0, hp⟩
    obtain ⟨i, hi, he, hpi, _⟩ := pos_of hz (y := y) (by omega)
    have : i = j := by omega
    subst this
    exact he
theorem hold_card {zs : List Int} (hz : okB zs = true) {y : Int} {j : Nat} (hj : j < zs.length) : decide (cardF (zs.getD j 0) = y) = decide (posF zs y = (j : Int)) := by
  rw [decide_eq_decide]
  constructor
  · intro h
    subst h
    exact pos_at hz hj
  · intro hp
    obtain ⟨i, hi, he, hpi, _⟩ := pos_of hz (y := y) (by omega)
    have : i = j := by omega
    subst this
    exact he
set_option maxHeartbeats 4000000 in
theorem impl_claims (A : Option Addr) (n c : Nat) (zs : List Int) (S : Option Addr) (m d : Nat) (ss : List SR) (x a b : Int) (A2 : Option Addr) (n2 c2 : Nat) (z2 : List Int) (y : Int) (w : World) (hn : zs.length = n) (hn2 : n ≤ 1048576) (hz : Fits zs) (hss : IntsAt w w.heap.size .i64 A zs)
    (hk : ss.length = m) (hk2 : m ≤ 1048576) (hst : StepsAt w w.heap.size S ss) (hm : z2.length = n2) (hm2 : n2 ≤ 1048576) (hz2 : Fits z2) (hs2 : IntsAt w w.heap.size .i64 A2 z2) :
    Calls Try.prog 25 #[Trk.trV A n c S m d x a b, Scn.scV A2 n2 c2 y] w fun e w' => e = .returned (.bool (claimF zs ss x a b (z2, y))) ∧ Below w.heap.size w w' := by
  obtain ⟨R, hR⟩ : ∃ R, R = claimF zs ss x a b (z2, y) := ⟨_, rfl⟩
  rw [← hR]
  obtain ⟨hs, hb0, a0, a1⟩ := two_at w #[.slice A n c, .slice S m d, .int .i64 x, .int .i64 a, .int .i64 b] #[.slice A2 n2 c2, .int .i64 y] 40 45
  obtain ⟨W0, hW0⟩ : ∃ W0, W0 = (w.alloc (.cells #[.slice A n c, .slice S m d, .int .i64 x, .int .i64 a, .int .i64 b] 40)).alloc (.cells #[.slice A2 n2 c2, .int .i64 y] 45) := ⟨_, rfl⟩
  rw [← hW0] at hs hb0 a0 a1
  have t0 := (cell_at a0 0).trans rfl
  have t1 := (cell_at a0 1).trans rfl
  have t2 := (cell_at a0 2).trans rfl
  have t3 := (cell_at a0 3).trans rfl
  have t4 := (cell_at a0 4).trans rfl
  have HB0 := Lib.hid hb0
  have HA0 := Lib.hid a0
  have HA1 := Lib.hid a1
  have HS0 := Lib.hid hs
  have CT := impl_trick A n c zs S m d ss x a b W0 hn hn2 hz ((hss.below hb0).more (by omega)) hk hk2 ((hst.below hb0).more (by omega))
  have HI := Lib.hid ((hss.below hb0).more (show w.heap.size ≤ W0.heap.size by omega))
  have HI2 := Lib.hid ((hs2.below hb0).more (show w.heap.size ≤ W0.heap.size by omega))
  clear hss hs2 hst hb0 a0 a1 hs
  cases ht : trickB zs ss x a b with
  | false =>
    have HS := Lib.hid (show false = R by rw [hR]; unfold claimF; rw [ht]; rfl)
    rw [ht] at CT
    clear hR ht hn hz hk hm hz2
    go_enter Try.func25, Try.ntmps25
    go_wp2_with fail
    rw [← hW0]
    clear hW0
    go_wp2_with fail
    refine CT.mono ?_
    rintro e w1 ⟨rfl, hb1⟩
    have HB1 := Lib.hid (HB0.out.trans (hb1.mono (by rw [HS0.out]; omega)))
    clear hb1 CT t0 t1 t2 t3 t4
    go_wp2
    go_ret
    exact ⟨ret_b HS.out, HB1.out⟩
  | true =>
    have CA := fun (w1 : World) (hb1 : Below W0.heap.size W0 w1) => impl_arr A n c zs A2 n2 c2 z2 w1 hn (by omega) hz ((HI.out.below hb1).more hb1.size) hm (by omega) hz2 ((HI2.out.below hb1).more hb1.size)
    rw [ht] at CT
    cases hr : arrB zs z2 with
    | false =>
      have HS := Lib.hid (show false = R by rw [hR]; unfold claimF; rw [ht, hr]; rfl)
      rw [hr] at CA
      clear hR ht hr hn hz hk hm hz2
      go_enter Try.func25, Try.ntmps25
      go_wp2_with fail
      rw [← hW0]
      clear hW0
      go_wp2_with fail
      refine CT.mono ?_
      rintro e w1 ⟨rfl, hb1⟩
      have HB1 := Lib.hid hb1
      have c0 := (cell_at ((hb1.block w.heap.size (by rw [HS0.out]; omega)).trans HA0.out) 0).trans rfl
      have c1 := (cell_at ((hb1.block (w.heap.size + 1) (by rw [HS0.out]; omega)).trans HA1.out) 0).trans rfl
      clear hb1 CT t0 t1 t2 t3 t4
      go_wp2_with fail
      refine (CA _ HB1.out).mono ?_
      rintro e w2 ⟨rfl, hb2⟩
      have HB2 := Lib.hid (HB0.out.trans ((HB1.out.trans (hb2.mono HB1.out.size)).mono (by rw [HS0.out]; omega)))
      clear hb2 CA c0 c1
      go_wp2
      go_ret
      exact ⟨ret_b HS.out, HB2.out⟩
    | true =>
      have HS := Lib.hid (show R = holdB zs x a b (z2, y) by rw [hR]; unfold claimF; rw [ht, hr]; rfl)
      obtain ⟨ho1, ho2, hlen⟩ : okB zs = true ∧ okB z2 = true ∧ zs.length = z2.length := by
        unfold arrB at hr
        rw [Bool.and_eq_true, Bool.and_eq_true, Bool.and_eq_true] at hr
        exact ⟨hr.1.1.1, hr.1.1.2, of_decide_eq_true hr.1.2⟩
      have HCL := Lib.hid (trick_parts ht).2.2.2.2
      have HN := Lib.hid hn
      have HM := Lib.hid hm
      have HLN := Lib.hid hlen
      have HO2 := Lib.hid ho2
      have HZ2 := Lib.hid hz2
      rw [hr] at CA
      clear hR ht hr hn hz hk hm hz2 hlen ho1 ho2
      go_enter Try.func25, Try.ntmps25
      go_wp2_with fail
      rw [← hW0]
      clear hW0
      go_wp2_with fail
      refine CT.mono ?_
      rintro e w1 ⟨rfl, hb1⟩
      have HB1 := Lib.hid hb1
      have c0 := (cell_at ((hb1.block w.heap.size (by rw [HS0.out]; omega)).trans HA0.out) 0).trans rfl
      have c1 := (cell_at ((hb1.block (w.heap.size + 1) (by rw [HS0.out]; omega)).trans HA1.out) 0).trans rfl
      clear hb1 CT t0 t1 t2 t3 t4
      go_wp2_with fail
      refine (CA _ HB1.out).mono ?_
      rintro e w2 ⟨rfl, hb2⟩
      have HB2 := Lib.hid (HB1.out.trans (hb2.mono HB1.out.size))
      have HBB := Lib.hid (HB0.out.trans (HB2.out.mono (by have := HS0.out; omega)))
      have q0 := (HB2.out.block w.heap.size (by rw [HS0.out]; omega)).trans HA0.out
      have q1 := (HB2.out.block (w.heap.size + 1) (by rw [HS0.out]; omega)).trans HA1.out
      have d0 := (cell_at q0 0).trans rfl
      have d1 := (cell_at q0 1).trans rfl
      have d2 := (cell_at q0 2).trans rfl
      have d3 := (cell_at q0 3).trans rfl
      have d4 := (cell_at q0 4).trans rfl
      have e0 := (cell_at q1 0).trans rfl
      have e1 := (cell_at q1 1).trans rfl
      have hi2 := (HI2.out.below HB2.out).more HB2.out.size
      have hi1 := (HI.out.below HB2.out).more HB2.out.size
      clear hb2 CA c0 c1 q0 q1
      by_cases x1 : x = 1
      · subst x1
        have hab : 0 ≤ a ∧ a < (n : Int) ∧ b = 0 := by
          have h := HCL.out
          unfold claimB at h
          rw [if_neg (by decide), if_pos rfl, Bool.and_eq_true] at h
          have h2 := of_decide_eq_true h.2
          have := HN.out
          omega
        obtain ⟨kk, rfl⟩ : ∃ kk : Nat, a = kk := ⟨a.toNat, by omega⟩
        have hk2 : kk < n2 := by have := HN.out; have := HM.out; have := HLN.out; omega
        obtain ⟨ba, oa, rfl, hba, hx⟩ := hi2 kk (by have := HM.out; omega)
        have hxf := HZ2.out kk (by have := HM.out; omega)
        have HX := Lib.hid (show decide (cardF (z2.getD kk 0) = y) = R by rw [HS.out]; unfold holdB; rw [if_pos rfl]; exact hold_noted HO2.out (by have := HM.out; omega))
        have CC0 := fun W : World => Pk.impl_card (z2.getD kk 0) W hxf.1 hxf.2
        generalize cardF (z2.getD kk 0) = r at *
        generalize z2.getD kk 0 = v at *
        have CC := fun d => Lib.hid ((CC0 (w2.drewN d)).mono fun e w' h => (⟨h.1, h.2.symm⟩ : e = .returned (.int .i64 r) ∧ w' = w2.drewN d))
        clear CC0 hi2 hi1 hxf hab
        go_wp2_with fail
        go_quiet ((go_at_call 50; with_reducible exact Calls.quiet_of_same (CC _).out))
        go_wp2
        go_ret
        exact ⟨ret_b (by rw [← HX.out]; exact Tsq.beqd _ _), below_drewN HBB.out _⟩
      by_cases x2 : x = 2
      · subst x2
        have HX := Lib.hid (show decide ((upTo z2 n2 : Int) = a) = R by rw [HS.out, ← HM.out]; unfold holdB; rw [if_neg (by decide), if_pos rfl])
        have CC0 := fun d : Nat => impl_count A2 n2 c2 z2 (w2.drewN d) HM.out (by omega) HZ2.out (ints_drewN hi2 d)
        generalize upTo z2 n2 = p at *
        have CC := fun d => Lib.hid ((CC0 d).mono fun e w' h => (⟨h.1, h.2.symm⟩ : e = .returned (.int .i64 (p : Int)) ∧ w' = w2.drewN d))
        clear CC0 hi1 hi2
        go_wp2_with fail
        go_quiet ((go_at_call 51; with_reducible exact Calls.quiet_of_same (CC _).out))
        go_wp2
        go_ret
        exact ⟨ret_b (by rw [← HX.out]; exact Tsq.beqd _ _), below_drewN HBB.out _⟩
      by_cases x3 : x = 3
      · subst x3
        have hab : 0 ≤ b ∧ b < (n : Int) := by
          have h := HCL.out
          unfold claimB at h
          rw [if_neg (by decide), if_neg (by decide), if_neg (by decide), if_pos rfl, Bool.and_eq_true] at h
          have h2 := of_decide_eq_true h.2
          have := HN.out
          omega
        obtain ⟨kk, rfl⟩ : ∃ kk : Nat, b = kk := ⟨b.toNat, by omega⟩
        have hk2 : kk < n2 := by have := HN.out; have := HM.out; have := HLN.out; omega
        obtain ⟨ba, oa, rfl, hba, hx⟩ := hi2 kk (by have := HM.out; omega)
        have hxf := HZ2.out kk (by have := HM.out; omega)
        have HX := Lib.hid (show decide (cardF (z2.getD kk 0) = a) = R by rw [HS.out]; unfold holdB; rw [if_neg (by decide), if_neg (by decide), if_pos rfl]; exact hold_card HO2.out (by have := HM.out; omega))
        have CC0 := fun W : World => Pk.impl_card (z2.getD kk 0) W hxf.1 hxf.2
        generalize cardF (z2.getD kk 0) = r at *
        generalize z2.getD kk 0 = v at *
        have CC := fun d => Lib.hid ((CC0 (w2.drewN d)).mono fun e w' h => (⟨h.1, h.2.symm⟩ : e = .returned (.int .i64 r) ∧ w' = w2.drewN d))
        clear CC0 hi2 hi1 hxf hab
        go_wp2_with fail
        go_quiet ((go_at_call 50; with_reducible exact Calls.quiet_of_same (CC _).out))
        go_wp2
        go_ret
        exact ⟨ret_b (by rw [← HX.out]; exact Tsq.beqd _ _), below_drewN HBB.out _⟩
      by_cases x4 : x = 4
      · subst x4
        have HX := Lib.hid (show sameB z2 zs = R by rw [HS.out]; unfold holdB sameB; rw [if_neg (by decide), if_neg (by decide), if_neg (by decide), if_pos rfl])
        have CQ := Sam.impl_same A2 A n2 n c2 c z2 zs w2 HM.out HN.out (by omega) (by omega) hi2 hi1
        clear hi1 hi2
        go_wp2_with fail
        refine CQ.mono ?_
        rintro e w3 ⟨rfl, hb3⟩
        have HB3 := Lib.hid (HBB.out.trans (hb3.mono HBB.out.size))
        clear hb3 CQ d0 d1 d2 d3 d4 e0 e1
        go_wp2
        go_ret
        exact ⟨ret_b HX.out, HB3.out⟩
      · have HX := Lib.hid (show true = R by rw [HS.out]; unfold holdB; rw [if_neg x1, if_neg x2, if_neg x3, if_neg x4])
        clear hi1 hi2
        go_wp2
        go_ret
        exact ⟨ret_b HX.out, HBB.out⟩
set_option maxHeartbeats 2000000 in
theorem impl_start (A : Option Addr) (n c : Nat) (zs : List Int) (S : Option Addr) (m d : Nat) (ss : List SR) (x a b : Int) (w : World) (hn : zs.length = n) (hn2 : n ≤ 1048576) (hz : Fits zs) (hss : IntsAt w w.heap.size .i64 A zs)
    (hk : ss.length = m) (hk2 : m ≤ 1048576) (hst : StepsAt w w.heap.size S ss) :
    Calls Try.prog 17 #[Trk.trV A n c S m d x a b] w (IsScB w.heap.size (startS zs ss x a b) (startM zs ss x a b) (trickB zs ss x a b) w) := by
  obtain ⟨hs, hb0, a0, a1⟩ := two_at w #[.slice A n c, .slice S m d, .int .i64 x, .int .i64 a, .int .i64 b] #[.slice none 0 0, .int .i64 0] 40 45
  obtain ⟨W0, hW0⟩ : ∃ W0, W0 = (w.alloc (.cells #[.slice A n c, .slice S m d, .int .i64 x, .int .i64 a, .int .i64 b] 40)).alloc (.cells #[.slice none 0 0, .int .i64 0] 45) := ⟨_, rfl⟩
  rw [← hW0] at hs hb0 a0 a1
  have t0 := (cell_at a0 0).trans rfl
  have t1 := (cell_at a0 1).trans rfl
  have t2 := (cell_at a0 2).trans rfl
  have t3 := (cell_at a0 3).trans rfl
  have t4 := (cell_at a0 4).trans rfl
  have HB0 := Lib.hid hb0
  have HA0 := Lib.hid a0
  have HA1 := Lib.hid a1
  have HS0 := Lib.hid hs
  have CT := impl_trick A n c zs S m d ss x a b W0 hn hn2 hz ((hss.below hb0).more (by omega)) hk hk2 ((hst.below hb0).more (by omega))
  have HI := Lib.hid ((hss.below hb0).more (show w.heap.size ≤ W0.heap.size by omega))
  unfold startS startM
  have HN := Lib.hid hn
  clear hss hst hb0 a0 a1 hs hk hz
  cases ht : trickB zs ss x a b with
  | false =>
    rw [ht] at CT
    clear ht hn
    go_enter Try.func17, Try.ntmps17
    go_wp2_with fail
    rw [← hW0]
    clear hW0
    go_wp2_with fail
    refine CT.mono ?_
    rintro e w1 ⟨rfl, hb1⟩
    have HB1 := Lib.hid (HB0.out.trans (hb1.mono (by rw [HS0.out]; omega)))
    have HX := Lib.hid ((hb1.block (w.heap.size + 1) (by rw [HS0.out]; omega)).trans HA1.out)
    have k4 := (cell_at HX.out 0).trans rfl
    have k5 := (cell_at HX.out 1).trans rfl
    have f4 := frz HX.out 0
    have f5 := frz HX.out 1
    obtain ⟨HP1, HP2, _⟩ := put_box (x := .slice none 0 0) (y := .int .i64 0) HX.out HB1.out (by omega)
    have HP1 := Lib.hid HP1
    have HP2 := Lib.hid HP2
    clear hb1 CT t0 t1 t2 t3 t4
    go_wp2
    (try simp only [Exit.inBlock, Exit.then])
    refine bodyPost_ret (results_cs rfl _ rfl rfl HP1.out) rfl ?_
    exact ⟨none, 0, rfl, World.ownsRow_nil _ _ _ _, HP2.out⟩
  | true =>
    have hp := (trick_parts ht).2.1
    have h12 := (okB_yes (trick_parts ht).1).1
    rw [hn] at hp h12
    rw [ht] at CT
    clear ht hn
    go_enter Try.func17, Try.ntmps17
    go_wp2_with fail
    rw [← hW0]
    clear hW0
    go_wp2_with fail
    refine CT.mono ?_
    rintro e w1 ⟨rfl, hb1⟩
    have HB1 := Lib.hid hb1
    have CC := Lb.clone_any A n c zs w1 HN.out (by omega) ((HI.out.below hb1).more hb1.size)
    have c0 := (cell_at ((hb1.block w.heap.size (by have := HS0.out; omega)).trans HA0.out) 0).trans rfl
    clear hb1 CT t0 t1 t2 t3 t4
    go_wp2_with fail
    refine CC.mono ?_
    rintro e w5 ⟨A5, c5, rfl, hown5, hb5⟩
    rw [HN.out] at hown5
    rw [HN.out]
    have HB5 := Lib.hid (HB1.out.trans (hb5.mono HB1.out.size))
    have HBW := Lib.hid (HB0.out.trans (HB5.out.mono (by rw [HS0.out]; omega)))
    have hs5 := HB1.out.size
    have HX := Lib.hid ((HB5.out.block (w.heap.size + 1) (by rw [HS0.out]; omega)).trans HA1.out)
    have k4 := (cell_at HX.out 0).trans rfl
    have k5 := (cell_at HX.out 1).trans rfl
    have f4 := frz HX.out 0
    have f5 := frz HX.out 1
    obtain ⟨HP1, HP2, HP3⟩ := put_box (x := .slice A5 n c5) (y := .int .i64 (-1)) HX.out HBW.out (by omega)
    have HP1 := Lib.hid HP1
    have HP2 := Lib.hid HP2
    have HO := Lib.hid (own_mono (base' := w.heap.size) (own_gr hown5 HP3 (fun j hj e => by have h1 := (own_lo hown5 j hj).1; injection e with e; have h2 := HS0.out; omega)) (by have h2 := HS0.out; omega))
    clear hown5 hb5 c0 CC HP3
    go_wp2
    (try simp only [Exit.inBlock, Exit.then])
    refine bodyPost_ret (results_cs rfl _ rfl rfl HP1.out) rfl ?_
    exact ⟨A5, c5, by rw [HN.out]; rfl, by rw [HN.out]; exact HO.out, HP2.out⟩
end Go.Proofs.Ytibephoepkofnaa.Tip
