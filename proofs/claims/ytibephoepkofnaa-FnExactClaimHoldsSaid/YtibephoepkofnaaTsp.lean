/- Tricks, of the model: which are valid (TrickOk), how many choices they have (CountChoices), how they start (StartScene). -/
import Derived.Test.YtibephoepkofnaaTso
set_option linter.unusedVariables false
set_option maxRecDepth 20000
namespace Go.Proofs.Ytibephoepkofnaa.Tsp
open Go.RowKit Fr _root_.Go.Proofs.Ytibephoepkofnaa.Own Pk Pl Ins Pok Arr Mvp Tst Tfp Tso

set_option maxHeartbeats 2000000 in
theorem spec_trick (A : Option Addr) (n c : Nat) (zs : List Int) (S : Option Addr) (m d : Nat) (ss : List SR) (x a b : Int) (w : World) (hn : zs.length = n) (hn2 : n ≤ 1048576) (hz : Fits zs) (hss : IntsAt w w.heap.size .i64 A zs)
    (hm : ss.length = m) (hm2 : m ≤ 1048576) (hst : StepsAt w w.heap.size S ss) :
    Calls Try.prog 12 #[Trk.trV A n c S m d x a b] w fun e w' => e = .returned (.bool (trickB zs ss x a b)) ∧ Below w.heap.size w w' := by
  obtain ⟨R, hR⟩ : ∃ R, R = trickB zs ss x a b := ⟨_, rfl⟩
  rw [← hR]
  obtain ⟨W0, hW0⟩ : ∃ W0, W0 = w.alloc (.cells #[.slice A n c, .slice S m d, .int .i64 x, .int .i64 a, .int .i64 b] 40) := ⟨_, rfl⟩
  have hs0 : W0.heap.size = w.heap.size + 1 := by rw [hW0]; simp
  have hb0 : Below w.heap.size w W0 := by rw [hW0]; exact box_below _ _
  have A0 : W0.heap[w.heap.size]? = some (.cells #[.slice A n c, .slice S m d, .int .i64 x, .int .i64 a, .int .i64 b] 40 (0, 0)) := by rw [hW0]; exact heap_alloc_new _ _
  have CO := spec_ok A n c zs W0 hn (by omega) hz ((hss.below hb0).more (by omega))
  have u0 := (cell_at A0 0).trans rfl
  obtain ⟨t, ht⟩ : ∃ t, t = okB zs := ⟨_, rfl⟩
  rw [← ht] at CO
  have HZ := Lib.hid hz
  have HI := Lib.hid hss
  have HST := Lib.hid hst
  have HB0 := Lib.hid hb0
  have HA0 := Lib.hid A0
  have HS0 := Lib.hid hs0
  have HN := Lib.hid hn
  have HM := Lib.hid hm
  clear hss hst hb0 A0 hs0 hz
  cases t with
  | false =>
    have HS := Lib.hid (show false = R by rw [hR, trick_no1 ht.symm])
    clear hR hn hm ht
    go_enter Try.func12, Try.ntmps12
    go_wp2_with fail
    rw [← hW0]
    clear hW0
    go_wp2_with fail
    refine CO.mono ?_
    rintro e w1 ⟨rfl, hb1⟩
    have HB1 := Lib.hid (HB0.out.trans (hb1.mono (by rw [HS0.out]; omega)))
    clear hb1 CO u0
    go_wp2
    go_ret
    exact ⟨ret_b HS.out, HB1.out⟩
  | true =>
    by_cases h0 : 1 ≤ n ∧ m ≤ 12
    · have HYES := Lib.hid (fun h : (∀ i, i < m → stepB (n : Int) (ss.getD i sr0) = true) => (show claimB zs x a b (notedB ss m) = R by rw [hR, trick_yes ht.symm (by rw [hn, hm]; exact h0) (by rw [hn, hm]; exact h), hm]))
      have HNO := Lib.hid (fun (k : Nat) (hk : k < m) (h : stepB (n : Int) (ss.getD k sr0) = false) => (show false = R by rw [hR, trick_no3 (by rw [hm]; exact hk) (by rw [hn]; exact h)]))
      have H0 := Lib.hid h0
      have H12 := Lib.hid (show n ≤ 12 by rw [← hn]; exact (okB_yes ht.symm).1)
      have hne : ((n : Int) == 0) = false := by rw [beq_eq_false_iff_ne]; omega
      have hm12 : (m : Int) ≤ 12 := by omega
      clear hR hn hm ht h0
      go_enter Try.func12, Try.ntmps12
      go_wp2_with fail
      rw [← hW0]
      clear hW0
      go_wp2_with fail
      refine CO.mono ?_
      rintro e w1 ⟨rfl, hb1⟩
      have HB1 := Lib.hid hb1
      have c0 := (hb1.block w.heap.size (by rw [HS0.out]; omega)).trans HA0.out
      have y1 := (cell_at c0 1).trans rfl
      clear hb1 CO u0 c0
      go_wp2
      go_loopg [4, 6, 27] m (fun g s4 _ s27 wr => ∃ k : Nat, k ≤ m ∧ g = m - k ∧ s27 = .int .i64 (k : Int) ∧ s4 = .bool (notedB ss k) ∧ Hid (∀ i, i < k → stepB (n : Int) (ss.getD i sr0) = true) ∧ Hid (Below W0.heap.size W0 wr))
      case atStart => exact ⟨0, Nat.zero_le _, rfl, rfl, rfl, Lib.hid (fun i hi => absurd hi (Nat.not_lt_zero _)), HB1⟩
      case round =>
        obtain ⟨k, hk, hg, rfl, rfl, HE, HBW⟩ := hrel
        clear y1
        have hsz := HBW.out.size
        by_cases hlt : k < m
        · obtain ⟨b1, o1, rfl, hbb, p0, p1, p2, p3⟩ := (HST.out.below (HB0.out.trans (HBW.out.mono (by rw [HS0.out]; omega)))) k (by rw [HM.out]; exact hlt)
          have HNX := Lib.hid (noted_next (ss := ss) (k := k) (by rw [HM.out]; exact hlt))
          have HNOk := Lib.hid (HNO.out k hlt)
          have CS := fun W => spec_step (n : Int) (ss.getD k sr0) W
          obtain ⟨r, hr⟩ : ∃ r, r = stepB (n : Int) (ss.getD k sr0) := ⟨_, rfl⟩
          rw [← hr] at CS HNOk
          have HY := Lib.hid (fun e : r = true => (show ∀ i, i < k + 1 → stepB (n : Int) (ss.getD i sr0) = true from fun i hi => by
            by_cases hik : i = k
            · rw [hik, ← hr]; exact e
            · exact HE.out i (by omega)))
          clear hr
          generalize ss.getD k sr0 = st at *
          obtain ⟨x0, x1, x2, x3⟩ := st
          simp only at p0 p1 p2 p3 HNX
          generalize notedB ss k = nt at *
          have q0 := heap_alloc_new wr (.cells #[.int .i64 x0, .int .i64 x1, .int .i64 x2, .int .i64 x3] 29)
          have HBA := Lib.hid (box_below wr (.cells #[.int .i64 x0, .int .i64 x1, .int .i64 x2, .int .i64 x3] 29))
          cases r with
          | false =>
            have HS := Lib.hid (HNOk.out rfl)
            clear HNOk HY HNX q0
            go_wp2_with fail
            refine (CS _).mono ?_
            rintro e w5 ⟨rfl, hb5⟩
            have HB5 := Lib.hid ((HB0.out.trans (HBW.out.mono (by rw [HS0.out]; omega))).trans ((HBA.out.trans (hb5.mono HBA.out.size)).mono (by rw [HS0.out] at hsz; omega)))
            clear hb5 CS
            go_wp2
            go_ret
            exact ⟨ret_b HS.out, HB5.out⟩
          | true =>
            have HE2 := Lib.hid (HY.out rfl)
            clear HNOk HY
            go_wp2_with fail
            refine (CS _).mono ?_
            rintro e w5 ⟨rfl, hb5⟩
            have HB5 := Lib.hid (HBW.out.trans ((HBA.out.trans (hb5.mono HBA.out.size)).mono hsz))
            have c5 := (hb5.block wr.heap.size (by simp)).trans q0
            have y0 := (cell_at c5 0).trans rfl
            clear hb5 CS q0 c5
            cases nt with
            | true =>
              go_wp2
              go_roundg (m - (k + 1))
              case rel => exact ⟨k + 1, by omega, rfl, by go_num, by rw [HNX.out]; rfl, HE2, HB5⟩
              case measure => omega
            | false =>
              have hx3 : (x0 == 3) = decide (x0 = 3) := by
                by_cases h : x0 = 3
                · subst h; rfl
                · rw [decide_eq_false h, beq_eq_false_iff_ne.2 h]
              go_wp2
              go_roundg (m - (k + 1))
              case rel => exact ⟨k + 1, by omega, rfl, by go_num, by rw [HNX.out]; rfl, HE2, HB5⟩
              case measure => omega
        · have hkm : k = m := by omega
          subst hkm
          have HYS := Lib.hid (HYES.out HE.out)
          have hbt := HB0.out.trans (HBW.out.mono (by rw [HS0.out]; omega))
          have CC := spec_claim A n c zs S k d x a b (notedB ss k) wr HN.out H0.out.1 H12.out HZ.out ((HI.out.below hbt).more hbt.size)
          rw [HYS.out] at CC
          have HB5 := Lib.hid hbt
          have c5 := (HBW.out.block w.heap.size (by rw [HS0.out]; omega)).trans HA0.out
          have y0 := (cell_at c5 0).trans rfl
          have y1 := (cell_at c5 1).trans rfl
          have y2 := (cell_at c5 2).trans rfl
          have y3 := (cell_at c5 3).trans rfl
          have y4 := (cell_at c5 4).trans rfl
          clear hbt c5 HE HBW HYS
          go_wp2_with fail
          refine CC.mono ?_
          rintro e w6 ⟨rfl, hb6⟩
          have HB6 := Lib.hid (HB5.out.trans (hb6.mono HB5.out.size))
          clear hb6 CC y0 y1 y2 y3 y4
          go_wp2
          go_ret
          exact ⟨rfl, HB6.out⟩
    · have HS := Lib.hid (show false = R by rw [hR, trick_no2 (by rw [hn, hm]; exact h0)])
      clear hR hn hm ht
      by_cases hz0 : n = 0
      · subst hz0
        clear h0
        go_enter Try.func12, Try.ntmps12
        go_wp2_with fail
        rw [← hW0]
        clear hW0
        go_wp2_with fail
        refine CO.mono ?_
        rintro e w1 ⟨rfl, hb1⟩
        have HB1 := Lib.hid (HB0.out.trans (hb1.mono (by rw [HS0.out]; omega)))
        clear hb1 CO u0
        go_wp2
        go_ret
        exact ⟨ret_b HS.out, HB1.out⟩
      · have hne : ((n : Int) == 0) = false := by rw [beq_eq_false_iff_ne]; omega
        have hm12 : 12 < (m : Int) := by omega
        clear h0
        go_enter Try.func12, Try.ntmps12
        go_wp2_with fail
        rw [← hW0]
        clear hW0
        go_wp2_with fail
        refine CO.mono ?_
        rintro e w1 ⟨rfl, hb1⟩
        have HB1 := Lib.hid (HB0.out.trans (hb1.mono (by rw [HS0.out]; omega)))
        have c0 := (hb1.block w.heap.size (by rw [HS0.out]; omega)).trans HA0.out
        have y1 := (cell_at c0 1).trans rfl
        clear hb1 CO u0 c0
        go_wp2
        go_ret
        exact ⟨ret_b HS.out, HB1.out⟩
theorem count_next {ss : List SR} {k : Nat} (hk : k < ss.length) : countF (ss.take (k + 1)) = countF (ss.take k) + if (ss.getD k sr0).k = 2 then 1 else 0 := by
  unfold countF
  rw [List.take_add_one, List.filter_append, List.length_append, List.getElem?_eq_getElem hk, List.getD_eq_getElem?_getD, List.getElem?_eq_getElem hk]
  simp only [Option.toList_some, Option.getD_some]
  by_cases h : ss[k].k = 2
  · rw [if_pos h, List.filter_cons_of_pos (by rw [decide_eq_true_eq]; exact h)]; rfl
  · rw [if_neg h, List.filter_cons_of_neg (by rw [decide_eq_true_eq]; exact h)]; rfl
theorem count_le (ss : List SR) : countF ss ≤ ss.length := List.length_filter_le _ _
/-- the number of choices of a trick -/
def cntF (zs : List Int) (ss : List SR) (x a b : Int) : Int := if trickB zs ss x a b then (countF ss : Int) else -1
set_option maxHeartbeats 2000000 in
theorem spec_choices (A : Option Addr) (n c : Nat) (zs : List Int) (S : Option Addr) (m d : Nat) (ss : List SR) (x a b : Int) (w : World) (hn : zs.length = n) (hn2 : n ≤ 1048576) (hz : Fits zs) (hss : IntsAt w w.heap.size .i64 A zs)
    (hm : ss.length = m) (hm2 : m ≤ 1048576) (hst : StepsAt w w.heap.size S ss) :
    Calls Try.prog 26 #[Trk.trV A n c S m d x a b] w fun e w' => e = .returned (.int .i64 (cntF zs ss x a b)) ∧ Below w.heap.size w w' := by
  obtain ⟨W0, hW0⟩ : ∃ W0, W0 = w.alloc (.cells #[.slice A n c, .slice S m d, .int .i64 x, .int .i64 a, .int .i64 b] 40) := ⟨_, rfl⟩
  have hs0 : W0.heap.size = w.heap.size + 1 := by rw [hW0]; simp
  have hb0 : Below w.heap.size w W0 := by rw [hW0]; exact box_below _ _
  have A0 : W0.heap[w.heap.size]? = some (.cells #[.slice A n c, .slice S m d, .int .i64 x, .int .i64 a, .int .i64 b] 40 (0, 0)) := by rw [hW0]; exact heap_alloc_new _ _
  have CT := spec_trick A n c zs S m d ss x a b W0 hn hn2 hz ((hss.below hb0).more (by omega)) hm hm2 ((hst.below hb0).more (by omega))
  have u0 := (cell_at A0 0).trans rfl
  have u1 := (cell_at A0 1).trans rfl
  have u2 := (cell_at A0 2).trans rfl
  have u3 := (cell_at A0 3).trans rfl
  have u4 := (cell_at A0 4).trans rfl
  have HST := Lib.hid hst
  have HB0 := Lib.hid hb0
  have HA0 := Lib.hid A0
  have HS0 := Lib.hid hs0
  have HM := Lib.hid hm
  obtain ⟨t, ht⟩ : ∃ t, t = trickB zs ss x a b := ⟨_, rfl⟩
  rw [← ht] at CT
  unfold cntF
  rw [← ht]
  clear hss hst hb0 A0 hs0 hz hn hm ht
  cases t with
  | false =>
    go_enter Try.func26, Try.ntmps26
    go_wp2_with fail
    rw [← hW0]
    clear hW0
    go_wp2_with fail
    refine CT.mono ?_
    rintro e w1 ⟨rfl, hb1⟩
    have HB1 := Lib.hid (HB0.out.trans (hb1.mono (by rw [HS0.out]; omega)))
    clear hb1 CT u0 u1 u2 u3 u4
    go_wp2
    go_ret
    exact ⟨rfl, HB1.out⟩
  | true =>
    have HML := Lib.hid (show countF (ss.take m) = countF ss by rw [List.take_of_length_le (by rw [HM.out]; exact Nat.le_refl _)])
    go_enter Try.func26, Try.ntmps26
    go_wp2_with fail
    rw [← hW0]
    clear hW0
    go_wp2_with fail
    refine CT.mono ?_
    rintro e w1 ⟨rfl, hb1⟩
    have HB1 := Lib.hid hb1
    have c0 := (hb1.block w.heap.size (by rw [HS0.out]; omega)).trans HA0.out
    have y1 := (cell_at c0 1).trans rfl
    clear hb1 CT u0 u1 u2 u3 u4 c0
    go_wp2
    go_loopg [3, 5, 12] m (fun g s3 _ s12 wr => ∃ k : Nat, k ≤ m ∧ g = m - k ∧ s12 = .int .i64 (k : Int) ∧ (∃ q : Nat, q ≤ k ∧ Hid (q = countF (ss.take k)) ∧ s3 = .int .i64 (q : Int)) ∧ Hid (Below W0.heap.size W0 wr))
    case atStart => exact ⟨0, Nat.zero_le _, rfl, rfl, ⟨0, Nat.le_refl _, Lib.hid rfl, rfl⟩, HB1⟩
    case round =>
      obtain ⟨k, hk, hg, rfl, ⟨q, hq, HQ, rfl⟩, HBW⟩ := hrel
      clear y1
      have hsz := HBW.out.size
      by_cases hlt : k < m
      · obtain ⟨b1, o1, rfl, hbb, p0, p1, p2, p3⟩ := (HST.out.below (HB0.out.trans (HBW.out.mono (by rw [HS0.out]; omega)))) k (by rw [HM.out]; exact hlt)
        have HNX := Lib.hid (count_next (ss := ss) (k := k) (by rw [HM.out]; exact hlt))
        generalize ss.getD k sr0 = st at *
        obtain ⟨x0, x1, x2, x3⟩ := st
        simp only at p0 p1 p2 p3 HNX
        have q0 := (cell_at (heap_alloc_new wr (.cells #[.int .i64 x0, .int .i64 x1, .int .i64 x2, .int .i64 x3] 29)) 0).trans rfl
        have HBA := Lib.hid (HBW.out.trans ((box_below wr (.cells #[.int .i64 x0, .int .i64 x1, .int .i64 x2, .int .i64 x3] 29)).mono hsz))
        by_cases h2 : x0 = 2
        · have HX := Lib.hid (show q + 1 = countF (ss.take (k + 1)) by rw [HNX.out, if_pos h2, HQ.out])
          subst h2
          clear HNX HQ
          go_wp2
          go_roundg (m - (k + 1))
          case rel => exact ⟨k + 1, by omega, rfl, by go_num, ⟨q + 1, by omega, HX, by go_num⟩, HBA⟩
          case measure => omega
        · have HX := Lib.hid (show q = countF (ss.take (k + 1)) by rw [HNX.out, if_neg h2, HQ.out]; rfl)
          clear HNX HQ
          go_wp2
          go_roundg (m - (k + 1))
          case rel => exact ⟨k + 1, by omega, rfl, by go_num, ⟨q, by omega, HX, rfl⟩, HBA⟩
          case measure => omega
      · have hkm : k = m := by omega
        subst hkm
        have HE := Lib.hid (HQ.out.trans HML.out)
        have HB5 := Lib.hid (HB0.out.trans (HBW.out.mono (by rw [HS0.out]; omega)))
        clear HQ HBW
        go_wp2
        go_ret
        exact ⟨by rw [HE.out]; rfl, HB5.out⟩
end Go.Proofs.Ytibephoepkofnaa.Tsp
