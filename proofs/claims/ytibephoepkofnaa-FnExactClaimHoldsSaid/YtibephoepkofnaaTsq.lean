/- Tricks, of the model: whether a claim holds (ClaimHolds). -/
import Derived.Test.YtibephoepkofnaaTsp
import Derived.Test.YtibephoepkofnaaCat
import Derived.BigQuiet
import Derived.Deep.QuietTactic
set_option linter.unusedVariables false
set_option maxRecDepth 20000
namespace Go.Proofs.Ytibephoepkofnaa.Tsq
open Go.RowKit Fr _root_.Go.Proofs.Ytibephoepkofnaa.Own Pk Pl Ins Sam Rws Cat Pok Arr Mvp Tst Tfp Tso Tsp

theorem beqd (p a : Int) : (p == a) = decide (p = a) := by
  by_cases h : p = a
  · subst h; simp
  · rw [decide_eq_false h, beq_eq_false_iff_ne.2 h]
set_option maxHeartbeats 2000000 in
theorem spec_holds (A : Option Addr) (n c : Nat) (zs : List Int) (S : Option Addr) (m d : Nat) (x a b : Int) (A2 : Option Addr) (n2 c2 : Nat) (z2 : List Int) (y : Int) (w : World) (hn : zs.length = n) (hn2 : n ≤ 1048576) (hss : IntsAt w w.heap.size .i64 A zs)
    (hm : z2.length = n2) (hm2 : n2 ≤ 1048576) (hz : Fits z2) (hs2 : IntsAt w w.heap.size .i64 A2 z2) :
    Calls Try.prog 48 #[Trk.trV A n c S m d x a b, Scn.scV A2 n2 c2 y] w fun e w' => e = .returned (.bool (holdB zs x a b (z2, y))) ∧ Below w.heap.size w w' := by
  obtain ⟨R, hR⟩ : ∃ R, R = holdB zs x a b (z2, y) := ⟨_, rfl⟩
  rw [← hR]
  obtain ⟨hs, hb0, a0, a1⟩ := two_at w #[.slice A n c, .slice S m d, .int .i64 x, .int .i64 a, .int .i64 b] #[.slice A2 n2 c2, .int .i64 y] 40 45
  obtain ⟨W0, hW0⟩ : ∃ W0, W0 = (w.alloc (.cells #[.slice A n c, .slice S m d, .int .i64 x, .int .i64 a, .int .i64 b] 40)).alloc (.cells #[.slice A2 n2 c2, .int .i64 y] 45) := ⟨_, rfl⟩
  rw [← hW0] at hs hb0 a0 a1
  have t0 := (cell_at a0 0).trans rfl
  have t2 := (cell_at a0 2).trans rfl
  have t3 := (cell_at a0 3).trans rfl
  have t4 := (cell_at a0 4).trans rfl
  have s0 := (cell_at a1 0).trans rfl
  have s1 := (cell_at a1 1).trans rfl
  have HB0 := Lib.hid hb0
  have hi2 : IntsAt W0 W0.heap.size .i64 A2 z2 := (hs2.below hb0).more (by omega)
  have CP0 := fun (q : Int) (d : Nat) => spec_pos A2 n2 c2 z2 q (W0.drewN d) hm (by omega) hz (ints_drewN hi2 d)
  have CC0 := fun d : Nat => spec_count A2 n2 c2 z2 (W0.drewN d) hm (by omega) (ints_drewN hi2 d)
  have CQ := Sam.spec_same A2 A n2 n c2 c z2 zs W0 hm hn (by omega) (by omega) ((hs2.below hb0).more (by omega)) ((hss.below hb0).more (by omega))
  have HM := Lib.hid hm
  clear hn hss hm hz hs2 a0 a1 hb0 hs
  by_cases x1 : x = 1
  · subst x1
    by_cases hy : 0 ≤ y
    · have HS := Lib.hid (show decide (posF z2 y = a) = R by rw [hR]; unfold holdB; rw [if_pos rfl]; simp [hy])
      have hd : decide (0 ≤ y) = true := decide_eq_true hy
      have CP0 := CP0 y
      generalize posF z2 y = p at *
      have CP := fun d => Lib.hid ((CP0 d).mono fun e w' h => (⟨h.1, h.2.symm⟩ : e = .returned (.int .i64 p) ∧ w' = W0.drewN d))
      clear hR CP0 CC0 CQ hi2
      go_enter Try.func48, Try.ntmps48
      go_wp2_with fail
      rw [← hW0]
      clear hW0
      go_wp2_with fail
      go_quiet ((go_at_call 56; with_reducible exact Calls.quiet_of_same (CP _).out))
      go_wp2
      go_ret
      exact ⟨ret_b (by rw [← HS.out]; exact beqd _ _), below_drewN HB0.out _⟩
    · have HS := Lib.hid (show false = R by rw [hR]; unfold holdB; rw [if_pos rfl]; simp [hy])
      have hd : decide (0 ≤ y) = false := decide_eq_false hy
      clear hR CP0 CC0 CQ hi2
      go_enter Try.func48, Try.ntmps48
      go_wp2_with fail
      rw [← hW0]
      clear hW0
      go_wp2_with fail
      go_quiet (fail)
      go_wp2
      go_ret
      exact ⟨ret_b HS.out, below_drewN HB0.out _⟩
  by_cases x2 : x = 2
  · subst x2
    have HS := Lib.hid (show decide ((upTo z2 n2 : Int) = a) = R by rw [hR, ← HM.out]; unfold holdB; rw [if_neg (by decide), if_pos rfl])
    generalize upTo z2 n2 = p at *
    have CC := fun d => Lib.hid ((CC0 d).mono fun e w' h => (⟨h.1, h.2.symm⟩ : e = .returned (.int .i64 (p : Int)) ∧ w' = W0.drewN d))
    clear hR CP0 CC0 CQ hi2
    go_enter Try.func48, Try.ntmps48
    go_wp2_with fail
    rw [← hW0]
    clear hW0
    go_wp2_with fail
    go_quiet ((go_at_call 63; with_reducible exact Calls.quiet_of_same (CC _).out))
    go_wp2
    go_ret
    exact ⟨ret_b (by rw [← HS.out]; exact beqd _ _), below_drewN HB0.out _⟩
  by_cases x3 : x = 3
  · subst x3
    have HS := Lib.hid (show decide (posF z2 a = b) = R by rw [hR]; unfold holdB; rw [if_neg (by decide), if_neg (by decide), if_pos rfl])
    have CP0 := CP0 a
    generalize posF z2 a = p at *
    have CP := fun d => Lib.hid ((CP0 d).mono fun e w' h => (⟨h.1, h.2.symm⟩ : e = .returned (.int .i64 p) ∧ w' = W0.drewN d))
    clear hR CP0 CC0 CQ hi2
    go_enter Try.func48, Try.ntmps48
    go_wp2_with fail
    rw [← hW0]
    clear hW0
    go_wp2_with fail
    go_quiet ((go_at_call 56; with_reducible exact Calls.quiet_of_same (CP _).out))
    go_wp2
    go_ret
    exact ⟨ret_b (by rw [← HS.out]; exact beqd _ _), below_drewN HB0.out _⟩
  by_cases x4 : x = 4
  · subst x4
    have HS := Lib.hid (show sameB z2 zs = R by rw [hR]; unfold holdB sameB; rw [if_neg (by decide), if_neg (by decide), if_neg (by decide), if_pos rfl])
    clear hR CP0 CC0 hi2
    go_enter Try.func48, Try.ntmps48
    go_wp2_with fail
    rw [← hW0]
    clear hW0
    go_wp2_with fail
    refine CQ.mono ?_
    rintro e w' ⟨rfl, rfl⟩
    go_wp2
    go_ret
    exact ⟨ret_b HS.out, HB0.out⟩
  · have HS := Lib.hid (show true = R by rw [hR]; unfold holdB; rw [if_neg x1, if_neg x2, if_neg x3, if_neg x4])
    clear hR CP0 CC0 CQ hi2
    go_enter Try.func48, Try.ntmps48
    go_wp2_with fail
    rw [← hW0]
    clear hW0
    go_wp2
    go_ret
    exact ⟨ret_b HS.out, HB0.out⟩
/-- the trick is valid, the scene's packet an arrangement of its start, and the claim holds -/
def claimF (zs : List Int) (ss : List SR) (x a b : Int) (c : SC) : Bool := trickB zs ss x a b && arrB zs c.1 && holdB zs x a b c
set_option maxHeartbeats 2000000 in
theorem spec_claims (A : Option Addr) (n c : Nat) (zs : List Int) (S : Option Addr) (m d : Nat) (ss : List SR) (x a b : Int) (A2 : Option Addr) (n2 c2 : Nat) (z2 : List Int) (y : Int) (w : World) (hn : zs.length = n) (hn2 : n ≤ 1048576) (hz : Fits zs) (hss : IntsAt w w.heap.size .i64 A zs)
    (hk : ss.length = m) (hk2 : m ≤ 1048576) (hst : StepsAt w w.heap.size S ss) (hm : z2.length = n2) (hm2 : n2 ≤ 1048576) (hz2 : Fits z2) (hs2 : IntsAt w w.heap.size .i64 A2 z2) :
    Calls Try.prog 23 #[Trk.trV A n c S m d x a b, Scn.scV A2 n2 c2 y] w fun e w' => e = .returned (.bool (claimF zs ss x a b (z2, y))) ∧ Below w.heap.size w w' := by
  obtain ⟨R, hR⟩ : ∃ R, R = claimF zs ss x a b (z2, y) := ⟨_, rfl⟩
  rw [← hR]
  obtain ⟨hs, hb0, a0, a1⟩ := two_at w #[.slice A n c, .slice S m d, .int .i64 x, .int .i64 a, .int .i64 b] #[.slice A2 n2 c2, .int .i64 y] 40 45
  obtain ⟨W0, hW0⟩ : ∃ W0, W0 = (w.alloc (.cells #[.slice A n c, .slice S m d, .int .i64 x, .int .i64 a, .int .i64 b] 40)).alloc (.cells #[.slice A2 n2 c2, .int .i64 y] 45) := ⟨_, rfl⟩
  rw [← hW0] at hs hb0 a0 a1
  have t0 := (cell_at a0 0).trans rfl
  have t1 := (cell_at a0 1).trans rfl
  have t2 := (cell_at a0 2).trans rfl
  have t3 := (cell_at a0 3).trans rfl
  have t4 := (cell_at a0 4).trans rfl
  have HB0 := Lib.hid hb0
  have HA0 := Lib.hid a0
  have HA1 := Lib.hid a1
  have HS0 := Lib.hid hs
  have CT := spec_trick A n c zs S m d ss x a b W0 hn hn2 hz ((hss.below hb0).more (by omega)) hk hk2 ((hst.below hb0).more (by omega))
  have HI := Lib.hid ((hss.below hb0).more (show w.heap.size ≤ W0.heap.size by omega))
  have HI2 := Lib.hid ((hs2.below hb0).more (show w.heap.size ≤ W0.heap.size by omega))
  clear hss hs2 hst hb0 a0 a1 hs
  cases ht : trickB zs ss x a b with
  | false =>
    have HS := Lib.hid (show false = R by rw [hR]; unfold claimF; rw [ht]; rfl)
    rw [ht] at CT
    clear hR ht hn hz hk hm hz2
    go_enter Try.func23, Try.ntmps23
    go_wp2_with fail
    rw [← hW0]
    clear hW0
    go_wp2_with fail
    refine CT.mono ?_
    rintro e w1 ⟨rfl, hb1⟩
    have HB1 := Lib.hid (HB0.out.trans (hb1.mono (by rw [HS0.out]; omega)))
    clear hb1 CT t0 t1 t2 t3 t4
    go_wp2
    go_ret
    exact ⟨ret_b HS.out, HB1.out⟩
  | true =>
    have CA := fun (w1 : World) (hb1 : Below W0.heap.size W0 w1) => spec_arr A n c zs A2 n2 c2 z2 w1 hn (by omega) hz ((HI.out.below hb1).more hb1.size) hm (by omega) hz2 ((HI2.out.below hb1).more hb1.size)
    have CH := fun (w1 : World) (hb1 : Below W0.heap.size W0 w1) => spec_holds A n c zs S m d x a b A2 n2 c2 z2 y w1 hn hn2 ((HI.out.below hb1).more hb1.size) hm hm2 hz2 ((HI2.out.below hb1).more hb1.size)
    rw [ht] at CT
    cases hr : arrB zs z2 with
    | false =>
      have HS := Lib.hid (show false = R by rw [hR]; unfold claimF; rw [ht, hr]; rfl)
      rw [hr] at CA
      clear hR ht hr hn hz hk hm hz2 CH
      go_enter Try.func23, Try.ntmps23
      go_wp2_with fail
      rw [← hW0]
      clear hW0
      go_wp2_with fail
      refine CT.mono ?_
      rintro e w1 ⟨rfl, hb1⟩
      have HB1 := Lib.hid hb1
      have c0 := (cell_at ((hb1.block w.heap.size (by rw [HS0.out]; omega)).trans HA0.out) 0).trans rfl
      have c1 := (cell_at ((hb1.block (w.heap.size + 1) (by rw [HS0.out]; omega)).trans HA1.out) 0).trans rfl
      clear hb1 CT t0 t1 t2 t3 t4
      go_wp2_with fail
      refine (CA _ HB1.out).mono ?_
      rintro e w2 ⟨rfl, hb2⟩
      have HB2 := Lib.hid (HB0.out.trans ((HB1.out.trans (hb2.mono HB1.out.size)).mono (by rw [HS0.out]; omega)))
      clear hb2 CA c0 c1
      go_wp2
      go_ret
      exact ⟨ret_b HS.out, HB2.out⟩
    | true =>
      have HS := Lib.hid (show holdB zs x a b (z2, y) = R by rw [hR]; unfold claimF; rw [ht, hr]; rfl)
      rw [hr] at CA
      rw [HS.out] at CH
      clear hR ht hr hn hz hk hm hz2
      go_enter Try.func23, Try.ntmps23
      go_wp2_with fail
      rw [← hW0]
      clear hW0
      go_wp2_with fail
      refine CT.mono ?_
      rintro e w1 ⟨rfl, hb1⟩
      have HB1 := Lib.hid hb1
      have c0 := (cell_at ((hb1.block w.heap.size (by rw [HS0.out]; omega)).trans HA0.out) 0).trans rfl
      have c1 := (cell_at ((hb1.block (w.heap.size + 1) (by rw [HS0.out]; omega)).trans HA1.out) 0).trans rfl
      clear hb1 CT t0 t1 t2 t3 t4
      go_wp2_with fail
      refine (CA _ HB1.out).mono ?_
      rintro e w2 ⟨rfl, hb2⟩
      have HB2 := Lib.hid (HB1.out.trans (hb2.mono HB1.out.size))
      have q0 := (HB2.out.block w.heap.size (by rw [HS0.out]; omega)).trans HA0.out
      have q1 := (HB2.out.block (w.heap.size + 1) (by rw [HS0.out]; omega)).trans HA1.out
      have d0 := (cell_at q0 0).trans rfl
      have d1 := (cell_at q0 1).trans rfl
      have d2 := (cell_at q0 2).trans rfl
      have d3 := (cell_at q0 3).trans rfl
      have d4 := (cell_at q0 4).trans rfl
      have e0 := (cell_at q1 0).trans rfl
      have e1 := (cell_at q1 1).trans rfl
      clear hb2 CA c0 c1 q0 q1
      go_wp2_with fail
      refine (CH _ HB2.out).mono ?_
      rintro e w3 ⟨rfl, hb3⟩
      have HB3 := Lib.hid (HB0.out.trans ((HB2.out.trans (hb3.mono HB2.out.size)).mono (by rw [HS0.out]; omega)))
      clear hb3 CH d0 d1 d2 d3 d4 e0 e1
      go_wp2
      go_ret
      exact ⟨rfl, HB3.out⟩
/-- a call hands back a scene, whose list is of its own, and a bool -/
def IsScB (B : Nat) (zs : List Int) (m : Int) (b : Bool) (w : World) (e : Ending) (w' : World) : Prop :=
  ∃ A c, e = .returned (.tuple #[Scn.scV A zs.length c m, .bool b]) ∧ w'.ownsRow B 3 1 (.slice A zs.length c) zs.length (zs.map (Value.int .i64)) ∧ Below B w w'
theorem results_cs {P : Program} {fn : Func} {a b : Tmp} {t : TypeId} {p : Addr} {v x : Value} {w : World} (h : fn.results = #[.cell a t, .tmp b]) (tmps : Array Value) (hp : tmps.getD a undef = .pointer (some p)) (hx : tmps.getD b undef = x) (hl : (loadVar t p).run P w = .ok v w) :
    (results fn tmps).run P w = .ok (.tuple #[v, x]) w := by
  have hp2 : tmps[a]?.getD undef = .pointer (some p) := by simpa using hp
  have hx2 : tmps[b]?.getD undef = x := by simpa using hx
  simp [results, h, hp2, hx2, asAddr, hl]
/-- what is stored in the result's box -/
theorem put_box {w W : World} {p : Nat} {a b x y : Value} (hp : W.heap[p]? = some (.cells #[a, b] 45 (0, 0))) (hB : Below w.heap.size w W) (hwp : w.heap.size ≤ p) :
    (loadVar 45 ⟨p, 0, none⟩).run Try.prog ((W.setCell ⟨p, 0, none⟩ x).setCell ⟨p, 1, none⟩ y) = .ok (.agg #[x, y]) ((W.setCell ⟨p, 0, none⟩ x).setCell ⟨p, 1, none⟩ y) ∧ Below w.heap.size w ((W.setCell ⟨p, 0, none⟩ x).setCell ⟨p, 1, none⟩ y) ∧ W.grownBy ((W.setCell ⟨p, 0, none⟩ x).setCell ⟨p, 1, none⟩ y) (some p) := by
  have hg := (set_grown W p 0 x).trans (set_grown _ p 1 y)
  exact ⟨Scn.loadS (Scn.put2 hp), hB.grown hg hB.size (fun k hk => by injection hk with hk; omega), hg⟩
/-- what a trick starts with -/
def startS (zs : List Int) (ss : List SR) (x a b : Int) : List Int := if trickB zs ss x a b then zs else []
def startM (zs : List Int) (ss : List SR) (x a b : Int) : Int := if trickB zs ss x a b then -1 else 0
theorem start_len (zs : List Int) (ss : List SR) (x a b : Int) : (startS zs ss x a b).length ≤ 1048576 := by
  unfold startS
  split
  · next h => have := (okB_yes (trick_parts h).1).1; omega
  · simp
set_option maxHeartbeats 2000000 in
theorem spec_start (A : Option Addr) (n c : Nat) (zs : List Int) (S : Option Addr) (m d : Nat) (ss : List SR) (x a b : Int) (w : World) (hn : zs.length = n) (hn2 : n ≤ 1048576) (hz : Fits zs) (hss : IntsAt w w.heap.size .i64 A zs)
    (hk : ss.length = m) (hk2 : m ≤ 1048576) (hst : StepsAt w w.heap.size S ss) :
    Calls Try.prog 16 #[Trk.trV A n c S m d x a b] w (IsScB w.heap.size (startS zs ss x a b) (startM zs ss x a b) (trickB zs ss x a b) w) := by
  obtain ⟨i0, hi, hz0, hz1, hz2⟩ := info_parts infoInt
  obtain ⟨hs, hb0, a0, a1⟩ := two_at w #[.slice A n c, .slice S m d, .int .i64 x, .int .i64 a, .int .i64 b] #[.slice none 0 0, .int .i64 0] 40 45
  obtain ⟨W0, hW0⟩ : ∃ W0, W0 = (w.alloc (.cells #[.slice A n c, .slice S m d, .int .i64 x, .int .i64 a, .int .i64 b] 40)).alloc (.cells #[.slice none 0 0, .int .i64 0] 45) := ⟨_, rfl⟩
  rw [← hW0] at hs hb0 a0 a1
  have t0 := (cell_at a0 0).trans rfl
  have t1 := (cell_at a0 1).trans rfl
  have t2 := (cell_at a0 2).trans rfl
  have t3 := (cell_at a0 3).trans rfl
  have t4 := (cell_at a0 4).trans rfl
  have HB0 := Lib.hid hb0
  have HA0 := Lib.hid a0
  have HA1 := Lib.hid a1
  have HS0 := Lib.hid hs
  have CT := spec_trick A n c zs S m d ss x a b W0 hn hn2 hz ((hss.below hb0).more (by omega)) hk hk2 ((hst.below hb0).more (by omega))
  have HI := Lib.hid ((hss.below hb0).more (show w.heap.size ≤ W0.heap.size by omega))
  unfold startS startM
  have HN := Lib.hid hn
  clear hss hst hb0 a0 a1 hs hk hz
  cases ht : trickB zs ss x a b with
  | false =>
    rw [ht] at CT
    clear ht hn
    go_enter Try.func16, Try.ntmps16
    go_wp2_with fail
    rw [← hW0]
    clear hW0
    go_wp2_with fail
    refine CT.mono ?_
    rintro e w1 ⟨rfl, hb1⟩
    have HB1 := Lib.hid (HB0.out.trans (hb1.mono (by rw [HS0.out]; omega)))
    have HX := Lib.hid ((hb1.block (w.heap.size + 1) (by rw [HS0.out]; omega)).trans HA1.out)
    have k4 := (cell_at HX.out 0).trans rfl
    have k5 := (cell_at HX.out 1).trans rfl
    have f4 := frz HX.out 0
    have f5 := frz HX.out 1
    obtain ⟨HP1, HP2, _⟩ := put_box (x := .slice none 0 0) (y := .int .i64 0) HX.out HB1.out (by omega)
    have HP1 := Lib.hid HP1
    have HP2 := Lib.hid HP2
    clear hb1 CT t0 t1 t2 t3 t4
    go_wp2
    (try simp only [Exit.inBlock, Exit.then])
    refine bodyPost_ret (results_cs rfl _ rfl rfl HP1.out) rfl ?_
    exact ⟨none, 0, rfl, World.ownsRow_nil _ _ _ _, HP2.out⟩
  | true =>
    have hp := (trick_parts ht).2.1
    have h12 := (okB_yes (trick_parts ht).1).1
    rw [hn] at hp h12
    rw [ht] at CT
    clear ht hn
    go_enter Try.func16, Try.ntmps16
    go_wp2_with fail
    rw [← hW0]
    clear hW0
    go_wp2_with fail
    refine CT.mono ?_
    rintro e w1 ⟨rfl, hb1⟩
    obtain ⟨ba, oa, rfl, _, _⟩ := HI.out 0 (by rw [HN.out]; omega)
    have HB1 := Lib.hid hb1
    have c00 := (hb1.block w.heap.size (by rw [HS0.out]; omega)).trans HA0.out
    have HL := Lib.hid (World.ownsRow_lit (base := w1.heap.size) (e := 3) (size := 1) w1 #[] 0 (Nat.le_refl _) (Nat.zero_le _) rfl)
    have HL2 := Lib.hid ((Below.refl w1.heap.size w1).alloc (Nat.le_refl _) (.cells #[] 3))
    have hl2s := HL2.out.size
    have HXL := Lib.hid (((HI.out.below hb1).more hb1.size).below HL2.out)
    have hs1 := hb1.size
    have c0 := (cell_at ((HL2.out.block w.heap.size (by have := HS0.out; omega)).trans c00) 0).trans rfl
    clear c00 hb1 CT t0 t1 t2 t3 t4
    go_wp2_with (at_builtin; refine app_any rfl (.tmp 8) (.tmp 10) 32 rfl w1.heap.size 3 i0 8 Try.underlying32 hi hz0 hz1 hz2 (by decide) (some ⟨w1.heap.size, 0, none⟩) 0 0 [] rfl HL.out (some ⟨ba, oa, none⟩) n c zs rfl HN.out (fun e => by cases e) w1.heap.size HXL.out (by decide) (by omega) hl2s (fun a e => by cases e; rfl) ?_)
    intro A5 c5 w5 hown5 hgr5
    (try rw [Nat.zero_add] at hown5)
    have HB5 := Lib.hid ((HB1.out.trans (HL2.out.mono hs1)).grown hgr5 (by omega) (fun k hk => by simp only [Option.some.injEq] at hk; omega))
    have HBW := Lib.hid (HB0.out.trans (HB5.out.mono (by rw [HS0.out]; omega)))
    have HX := Lib.hid ((HB5.out.block (w.heap.size + 1) (by rw [HS0.out]; omega)).trans HA1.out)
    have k4 := (cell_at HX.out 0).trans rfl
    have k5 := (cell_at HX.out 1).trans rfl
    have f4 := frz HX.out 0
    have f5 := frz HX.out 1
    obtain ⟨HP1, HP2, HP3⟩ := put_box (x := .slice A5 n c5) (y := .int .i64 (-1)) HX.out HBW.out (by omega)
    have HP1 := Lib.hid HP1
    have HP2 := Lib.hid HP2
    have HO := Lib.hid (own_mono (base' := w.heap.size) (own_gr hown5 HP3 (fun j hj e => by have h1 := (own_lo hown5 j hj).1; injection e with e; have h2 := HS0.out; omega)) (by have h2 := HS0.out; omega))
    clear hown5 hgr5 c0 HP3
    go_wp2
    (try simp only [Exit.inBlock, Exit.then])
    refine bodyPost_ret (results_cs rfl _ rfl rfl HP1.out) rfl ?_
    exact ⟨A5, c5, by rw [HN.out]; rfl, by rw [HN.out]; exact HO.out, HP2.out⟩
end Go.Proofs.Ytibephoepkofnaa.Tsq
