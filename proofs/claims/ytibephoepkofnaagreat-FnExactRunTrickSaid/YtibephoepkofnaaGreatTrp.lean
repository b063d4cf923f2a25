/- How a trick runs, plainly, and of the model (RunTrick). How a trick runs, of the program (RunTrick). Written by mkrun.py. -/
import Derived.Test.YtibephoepkofnaaGreatTnp
import Derived.Test.YtibephoepkofnaaGreatRfc
set_option linter.unusedVariables false
set_option maxRecDepth 20000
namespace Go.Proofs.YtibephoepkofnaaGreat.Trn
open Go.RowKit Fr _root_.Go.Proofs.YtibephoepkofnaaGreat.Own Pk Pl Ins Rws Pok Arr Srt Mvp Pf Tst Tfp Tso Tsp Tsq Scs Tnx

theorem next_keeps {c : SC} {s : SR} (hok : okB c.1 = true) (hs : stepB (c.1.length : Int) s = true) : ∀ x ∈ nextF c s, okB x.1 = true ∧ x.1.length = c.1.length := by
  have h12 := (okB_yes hok).1
  have hs0 := hs
  unfold nextF
  by_cases h1 : s.k = 1
  · rw [if_pos h1]
    intro x hx
    rw [List.mem_singleton] at hx
    subst hx
    unfold stepB at hs
    rw [Bool.and_eq_true, if_pos h1, Bool.and_eq_true] at hs
    have hp := mvB_parts hs.2.1
    have hk : kOk s.d.toNat s.q.toNat c.1.length = true := by have h6 := hp.2.2.2.2.2; simpa using h6
    exact ⟨move_ok hk (by omega) hok, move_len hk (by omega) h12⟩
  by_cases h3 : s.k = 3
  · rw [if_neg h1, if_pos h3]
    intro x hx
    rw [List.mem_singleton] at hx
    subst hx
    exact ⟨hok, rfl⟩
  · rw [if_neg h1, if_neg h3]
    intro x hx
    obtain ⟨p, hp, rfl⟩ := List.mem_map.1 hx
    have hm := So5.okM_parts (step_okM rfl hok hs0 h1 h3)
    have hr := (So5.ofM_mem hm.2.2.2.1 p).1 ((cano_mem _ _).1 hp)
    obtain ⟨k, hk⟩ : ∃ k : Nat, s.a = k := ⟨s.a.toNat, by omega⟩
    rw [hk] at hr
    have ha := Rfc.arr_parts (Rfc.res_arr (k := k) hok hm.2.1 (by omega) (fun e => hm.2.2.2.2.1 (by omega)) hr)
    exact ⟨ha.2.1, ha.2.2.1.symm⟩
theorem next_few {c : SC} {s : SR} (hok : okB c.1 = true) (hs : stepB (c.1.length : Int) s = true) : (nextF c s).length ≤ 65536 := by
  unfold nextF
  by_cases h1 : s.k = 1
  · rw [if_pos h1]; simp
  by_cases h3 : s.k = 3
  · rw [if_neg h1, if_pos h3]; simp
  · rw [if_neg h1, if_neg h3, List.length_map]
    have hc := step_okM rfl hok hs h1 h3
    have h := So5.roM_len (k := s.a) (zs := c.1)
    unfold So5.roM at h
    rw [if_pos hc] at h
    exact h
def sc0 : SC := ([], 0)
/-- the pick of the i-th step -/
def pickAt (ss : List SR) (ps : List Int) (i : Nat) : Int := if (ss.getD i sr0).k = 2 then ps.getD (countF (ss.take i)) 0 else 0
/-- the scene behind the first i steps -/
def runTo (zs : List Int) (ss : List SR) (ps : List Int) : Nat → Option SC
  | 0 => some (zs, -1)
  | i + 1 =>
    match runTo zs ss ps i with
    | none => none
    | some c => if 0 ≤ pickAt ss ps i ∧ pickAt ss ps i < (nextF c (ss.getD i sr0)).length then some ((nextF c (ss.getD i sr0)).getD (pickAt ss ps i).toNat sc0) else none
def runF (zs : List Int) (ss : List SR) (x a b : Int) (ps : List Int) : Option SC := if trickB zs ss x a b = true ∧ ps.length = countF ss then runTo zs ss ps ss.length else none
def runS (zs : List Int) (ss : List SR) (x a b : Int) (ps : List Int) : List Int := match runF zs ss x a b ps with | some c => c.1 | none => []
def runM (zs : List Int) (ss : List SR) (x a b : Int) (ps : List Int) : Int := match runF zs ss x a b ps with | some c => c.2 | none => 0
def runB (zs : List Int) (ss : List SR) (x a b : Int) (ps : List Int) : Bool := (runF zs ss x a b ps).isSome
theorem run_none {zs : List Int} {ss : List SR} {ps : List Int} {i : Nat} (h : runTo zs ss ps i = none) : ∀ j, runTo zs ss ps (i + j) = none
  | 0 => h
  | j + 1 => by rw [← Nat.add_assoc, runTo, run_none h j]
theorem run_keeps {zs : List Int} {ss : List SR} {ps : List Int} (h0 : okB zs = true) (hs : ∀ i, i < ss.length → stepB zs.length (ss.getD i sr0) = true) : ∀ (i : Nat) (c : SC), i ≤ ss.length → runTo zs ss ps i = some c → okB c.1 = true ∧ c.1.length = zs.length
  | 0, c, _, h => by
    simp only [runTo, Option.some.injEq] at h
    subst h
    exact ⟨h0, rfl⟩
  | i + 1, c, hi, h => by
    rw [runTo] at h
    cases hr : runTo zs ss ps i with
    | none => rw [hr] at h; cases h
    | some c0 =>
      rw [hr] at h
      simp only at h
      obtain ⟨k1, k2⟩ := run_keeps h0 hs i c0 (by omega) hr
      split at h
      · next hp =>
        simp only [Option.some.injEq] at h
        have hm : c ∈ nextF c0 (ss.getD i sr0) := by
          generalize nextF c0 (ss.getD i sr0) = L at h hp ⊢
          rw [← h, List.getD_eq_getElem?_getD, List.getElem?_eq_getElem (by omega)]
          exact List.getElem_mem _
        have := next_keeps k1 (by rw [k2]; exact hs i (by omega)) c hm
        exact ⟨this.1, by rw [this.2, k2]⟩
      · cases h
theorem run_no1 {zs : List Int} {ss : List SR} {x a b : Int} {ps : List Int} (h : ¬ (trickB zs ss x a b = true ∧ ps.length = countF ss)) : runS zs ss x a b ps = [] ∧ runM zs ss x a b ps = 0 ∧ runB zs ss x a b ps = false := by
  unfold runS runM runB runF; rw [if_neg h]; exact ⟨rfl, rfl, rfl⟩
theorem run_no2 {zs : List Int} {ss : List SR} {x a b : Int} {ps : List Int} {i : Nat} (hi : i ≤ ss.length) (h : runTo zs ss ps i = none) : runS zs ss x a b ps = [] ∧ runM zs ss x a b ps = 0 ∧ runB zs ss x a b ps = false := by
  have e : runF zs ss x a b ps = none := by
    unfold runF
    split
    · rw [show ss.length = i + (ss.length - i) by omega]; exact run_none h _
    · rfl
  unfold runS runM runB; rw [e]; exact ⟨rfl, rfl, rfl⟩
theorem run_yes {zs : List Int} {ss : List SR} {x a b : Int} {ps : List Int} {c : SC} (h1 : trickB zs ss x a b = true) (h2 : ps.length = countF ss) (h : runTo zs ss ps ss.length = some c) : runS zs ss x a b ps = c.1 ∧ runM zs ss x a b ps = c.2 ∧ runB zs ss x a b ps = true := by
  have e : runF zs ss x a b ps = some c := by unfold runF; rw [if_pos ⟨h1, h2⟩, h]
  unfold runS runM runB; rw [e]; exact ⟨rfl, rfl, rfl⟩
theorem run_len (zs : List Int) (ss : List SR) (x a b : Int) (ps : List Int) : (runS zs ss x a b ps).length ≤ 1048576 := by
  unfold runS
  split
  · next c h =>
    unfold runF at h
    split at h
    · next hp =>
      have t := trick_parts hp.1
      have k := run_keeps t.1 t.2.2.2.1 ss.length c (Nat.le_refl _) h
      have := (okB_yes k.1).1
      omega
    · cases h
  · simp
theorem own_cap {W : World} {B : Nat} {A : Option Addr} {n c : Nat} {xs : List Value} (h : W.ownsRow B 3 1 (.slice A n c) n xs) : n ≤ c := by
  rcases h.2 with ⟨hv, hn⟩ | ⟨g, cap, cur, hv, _, _, hn, _⟩
  · omega
  · simp only [Value.slice.injEq] at hv; omega
theorem count_mono (ss : List SR) {i j : Nat} (h : i ≤ j) : countF (ss.take i) ≤ countF (ss.take j) := by
  unfold countF
  refine List.Sublist.length_le (List.Sublist.filter _ ?_)
  rw [show i = min i j by omega, ← List.take_take]
  exact List.take_sublist _ _
set_option maxHeartbeats 4000000 in
theorem spec_run (A : Option Addr) (n c : Nat) (zs : List Int) (S : Option Addr) (m d : Nat) (ss : List SR) (x a b : Int) (P : Option Addr) (np cp : Nat) (ps : List Int) (w : World) (hn : zs.length = n) (hn2 : n ≤ 1048576) (hz : Fits zs) (hss : IntsAt w w.heap.size .i64 A zs)
    (hk : ss.length = m) (hk2 : m ≤ 1048576) (hst : StepsAt w w.heap.size S ss) (hp : ps.length = np) (hp2 : np ≤ 1048576) (hpp : IntsAt w w.heap.size .i64 P ps) :
    Calls Tryz.prog 16 #[Trk.trV A n c S m d x a b, .slice P np cp] w (IsScB w.heap.size (runS zs ss x a b ps) (runM zs ss x a b ps) (runB zs ss x a b ps) w) := by
  obtain ⟨hs, hb0, a0, a1⟩ := two_at w #[.slice A n c, .slice S m d, .int .i64 x, .int .i64 a, .int .i64 b] #[.slice none 0 0, .int .i64 0] 51 32
  obtain ⟨W0, hW0⟩ : ∃ W0, W0 = (w.alloc (.cells #[.slice A n c, .slice S m d, .int .i64 x, .int .i64 a, .int .i64 b] 51)).alloc (.cells #[.slice none 0 0, .int .i64 0] 32) := ⟨_, rfl⟩
  rw [← hW0] at hs hb0 a0 a1
  have t0 := (cell_at a0 0).trans rfl
  have t1 := (cell_at a0 1).trans rfl
  have t2 := (cell_at a0 2).trans rfl
  have t3 := (cell_at a0 3).trans rfl
  have t4 := (cell_at a0 4).trans rfl
  have HB0 := Lib.hid hb0
  have HA0 := Lib.hid a0
  have HA1 := Lib.hid a1
  have HS0 := Lib.hid hs
  have HST := Lib.hid ((hst.below hb0).more (show w.heap.size ≤ W0.heap.size by omega))
  have HI := Lib.hid ((hss.below hb0).more (show w.heap.size ≤ W0.heap.size by omega))
  have HPP := Lib.hid ((hpp.below hb0).more (show w.heap.size ≤ W0.heap.size by omega))
  have CT := spec_start A n c zs S m d ss x a b W0 hn hn2 hz HI.out hk hk2 HST.out
  have CC := Lib.hid (fun (W : World) (hb : Below W0.heap.size W0 W) => spec_choices A n c zs S m d ss x a b W hn hn2 hz ((HI.out.below hb).more hb.size) hk hk2 ((HST.out.below hb).more hb.size))
  unfold startS startM at CT
  have HN := Lib.hid hn
  have HM := Lib.hid hk
  have HP := Lib.hid hp
  obtain ⟨RS, hRS⟩ : ∃ R, R = runS zs ss x a b ps := ⟨_, rfl⟩
  obtain ⟨RM, hRM⟩ : ∃ R, R = runM zs ss x a b ps := ⟨_, rfl⟩
  obtain ⟨RB, hRB⟩ : ∃ R, R = runB zs ss x a b ps := ⟨_, rfl⟩
  rw [← hRS, ← hRM, ← hRB]
  clear hss hst hpp hb0 a0 a1 hs
  cases ht : trickB zs ss x a b with
  | false =>
    obtain ⟨e1, e2, e3⟩ := run_no1 (zs := zs) (ss := ss) (x := x) (a := a) (b := b) (ps := ps) (fun h => by rw [ht] at h; cases h.1)
    rw [hRS, hRM, hRB, e1, e2, e3]
    rw [ht] at CT
    clear hRS hRM hRB e1 e2 e3 ht hn hk hp hz CC
    go_enter Tryz.func16, Tryz.ntmps16
    go_wp2_with fail
    rw [← hW0]
    clear hW0
    go_wp2_with fail
    refine CT.mono ?_
    rintro e w1 ⟨A5, c5, rfl, hown, hb1⟩
    have HB1 := Lib.hid (hb1.trans ((box_below w1 (.cells #[.slice A5 0 c5, .int .i64 0] 32)).mono hb1.size))
    have HBF := Lib.hid (HB0.out.trans (HB1.out.mono (by rw [HS0.out]; omega)))
    have HX := Lib.hid ((HB1.out.block (w.heap.size + 1) (by rw [HS0.out]; omega)).trans HA1.out)
    clear hown hb1 CT t0 t1 t2 t3 t4
    have k4 := (cell_at HX.out 0).trans rfl
    have k5 := (cell_at HX.out 1).trans rfl
    have f4 := frz HX.out 0
    have f5 := frz HX.out 1
    obtain ⟨HP1, HP2, _⟩ := put_box (x := .slice none 0 0) (y := .int .i64 0) HX.out HBF.out (by omega)
    have HP1 := Lib.hid HP1
    have HP2 := Lib.hid HP2
    go_wp2
    (try simp only [Exit.inBlock, Exit.then])
    refine bodyPost_ret (results_cs rfl _ rfl rfl HP1.out) rfl ?_
    exact ⟨none, 0, rfl, World.ownsRow_nil _ _ _ _, HP2.out⟩
  | true =>
    have hcnt : cntF zs ss x a b = (countF ss : Int) := by unfold cntF; rw [ht]; rfl
    rw [hcnt] at CC
    rw [ht, if_pos rfl, if_pos rfl] at CT
    obtain ⟨u1, u2, u3, u4, _⟩ := trick_parts ht
    have hcl : countF ss ≤ 12 := by have := count_le ss; omega
    by_cases hpe : np = countF ss
    · have HRY := Lib.hid (fun (cc : SC) (h : runTo zs ss ps ss.length = some cc) => run_yes (x := x) (a := a) (b := b) ht (by rw [hp]; exact hpe) h)
      have HRN := Lib.hid (fun (i : Nat) (hi : i ≤ ss.length) (h : runTo zs ss ps i = none) => run_no2 (x := x) (a := a) (b := b) hi h)
      rw [← hRS, ← hRM, ← hRB] at HRY HRN
      have HKE := Lib.hid (fun (i : Nat) (cc : SC) => run_keeps (ps := ps) u1 u4 i cc)
      have HS4 := Lib.hid u4
      rw [← hpe] at CC
      have HPE := Lib.hid hpe
      have HU := Lib.hid u3
      have HU2 := Lib.hid u2
      clear hRS hRM hRB ht hn hk hp hz u4 u1 hcnt hpe hcl u3 u2
      go_enter Tryz.func16, Tryz.ntmps16
      go_wp2_with fail
      rw [← hW0]
      clear hW0
      go_wp2_with fail
      refine CT.mono ?_
      rintro e w1 ⟨A5, c5, rfl, hown, hb1⟩
      have HB1 := Lib.hid (hb1.trans ((box_below w1 (.cells #[.slice A5 zs.length c5, .int .i64 (-1)] 32)).mono hb1.size))
      have HC1 := Lib.hid (heap_alloc_new w1 (.cells #[.slice A5 zs.length c5, .int .i64 (-1)] 32))
      have HO1 := Lib.hid (own_below hown (box_below w1 (.cells #[.slice A5 zs.length c5, .int .i64 (-1)] 32)))
      have hw1 := hb1.size
      have hwa : (w1.alloc (.cells #[.slice A5 zs.length c5, .int .i64 (-1)] 32)).heap.size = w1.heap.size + 1 := by simp
      have HWA := Lib.hid hwa
      have q0 := (HB1.out.block w.heap.size (by rw [HS0.out]; omega)).trans HA0.out
      clear hown hb1 CT t0 t1 t2 t3 t4 hwa
      have t0 := (cell_at q0 0).trans rfl
      have t1 := (cell_at q0 1).trans rfl
      have t2 := (cell_at q0 2).trans rfl
      have t3 := (cell_at q0 3).trans rfl
      have t4 := (cell_at q0 4).trans rfl
      clear q0
      go_wp2_with fail
      refine (CC.out _ HB1.out).mono ?_
      rintro e w2 ⟨rfl, hb2⟩
      have HB2 := Lib.hid (HB1.out.trans (hb2.mono HB1.out.size))
      have HC2 := Lib.hid ((hb2.block w1.heap.size (by rw [HWA.out]; omega)).trans HC1.out)
      have HO2 := Lib.hid (own_below HO1.out hb2)
      have hw2 : w1.heap.size < w2.heap.size := by have := hb2.size; rw [HWA.out] at this; omega
      clear hb2 t0 t1 t2 t3 t4 CC
      have HBX := Lib.hid HB2.out
      have y1 := (cell_at ((HB2.out.block w.heap.size (by rw [HS0.out]; omega)).trans HA0.out) 1).trans rfl
      go_wp2
      go_loopg [8, 10, 11, 12, 31] m (fun g s8 _ _ _ s31 wr => ∃ (k q : Nat) (cc : SC) (Ac : Option Addr) (ccap : Nat), k ≤ m ∧ g = m - k ∧ s31 = .int .i64 (k : Int) ∧ s8 = .int .i64 (q : Int) ∧ q ≤ k ∧ Hid (q = countF (ss.take k)) ∧ Hid (runTo zs ss ps k = some cc) ∧
        Hid (wr.heap[w1.heap.size]? = some (.cells #[.slice Ac zs.length ccap, .int .i64 cc.2] 32 (0, 0))) ∧ Hid (wr.ownsRow W0.heap.size 3 1 (.slice Ac zs.length ccap) zs.length (cc.1.map (Value.int .i64))) ∧ Hid (Below W0.heap.size W0 wr))
      case atStart => exact ⟨0, 0, (zs, -1), A5, c5, Nat.zero_le _, rfl, rfl, rfl, Nat.le_refl _, Lib.hid rfl, Lib.hid rfl, HC2, HO2, HB2⟩
      case round =>
        obtain ⟨k, q, cc, Ac, ccap, hk, hg, rfl, rfl, hq, HQ, HR, HC, HO, HB⟩ := hrel
        clear y1 HC1 HO1 HC2 HO2 HB2 hw2
        have hsz := HB.out.size
        have hcb : w1.heap.size < wr.heap.size := (Array.getElem?_eq_some_iff.1 HC.out).1
        by_cases hlt : k < m
        · obtain ⟨b1, o1, rfl, hbb, p0, p1, p2, p3⟩ := (HST.out.below HB.out) k (by rw [HM.out]; exact hlt)
          obtain ⟨k1, k2⟩ := HKE.out k cc (by rw [HM.out]; omega) HR.out
          have hsk := HS4.out k (by rw [HM.out]; exact hlt)
          have HCN := Lib.hid (count_next (ss := ss) (k := k) (by rw [HM.out]; exact hlt))
          have HCM := Lib.hid (count_mono ss (i := k + 1) (j := m) (by omega))
          have HCE := Lib.hid (show countF (ss.take m) = np by rw [List.take_of_length_le (by rw [HM.out]; exact Nat.le_refl _)]; exact HPE.out.symm)
          have NK0 := Lib.hid (show runTo zs ss ps (k + 1) = if 0 ≤ pickAt ss ps k ∧ pickAt ss ps k < (nextF cc (ss.getD k sr0)).length then some ((nextF cc (ss.getD k sr0)).getD (pickAt ss ps k).toNat sc0) else none by rw [runTo, HR.out])
          have HPK := Lib.hid (show pickAt ss ps k = if (ss.getD k sr0).k = 2 then ps.getD q 0 else 0 by rw [HQ.out]; rfl)
          generalize hstp : ss.getD k sr0 = st at *
          obtain ⟨x0, x1, x2, x3⟩ := st
          simp only at p0 p1 p2 p3 HCN HPK
          have hb3 := box_below wr (.cells #[.int .i64 x0, .int .i64 x1, .int .i64 x2, .int .i64 x3] 36)
          have q0 := Lib.hid (heap_alloc_new wr (.cells #[.int .i64 x0, .int .i64 x1, .int .i64 x2, .int .i64 x3] 36))
          have HC3 := Lib.hid ((hb3.block w1.heap.size hcb).trans HC.out)
          have CN := spec_next Ac zs.length ccap cc.1 cc.2 ⟨x0, x1, x2, x3⟩ (wr.alloc (.cells #[.int .i64 x0, .int .i64 x1, .int .i64 x2, .int .i64 x3] 36)) k2 (own_cap HO.out) k1 (ok_fits k1) (((ints_of HO.out).below hb3).more hb3.size) hsk
          have t0 := (cell_at HC3.out 0).trans rfl
          have t1 := (cell_at HC3.out 1).trans rfl
          have HB3 := Lib.hid (HB.out.trans (hb3.mono hsz))
          have hs3 : wr.heap.size + 1 = (wr.alloc (.cells #[.int .i64 x0, .int .i64 x1, .int .i64 x2, .int .i64 x3] 36)).heap.size := by simp
          have hfew := next_few (c := (cc.1, cc.2)) k1 (by rw [k2]; exact hsk)
          generalize hL : nextF (cc.1, cc.2) ⟨x0, x1, x2, x3⟩ = L at *
          clear k1 k2 hsk hb3 hL HC hstp
          have HS3 := Lib.hid hs3
          clear hs3
          go_wp2_with fail
          refine CN.mono ?_
          rintro e w5 ⟨A4, c4, ds, rfl, hd, hrow, hb5⟩
          have HB5 := Lib.hid (HB3.out.trans (hb5.mono HB3.out.size))
          have HC5 := Lib.hid ((hb5.block w1.heap.size (by have := HS3.out; omega)).trans HC3.out)
          have e0 := (cell_at ((hb5.block wr.heap.size (by have := HS3.out; omega)).trans q0.out) 0).trans rfl
          have ROW := Lib.hid hrow
          have HD := Lib.hid hd
          have HSZ5 := Lib.hid (show wr.heap.size < w5.heap.size by have h1 := hb5.size; have h2 := HS3.out; omega)
          clear hrow hd hb5 CN t0 t1 q0 HC3 HB3
          generalize L.length = l at *
          have hwl : wrap64 ((l : Int) - 1) = (l : Int) - 1 := IntWalk.wrap64_in _ (by omega)
          by_cases h2 : x0 = 2
          · subst h2
            obtain ⟨pk, hpk⟩ : ∃ z, z = ps.getD q 0 := ⟨_, rfl⟩
            have NK := Lib.hid (show runTo zs ss ps (k + 1) = if 0 ≤ pk ∧ pk < (l : Int) then some (L.getD pk.toNat sc0) else none by rw [NK0.out, HPK.out, if_pos rfl, hpk])
            have HQ3 := Lib.hid (show q + 1 = countF (ss.take (k + 1)) by rw [HCN.out, if_pos rfl, HQ.out])
            obtain ⟨bp, op, rfl, hbp, hcp⟩ := (HPP.out.below HB5.out) q (by rw [HP.out]; have h1 := HQ3.out; have h3 := HCM.out; have h4 := HCE.out; omega)
            rw [← hpk] at hcp
            have hqn : (q : Int) < (np : Int) := by have h1 := HQ3.out; have h3 := HCM.out; have h4 := HCE.out; omega
            have hq0 : (0 : Int) ≤ (q : Int) := by omega
            clear HPK NK0 HCN HCM HCE hpk
            by_cases hx : 0 ≤ pk ∧ pk ≤ (l : Int) - 1
            · obtain ⟨xk, hxk⟩ : ∃ xk : Nat, pk = xk := ⟨(pk).toNat, by omega⟩
              have hxl : xk < l := by omega
              obtain ⟨g4, rfl, z0, z1, _⟩ := ROW.out.cell xk hxl
              have hrr := ROW.out.2.1 xk (by rw [ROW.out.len]; exact hxl)
              have hsc : runTo zs ss ps (k + 1) = some (ds.getD xk sd0).sc := by
                rw [NK.out, if_pos (by omega), show (pk).toNat = xk by omega, ← HD.out]
                congr 1
                rw [List.getD_eq_getElem?_getD, List.getD_eq_getElem?_getD, List.getElem?_map]
                cases ds[xk]? <;> rfl
              have hll := (HKE.out (k + 1) _ (by rw [HM.out]; omega) hsc).2
              simp only [SD.sc] at hll hsc
              have HSC := Lib.hid hsc
              have hown6 := hrr.own
              simp only [RD.v] at z0
              rw [hll] at z0 hown6
              generalize (ds.getD xk sd0).r.A = A6 at *
              generalize (ds.getD xk sd0).r.c = c6 at *
              generalize (ds.getD xk sd0).r.zs = z6 at *
              generalize (ds.getD xk sd0).n = y6 at *
              have k4 := (cell_at HC5.out 0).trans rfl
              have k5 := (cell_at HC5.out 1).trans rfl
              have f4 := frz HC5.out 0
              have f5 := frz HC5.out 1
              have hg6 := (set_grown w5 w1.heap.size 0 (.slice A6 zs.length c6)).trans (set_grown _ w1.heap.size 1 (.int .i64 y6))
              have HC6 := Lib.hid (Scn.put2 (x := .slice A6 zs.length c6) (y := .int .i64 y6) HC5.out)
              have HO6 := Lib.hid (own_mono (base' := W0.heap.size) (own_gr hown6 hg6 (fun j hj e => by have h1 := (own_lo hown6 j hj).1; injection e with e; have h2 := HS3.out; omega)) (by have h2 := HS3.out; omega))
              have HB6 := Lib.hid (HB5.out.grown hg6 HB5.out.size (fun j hj => by injection hj with hj; omega))
              have hxx : (0 : Int) ≤ (xk : Int) ∧ (xk : Int) ≤ (l : Int) - 1 := by omega
              subst hxk
              clear hown6 hg6 hrr hsc hll NK HD ROW HC5
              go_wp2_with fail
              refine (in_yes _ _ _ _ hxx.1 hxx.2).mono ?_
              rintro e w' ⟨rfl, rfl⟩
              go_wp2
              go_roundg (m - (k + 1))
              case rel => exact ⟨k + 1, (q + 1), (z6, y6), A6, c6, by omega, rfl, by go_num, by go_num, by omega, HQ3, HSC, HC6, HO6, HB6⟩
              case measure => omega
            · obtain ⟨e1, e2, e3⟩ := HRN.out (k + 1) (by rw [HM.out]; omega) (by rw [NK.out, if_neg (by omega)])
              have HF1 := Lib.hid e1
              have HF2 := Lib.hid e2
              have HF3 := Lib.hid e3
              have HBF := Lib.hid (HB0.out.trans (HB5.out.mono (by rw [HS0.out]; omega)))
              have HX := Lib.hid ((HB5.out.block (w.heap.size + 1) (by rw [HS0.out]; omega)).trans HA1.out)
              clear e1 e2 e3 NK HD ROW HC5
              go_wp2_with fail
              refine (in_no _ _ _ _ hx).mono ?_
              rintro e w' ⟨rfl, rfl⟩
              have k4 := (cell_at HX.out 0).trans rfl
              have k5 := (cell_at HX.out 1).trans rfl
              have f4 := frz HX.out 0
              have f5 := frz HX.out 1
              obtain ⟨HP1, HP2, _⟩ := put_box (x := .slice none 0 0) (y := .int .i64 0) HX.out HBF.out (by omega)
              have HP1 := Lib.hid HP1
              have HP2 := Lib.hid HP2
              go_wp2
              (try simp only [Exit.inBlock, Exit.then])
              refine bodyPost_ret (results_cs rfl _ rfl rfl HP1.out) rfl ?_
              exact ⟨none, 0, by rw [HF1.out, HF2.out, HF3.out]; rfl, by rw [HF1.out]; exact World.ownsRow_nil _ _ _ _, HP2.out⟩
          · have NK := Lib.hid (show runTo zs ss ps (k + 1) = if 0 ≤ (0 : Int) ∧ (0 : Int) < (l : Int) then some (L.getD (0 : Int).toNat sc0) else none by rw [NK0.out, HPK.out, if_neg h2])
            have HQ3 := Lib.hid (show q = countF (ss.take (k + 1)) by rw [HCN.out, if_neg h2, HQ.out]; rfl)
            clear HPK NK0 HCN HCM HCE
            by_cases hx : 0 ≤ (0 : Int) ∧ (0 : Int) ≤ (l : Int) - 1
            · have hxl : 0 < l := by omega
              obtain ⟨g4, rfl, z0, z1, _⟩ := ROW.out.cell 0 hxl
              have hrr := ROW.out.2.1 0 (by rw [ROW.out.len]; exact hxl)
              have hsc : runTo zs ss ps (k + 1) = some (ds.getD 0 sd0).sc := by
                rw [NK.out, if_pos (by omega), show ((0 : Int)).toNat = 0 from rfl, ← HD.out]
                congr 1
                rw [List.getD_eq_getElem?_getD, List.getD_eq_getElem?_getD, List.getElem?_map]
                cases ds[0]? <;> rfl
              have hll := (HKE.out (k + 1) _ (by rw [HM.out]; omega) hsc).2
              simp only [SD.sc] at hll hsc
              have HSC := Lib.hid hsc
              have hown6 := hrr.own
              simp only [RD.v] at z0
              rw [Nat.zero_mul] at z0 z1
              rw [Nat.zero_add] at z1
              rw [hll] at z0 hown6
              generalize (ds.getD 0 sd0).r.A = A6 at *
              generalize (ds.getD 0 sd0).r.c = c6 at *
              generalize (ds.getD 0 sd0).r.zs = z6 at *
              generalize (ds.getD 0 sd0).n = y6 at *
              have k4 := (cell_at HC5.out 0).trans rfl
              have k5 := (cell_at HC5.out 1).trans rfl
              have f4 := frz HC5.out 0
              have f5 := frz HC5.out 1
              have hg6 := (set_grown w5 w1.heap.size 0 (.slice A6 zs.length c6)).trans (set_grown _ w1.heap.size 1 (.int .i64 y6))
              have HC6 := Lib.hid (Scn.put2 (x := .slice A6 zs.length c6) (y := .int .i64 y6) HC5.out)
              have HO6 := Lib.hid (own_mono (base' := W0.heap.size) (own_gr hown6 hg6 (fun j hj e => by have h1 := (own_lo hown6 j hj).1; injection e with e; have h2 := HS3.out; omega)) (by have h2 := HS3.out; omega))
              have HB6 := Lib.hid (HB5.out.grown hg6 HB5.out.size (fun j hj => by injection hj with hj; omega))
              have hxx : (0 : Int) ≤ (0 : Int) ∧ (0 : Int) ≤ (l : Int) - 1 := by omega
              clear hown6 hg6 hrr hsc hll NK HD ROW HC5
              go_wp2_with fail
              refine (in_yes _ _ _ _ hxx.1 hxx.2).mono ?_
              rintro e w' ⟨rfl, rfl⟩
              go_wp2
              go_roundg (m - (k + 1))
              case rel => exact ⟨k + 1, q, (z6, y6), A6, c6, by omega, rfl, by go_num, by go_num, by omega, HQ3, HSC, HC6, HO6, HB6⟩
              case measure => omega
            · obtain ⟨e1, e2, e3⟩ := HRN.out (k + 1) (by rw [HM.out]; omega) (by rw [NK.out, if_neg (by omega)])
              have HF1 := Lib.hid e1
              have HF2 := Lib.hid e2
              have HF3 := Lib.hid e3
              have HBF := Lib.hid (HB0.out.trans (HB5.out.mono (by rw [HS0.out]; omega)))
              have HX := Lib.hid ((HB5.out.block (w.heap.size + 1) (by rw [HS0.out]; omega)).trans HA1.out)
              clear e1 e2 e3 NK HD ROW HC5
              go_wp2_with fail
              refine (in_no _ _ _ _ hx).mono ?_
              rintro e w' ⟨rfl, rfl⟩
              have k4 := (cell_at HX.out 0).trans rfl
              have k5 := (cell_at HX.out 1).trans rfl
              have f4 := frz HX.out 0
              have f5 := frz HX.out 1
              obtain ⟨HP1, HP2, _⟩ := put_box (x := .slice none 0 0) (y := .int .i64 0) HX.out HBF.out (by omega)
              have HP1 := Lib.hid HP1
              have HP2 := Lib.hid HP2
              go_wp2
              (try simp only [Exit.inBlock, Exit.then])
              refine bodyPost_ret (results_cs rfl _ rfl rfl HP1.out) rfl ?_
              exact ⟨none, 0, by rw [HF1.out, HF2.out, HF3.out]; rfl, by rw [HF1.out]; exact World.ownsRow_nil _ _ _ _, HP2.out⟩
        · have hkm : k = m := by omega
          subst hkm
          obtain ⟨e1, e2, e3⟩ := HRY.out cc (by rw [HM.out]; exact HR.out)
          have hll := (HKE.out k cc (by rw [HM.out]; exact Nat.le_refl _) HR.out).2
          have HF1 := Lib.hid e1
          have HF2 := Lib.hid e2
          have HF3 := Lib.hid e3
          have HLL := Lib.hid hll
          have c0 := (cell_at HC.out 0).trans rfl
          have c1 := (cell_at HC.out 1).trans rfl
          have HBF := Lib.hid (HB0.out.trans (HB.out.mono (by rw [HS0.out]; omega)))
          have HX := Lib.hid ((HB.out.block (w.heap.size + 1) (by rw [HS0.out]; omega)).trans HA1.out)
          have k4 := (cell_at HX.out 0).trans rfl
          have k5 := (cell_at HX.out 1).trans rfl
          have f4 := frz HX.out 0
          have f5 := frz HX.out 1
          obtain ⟨HP1, HP2, HP3⟩ := put_box (x := .slice Ac zs.length ccap) (y := .int .i64 cc.2) HX.out HBF.out (by omega)
          have HP1 := Lib.hid HP1
          have HP2 := Lib.hid HP2
          have HO6 := Lib.hid (own_mono (base' := w.heap.size) (own_gr HO.out HP3 (fun j hj e => by have h1 := (own_lo HO.out j hj).1; injection e with e; have h2 := HS0.out; omega)) (by have h2 := HS0.out; omega))
          clear e1 e2 e3 hll HP3
          go_wp2
          (try simp only [Exit.inBlock, Exit.then])
          refine bodyPost_ret (results_cs rfl _ rfl rfl HP1.out) rfl ?_
          exact ⟨Ac, ccap, by rw [HF1.out, HF2.out, HF3.out, HLL.out]; rfl, by rw [HF1.out, HLL.out]; exact HO6.out, HP2.out⟩
    · obtain ⟨e1, e2, e3⟩ := run_no1 (zs := zs) (ss := ss) (x := x) (a := a) (b := b) (ps := ps) (fun h => hpe (by rw [← hp]; exact h.2))
      rw [hRS, hRM, hRB, e1, e2, e3]
      have hpe2 : ((np : Int) == (countF ss : Int)) = false := by rw [beq_eq_false_iff_ne]; omega
      clear hRS hRM hRB e1 e2 e3 ht hn hk hp hz u4 u1 hcnt
      go_enter Tryz.func16, Tryz.ntmps16
      go_wp2_with fail
      rw [← hW0]
      clear hW0
      go_wp2_with fail
      refine CT.mono ?_
      rintro e w1 ⟨A5, c5, rfl, hown, hb1⟩
      have HB1 := Lib.hid (hb1.trans ((box_below w1 (.cells #[.slice A5 zs.length c5, .int .i64 (-1)] 32)).mono hb1.size))
      have HC1 := Lib.hid (heap_alloc_new w1 (.cells #[.slice A5 zs.length c5, .int .i64 (-1)] 32))
      have HO1 := Lib.hid (own_below hown (box_below w1 (.cells #[.slice A5 zs.length c5, .int .i64 (-1)] 32)))
      have hw1 := hb1.size
      have hwa : (w1.alloc (.cells #[.slice A5 zs.length c5, .int .i64 (-1)] 32)).heap.size = w1.heap.size + 1 := by simp
      have HWA := Lib.hid hwa
      have q0 := (HB1.out.block w.heap.size (by rw [HS0.out]; omega)).trans HA0.out
      clear hown hb1 CT t0 t1 t2 t3 t4 hwa
      have t0 := (cell_at q0 0).trans rfl
      have t1 := (cell_at q0 1).trans rfl
      have t2 := (cell_at q0 2).trans rfl
      have t3 := (cell_at q0 3).trans rfl
      have t4 := (cell_at q0 4).trans rfl
      clear q0
      go_wp2_with fail
      refine (CC.out _ HB1.out).mono ?_
      rintro e w2 ⟨rfl, hb2⟩
      have HB2 := Lib.hid (HB1.out.trans (hb2.mono HB1.out.size))
      have HC2 := Lib.hid ((hb2.block w1.heap.size (by rw [HWA.out]; omega)).trans HC1.out)
      have HO2 := Lib.hid (own_below HO1.out hb2)
      have hw2 : w1.heap.size < w2.heap.size := by have := hb2.size; rw [HWA.out] at this; omega
      clear hb2 t0 t1 t2 t3 t4 CC
      have HBF := Lib.hid (HB0.out.trans (HB2.out.mono (by rw [HS0.out]; omega)))
      have HX := Lib.hid ((HB2.out.block (w.heap.size + 1) (by rw [HS0.out]; omega)).trans HA1.out)
      have k4 := (cell_at HX.out 0).trans rfl
      have k5 := (cell_at HX.out 1).trans rfl
      have f4 := frz HX.out 0
      have f5 := frz HX.out 1
      obtain ⟨HP1, HP2, _⟩ := put_box (x := .slice none 0 0) (y := .int .i64 0) HX.out HBF.out (by omega)
      have HP1 := Lib.hid HP1
      have HP2 := Lib.hid HP2
      go_wp2
      (try simp only [Exit.inBlock, Exit.then])
      refine bodyPost_ret (results_cs rfl _ rfl rfl HP1.out) rfl ?_
      exact ⟨none, 0, rfl, World.ownsRow_nil _ _ _ _, HP2.out⟩
end Go.Proofs.YtibephoepkofnaaGreat.Trn

namespace Go.Proofs.YtibephoepkofnaaGreat.Trp
open Go.RowKit Fr _root_.Go.Proofs.YtibephoepkofnaaGreat.Own Pk Pl Ins Rws Pok Arr Srt Mvp Pf Tst Tfp Tso Tsp Tsq Scs Tnx Trn
open Mv1 (ints_drop)

theorem card_range {zs : List Int} (h : okB zs = true) {i : Nat} (hi : i < zs.length) : -1 ≤ cardF (zs.getD i 0) ∧ cardF (zs.getD i 0) ≤ 11 := by
  unfold cardF
  split
  · omega
  · split <;> omega
theorem nx_valid {c : SC} {s : SR} (hok : okB c.1 = true) (hn : -1 ≤ c.2 ∧ c.2 ≤ 11) (hs : stepB (c.1.length : Int) s = true) : nxF c s = nextF c s := by
  unfold nxF
  rw [hok, decide_eq_true hn, hs]
  rfl
theorem run_noted {zs : List Int} {ss : List SR} {ps : List Int} (h0 : okB zs = true) (hs : ∀ i, i < ss.length → stepB zs.length (ss.getD i sr0) = true) : ∀ (i : Nat) (c : SC), i ≤ ss.length → runTo zs ss ps i = some c → -1 ≤ c.2 ∧ c.2 ≤ 11
  | 0, c, _, h => by
    simp only [runTo, Option.some.injEq] at h
    subst h
    exact ⟨show (-1 : Int) ≤ -1 by decide, show (-1 : Int) ≤ 11 by decide⟩
  | i + 1, c, hi, h => by
    rw [runTo] at h
    cases hr : runTo zs ss ps i with
    | none => rw [hr] at h; cases h
    | some c0 =>
      rw [hr] at h
      simp only at h
      have hk := run_noted h0 hs i c0 (by omega) hr
      obtain ⟨k1, k2⟩ := run_keeps h0 hs i c0 (by omega) hr
      have hst := hs i (by omega)
      generalize ss.getD i sr0 = s at *
      split at h
      · next hp =>
        simp only [Option.some.injEq] at h
        have hm : c ∈ nextF c0 s := by
          generalize nextF c0 s = L at h hp ⊢
          rw [← h, List.getD_eq_getElem?_getD, List.getElem?_eq_getElem (by omega)]
          exact List.getElem_mem _
        clear h hp
        unfold nextF at hm
        by_cases h1 : s.k = 1
        · rw [if_pos h1, List.mem_singleton] at hm
          subst hm
          exact hk
        by_cases h3 : s.k = 3
        · rw [if_neg h1, if_pos h3, List.mem_singleton] at hm
          subst hm
          unfold stepB at hst
          rw [Bool.and_eq_true, if_neg h1, if_neg (by omega), if_pos h3, Bool.and_eq_true] at hst
          have ha := of_decide_eq_true hst.2.2
          exact card_range k1 (by rw [k2]; omega)
        · rw [if_neg h1, if_neg h3] at hm
          obtain ⟨p, hp, rfl⟩ := List.mem_map.1 hm
          exact hk
      · cases h
theorem drop_cons {l : List Int} {k : Nat} (h : k < l.length) : l.drop k = l.getD k 0 :: l.drop (k + 1) := by
  rw [List.drop_eq_getElem_cons h, List.getD_eq_getElem?_getD, List.getElem?_eq_getElem h]
  rfl
theorem ints_tail {w : World} {B b o : Nat} {x : Int} {l : List Int} (h : IntsAt w B .i64 (some ⟨b, o, none⟩) (x :: l)) : IntsAt w B .i64 (some ⟨b, o + 1, none⟩) l := by
  have := ints_drop (k := 1) h
  simpa using this
set_option maxHeartbeats 4000000 in
theorem impl_run (A : Option Addr) (n c : Nat) (zs : List Int) (S : Option Addr) (m d : Nat) (ss : List SR) (x a b : Int) (P : Option Addr) (np cp : Nat) (ps : List Int) (w : World) (hn : zs.length = n) (hn2 : n ≤ 1048576) (hz : Fits zs) (hss : IntsAt w w.heap.size .i64 A zs)
    (hk : ss.length = m) (hk2 : m ≤ 1048576) (hst : StepsAt w w.heap.size S ss) (hp : ps.length = np) (hpc : np ≤ cp) (hp2 : np ≤ 1048576) (hpp : IntsAt w w.heap.size .i64 P ps) :
    Calls Tryz.prog 19 #[Trk.trV A n c S m d x a b, .slice P np cp] w (IsScB w.heap.size (runS zs ss x a b ps) (runM zs ss x a b ps) (runB zs ss x a b ps) w) := by
  obtain ⟨hs, hb0, a0, a1⟩ := two_at w #[.slice A n c, .slice S m d, .int .i64 x, .int .i64 a, .int .i64 b] #[.slice none 0 0, .int .i64 0] 51 32
  obtain ⟨W0, hW0⟩ : ∃ W0, W0 = (w.alloc (.cells #[.slice A n c, .slice S m d, .int .i64 x, .int .i64 a, .int .i64 b] 51)).alloc (.cells #[.slice none 0 0, .int .i64 0] 32) := ⟨_, rfl⟩
  rw [← hW0] at hs hb0 a0 a1
  have t0 := (cell_at a0 0).trans rfl
  have t1 := (cell_at a0 1).trans rfl
  have t2 := (cell_at a0 2).trans rfl
  have t3 := (cell_at a0 3).trans rfl
  have t4 := (cell_at a0 4).trans rfl
  have HB0 := Lib.hid hb0
  have HA0 := Lib.hid a0
  have HA1 := Lib.hid a1
  have HS0 := Lib.hid hs
  have HST := Lib.hid ((hst.below hb0).more (show w.heap.size ≤ W0.heap.size by omega))
  have HI := Lib.hid ((hss.below hb0).more (show w.heap.size ≤ W0.heap.size by omega))
  have HPP := Lib.hid ((hpp.below hb0).more (show w.heap.size ≤ W0.heap.size by omega))
  have CT := Tip.impl_start A n c zs S m d ss x a b W0 hn hn2 hz HI.out hk hk2 HST.out
  have CC := Lib.hid (fun (W : World) (hb : Below W0.heap.size W0 W) => Tip.impl_choices A n c zs S m d ss x a b W hn hn2 hz ((HI.out.below hb).more hb.size) hk hk2 ((HST.out.below hb).more hb.size))
  unfold startS startM at CT
  have HN := Lib.hid hn
  have HM := Lib.hid hk
  have HP := Lib.hid hp
  obtain ⟨RS, hRS⟩ : ∃ R, R = runS zs ss x a b ps := ⟨_, rfl⟩
  obtain ⟨RM, hRM⟩ : ∃ R, R = runM zs ss x a b ps := ⟨_, rfl⟩
  obtain ⟨RB, hRB⟩ : ∃ R, R = runB zs ss x a b ps := ⟨_, rfl⟩
  rw [← hRS, ← hRM, ← hRB]
  clear hss hst hpp hb0 a0 a1 hs
  cases ht : trickB zs ss x a b with
  | false =>
    obtain ⟨e1, e2, e3⟩ := run_no1 (zs := zs) (ss := ss) (x := x) (a := a) (b := b) (ps := ps) (fun h => by rw [ht] at h; cases h.1)
    rw [hRS, hRM, hRB, e1, e2, e3]
    rw [ht] at CT
    clear hRS hRM hRB e1 e2 e3 ht hn hk hp hz CC
    go_enter Tryz.func19, Tryz.ntmps19
    go_wp2_with fail
    rw [← hW0]
    clear hW0
    go_wp2_with fail
    refine CT.mono ?_
    rintro e w1 ⟨A5, c5, rfl, hown, hb1⟩
    have HB1 := Lib.hid (hb1.trans ((box_below w1 (.cells #[.slice A5 0 c5, .int .i64 0] 32)).mono hb1.size))
    have HBF := Lib.hid (HB0.out.trans (HB1.out.mono (by rw [HS0.out]; omega)))
    have HX := Lib.hid ((HB1.out.block (w.heap.size + 1) (by rw [HS0.out]; omega)).trans HA1.out)
    clear hown hb1 CT t0 t1 t2 t3 t4
    have k4 := (cell_at HX.out 0).trans rfl
    have k5 := (cell_at HX.out 1).trans rfl
    have f4 := frz HX.out 0
    have f5 := frz HX.out 1
    obtain ⟨HP1, HP2, _⟩ := put_box (x := .slice none 0 0) (y := .int .i64 0) HX.out HBF.out (by omega)
    have HP1 := Lib.hid HP1
    have HP2 := Lib.hid HP2
    go_wp2
    (try simp only [Exit.inBlock, Exit.then])
    refine bodyPost_ret (results_cs rfl _ rfl rfl HP1.out) rfl ?_
    exact ⟨none, 0, rfl, World.ownsRow_nil _ _ _ _, HP2.out⟩
  | true =>
    have hcnt : cntF zs ss x a b = (countF ss : Int) := by unfold cntF; rw [ht]; rfl
    rw [hcnt] at CC
    rw [ht, if_pos rfl, if_pos rfl] at CT
    obtain ⟨u1, u2, u3, u4, _⟩ := trick_parts ht
    have hcl : countF ss ≤ 12 := by have := count_le ss; omega
    by_cases hpe : np = countF ss
    · have HRY := Lib.hid (fun (cc : SC) (h : runTo zs ss ps ss.length = some cc) => run_yes (x := x) (a := a) (b := b) ht (by rw [hp]; exact hpe) h)
      have HRN := Lib.hid (fun (i : Nat) (hi : i ≤ ss.length) (h : runTo zs ss ps i = none) => run_no2 (x := x) (a := a) (b := b) hi h)
      rw [← hRS, ← hRM, ← hRB] at HRY HRN
      have HKE := Lib.hid (fun (i : Nat) (cc : SC) => run_keeps (ps := ps) u1 u4 i cc)
      have HS4 := Lib.hid u4
      have HKN := Lib.hid (fun (i : Nat) (cc : SC) => run_noted (ps := ps) u1 u4 i cc)
      rw [← hpe] at CC
      have HPE := Lib.hid hpe
      have HU := Lib.hid u3
      have HU2 := Lib.hid u2
      clear hRS hRM hRB ht hn hk hp hz u4 u1 hcnt hpe hcl u3 u2
      go_enter Tryz.func19, Tryz.ntmps19
      go_wp2_with fail
      rw [← hW0]
      clear hW0
      go_wp2_with fail
      refine CT.mono ?_
      rintro e w1 ⟨A5, c5, rfl, hown, hb1⟩
      have HB1 := Lib.hid (hb1.trans ((box_below w1 (.cells #[.slice A5 zs.length c5, .int .i64 (-1)] 32)).mono hb1.size))
      have HC1 := Lib.hid (heap_alloc_new w1 (.cells #[.slice A5 zs.length c5, .int .i64 (-1)] 32))
      have HO1 := Lib.hid (own_below hown (box_below w1 (.cells #[.slice A5 zs.length c5, .int .i64 (-1)] 32)))
      have hw1 := hb1.size
      have hwa : (w1.alloc (.cells #[.slice A5 zs.length c5, .int .i64 (-1)] 32)).heap.size = w1.heap.size + 1 := by simp
      have HWA := Lib.hid hwa
      have q0 := (HB1.out.block w.heap.size (by rw [HS0.out]; omega)).trans HA0.out
      clear hown hb1 CT t0 t1 t2 t3 t4 hwa
      have t0 := (cell_at q0 0).trans rfl
      have t1 := (cell_at q0 1).trans rfl
      have t2 := (cell_at q0 2).trans rfl
      have t3 := (cell_at q0 3).trans rfl
      have t4 := (cell_at q0 4).trans rfl
      clear q0
      go_wp2_with fail
      refine (CC.out _ HB1.out).mono ?_
      rintro e w2 ⟨rfl, hb2⟩
      have HB2 := Lib.hid (HB1.out.trans (hb2.mono HB1.out.size))
      have HC2 := Lib.hid ((hb2.block w1.heap.size (by rw [HWA.out]; omega)).trans HC1.out)
      have HO2 := Lib.hid (own_below HO1.out hb2)
      have hw2 : w1.heap.size < w2.heap.size := by have := hb2.size; rw [HWA.out] at this; omega
      clear hb2 t0 t1 t2 t3 t4 CC
      have HBX := Lib.hid HB2.out
      have y1 := (cell_at ((HB2.out.block w.heap.size (by rw [HS0.out]; omega)).trans HA0.out) 1).trans rfl
      go_wp2
      go_loopg [1, 9, 10, 11, 30] m (fun g s1 _ _ _ s30 wr => ∃ (k q : Nat) (cc : SC) (Ac : Option Addr) (ccap : Nat) (Pk : Option Addr) (dk ck : Nat), k ≤ m ∧ g = m - k ∧ s30 = .int .i64 (k : Int) ∧ s1 = .slice Pk dk ck ∧ dk ≤ ck ∧ q ≤ k ∧ Hid (q + dk = np) ∧ Hid (IntsAt W0 W0.heap.size .i64 Pk (ps.drop q)) ∧ Hid (q = countF (ss.take k)) ∧ Hid (runTo zs ss ps k = some cc) ∧
        Hid (wr.heap[w1.heap.size]? = some (.cells #[.slice Ac zs.length ccap, .int .i64 cc.2] 32 (0, 0))) ∧ Hid (wr.ownsRow W0.heap.size 3 1 (.slice Ac zs.length ccap) zs.length (cc.1.map (Value.int .i64))) ∧ Hid (Below W0.heap.size W0 wr))
      case atStart => exact ⟨0, 0, (zs, -1), A5, c5, P, np, cp, Nat.zero_le _, rfl, rfl, rfl, hpc, Nat.le_refl _, Lib.hid (Nat.zero_add _), HPP, Lib.hid rfl, Lib.hid rfl, HC2, HO2, HB2⟩
      case round =>
        obtain ⟨k, q, cc, Ac, ccap, Pk, dk, ck, hk, hg, rfl, rfl, hdc, hq, HDQ, HDP, HQ, HR, HC, HO, HB⟩ := hrel
        clear y1 HC1 HO1 HC2 HO2 HB2 hw2
        have hsz := HB.out.size
        have hcb : w1.heap.size < wr.heap.size := (Array.getElem?_eq_some_iff.1 HC.out).1
        by_cases hlt : k < m
        · obtain ⟨b1, o1, rfl, hbb, p0, p1, p2, p3⟩ := (HST.out.below HB.out) k (by rw [HM.out]; exact hlt)
          obtain ⟨k1, k2⟩ := HKE.out k cc (by rw [HM.out]; omega) HR.out
          have hsk := HS4.out k (by rw [HM.out]; exact hlt)
          have hkn := HKN.out k cc (by rw [HM.out]; omega) HR.out
          have HCN := Lib.hid (count_next (ss := ss) (k := k) (by rw [HM.out]; exact hlt))
          have HCM := Lib.hid (count_mono ss (i := k + 1) (j := m) (by omega))
          have HCE := Lib.hid (show countF (ss.take m) = np by rw [List.take_of_length_le (by rw [HM.out]; exact Nat.le_refl _)]; exact HPE.out.symm)
          have NK0 := Lib.hid (show runTo zs ss ps (k + 1) = if 0 ≤ pickAt ss ps k ∧ pickAt ss ps k < (nextF cc (ss.getD k sr0)).length then some ((nextF cc (ss.getD k sr0)).getD (pickAt ss ps k).toNat sc0) else none by rw [runTo, HR.out])
          have HPK := Lib.hid (show pickAt ss ps k = if (ss.getD k sr0).k = 2 then ps.getD q 0 else 0 by rw [HQ.out]; rfl)
          generalize hstp : ss.getD k sr0 = st at *
          obtain ⟨x0, x1, x2, x3⟩ := st
          simp only at p0 p1 p2 p3 HCN HPK
          have hb3 := box_below wr (.cells #[.int .i64 x0, .int .i64 x1, .int .i64 x2, .int .i64 x3] 36)
          have q0 := Lib.hid (heap_alloc_new wr (.cells #[.int .i64 x0, .int .i64 x1, .int .i64 x2, .int .i64 x3] 36))
          have HC3 := Lib.hid ((hb3.block w1.heap.size hcb).trans HC.out)
          have CN := Tnp.impl_nx Ac zs.length ccap cc.1 cc.2 ⟨x0, x1, x2, x3⟩ (wr.alloc (.cells #[.int .i64 x0, .int .i64 x1, .int .i64 x2, .int .i64 x3] 36)) k2 (own_cap HO.out) (by have := (okB_yes k1).1; omega) (ok_fits k1) (((ints_of HO.out).below hb3).more hb3.size)
          rw [nx_valid (c := (cc.1, cc.2)) k1 hkn (by rw [k2]; exact hsk)] at CN
          have HCH := Lib.hid (fun W => Tia.is_choice ⟨x0, x1, x2, x3⟩ W)
          rw [Tip.choice_kind hsk] at HCH
          simp only at HCH
          have hfew := next_few (c := (cc.1, cc.2)) k1 (by rw [k2]; exact hsk)
          have t0 := (cell_at HC3.out 0).trans rfl
          have t1 := (cell_at HC3.out 1).trans rfl
          have s0 := (cell_at q0.out 0).trans rfl
          have s1 := (cell_at q0.out 1).trans rfl
          have s2 := (cell_at q0.out 2).trans rfl
          have s3 := (cell_at q0.out 3).trans rfl
          have HB3 := Lib.hid (HB.out.trans (hb3.mono hsz))
          have hs3 : wr.heap.size + 1 = (wr.alloc (.cells #[.int .i64 x0, .int .i64 x1, .int .i64 x2, .int .i64 x3] 36)).heap.size := by simp
          have HS3 := Lib.hid hs3
          generalize hL : nextF (cc.1, cc.2) ⟨x0, x1, x2, x3⟩ = L at *
          clear k1 k2 hsk hb3 hL HC hstp hs3 hkn
          go_wp2_with fail
          refine CN.mono ?_
          rintro e w5 ⟨A4, c4, ds, rfl, hd, hrow, hb5⟩
          have HB5 := Lib.hid (HB3.out.trans (hb5.mono HB3.out.size))
          have HC5 := Lib.hid ((hb5.block w1.heap.size (by have := HS3.out; omega)).trans HC3.out)
          have q5 := Lib.hid ((hb5.block wr.heap.size (by have := HS3.out; omega)).trans q0.out)
          have e0 := (cell_at q5.out 0).trans rfl
          have e1 := (cell_at q5.out 1).trans rfl
          have e2 := (cell_at q5.out 2).trans rfl
          have e3 := (cell_at q5.out 3).trans rfl
          have HWR := Lib.hid (show wr.heap.size < w5.heap.size by have h1 := hb5.size; have h2 := HS3.out; omega)
          have ROW := Lib.hid hrow
          have HD := Lib.hid hd
          clear hrow hd hb5 CN t0 t1 q0 HC3 HB3 s0 s1 s2 s3 q5
          generalize L.length = l at *
          have HFW := Lib.hid hfew
          clear hfew
          by_cases h2 : x0 = 2
          · subst h2
            rw [decide_eq_true (show (2 : Int) = 2 from rfl)] at HCH
            obtain ⟨pk, hpk⟩ : ∃ z, z = ps.getD q 0 := ⟨_, rfl⟩
            have NK := Lib.hid (show runTo zs ss ps (k + 1) = if 0 ≤ pk ∧ pk < (l : Int) then some (L.getD pk.toNat sc0) else none by rw [NK0.out, HPK.out, if_pos rfl, hpk])
            have HQ3 := Lib.hid (show q + 1 = countF (ss.take (k + 1)) by rw [HCN.out, if_pos rfl, HQ.out])
            have hqn : q < np := by have h1 := HQ3.out; have h3 := HCM.out; have h4 := HCE.out; omega
            have HDR := Lib.hid (show IntsAt W0 W0.heap.size .i64 Pk (ps.getD q 0 :: ps.drop (q + 1)) by rw [← drop_cons (by rw [HP.out]; exact hqn)]; exact HDP.out)
            obtain ⟨bp, op, rfl, hbp, hcp⟩ := HDR.out 0 (by simp)
            rw [← hpk] at HDR hcp
            rw [Nat.add_zero] at hcp
            simp only [List.getD_cons_zero] at hcp
            have HDT := Lib.hid (ints_tail HDR.out)
            obtain ⟨dd, hdd⟩ : ∃ dd, dk = dd + 1 := ⟨dk - 1, by have := HDQ.out; omega⟩
            have HDD := Lib.hid (show (q + 1) + dd = np by have := HDQ.out; omega)
            subst hdd
            clear HPK NK0 HCN HCM HCE hpk HDR HDQ hqn
            go_wp2_with fail
            refine (HCH.out _).mono ?_
            rintro e w6 ⟨rfl, hb6⟩
            obtain ⟨w7, hw7⟩ : ∃ w7, w7 = w6.drew := ⟨_, rfl⟩
            have hb7 : Below w6.heap.size w6 w7 := by rw [hw7]; exact (Below.refl _ _).drew
            have HB7 := Lib.hid (HB5.out.trans ((hb6.trans (hb7.mono hb6.size)).mono HB5.out.size))
            have HC7 := Lib.hid (((hb6.trans (hb7.mono hb6.size)).block w1.heap.size (by have := (Array.getElem?_eq_some_iff.1 HC5.out).1; omega)).trans HC5.out)
            have ROW7 := Lib.hid (ROW.out.below (hb6.trans (hb7.mono hb6.size)))
            have hcp6 : w6.cell? ⟨bp, op, none⟩ = some (.int .i64 pk) := ((HB5.out.trans (hb6.mono HB5.out.size)).cell (p := ⟨bp, op, none⟩) hbp).trans hcp
            have hwr7 : wr.heap.size < w7.heap.size := by have h1 := hb6.size; have h2 := hb7.size; have h3 := HWR.out; omega
            have HW7 := Lib.hid hwr7
            clear hb6 hb7 HC5 ROW HB5 e0 e1 e2 e3 hcp hwr7
            by_cases hck : ck = 1
            · subst hck
              have hdz : dd = 0 := by omega
              subst hdz
              have HNIL := Lib.hid (show IntsAt W0 W0.heap.size .i64 (some ⟨bp, op, none⟩) (ps.drop (q + 1)) by rw [List.drop_of_length_le (by rw [HP.out, ← HDD.out]; omega)]; exact fun j hj => absurd hj (Nat.not_lt_zero _))
              by_cases hx : 0 ≤ pk ∧ pk < (l : Int)
              · obtain ⟨xk, hxk⟩ : ∃ xk : Nat, pk = xk := ⟨pk.toNat, by omega⟩
                subst hxk
                have hxl : xk < l := by omega
                obtain ⟨g4, rfl, z0, z1, _⟩ := ROW7.out.cell xk hxl
                have hrr := ROW7.out.2.1 xk (by rw [ROW7.out.len]; exact hxl)
                have hsc : runTo zs ss ps (k + 1) = some (ds.getD xk sd0).sc := by
                  rw [NK.out, if_pos (by omega), show ((xk : Int)).toNat = xk from rfl, ← HD.out]
                  congr 1
                  rw [List.getD_eq_getElem?_getD, List.getD_eq_getElem?_getD, List.getElem?_map]
                  cases ds[xk]? <;> rfl
                have hll := (HKE.out (k + 1) _ (by rw [HM.out]; omega) hsc).2
                simp only [SD.sc] at hll hsc
                have HSC := Lib.hid hsc
                have hown6 := hrr.own
                simp only [RD.v] at z0
                rw [hll] at z0 hown6
                generalize (ds.getD xk sd0).r.A = A6 at *
                generalize (ds.getD xk sd0).r.c = c6 at *
                generalize (ds.getD xk sd0).r.zs = z6 at *
                generalize (ds.getD xk sd0).n = y6 at *
                have k4 := (cell_at HC7.out 0).trans rfl
                have k5 := (cell_at HC7.out 1).trans rfl
                have f4 := frz HC7.out 0
                have f5 := frz HC7.out 1
                have hg6 := (set_grown w7 w1.heap.size 0 (.slice A6 zs.length c6)).trans (set_grown _ w1.heap.size 1 (.int .i64 y6))
                have HC6 := Lib.hid (Scn.put2 (x := .slice A6 zs.length c6) (y := .int .i64 y6) HC7.out)
                have HO6 := Lib.hid (own_mono (base' := W0.heap.size) (own_gr hown6 hg6 (fun j hj e => by have h1 := (own_lo hown6 j hj).1; injection e with e; have h2 := HS3.out; omega)) (by have h2 := HS3.out; omega))
                have HB6 := Lib.hid (HB7.out.grown hg6 HB7.out.size (fun j hj => by injection hj with hj; omega))
                have HII := Tia.impl_in (xk : Int) (l : Int) w7
                rw [show Tia.idxB (xk : Int) (l : Int) = true from decide_eq_true (by omega)] at HII
                clear hown6 hg6 hrr hsc hll NK HD ROW7 HC7
                go_wp2_with fail
                go_region
                rw [← hw7]
                clear hw7
                go_wp2_with fail
                refine HII.mono ?_
                rintro e w' ⟨rfl, rfl⟩
                go_wp2
                go_roundg (m - (k + 1))
                case rel => exact ⟨k + 1, q + 1, (z6, y6), A6, c6, some ⟨bp, op, none⟩, 0, 0, by omega, rfl, by go_num, rfl, Nat.le_refl _, by omega, HDD, HNIL, HQ3, HSC, HC6, HO6, HB6⟩
                case measure => omega
              · obtain ⟨e1, e2, e3⟩ := HRN.out (k + 1) (by rw [HM.out]; omega) (by rw [NK.out, if_neg (by omega)])
                have HF1 := Lib.hid e1
                have HF2 := Lib.hid e2
                have HF3 := Lib.hid e3
                have HBF := Lib.hid (HB0.out.trans (HB7.out.mono (by rw [HS0.out]; omega)))
                have HX := Lib.hid ((HB7.out.block (w.heap.size + 1) (by rw [HS0.out]; omega)).trans HA1.out)
                have HII := Tia.impl_in pk (l : Int) w7
                rw [show Tia.idxB pk (l : Int) = false from decide_eq_false (by omega)] at HII
                clear e1 e2 e3 NK HD ROW7 HC7
                go_wp2_with fail
                go_region
                rw [← hw7]
                clear hw7
                go_wp2_with fail
                refine HII.mono ?_
                rintro e w' ⟨rfl, rfl⟩
                have k4 := (cell_at HX.out 0).trans rfl
                have k5 := (cell_at HX.out 1).trans rfl
                have f4 := frz HX.out 0
                have f5 := frz HX.out 1
                obtain ⟨HP1, HP2, _⟩ := put_box (x := .slice none 0 0) (y := .int .i64 0) HX.out HBF.out (by omega)
                have HP1 := Lib.hid HP1
                have HP2 := Lib.hid HP2
                go_wp2
                (try simp only [Exit.inBlock, Exit.then])
                refine bodyPost_ret (results_cs rfl _ rfl rfl HP1.out) rfl ?_
                exact ⟨none, 0, by rw [HF1.out, HF2.out, HF3.out]; rfl, by rw [HF1.out]; exact World.ownsRow_nil _ _ _ _, HP2.out⟩
            · have hck2 : 1 < ck := by omega
              have hbne : (1 == ck) = false := by rw [beq_eq_false_iff_ne]; omega
              by_cases hx : 0 ≤ pk ∧ pk < (l : Int)
              · obtain ⟨xk, hxk⟩ : ∃ xk : Nat, pk = xk := ⟨pk.toNat, by omega⟩
                subst hxk
                have hxl : xk < l := by omega
                obtain ⟨g4, rfl, z0, z1, _⟩ := ROW7.out.cell xk hxl
                have hrr := ROW7.out.2.1 xk (by rw [ROW7.out.len]; exact hxl)
                have hsc : runTo zs ss ps (k + 1) = some (ds.getD xk sd0).sc := by
                  rw [NK.out, if_pos (by omega), show ((xk : Int)).toNat = xk from rfl, ← HD.out]
                  congr 1
                  rw [List.getD_eq_getElem?_getD, List.getD_eq_getElem?_getD, List.getElem?_map]
                  cases ds[xk]? <;> rfl
                have hll := (HKE.out (k + 1) _ (by rw [HM.out]; omega) hsc).2
                simp only [SD.sc] at hll hsc
                have HSC := Lib.hid hsc
                have hown6 := hrr.own
                simp only [RD.v] at z0
                rw [hll] at z0 hown6
                generalize (ds.getD xk sd0).r.A = A6 at *
                generalize (ds.getD xk sd0).r.c = c6 at *
                generalize (ds.getD xk sd0).r.zs = z6 at *
                generalize (ds.getD xk sd0).n = y6 at *
                have k4 := (cell_at HC7.out 0).trans rfl
                have k5 := (cell_at HC7.out 1).trans rfl
                have f4 := frz HC7.out 0
                have f5 := frz HC7.out 1
                have hg6 := (set_grown w7 w1.heap.size 0 (.slice A6 zs.length c6)).trans (set_grown _ w1.heap.size 1 (.int .i64 y6))
                have HC6 := Lib.hid (Scn.put2 (x := .slice A6 zs.length c6) (y := .int .i64 y6) HC7.out)
                have HO6 := Lib.hid (own_mono (base' := W0.heap.size) (own_gr hown6 hg6 (fun j hj e => by have h1 := (own_lo hown6 j hj).1; injection e with e; have h2 := HS3.out; omega)) (by have h2 := HS3.out; omega))
                have HB6 := Lib.hid (HB7.out.grown hg6 HB7.out.size (fun j hj => by injection hj with hj; omega))
                have HII := Tia.impl_in (xk : Int) (l : Int) w7
                rw [show Tia.idxB (xk : Int) (l : Int) = true from decide_eq_true (by omega)] at HII
                clear hown6 hg6 hrr hsc hll NK HD ROW7 HC7
                go_wp2_with fail
                go_region
                rw [← hw7]
                clear hw7
                go_wp2_with fail
                refine HII.mono ?_
                rintro e w' ⟨rfl, rfl⟩
                go_wp2
                go_roundg (m - (k + 1))
                case rel => exact ⟨k + 1, q + 1, (z6, y6), A6, c6, some ⟨bp, op + 1, none⟩, dd, ck - 1, by omega, rfl, by go_num, rfl, by omega, by omega, HDD, HDT, HQ3, HSC, HC6, HO6, HB6⟩
                case measure => omega
              · obtain ⟨e1, e2, e3⟩ := HRN.out (k + 1) (by rw [HM.out]; omega) (by rw [NK.out, if_neg (by omega)])
                have HF1 := Lib.hid e1
                have HF2 := Lib.hid e2
                have HF3 := Lib.hid e3
                have HBF := Lib.hid (HB0.out.trans (HB7.out.mono (by rw [HS0.out]; omega)))
                have HX := Lib.hid ((HB7.out.block (w.heap.size + 1) (by rw [HS0.out]; omega)).trans HA1.out)
                have HII := Tia.impl_in pk (l : Int) w7
                rw [show Tia.idxB pk (l : Int) = false from decide_eq_false (by omega)] at HII
                clear e1 e2 e3 NK HD ROW7 HC7
                go_wp2_with fail
                go_region
                rw [← hw7]
                clear hw7
                go_wp2_with fail
                refine HII.mono ?_
                rintro e w' ⟨rfl, rfl⟩
                have k4 := (cell_at HX.out 0).trans rfl
                have k5 := (cell_at HX.out 1).trans rfl
                have f4 := frz HX.out 0
                have f5 := frz HX.out 1
                obtain ⟨HP1, HP2, _⟩ := put_box (x := .slice none 0 0) (y := .int .i64 0) HX.out HBF.out (by omega)
                have HP1 := Lib.hid HP1
                have HP2 := Lib.hid HP2
                go_wp2
                (try simp only [Exit.inBlock, Exit.then])
                refine bodyPost_ret (results_cs rfl _ rfl rfl HP1.out) rfl ?_
                exact ⟨none, 0, by rw [HF1.out, HF2.out, HF3.out]; rfl, by rw [HF1.out]; exact World.ownsRow_nil _ _ _ _, HP2.out⟩
          · have NK := Lib.hid (show runTo zs ss ps (k + 1) = if 0 ≤ (0 : Int) ∧ (0 : Int) < (l : Int) then some (L.getD (0 : Int).toNat sc0) else none by rw [NK0.out, HPK.out, if_neg h2])
            have HQ3 := Lib.hid (show q = countF (ss.take (k + 1)) by rw [HCN.out, if_neg h2, HQ.out]; rfl)
            rw [decide_eq_false h2] at HCH
            clear HPK NK0 HCN HCM HCE
            go_wp2_with fail
            refine (HCH.out _).mono ?_
            rintro e w7 ⟨rfl, hb6⟩
            have HB7 := Lib.hid (HB5.out.trans (hb6.mono HB5.out.size))
            have HC7 := Lib.hid ((hb6.block w1.heap.size (by have := (Array.getElem?_eq_some_iff.1 HC5.out).1; omega)).trans HC5.out)
            have ROW7 := Lib.hid (ROW.out.below hb6)
            have hwr7 : wr.heap.size < w7.heap.size := by have h1 := hb6.size; have h3 := HWR.out; omega
            have HW7 := Lib.hid hwr7
            clear hb6 HC5 ROW HB5 e0 e1 e2 e3 hwr7
            by_cases hx : 0 ≤ (0 : Int) ∧ (0 : Int) < (l : Int)
            · have hxl : 0 < l := by omega
              obtain ⟨g4, rfl, z0, z1, _⟩ := ROW7.out.cell 0 hxl
              have hrr := ROW7.out.2.1 0 (by rw [ROW7.out.len]; exact hxl)
              have hsc : runTo zs ss ps (k + 1) = some (ds.getD 0 sd0).sc := by
                rw [NK.out, if_pos (by omega), show ((0 : Int)).toNat = 0 from rfl, ← HD.out]
                congr 1
                rw [List.getD_eq_getElem?_getD, List.getD_eq_getElem?_getD, List.getElem?_map]
                cases ds[0]? <;> rfl
              have hll := (HKE.out (k + 1) _ (by rw [HM.out]; omega) hsc).2
              simp only [SD.sc] at hll hsc
              have HSC := Lib.hid hsc
              have hown6 := hrr.own
              simp only [RD.v] at z0
              rw [Nat.zero_mul] at z0 z1
              rw [Nat.zero_add] at z1
              rw [hll] at z0 hown6
              generalize (ds.getD 0 sd0).r.A = A6 at *
              generalize (ds.getD 0 sd0).r.c = c6 at *
              generalize (ds.getD 0 sd0).r.zs = z6 at *
              generalize (ds.getD 0 sd0).n = y6 at *
              have k4 := (cell_at HC7.out 0).trans rfl
              have k5 := (cell_at HC7.out 1).trans rfl
              have f4 := frz HC7.out 0
              have f5 := frz HC7.out 1
              have hg6 := (set_grown w7 w1.heap.size 0 (.slice A6 zs.length c6)).trans (set_grown _ w1.heap.size 1 (.int .i64 y6))
              have HC6 := Lib.hid (Scn.put2 (x := .slice A6 zs.length c6) (y := .int .i64 y6) HC7.out)
              have HO6 := Lib.hid (own_mono (base' := W0.heap.size) (own_gr hown6 hg6 (fun j hj e => by have h1 := (own_lo hown6 j hj).1; injection e with e; have h2 := HS3.out; omega)) (by have h2 := HS3.out; omega))
              have HB6 := Lib.hid (HB7.out.grown hg6 HB7.out.size (fun j hj => by injection hj with hj; omega))
              have HII := Tia.impl_in (0 : Int) (l : Int) w7
              rw [show Tia.idxB (0 : Int) (l : Int) = true from decide_eq_true (by omega)] at HII
              clear hown6 hg6 hrr hsc hll NK HD ROW7 HC7
              go_wp2_with fail
              refine HII.mono ?_
              rintro e w' ⟨rfl, rfl⟩
              go_wp2
              go_roundg (m - (k + 1))
              case rel => exact ⟨k + 1, q, (z6, y6), A6, c6, Pk, dk, ck, by omega, rfl, by go_num, rfl, hdc, by omega, HDQ, HDP, HQ3, HSC, HC6, HO6, HB6⟩
              case measure => omega
            · obtain ⟨e1, e2, e3⟩ := HRN.out (k + 1) (by rw [HM.out]; omega) (by rw [NK.out, if_neg (by omega)])
              have HF1 := Lib.hid e1
              have HF2 := Lib.hid e2
              have HF3 := Lib.hid e3
              have HBF := Lib.hid (HB0.out.trans (HB7.out.mono (by rw [HS0.out]; omega)))
              have HX := Lib.hid ((HB7.out.block (w.heap.size + 1) (by rw [HS0.out]; omega)).trans HA1.out)
              have HII := Tia.impl_in (0 : Int) (l : Int) w7
              rw [show Tia.idxB (0 : Int) (l : Int) = false from decide_eq_false (by omega)] at HII
              clear e1 e2 e3 NK HD ROW7 HC7
              go_wp2_with fail
              refine HII.mono ?_
              rintro e w' ⟨rfl, rfl⟩
              have k4 := (cell_at HX.out 0).trans rfl
              have k5 := (cell_at HX.out 1).trans rfl
              have f4 := frz HX.out 0
              have f5 := frz HX.out 1
              obtain ⟨HP1, HP2, _⟩ := put_box (x := .slice none 0 0) (y := .int .i64 0) HX.out HBF.out (by omega)
              have HP1 := Lib.hid HP1
              have HP2 := Lib.hid HP2
              go_wp2
              (try simp only [Exit.inBlock, Exit.then])
              refine bodyPost_ret (results_cs rfl _ rfl rfl HP1.out) rfl ?_
              exact ⟨none, 0, by rw [HF1.out, HF2.out, HF3.out]; rfl, by rw [HF1.out]; exact World.ownsRow_nil _ _ _ _, HP2.out⟩
        · have hkm : k = m := by omega
          subst hkm
          obtain ⟨e1, e2, e3⟩ := HRY.out cc (by rw [HM.out]; exact HR.out)
          have hll := (HKE.out k cc (by rw [HM.out]; exact Nat.le_refl _) HR.out).2
          have HF1 := Lib.hid e1
          have HF2 := Lib.hid e2
          have HF3 := Lib.hid e3
          have HLL := Lib.hid hll
          have c0 := (cell_at HC.out 0).trans rfl
          have c1 := (cell_at HC.out 1).trans rfl
          have HBF := Lib.hid (HB0.out.trans (HB.out.mono (by rw [HS0.out]; omega)))
          have HX := Lib.hid ((HB.out.block (w.heap.size + 1) (by rw [HS0.out]; omega)).trans HA1.out)
          have k4 := (cell_at HX.out 0).trans rfl
          have k5 := (cell_at HX.out 1).trans rfl
          have f4 := frz HX.out 0
          have f5 := frz HX.out 1
          obtain ⟨HP1, HP2, HP3⟩ := put_box (x := .slice Ac zs.length ccap) (y := .int .i64 cc.2) HX.out HBF.out (by omega)
          have HP1 := Lib.hid HP1
          have HP2 := Lib.hid HP2
          have HO6 := Lib.hid (own_mono (base' := w.heap.size) (own_gr HO.out HP3 (fun j hj e => by have h1 := (own_lo HO.out j hj).1; injection e with e; have h2 := HS0.out; omega)) (by have h2 := HS0.out; omega))
          clear e1 e2 e3 hll HP3
          go_wp2
          (try simp only [Exit.inBlock, Exit.then])
          refine bodyPost_ret (results_cs rfl _ rfl rfl HP1.out) rfl ?_
          exact ⟨Ac, ccap, by rw [HF1.out, HF2.out, HF3.out, HLL.out]; rfl, by rw [HF1.out, HLL.out]; exact HO6.out, HP2.out⟩
    · obtain ⟨e1, e2, e3⟩ := run_no1 (zs := zs) (ss := ss) (x := x) (a := a) (b := b) (ps := ps) (fun h => hpe (by rw [← hp]; exact h.2))
      rw [hRS, hRM, hRB, e1, e2, e3]
      have hpe2 : ((np : Int) == (countF ss : Int)) = false := by rw [beq_eq_false_iff_ne]; omega
      clear hRS hRM hRB e1 e2 e3 ht hn hk hp hz u4 u1 hcnt
      go_enter Tryz.func19, Tryz.ntmps19
      go_wp2_with fail
      rw [← hW0]
      clear hW0
      go_wp2_with fail
      refine CT.mono ?_
      rintro e w1 ⟨A5, c5, rfl, hown, hb1⟩
      have HB1 := Lib.hid (hb1.trans ((box_below w1 (.cells #[.slice A5 zs.length c5, .int .i64 (-1)] 32)).mono hb1.size))
      have HC1 := Lib.hid (heap_alloc_new w1 (.cells #[.slice A5 zs.length c5, .int .i64 (-1)] 32))
      have HO1 := Lib.hid (own_below hown (box_below w1 (.cells #[.slice A5 zs.length c5, .int .i64 (-1)] 32)))
      have hw1 := hb1.size
      have hwa : (w1.alloc (.cells #[.slice A5 zs.length c5, .int .i64 (-1)] 32)).heap.size = w1.heap.size + 1 := by simp
      have HWA := Lib.hid hwa
      have q0 := (HB1.out.block w.heap.size (by rw [HS0.out]; omega)).trans HA0.out
      clear hown hb1 CT t0 t1 t2 t3 t4 hwa
      have t0 := (cell_at q0 0).trans rfl
      have t1 := (cell_at q0 1).trans rfl
      have t2 := (cell_at q0 2).trans rfl
      have t3 := (cell_at q0 3).trans rfl
      have t4 := (cell_at q0 4).trans rfl
      clear q0
      go_wp2_with fail
      refine (CC.out _ HB1.out).mono ?_
      rintro e w2 ⟨rfl, hb2⟩
      have HB2 := Lib.hid (HB1.out.trans (hb2.mono HB1.out.size))
      have HC2 := Lib.hid ((hb2.block w1.heap.size (by rw [HWA.out]; omega)).trans HC1.out)
      have HO2 := Lib.hid (own_below HO1.out hb2)
      have hw2 : w1.heap.size < w2.heap.size := by have := hb2.size; rw [HWA.out] at this; omega
      clear hb2 t0 t1 t2 t3 t4 CC
      have HBF := Lib.hid (HB0.out.trans (HB2.out.mono (by rw [HS0.out]; omega)))
      have HX := Lib.hid ((HB2.out.block (w.heap.size + 1) (by rw [HS0.out]; omega)).trans HA1.out)
      have k4 := (cell_at HX.out 0).trans rfl
      have k5 := (cell_at HX.out 1).trans rfl
      have f4 := frz HX.out 0
      have f5 := frz HX.out 1
      obtain ⟨HP1, HP2, _⟩ := put_box (x := .slice none 0 0) (y := .int .i64 0) HX.out HBF.out (by omega)
      have HP1 := Lib.hid HP1
      have HP2 := Lib.hid HP2
      go_wp2
      (try simp only [Exit.inBlock, Exit.then])
      refine bodyPost_ret (results_cs rfl _ rfl rfl HP1.out) rfl ?_
      exact ⟨none, 0, rfl, World.ownsRow_nil _ _ _ _, HP2.out⟩
end Go.Proofs.YtibephoepkofnaaGreat.Trp
