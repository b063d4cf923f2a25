/- The rising sequences as the program has them: copyOf, RisingSequences. -/
import Derived.Test.YtpmfiflpipcojaaRsh
import Derived.Laws.CopyOwn
set_option linter.unusedVariables false
set_option maxRecDepth 20000
namespace Go.Proofs.Ytpmfiflpipcojaa.Rsc
open Go.RowKit Fr _root_.Go.Proofs.Ytpmfiflpipcojaa.Own Ins Prm Pfn Rws Cyc Rsm

theorem SSRow.lower {W : World} {lo lo' hi : Nat} {A : Option Addr} {n c : Nat} {rs : List RD} (h : SSRow W lo hi A n c rs) (hl : lo' ≤ lo) : SSRow W lo' hi A n c rs :=
  ⟨own_mono h.1 hl, fun i hi => ⟨own_mono (h.2.1 i hi).1 hl, (h.2.1 i hi).2.1, (h.2.1 i hi).2.2⟩, h.2.2.1, h.2.2.2.1, h.2.2.2.2⟩
theorem infoIntSize : (Try.prog.info? 3).map (·.size) = some 1 := by kernel_rfl
def CopyFrom (w1 : World) (dp A : Option Addr) (g off : Nat) (cs : List Value) : Prop := 0 < cs.length → dp = some ⟨g, off, none⟩ ∧ ∃ ad, A = some ad ∧ ∀ j v, cs[j]? = some v → w1.cell? (ad.add j) = some v
theorem copy_run {w w1 : World} {A : Option Addr} {g n c B : Nat} {cur cs : List Value} {t ty : TypeId} (hg : w1.heap[g]? = some (.cells cur.toArray t (0, 0))) (hn : cs.length = Nat.min n n) (hs : CopyFrom w1 (some ⟨g, 0, none⟩) A g 0 cs)
    (hfit : 0 + cs.length ≤ cur.length) (h1 : ∀ v ∈ cs, v.oneCell' = true) (hb : Below B w w1) (hB : B ≤ g) :
    ∃ w2, (Builtin.copy_ #[23, 23] ty #[.slice (some ⟨g, 0, none⟩) n n, .slice A n c]).run Try.prog w1 = .ok (goInt cs.length) w2 ∧ Hid (w2.heap[g]? = some (.cells (splice cur 0 cs).toArray t (0, 0))) ∧ Below B w w2 := by
  by_cases h0 : cs.length = 0
  · obtain rfl : cs = [] := List.eq_nil_of_length_eq_zero h0
    exact ⟨w1, run_copy_none w1 _ _ _ 3 _ _ _ _ _ _ Try.underlying23 infoIntSize (by simpa using hn.symm), (show _ = _ by simpa [splice] using hg), hb⟩
  · obtain ⟨_, ad, rfl, hsrc⟩ := hs (by omega)
    refine ⟨_, run_copy_row Try.prog w1 _ _ _ 3 g 0 n n ad n c cur.toArray t cs Try.underlying23 infoIntSize hg hn hsrc (by simpa using hfit) h1, ?_, below_setRow hb hB _⟩
    exact (show _ = _ by simpa [splice] using setRow_heap w1 g _ _ t _ hg)
set_option maxHeartbeats 1000000 in
theorem impl_copyof (A : Option Addr) (n c : Nat) (zs : List Int) (w : World) (hn : zs.length = n) (hn2 : n ≤ 1048576) (hss : IntsAt w w.heap.size .i64 A zs) :
    Calls Try.prog 61 #[.slice A n c] w (IsIL w.heap.size zs w) := by
  obtain ⟨i0, hi, hz0, hz1, hz2⟩ := info_parts infoInt
  have HN := Lib.hid hn
  have HSS := Lib.hid hss
  clear hn hss
  go_enter Try.func61, Try.ntmps61
  go_wp2_with (refine wpList_make_full _ rfl (.tmp 5) (.tmp 5) 23 rfl w.heap.size 3 i0 (.int .i64 0) 1 Try.underlying23 hi hz0 hz1 .i64 .i64 n n n rfl rfl rfl rfl (by rw [hz2]; omega) (by unfold maxLen; omega) (Nat.le_refl _) ?_)
  intro w1 hown hgrow
  have hb1 : Below w.heap.size w w1 := (Below.refl _ _).grown hgrow (Nat.le_refl _) (fun k hk => by cases hk)
  obtain ⟨cur, hcur, hcl⟩ : ∃ cur : List Value, w1.heap[w.heap.size]? = some (.cells cur.toArray 3 (0, 0)) ∧ cur.length = n := by
    rcases hown.2 with ⟨h2, _⟩ | ⟨g, cap, cur, hv, hg, hh, r1, r2, r3, r4⟩
    · cases h2
    · simp only [Value.slice.injEq, Option.some.injEq, Addr.mk.injEq, and_true, true_and] at hv
      obtain ⟨rfl, rfl⟩ := hv
      exact ⟨cur.toList, by simpa using hh, by simpa using r3⟩
  have HB1 := Lib.hid hb1
  have HCUR := Lib.hid hcur
  have HCL := Lib.hid hcl
  obtain ⟨cs, hcs⟩ : ∃ cs, cs = zs.map (Value.int .i64) := ⟨_, rfl⟩
  have HCS := Lib.hid hcs
  have HC1 := Lib.hid (show cs.length = Nat.min n n by rw [hcs, List.length_map, HN.out]; simp)
  have HC2 := Lib.hid (show CopyFrom w1 (some ⟨w.heap.size, 0, none⟩) A w.heap.size 0 cs by
    intro h0
    have hz0 : 0 < zs.length := by rw [hcs, List.length_map] at h0; exact h0
    obtain ⟨b, o, rfl, hbb, hc⟩ := HSS.out 0 hz0
    refine ⟨rfl, ⟨b, o, none⟩, rfl, fun j v hv => ?_⟩
    rw [hcs, List.getElem?_map] at hv
    cases hz : zs[j]? with
    | none => rw [hz] at hv; cases hv
    | some x =>
      rw [hz] at hv
      simp only [Option.map_some, Option.some.injEq] at hv
      subst hv
      obtain ⟨hj, e⟩ := List.getElem?_eq_some_iff.1 hz
      obtain ⟨b', o', hA, hbb', hc'⟩ := HSS.out j hj
      simp only [Option.some.injEq, Addr.mk.injEq, and_true] at hA
      obtain ⟨rfl, rfl⟩ := hA
      show w1.cell? (Addr.add ⟨b, o, none⟩ j) = _
      rw [Go.WideShapes.add_plain, HB1.out.cell (p := ⟨b, o + j, none⟩) hbb', hc']
      simp [List.getD_eq_getElem?_getD, hz])
  have HC3 := Lib.hid (show 0 + cs.length ≤ cur.length by rw [HC1.out, HCL.out]; simp)
  have HC4 := Lib.hid (show ∀ v ∈ cs, v.oneCell' = true by intro v hv; rw [hcs] at hv; obtain ⟨x, _, rfl⟩ := List.mem_map.1 hv; rfl)
  clear hb1 hcur hcl hown hgrow hcs
  obtain ⟨w2, hrun, HG2, hb2⟩ := copy_run (ty := 3) HCUR.out HC1.out HC2.out HC3.out HC4.out HB1.out (Nat.le_refl _)
  have hl : cs.length = n := by have := HC1.out; simpa using this
  rw [hl] at hrun
  have HRUN := Lib.hid hrun
  clear hrun
  go_wp2
  rw [HRUN.out]
  go_wp2
  go_ret
  refine ⟨some ⟨w.heap.size, 0, none⟩, n, by rw [HN.out]; rfl, ⟨by simp, Or.inr ⟨w.heap.size, n, (splice cur 0 cs).toArray, by rw [HN.out], Nat.le_refl _, HG2.out, by rw [HN.out]; exact Nat.le_refl _, by unfold maxLen; omega, ?_, ?_⟩⟩, hb2⟩
  · have := length_splice cur 0 cs HC3.out
    simpa [HCL.out] using this
  · rw [← HCS.out]
    show (splice cur 0 cs).take _ = _
    unfold splice
    have hd : cur.drop (0 + cs.length) = [] := List.drop_eq_nil_of_le (by rw [HCL.out]; omega)
    rw [hd]
    simp only [List.take_zero, List.nil_append, List.append_nil, HN.out]
    exact List.take_of_length_le (by omega)
/-- the cards from k on below e -/
def run (k e : Nat) : List Nat := (List.range (e - k)).map fun j => k + j
theorem run_one (k : Nat) : run k (k + 1) = [k] := by
  unfold run; rw [show k + 1 - k = 1 by omega]; rfl
theorem run_snoc {k e : Nat} (h : k ≤ e) : run k (e + 1) = run k e ++ [e] := by
  unfold run
  rw [show e + 1 - k = (e - k) + 1 by omega, List.range_succ, List.map_append]
  simp
  omega
theorem run_len (k e : Nat) : (run k e).length = e - k := by simp [run]
theorem run_get {k e j : Nat} (h : j < e - k) : (ints (run k e)).getD j 0 = ((k + j : Nat) : Int) := by
  unfold ints run
  simp [List.getD_eq_getElem?_getD, h]
set_option maxHeartbeats 2000000 in
theorem impl_rise (A : Option Addr) (n c : Nat) (zs : List Int) (w : World) (hn : zs.length = n) (hn2 : n ≤ 9223372036854775807) (hz : Fits zs) (hss : IntsAt w w.heap.size .i64 A zs) :
    Calls Try.prog 24 #[.slice A n c] w (IsSS w.heap.size (riseI zs) w) := by
  obtain ⟨i1, hj, hy0, hy1, hy2⟩ := infos_parts
  obtain ⟨m, hm⟩ : ∃ m, m = (invF zs).length := ⟨_, rfl⟩
  obtain ⟨b, hb⟩ : ∃ b, b = nb zs := ⟨_, rfl⟩
  obtain ⟨ps, hps⟩ : ∃ ps, ps = invF zs := ⟨_, rfl⟩
  have hm12 : m ≤ 12 := by
    cases hp : permB zs with
    | false => rw [hm, invF_no hp]; exact Nat.zero_le _
    | true => rw [hm, invF_yes hp, invTo_len]; exact (permB_yes hp).1
  have hri : riseI zs = (rsF b m).map ints := by
    cases hp : permB zs with
    | false => rw [riseI_no hp, hm, invF_no hp]; rfl
    | true => rw [riseI_yes hp, hm, hb, invF_yes hp, invTo_len]
  have hbr : ∀ e : Nat, e + 1 < m → b (e + 1) = !decide (ps.getD e 0 < ps.getD (e + 1) 0) := by
    intro e he
    have hp : permB zs = true := by
      cases hp : permB zs with
      | false => rw [hm, invF_no hp] at he; cases he
      | true => rfl
    have hl : m = zs.length := by rw [hm, invF_yes hp, invTo_len]
    have h1 : e < zs.length := by omega
    have h2 : e + 1 < zs.length := by omega
    rw [hb, hps, Rsh.nb_succ, inv_get hp h1, inv_get hp h2]
    have hne : pv zs e ≠ pv zs (e + 1) := fun q => by
      have q1 := at_pv hp h1
      have q2 := at_pv hp h2
      rw [q, q2] at q1
      omega
    by_cases q : pv zs (e + 1) < pv zs e
    · rw [decide_eq_true q, decide_eq_false (by omega)]; rfl
    · rw [decide_eq_false q, decide_eq_true (by omega)]; rfl
  have hb0 : b 0 = true := by rw [hb]; exact nb_zero zs
  have HRI := Lib.hid hri
  have HBR := Lib.hid hbr
  have HM := Lib.hid hm
  have HPS := Lib.hid hps
  have HB0 := Lib.hid hb0
  clear hri hbr hm hps hb hb0
  go_enter Try.func24, Try.ntmps24
  go_wp2_with fail
  refine (impl_inv A n c zs _ hn hn2 hz hss).mono ?_
  rintro e w1 ⟨A1, c1, rfl, ho1, hb1⟩
  rw [← HPS.out] at ho1
  have hpl : ps.length = m := by rw [HPS.out]; exact HM.out.symm
  rw [← HM.out]
  rw [hpl] at ho1
  have HO1 := Lib.hid ho1
  have HBL1 := Lib.hid hb1
  have HPL := Lib.hid hpl
  clear ho1 hb1 hpl
  go_wp2_with fail
  refine (impl_id (m : Int) w1 (by omega) (by omega)).mono ?_
  rintro e w2 ⟨A2, c2, rfl, ho2, hb2⟩
  rw [Nwp.newF_yes m hm12, imarks_length] at ho2
  rw [Nwp.newF_yes m hm12, imarks_length]
  have HO2 := Lib.hid ho2
  have HO1b := Lib.hid (own_below HO1.out hb2)
  have hs1 := HBL1.out.size
  have HB2 := Lib.hid (HBL1.out.trans (hb2.mono hs1))
  have hs2 := HB2.out.size
  obtain ⟨b0, hb0⟩ : ∃ b, b = w2.heap.size := ⟨_, rfl⟩
  have HBB := Lib.hid hb0
  rw [← hb0] at hs2
  clear ho2 hb2 HO1 hb0
  go_wp2
  go_loopw [6, 7] (fun v s wr => ∃ k : Nat, k ≤ m ∧ s = .int .i64 (k : Int) ∧ Hid (k < m → b k = true) ∧ (∃ A q c rs, v = .slice A q c ∧ q ≤ k ∧ SSRow wr b0 wr.heap.size A q c rs ∧ Hid (rs.map RD.zs = (rsF b k).map ints)) ∧ Below b0 w2 wr) (fun _ s _ => m - (intOf s).toNat)
  case atStart => exact ⟨0, Nat.zero_le _, rfl, fun _ => HB0.out, ⟨_, _, _, [], rfl, Nat.le_refl _, SSRow.empty (World.ownsRow_nil _ _ _ _), rfl⟩, Below.refl _ _⟩
  case round =>
    obtain ⟨k, hk, rfl, HK, ⟨A3, q3, c3, rs, rfl, hq3, hrow, HRS⟩, hbw⟩ := hrel
    have hszk := hbw.size
    by_cases hlt : k < m
    · obtain ⟨g1, rfl⟩ := own_shape HO1b.out (by omega)
      obtain ⟨g2, rfl⟩ := own_shape HO2.out (by omega)
      have hnew := rsF_new (HK.out hlt)
      have HROW := Lib.hid hrow
      have HBW := Lib.hid hbw
      have HNEW := Lib.hid hnew
      have HP1 := Lib.hid (own_below HO1b.out (by rw [← HBB.out]; exact hbw))
      have HP2 := Lib.hid (own_below HO2.out (by rw [← HBB.out]; exact hbw))
      clear hrow hbw hnew
      go_wp2
      go_loopw [8] (fun x wt => ∃ t : Nat, k ≤ t ∧ t < m ∧ x = .int .i64 ((t : Int) + 1) ∧ Hid (rsF b (t + 1) = rsF b k ++ [run k (t + 1)]) ∧ ∃ d, wt = wr.drewN d) (fun x _ => m - (intOf x).toNat)
      case atStart => exact ⟨k, Nat.le_refl _, hlt, rfl, by show _ = _; rw [HNEW.out, run_one], 0, rfl⟩
      case round =>
        obtain ⟨t, hkt, htm, rfl, HT, d, rfl⟩ := hrel
        rcases Nat.lt_or_ge (t + 1) m with h2 | h2
        · have d1 : decide ((t : Int) + 1 < (m : Int)) = true := decide_eq_true (by omega)
          have hc1 := (HP1.out.cellAt t (by omega)).trans (vals_get (zs := ps) (k := t) (by rw [HPL.out]; omega))
          have hc2 := (HP1.out.cellAt (t + 1) (by omega)).trans (vals_get (zs := ps) (k := t + 1) (by rw [HPL.out]; omega))
          have hbt := HBR.out t h2
          generalize ps.getD t 0 = x1 at hc1 hbt
          generalize ps.getD (t + 1) 0 = x2 at hc2 hbt
          cases hD : decide (x1 < x2) with
          | true =>
            rw [hD] at hbt
            have HN2 := Lib.hid (rsF_more hbt HT.out)
            clear hbt
            go_wp2
            go_quiet (fail)
            go_wp2
            go_roundw
            case rel => exact ⟨t + 1, by omega, h2, by go_num, by show _ = _; rw [HN2.out, ← run_snoc (by omega)], _, rfl⟩
            case measure => simp [intOf]; omega
          | false =>
            rw [hD] at hbt
            have HBT := Lib.hid hbt
            clear hbt
            go_wp2
            go_quiet (fail)
            obtain ⟨W, hW⟩ : ∃ W, W = (wr.drewN d).drewN nq := ⟨_, rfl⟩
            rw [← hW]
            have hbd : Below wr.heap.size wr W := by rw [hW]; exact below_drewN (below_drewN (Below.refl _ wr) d) nq
            have hszb : b0 ≤ wr.heap.size := by rw [HBB.out]; exact hszk
            have hrow2 := HROW.out.below hbd
            have hq2 := own_below HP2.out hbd
            have hbw2 := HBW.out.trans (hbd.mono hszb)
            have hszW := hbd.size
            have HWIN : Hid (IntsAt W W.heap.size .i64 (some ⟨g2, k, none⟩) (ints (run k (t + 1)))) := by
              intro j hj
              rw [ints_len, run_len] at hj
              refine ⟨g2, k, rfl, (own_lo hq2 g2 rfl).2, ?_⟩
              rw [run_get hj, hq2.cellAt (k + j) (by omega)]
              refine (vals_get (zs := imarks 0 m) (k := k + j) (by rw [imarks_length]; omega)).trans ?_
              rw [imarks_get 0 m (k + j) (by omega)]
              simp
            have hwl : (ints (run k (t + 1))).length = t + 1 - k := by rw [ints_len, run_len]
            have hcap : t + 1 ≤ c2 := by have := own_cap HO2.out; omega
            have HWL := Lib.hid hwl
            have HROW2 := Lib.hid hrow2
            have HBW2 := Lib.hid hbw2
            have hkt1 : k ≤ t + 1 := by omega
            clear hW hq2 hbd hrow2 hbw2 hwl
            go_wp2_with fail
            refine (impl_copyof (some ⟨g2, k, none⟩) (t + 1 - k) _ (ints (run k (t + 1))) W HWL.out (by omega) HWIN.out).mono ?_
            rintro e w3 ⟨A4, c4, rfl, ho4, hb4⟩
            have hs3 := hb4.size
            have HROW3 := Lib.hid ((HROW2.out.higher hszW (Nat.le_refl _)).under hb4)
            have HBW3 := Lib.hid (HBW2.out.trans (hb4.mono (Nat.le_trans hszb hszW)))
            have HO4 := Lib.hid ho4
            have HB4S := Lib.hid (show b0 ≤ w3.heap.size by omega)
            clear ho4 hb4
            go_wp2_with (at_builtin; refine app_more rfl (.tmp 41) (.tmp 48) 26 rfl b0 23 i1 (.slice none 0 0) 24 Try.underlying26 hj hy0 hy1 hy2 (by decide) rfl _ _ _ _ rfl HROW3.out.1 (.slice A4 (ints (run k (t + 1))).length c4) rfl _ rfl rfl (by omega) HB4S.out ?_; intro g c5 w5 hown5 hgr5)
            have HB5 := Lib.hid (HBW3.out.grown hgr5 HB4S.out HROW3.out.outlo)
            have HSN := Lib.hid (SSRow.snoc (zs := ints (run k (t + 1))) (A1 := A4) (c1 := c4) HROW3.out (Nat.le_trans hszb hszW) HO4.out hown5 hgr5)
            have hs5 := hgr5.size
            clear hown5
            go_roundw
            case rel => exact ⟨t + 1, by omega, by go_num, fun h => by rw [HBT.out]; rfl, ⟨_, _, _, _, rfl, by omega, HSN.out, by show _ = _; rw [List.map_append, HRS.out, HT.out, List.map_append]; rfl⟩, HB5.out⟩
            case measure => simp [intOf]; omega
        · have d1 : decide ((t : Int) + 1 < (m : Int)) = false := decide_eq_false (by omega)
          go_wp2
          go_quiet (fail)
          obtain ⟨W, hW⟩ : ∃ W, W = (wr.drewN d).drewN nq := ⟨_, rfl⟩
          rw [← hW]
          have hbd : Below wr.heap.size wr W := by rw [hW]; exact below_drewN (below_drewN (Below.refl _ wr) d) nq
          have hszb : b0 ≤ wr.heap.size := by rw [HBB.out]; exact hszk
          have hrow2 := HROW.out.below hbd
          have hq2 := own_below HP2.out hbd
          have hbw2 := HBW.out.trans (hbd.mono hszb)
          have hszW := hbd.size
          have HWIN : Hid (IntsAt W W.heap.size .i64 (some ⟨g2, k, none⟩) (ints (run k (t + 1)))) := by
            intro j hj
            rw [ints_len, run_len] at hj
            refine ⟨g2, k, rfl, (own_lo hq2 g2 rfl).2, ?_⟩
            rw [run_get hj, hq2.cellAt (k + j) (by omega)]
            refine (vals_get (zs := imarks 0 m) (k := k + j) (by rw [imarks_length]; omega)).trans ?_
            rw [imarks_get 0 m (k + j) (by omega)]
            simp
          have hwl : (ints (run k (t + 1))).length = t + 1 - k := by rw [ints_len, run_len]
          have hcap : t + 1 ≤ c2 := by have := own_cap HO2.out; omega
          have HWL := Lib.hid hwl
          have HROW2 := Lib.hid hrow2
          have HBW2 := Lib.hid hbw2
          have hkt1 : k ≤ t + 1 := by omega
          clear hW hq2 hbd hrow2 hbw2 hwl
          go_wp2_with fail
          refine (impl_copyof (some ⟨g2, k, none⟩) (t + 1 - k) _ (ints (run k (t + 1))) W HWL.out (by omega) HWIN.out).mono ?_
          rintro e w3 ⟨A4, c4, rfl, ho4, hb4⟩
          have hs3 := hb4.size
          have HROW3 := Lib.hid ((HROW2.out.higher hszW (Nat.le_refl _)).under hb4)
          have HBW3 := Lib.hid (HBW2.out.trans (hb4.mono (Nat.le_trans hszb hszW)))
          have HO4 := Lib.hid ho4
          have HB4S := Lib.hid (show b0 ≤ w3.heap.size by omega)
          clear ho4 hb4
          go_wp2_with (at_builtin; refine app_more rfl (.tmp 41) (.tmp 48) 26 rfl b0 23 i1 (.slice none 0 0) 24 Try.underlying26 hj hy0 hy1 hy2 (by decide) rfl _ _ _ _ rfl HROW3.out.1 (.slice A4 (ints (run k (t + 1))).length c4) rfl _ rfl rfl (by omega) HB4S.out ?_; intro g c5 w5 hown5 hgr5)
          have HB5 := Lib.hid (HBW3.out.grown hgr5 HB4S.out HROW3.out.outlo)
          have HSN := Lib.hid (SSRow.snoc (zs := ints (run k (t + 1))) (A1 := A4) (c1 := c4) HROW3.out (Nat.le_trans hszb hszW) HO4.out hown5 hgr5)
          have hs5 := hgr5.size
          clear hown5
          go_roundw
          case rel => exact ⟨t + 1, by omega, by go_num, fun h => by omega, ⟨_, _, _, _, rfl, by omega, HSN.out, by show _ = _; rw [List.map_append, HRS.out, HT.out, List.map_append]; rfl⟩, HB5.out⟩
          case measure => simp [intOf]; omega
    · have hkm : k = m := by omega
      subst hkm
      have HR := Lib.hid hrow
      have hl2 : (riseI zs).length = q3 := by rw [HRI.out, ← HRS.out, List.length_map]; exact hrow.len
      have HL2 := Lib.hid hl2
      have HF := Lib.hid (HB2.out.trans (hbw.mono hs2))
      clear hrow hl2 hbw
      go_wp2
      go_ret
      refine ⟨A3, c3, rs, by rw [HL2.out]; rfl, by rw [HRI.out]; exact HRS.out, ?_, HF.out⟩
      rw [HL2.out]
      exact SSRow.lower HR.out hs2
end Go.Proofs.Ytpmfiflpipcojaa.Rsc
