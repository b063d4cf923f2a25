/- PrepareDuck of the program and of the model. -/
import Derived.Test.YtaacdhccebedmaaDuc
set_option linter.unusedVariables false
set_option maxRecDepth 20000
namespace Go.Proofs.Ytaacdhccebedmaa.Duq
open Go.RowKit Fr _root_.Go.Proofs.Ytaacdhccebedmaa.Own Pk Pok Arr Ins Nwp Prm Pfn Rws Lb Cat Mvp Mv1 Mv2 Mv3 Mv4 Mok2 Pf Sv Sv2 Sv3 Pa Duk Dch Duc

/-- is it a packet that a ducking deal can result in? -/
def prepB (zs : List Int) (k : Int) : Bool := okB zs && decide (1 ≤ zs.length ∧ 0 ≤ k ∧ k ≤ 1)
def prepL (zs : List Int) (k : Nat) : List Int := joinF zs (invF (dkL zs.length k))
def prepF (zs : List Int) (k : Int) : List Int := if prepB zs k then prepL zs k.toNat else []
theorem prep_no {zs : List Int} {k : Int} (h : prepB zs k = false) : prepF zs k = [] := by unfold prepF; rw [h]; rfl
theorem prep_yes {zs : List Int} {j : Nat} (h : prepB zs (j : Int) = true) : prepF zs (j : Int) = prepL zs j := by unfold prepF; rw [h]; rfl
theorem prep_parts {zs : List Int} {k : Int} (h : prepB zs k = true) : ∃ j : Nat, k = j ∧ j ≤ 1 ∧ okB zs = true ∧ 1 ≤ zs.length ∧ zs.length ≤ 12 := by
  unfold prepB at h
  rw [Bool.and_eq_true, decide_eq_true_eq] at h
  exact ⟨k.toNat, by omega, by omega, h.1, by omega, (okB_yes h.1).1⟩
theorem inv_chk : ((List.range 13).all fun n => n == 0 || ((List.range 2).all fun k => permB (dkL n k) && permB (invF (dkL n k)) && (invF (dkL n k)).length == n)) = true := by kernel_rfl
theorem inv_at {n k : Nat} (h1 : 1 ≤ n) (h12 : n ≤ 12) (hk : k ≤ 1) : permB (dkL n k) = true ∧ permB (invF (dkL n k)) = true ∧ (invF (dkL n k)).length = n := by
  have h := List.all_eq_true.1 inv_chk n (List.mem_range.2 (by omega))
  rw [Bool.or_eq_true] at h
  rcases h with h | h
  · have := eq_of_beq h; omega
  · have h := List.all_eq_true.1 h k (List.mem_range.2 (by omega))
    simp only [Bool.and_eq_true, beq_iff_eq] at h
    exact ⟨h.1.1, h.1.2, h.2⟩
theorem prepL_len {zs : List Int} {j : Nat} (h1 : 1 ≤ zs.length) (h2 : zs.length ≤ 12) (h3 : j ≤ 1) : (prepL zs j).length = zs.length := by
  unfold prepL
  rw [joinF_len, (inv_at h1 h2 h3).2.2]
theorem prep_short (zs : List Int) (k : Int) : (prepF zs k).length ≤ 1048576 := by
  cases h : prepB zs k with
  | true =>
    obtain ⟨j, rfl, p1, p2, p3, p4⟩ := prep_parts h
    rw [prep_yes h, prepL_len p3 p4 p1]
    omega
  | false => rw [prep_no h]; exact Nat.zero_le _
/-- the model's way: card i goes to the place that the deal gives it -/
def prepT (zs P : List Int) : Nat → List Int
  | 0 => List.replicate zs.length 0
  | t + 1 => (prepT zs P t).set (P.getD t 0).toNat (zs.getD t 0)
theorem prepT_len (zs P : List Int) (t : Nat) : (prepT zs P t).length = zs.length := by
  induction t with
  | zero => simp [prepT]
  | succ t ih => simp [prepT, ih]
theorem prep_eq (zs : List Int) (j : Nat) (h1 : 1 ≤ zs.length) (h2 : zs.length ≤ 12) (h3 : j ≤ 1) : prepT zs (dkL zs.length j) zs.length = prepL zs j := by
  rcases zs with _ | ⟨a, _ | ⟨b, _ | ⟨c, _ | ⟨d, _ | ⟨e, _ | ⟨f, _ | ⟨g, _ | ⟨h, _ | ⟨i, _ | ⟨j', _ | ⟨k, _ | ⟨l, _ | ⟨m, r⟩⟩⟩⟩⟩⟩⟩⟩⟩⟩⟩⟩⟩
  · simp at h1
  all_goals first | (simp only [List.length_cons] at h2; omega) | (rcases (show j = 0 ∨ j = 1 by omega) with rfl | rfl <;> kernel_rfl)
theorem finv_chk : ((List.range 13).all fun n => n == 0 || ((List.range 2).all fun k => (invF (dkL n k)).all fun x => decide (0 ≤ x ∧ x < 13))) = true := by kernel_rfl
theorem fits_inv {n k : Nat} (h1 : 1 ≤ n) (h12 : n ≤ 12) (hk : k ≤ 1) : Fits (invF (dkL n k)) := by
  have h := List.all_eq_true.1 finv_chk n (List.mem_range.2 (by omega))
  rw [Bool.or_eq_true] at h
  rcases h with h | h
  · have := eq_of_beq h; omega
  · have h := List.all_eq_true.1 h k (List.mem_range.2 (by omega))
    refine fits_of fun z hz => ?_
    have := of_decide_eq_true (List.all_eq_true.1 h z hz)
    exact wf_hi (by omega) (by omega)
/-- what the program's calls come to -/
theorem prep_arr {zs : List Int} {j : Nat} (h1 : 1 ≤ zs.length) (h2 : zs.length ≤ 12) (h3 : j ≤ 1) : arrgB zs (invF (dkL zs.length j)) = prepB zs (j : Int) ∧ arrgF zs (invF (dkL zs.length j)) = prepF zs (j : Int) := by
  obtain ⟨e1, e2, e3⟩ := inv_at h1 h2 h3
  have hb : arrgB zs (invF (dkL zs.length j)) = prepB zs (j : Int) := by
    unfold arrgB prepB
    rw [e2, e3, Bool.and_true, decide_eq_true (show 1 ≤ zs.length ∧ 0 ≤ (j : Int) ∧ (j : Int) ≤ 1 by omega), decide_eq_true rfl]
  refine ⟨hb, ?_⟩
  unfold arrgF prepF
  rw [hb]
  rfl
theorem prep_out {zs : List Int} {k : Int} (h : dkB (zs.length : Nat) k = false) : prepB zs k = false := by
  cases hp : prepB zs k with
  | false => rfl
  | true =>
    obtain ⟨j, rfl, p1, p2, p3, p4⟩ := prep_parts hp
    rw [dk_of p3 p4 p1] at h
    cases h
set_option maxHeartbeats 1000000 in
theorem impl_prep (A : Option Addr) (n c : Nat) (zs : List Int) (k : Int) (w : World) (hn : zs.length = n) (hn2 : n ≤ 1048576) (hz : Fits zs) (hss : IntsAt w w.heap.size .i64 A zs) (h3 : -9223372036854775808 ≤ k) (h4 : k ≤ 9223372036854775807) :
    Calls Try.prog 15 #[.slice A n c, .int .i64 k] w (IsILB w.heap.size (prepF zs k) (prepB zs k) w) := by
  have HN := Lib.hid hn
  cases hd : dkB (n : Int) k with
  | false =>
    have hpb : prepB zs k = false := prep_out (by rw [hn]; exact hd)
    rw [hpb, prep_no hpb]
    have HD := Lib.hid (show mvB (n : Int) 7 k = false by rw [mv_dk]; exact hd)
    clear hd hpb hn
    go_enter Try.func15, Try.ntmps15
    go_wp2_with fail
    refine (impl_pom (n : Int) 7 k _ (by omega) (by omega)).mono ?_
    rintro e w1 ⟨A1, c1, rfl, ho1, hb1⟩
    rw [HD.out]
    have HB := Lib.hid hb1
    clear ho1 hb1
    go_wp2
    go_ret2
    exact ⟨none, 0, rfl, World.ownsRow_nil _ _ _ _, HB.out⟩
  | true =>
    obtain ⟨m, j, hnm, rfl, p1, p2, p3⟩ := dk_parts hd
    have hnm2 : n = m := by omega
    subst hnm2
    have HD := Lib.hid (show mvB (n : Int) 7 (j : Int) = true by rw [mv_dk]; exact hd)
    have HP := Lib.hid (show pomF (n : Int) 7 (j : Int) = dkL n j from pomF_yes HD.out)
    have HL := Lib.hid (dkL_len p1 p2 p3)
    have HFT := Lib.hid (fits_dk p1 p2 p3)
    have HI := Lib.hid (inv_at p1 p2 p3)
    have HA := Lib.hid (show arrgB zs (invF (dkL n j)) = prepB zs (j : Int) ∧ arrgF zs (invF (dkL n j)) = prepF zs (j : Int) by
      have h := prep_arr (zs := zs) (j := j) (by omega) (by omega) p3
      rw [hn] at h
      exact h)
    have HSS := Lib.hid hss
    have HFI := Lib.hid (fits_inv p1 p2 p3)
    clear hd hn hnm hss
    go_enter Try.func15, Try.ntmps15
    go_wp2_with fail
    refine (impl_pom (n : Int) 7 (j : Int) _ (by omega) (by omega)).mono ?_
    rintro e w1 ⟨A1, c1, rfl, ho1, hb1⟩
    rw [HP.out, HL.out] at ho1
    rw [HD.out, HP.out, HL.out]
    have HO1 := Lib.hid ho1
    have HB1 := Lib.hid hb1
    clear ho1 hb1
    go_wp2_with fail
    refine (impl_inv A1 n c1 (dkL n j) w1 HL.out (by omega) HFT.out (ints_of HO1.out)).mono ?_
    rintro e w2 ⟨A2, c2, rfl, ho2, hb2⟩
    rw [HI.out.2.2] at ho2
    rw [HI.out.1, HI.out.2.2]
    have HB2 := Lib.hid (HB1.out.trans (hb2.mono HB1.out.size))
    have HO2 := Lib.hid ho2
    clear ho2 hb2
    go_wp2_with fail
    refine (impl_arrg A n c zs A2 n c2 (invF (dkL n j)) w2 HN.out (by omega) hz ((HSS.out.below HB2.out).more HB2.out.size) HI.out.2.2 (by omega) HFI.out (ints_of HO2.out)).mono ?_
    rintro e w3 ⟨A3, c3, rfl, ho3, hb3⟩
    rw [HA.out.2] at ho3
    rw [HA.out.1, HA.out.2]
    have HO3 := Lib.hid (own_mono ho3 HB2.out.size)
    have HB3 := Lib.hid (HB2.out.trans (hb3.mono HB2.out.size))
    clear ho3 hb3
    go_wp2
    go_ret2
    exact ⟨A3, c3, rfl, HO3.out, HB3.out⟩
theorem set_grown (w : World) (g j : Nat) (v : Value) : w.grownBy (w.setCell ⟨g, j, none⟩ v) (some g) :=
  ⟨rfl, rfl, rfl, by simp [World.setCell], fun k hk hne => Below.heap_setCell _ _ _ _ (fun e => hne (by rw [e]))⟩
theorem prepT_next (zs P : List Int) (t y : Nat) (h : P.getD t 0 = (y : Int)) : (prepT zs P t).set y (zs.getD t 0) = prepT zs P (t + 1) := by
  show _ = (prepT zs P t).set (P.getD t 0).toNat (zs.getD t 0)
  rw [h]
  rfl
theorem dkL_in {n j : Nat} (h1 : 1 ≤ n) (h12 : n ≤ 12) (hk : j ≤ 1) : inR (dkL n j) n := by
  have h := inR_perm (inv_at h1 h12 hk).1
  rw [dkL_len h1 h12 hk] at h
  exact h
set_option maxHeartbeats 1000000 in
theorem spec_prep (A : Option Addr) (n c : Nat) (zs : List Int) (k : Int) (w : World) (hn : zs.length = n) (hnc : n ≤ c) (hn2 : n ≤ 1048576) (hz : Fits zs) (hss : IntsAt w w.heap.size .i64 A zs) (h3 : -9223372036854775808 ≤ k) (h4 : k ≤ 9223372036854775807) :
    Calls Try.prog 24 #[.slice A n c, .int .i64 k] w (IsILB w.heap.size (prepF zs k) (prepB zs k) w) := by
  have HN := Lib.hid hn
  obtain ⟨i0, hi, hz0, hz1, hz2⟩ := info_parts infoInt
  cases hok : okB zs with
  | false =>
    have hpb : prepB zs k = false := by unfold prepB; rw [hok]; rfl
    rw [hpb, prep_no hpb]
    have HK := Lib.hid hok
    clear hok hpb hn
    go_enter Try.func24, Try.ntmps24
    go_wp2_with fail
    refine (spec_ok A n c zs _ HN.out (by omega) hz hss).mono ?_
    rintro e w1 ⟨rfl, hb1⟩
    rw [HK.out]
    have HB := Lib.hid hb1
    clear hb1
    go_wp2
    go_ret2
    exact ⟨none, 0, rfl, World.ownsRow_nil _ _ _ _, HB.out⟩
  | true =>
    have HK := Lib.hid hok
    have h12 := (okB_yes hok).1
    rw [hn] at h12
    by_cases h0 : n = 0
    · subst h0
      have hpb : prepB zs k = false := by unfold prepB; rw [decide_eq_false (by omega), Bool.and_false]
      rw [hpb, prep_no hpb]
      clear hok hpb hn
      go_enter Try.func24, Try.ntmps24
      go_wp2_with fail
      refine (spec_ok A 0 c zs _ HN.out (by omega) hz hss).mono ?_
      rintro e w1 ⟨rfl, hb1⟩
      rw [HK.out]
      have HB := Lib.hid hb1
      clear hb1
      go_wp2
      go_ret2
      exact ⟨none, 0, rfl, World.ownsRow_nil _ _ _ _, HB.out⟩
    · have hn0 : (n == 0) = false := by simp; omega
      by_cases hk : 0 ≤ k ∧ k ≤ 1
      · obtain ⟨j, rfl⟩ : ∃ j : Nat, k = j := ⟨k.toNat, by omega⟩
        have p1 : 1 ≤ n := by omega
        have p3 : j ≤ 1 := by omega
        have hpb : prepB zs (j : Int) = true := by unfold prepB; rw [hok, decide_eq_true (by omega)]; rfl
        have HF := Lib.hid (show prepF zs (j : Int) = prepT zs (dkL n j) n by rw [prep_yes hpb, ← prep_eq zs j (by omega) (by omega) p3, hn])
        have HFL := Lib.hid (show (prepF zs (j : Int)).length = n by rw [HF.out, prepT_len]; exact hn)
        rw [hpb]
        have HKK := Lib.hid (decide_eq_true hk)
        have HNF := Lib.hid (newF_yes n h12)
        have HNL := Lib.hid (imarks_length 0 n)
        have HDL := Lib.hid (duck_list h12 p3)
        have HDN := Lib.hid (dkL_len p1 h12 p3)
        have HIN := Lib.hid (dkL_in p1 h12 p3)
        have HSS := Lib.hid hss
        clear hok hpb hn hk hss
        go_enter Try.func24, Try.ntmps24
        go_wp2_with fail
        refine (spec_ok A n c zs _ HN.out (by omega) hz HSS.out).mono ?_
        rintro e w1 ⟨rfl, hb1⟩
        rw [HK.out]
        have HB1 := Lib.hid hb1
        have hsz := hb1.size
        clear hb1
        go_wp2_with fail
        refine (in_any _ 0 1 _).mono ?_
        rintro e w1 ⟨rfl, rfl⟩
        rw [HKK.out]
        go_wp2_with (refine wpList_make_full _ rfl (.tmp 23) (.tmp 23) 23 rfl w.heap.size 3 i0 (.int .i64 0) 1 Try.underlying23 hi hz0 hz1 .i64 .i64 n n n rfl rfl rfl rfl (by rw [hz2]; omega) (by unfold maxLen; omega) hsz ?_)
        intro w2 hown hgrow
        have hb2 : Below w.heap.size w w2 := HB1.out.grown hgrow hsz (fun k hk => by cases hk)
        have hown0 : w2.ownsRow w.heap.size 3 1 (.slice (some ⟨w1.heap.size, 0, none⟩) n n) n (vals (prepT zs (dkL n j) 0)) := by
          have e : (madeCells #[Value.int .i64 0] n).toList = vals (prepT zs (dkL n j) 0) := by
            rw [toList_madeCells_one]
            unfold prepT
            rw [vals_rep, HN.out]
          rw [← e]
          simpa using hown
        have hG2 : w1.heap.size < w2.heap.size := (hown0.lt _ rfl).2
        generalize w1.heap.size = G at hsz hown0 hG2 ⊢
        have HO0 := Lib.hid hown0
        have HB2 := Lib.hid hb2
        clear hown hgrow hb2 hown0
        go_wp2_with fail
        refine (spec_new (n : Int) _ (by omega) (by omega)).mono ?_
        rintro e w3 ⟨A3, c3, rfl, ho3, hb3⟩
        rw [HNF.out, HNL.out] at ho3
        rw [HNF.out, HNL.out]
        have HO3 := Lib.hid ho3
        have HB3 := Lib.hid (HB2.out.trans (hb3.mono HB2.out.size))
        have HO1 := Lib.hid (own_below HO0.out hb3)
        have hs3 := hb3.size
        clear ho3 hb3
        go_wp2_with fail
        refine (spec_duck_at A3 n c3 j (j : Int) (imarks 0 n) w3 HNL.out p1 h12 (kv_of p3) (ints_of HO3.out)).mono ?_
        rintro e w4 ⟨A4, c4, rfl, ho4, hb4⟩
        rw [HDL.out, HDN.out] at ho4
        rw [HDL.out, HDN.out]
        obtain ⟨g, rfl⟩ := own_shape ho4 p1
        have HO4 := Lib.hid ho4
        have HB4 := Lib.hid (HB3.out.trans (hb4.mono HB3.out.size))
        have HO2 := Lib.hid (own_below HO1.out hb4)
        have hgl := (ho4.lt g rfl).1
        clear ho4 hb4
        go_wp2
        go_loopw [31] (fun i wr => ∃ t : Nat, t ≤ n ∧ i = .int .i64 t ∧ Hid (wr.ownsRow w.heap.size 3 1 (.slice (some ⟨G, 0, none⟩) n n) n (vals (prepT zs (dkL n j) t))) ∧ Hid (wr.ownsRow w3.heap.size 3 1 (.slice (some ⟨g, 0, none⟩) n c4) n (vals (dkL n j))) ∧ Hid (Below w.heap.size w wr)) (fun i _ => n - (intOf i).toNat)
        case atStart => exact ⟨0, Nat.zero_le _, rfl, HO2, HO4, HB4⟩
        case round =>
          obtain ⟨t, ht, rfl, hownk, hdk, hbk⟩ := hrel
          have hszk := hbk.out.size
          by_cases hlt : t < n
          · obtain ⟨b, o, hA, hbb, hc⟩ := ((HSS.out.below hbk.out).more hszk) t (by rw [HN.out]; exact hlt)
            have hnext := prepT_next zs (dkL n j) t
            have hxin := HIN.out t (by rw [HDN.out]; exact hlt)
            have hcd : wr.cell? ⟨g, t, none⟩ = some (.int .i64 ((dkL n j).getD t 0)) := by
              rw [hdk.out.cellAt t (by omega)]; exact vals_get (by rw [HDN.out]; exact hlt)
            generalize (dkL n j).getD t 0 = x at hnext hxin hcd
            obtain ⟨y, rfl⟩ : ∃ y : Nat, x = y := ⟨x.toNat, by omega⟩
            have hy : y < n := by omega
            have hlen : (prepT zs (dkL n j) t).length = n := by rw [prepT_len]; exact HN.out
            have hst := hownk.out.stored y (.int .i64 (zs.getD t 0))
            rw [vals_set, hnext y rfl] at hst
            have hcell : wr.cell? ⟨G, y, none⟩ = some (.int .i64 ((prepT zs (dkL n j) t).getD y 0)) := by
              rw [hownk.out.cellAt y (by omega)]; exact vals_get (by omega)
            have hfz := hownk.out.frozenAt y
            generalize (prepT zs (dkL n j) t).getD y 0 = old at hcell
            generalize zs.getD t 0 = z at hst hc
            have HST := Lib.hid hst.1
            have HB5 := Lib.hid (hbk.out.setCell (p := ⟨G, y, none⟩) (by show w.heap.size ≤ G; exact hsz) (.int .i64 z))
            have HD5 := Lib.hid (World.ownsRow.kept hdk.out (set_grown wr G y (.int .i64 z)) (.inr (fun e => by injection e with e; have e2 : g = G := e; omega)))
            subst hA
            clear hnext hst hlen hownk hbk hdk hxin
            go_wp2
            go_roundw
            case rel => exact ⟨t + 1, by omega, by go_num, HST, HD5, HB5⟩
            case measure => simp [intOf]; omega
          · have htn : t = n := by omega
            subst htn
            go_wp2
            go_ret2
            refine ⟨some ⟨G, 0, none⟩, t, by rw [HFL.out]; rfl, ?_, hbk.out⟩
            rw [HFL.out, HF.out]
            exact hownk.out
      · have hpb : prepB zs k = false := by unfold prepB; rw [decide_eq_false (by omega), Bool.and_false]
        rw [hpb, prep_no hpb]
        have HKK := Lib.hid (decide_eq_false hk)
        clear hok hpb hn hk
        go_enter Try.func24, Try.ntmps24
        go_wp2_with fail
        refine (spec_ok A n c zs _ HN.out (by omega) hz hss).mono ?_
        rintro e w1 ⟨rfl, hb1⟩
        rw [HK.out]
        have HB := Lib.hid hb1
        clear hb1
        go_wp2_with fail
        refine (in_any _ 0 1 _).mono ?_
        rintro e w1 ⟨rfl, rfl⟩
        rw [HKK.out]
        go_wp2
        go_ret2
        exact ⟨none, 0, rfl, World.ownsRow_nil _ _ _ _, HB.out⟩
end Go.Proofs.Ytaacdhccebedmaa.Duq
