/- One riffle back as the model has it: l06Parts, l06Back. -/
import Derived.Test.YtceolmihglhijaaRsb
set_option linter.unusedVariables false
set_option maxRecDepth 20000
namespace Go.Proofs.Ytceolmihglhijaa.Rsu
open Go.RowKit Fr _root_.Go.Proofs.Ytceolmihglhijaa.Own Pk Ins Pl Prm Pfn Rws Orb Cyc Rsm Rsc Rss Rsh Rsw Rsb

def irow (n : Nat) (f : Nat → Int) : List Int := (List.range n).map f
theorem irow_len (n : Nat) (f : Nat → Int) : (irow n f).length = n := by simp [irow]
theorem irow_get {n : Nat} {f : Nat → Int} {j : Nat} (h : j < n) : (irow n f).getD j 0 = f j := by
  simp [irow, List.getD_eq_getElem?_getD, h]
theorem irow_set {n : Nat} {f : Nat → Int} {j : Nat} (x : Int) : (irow n f).set j x = irow n (fun v => if v = j then x else f v) := by
  refine List.ext_getElem (by simp [irow]) fun i h1 h2 => ?_
  have hi : i < n := by simpa [irow] using h2
  simp only [irow, List.getElem_set, List.getElem_map, List.getElem_range]
  by_cases e : j = i
  · rw [if_pos e, if_pos e.symm]
  · rw [if_neg e, if_neg (fun q => e q.symm)]
theorem irow_zero (n : Nat) : irow n (fun _ => 0) = List.replicate n 0 := by
  unfold irow
  rw [List.map_const', List.length_range]
theorem irow_congr {n : Nat} {f g : Nat → Int} (h : ∀ v, v < n → f v = g v) : irow n f = irow n g :=
  List.map_congr_left fun v hv => h v (List.mem_range.1 hv)
def partF (zs : List Int) : List Int := irow zs.length fun v => ((sqF (nb zs) v : Nat) : Int)
theorem sq_lt {zs : List Int} (h : permB zs = true) {v : Nat} (hv : v < zs.length) : sqF (nb zs) v < cntS zs := by
  have h1 := sqF_mono (nb zs) (show v ≤ zs.length - 1 by omega)
  unfold cntS
  rw [if_pos ⟨h, by intro e; rw [e] at hv; simp at hv⟩]
  omega
set_option maxHeartbeats 2000000 in
theorem spec_parts (A : Option Addr) (n c : Nat) (zs : List Int) (w : World) (hn : zs.length = n) (hnc : n ≤ c) (hp : permB zs = true) (hz : Fits zs) (hss : IntsAt w w.heap.size .i64 A zs) :
    Calls Try.prog 63 #[.slice A n c] w (IsIL w.heap.size (partF zs) w) := by
  obtain ⟨i0, hi, hz0, hz1, hz2⟩ := info_parts infoInt
  have h12 := (permB_yes hp).1
  rw [hn] at h12
  obtain ⟨sq, hsq⟩ : ∃ sq, sq = sqF (nb zs) := ⟨_, rfl⟩
  obtain ⟨m, hm⟩ : ∃ m, m = cntS zs := ⟨_, rfl⟩
  have hm12 : m ≤ 12 := by rw [hm]; exact cnt_le zs
  have HMEM := Lib.hid (fun i v => seqN_mem (zs := zs) i v)
  have HLT : Hid (∀ v, v < n → sq v < m) := fun v hv => by rw [hsq, hm]; exact sq_lt hp (by rw [hn]; exact hv)
  have HSL := Lib.hid (seqN_le zs)
  have HSQ := Lib.hid hsq
  have HM := Lib.hid hm
  have HN := Lib.hid hn
  have HP := Lib.hid hp
  clear hn hp hsq hm
  go_enter Try.func63, Try.ntmps63
  go_wp2_with (refine wpList_make_full _ rfl (.tmp 9) (.tmp 9) 24 rfl w.heap.size 3 i0 (.int .i64 0) 1 Try.underlying24 hi hz0 hz1 .i64 .i64 n n n rfl rfl rfl rfl (by rw [hz2]; omega) (by unfold maxLen; omega) (Nat.le_refl _) ?_)
  intro w1 hown hgrow
  have hb1 : Below w.heap.size w w1 := (Below.refl _ _).grown hgrow (Nat.le_refl _) (fun k hk => by cases hk)
  have hown0 : w1.ownsRow w.heap.size 3 1 (.slice (some ⟨w.heap.size, 0, none⟩) n n) n (vals (irow n (fun _ => 0))) := by
    have e : (madeCells #[Value.int .i64 0] n).toList = vals (irow n (fun _ => 0)) := by
      rw [toList_madeCells_one, irow_zero, vals_rep]
    rw [← e]
    simpa using hown
  have hsz1 : w.heap.size < w1.heap.size := (own_lo hown0 _ rfl).2
  have hs1 := (hss.below hb1).more hb1.size
  have HOWN := Lib.hid hown0
  have HB1 := Lib.hid hb1
  clear hown hgrow hown0 hb1
  go_wp2_with fail
  refine (spec_rise A n c zs w1 HN.out hnc (by omega) hz hs1).mono ?_
  rintro e w2 ⟨A2, c2, rs, rfl, hrz, hrow, hb2⟩
  rw [rise_len] at hrow
  rw [rise_len, ← HM.out]
  rw [← HM.out] at hrow
  have HZK := Lib.hid (fun k => seq_zs HP.out hrz k)
  obtain ⟨b1, hb1⟩ : ∃ b, b = w1.heap.size := ⟨_, rfl⟩
  obtain ⟨b3, hb3⟩ : ∃ b, b = w2.heap.size := ⟨_, rfl⟩
  have hS2 := hb2.size
  have HOWN2 := Lib.hid (own_below HOWN.out hb2)
  have HBW2 := Lib.hid (HB1.out.trans (hb2.mono (by omega)))
  rw [← hb1, ← hb3] at hrow
  rw [← hb1] at hsz1
  have HROW0 := Lib.hid hrow
  clear hb1 hb2 hb3 hrow hrz HOWN HB1
  go_wp2
  go_loopw [14] (fun i wr => ∃ k : Nat, k ≤ m ∧ i = .int .i64 (k : Int) ∧ (∃ f : Nat → Int, wr.ownsRow w.heap.size 3 1 (.slice (some ⟨w.heap.size, 0, none⟩) n n) n (vals (irow n f)) ∧ Hid (∀ v, v < n → sq v < k → f v = (sq v : Nat))) ∧ SSRow wr b1 b3 A2 m c2 rs ∧ Below w.heap.size w wr) (fun i _ => m - (intOf i).toNat)
  case atStart => exact ⟨0, Nat.zero_le _, rfl, ⟨_, HOWN2.out, fun v _ h => absurd h (Nat.not_lt_zero _)⟩, HROW0.out, HBW2.out⟩
  case round =>
    obtain ⟨k, hk, rfl, ⟨f, hown, HFV⟩, hrow, hbw⟩ := hrel
    clear HOWN2 HROW0 HBW2
    by_cases hlt : k < m
    · obtain ⟨g, rfl, hc⟩ := hrow.cell k hlt
      have hzk := HZK.out k
      simp only [RD.v] at hc
      rw [hzk, ints_len] at hc
      have hsl := HSL.out k
      rw [HN.out] at hsl
      have HMEMK := Lib.hid (fun v => HMEM.out k v)
      obtain ⟨sk, hsk⟩ : ∃ sk, sk = seqN zs k := ⟨_, rfl⟩
      have HZK2 : Hid ((rs.getD k rd0).zs = ints sk) := by show _ = _; rw [hsk]; exact hzk
      rw [← hsk] at HMEMK hc hsl
      obtain ⟨A3, hA3⟩ : ∃ A3, A3 = (rs.getD k rd0).A := ⟨_, rfl⟩
      rw [← hA3] at hc
      generalize (rs.getD k rd0).c = c3 at hc
      obtain ⟨l, hl⟩ : ∃ l, l = sk.length := ⟨_, rfl⟩
      rw [← hl] at hc hsl
      have HL := Lib.hid hl
      have HA3 := Lib.hid hA3
      have HROW := Lib.hid hrow
      have HOWNK := Lib.hid hown
      have HBW := Lib.hid hbw
      clear hzk hrow hown hbw hsk hl hA3
      go_wp2
      go_loopw [21] (fun x wr => ∃ t : Nat, t ≤ l ∧ x = .int .i64 (t : Int) ∧ (∃ f : Nat → Int, wr.ownsRow w.heap.size 3 1 (.slice (some ⟨w.heap.size, 0, none⟩) n n) n (vals (irow n f)) ∧ Hid (∀ v, v < n → (sq v < k ∨ v ∈ sk.take t) → f v = (sq v : Nat))) ∧ SSRow wr b1 b3 (some ⟨g, 0, none⟩) m c2 rs ∧ Below w.heap.size w wr) (fun x _ => l - (intOf x).toNat)
      case atStart => exact ⟨0, Nat.zero_le _, rfl, ⟨f, HOWNK.out, fun v hv h => HFV.out v hv (by simpa using h)⟩, HROW.out, HBW.out⟩
      case round =>
        obtain ⟨t, ht, rfl, ⟨f2, hown2, HFV2⟩, hrow2, hbw2⟩ := hrel
        by_cases htl : t < l
        · have hin2 := (hrow2.2.1 k (by rw [hrow2.len]; exact hlt)).at_
          rw [HZK2.out] at hin2
          obtain ⟨b, o, hA, hbb, hcx⟩ := hin2 t (by rw [ints_len, ← HL.out]; exact htl)
          have hA' := HA3.out.trans hA
          subst hA'
          obtain ⟨x, hx⟩ : ∃ x, x = sk.getD t 0 := ⟨_, rfl⟩
          have htl2 : t < sk.length := by rw [← HL.out]; exact htl
          have hxe : sk[t]? = some x := by rw [hx, List.getD_eq_getElem?_getD, List.getElem?_eq_getElem htl2]; rfl
          have hxi : (ints sk).getD t 0 = (x : Int) := by
            unfold ints
            rw [List.getD_eq_getElem?_getD, List.getElem?_map, hxe]
            rfl
          rw [hxi] at hcx
          have hxm := (HMEMK.out x).1 (List.mem_of_getElem? hxe)
          rw [HN.out, ← HSQ.out] at hxm
          have hxn : x < n := hxm.1
          have HXS := Lib.hid hxm.2
          have HTK : Hid (sk.take (t + 1) = sk.take t ++ [x]) := by show _ = _; rw [List.take_add_one, hxe]; rfl
          have hcell : wr.cell? ⟨w.heap.size, x, none⟩ = some (.int .i64 (f2 x)) := by rw [hown2.cellAt x (by omega), vals_get (by rw [irow_len]; exact hxn), irow_get hxn]
          generalize f2 x = old at hcell
          have hst := hown2.stored x (.int .i64 (k : Int))
          rw [vals_set, irow_set] at hst
          have hfz := hown2.frozenAt x
          have HST := Lib.hid hst.1
          have HROW3 := Lib.hid (hrow2.grown hst.2 (fun k hk => by simp only [Option.some.injEq] at hk; omega))
          have HBW3 := Lib.hid (hbw2.setCell (p := ⟨w.heap.size, x, none⟩) (Nat.le_refl _) (.int .i64 (k : Int)))
          clear hst hown2 hrow2 hbw2 hin2 hxm hxi hxe htl2 hx
          go_wp2
          go_roundw
          case rel =>
            refine ⟨t + 1, by omega, by go_num, ⟨_, HST.out, ?_⟩, HROW3.out, HBW3.out⟩
            intro v hv h
            rw [HTK.out, List.mem_append, List.mem_singleton] at h
            by_cases e : v = x
            · subst e
              rw [if_pos rfl, HXS.out]
            · rw [if_neg e]
              exact HFV2.out v hv (by rcases h with h | h | h
                                      · exact Or.inl h
                                      · exact Or.inr h
                                      · exact absurd h e)
          case measure => simp [intOf]; omega
        · have htl' : t = l := by omega
          subst htl'
          have HT2 := Lib.hid hown2
          have HR2 := Lib.hid hrow2
          have HW2 := Lib.hid hbw2
          clear hown2 hrow2 hbw2
          go_wp2
          go_roundw
          case rel =>
            refine ⟨k + 1, by omega, by go_num, ⟨f2, HT2.out, ?_⟩, HR2.out, HW2.out⟩
            intro v hv h
            refine HFV2.out v hv ?_
            by_cases e : sq v = k
            · refine Or.inr ?_
              rw [HL.out, List.take_length]
              have hm2 := HMEMK.out v
              rw [HN.out, ← HSQ.out] at hm2
              exact hm2.2 ⟨hv, e⟩
            · exact Or.inl (by omega)
          case measure => simp [intOf]; omega
    · have hkm : k = m := by omega
      subst hkm
      have HO := Lib.hid hown
      clear hown hrow
      have HPF : Hid (partF zs = irow n f) := by
        show _ = _
        unfold partF
        rw [HN.out]
        refine irow_congr fun v hv => ?_
        rw [HFV.out v hv (HLT.out v hv), HSQ.out]
      go_wp2
      go_ret
      have hl : (irow n f).length = n := irow_len n f
      refine ⟨some ⟨w.heap.size, 0, none⟩, n, by rw [HPF.out, hl]; rfl, ?_, hbw⟩
      rw [HPF.out, hl]
      exact HO.out
def pF (zs : List Int) (q : Nat) (x : Int) : Bool := if q = 0 then evB zs x else !evB zs x
def accF (zs : List Int) (q : Nat) : List Int := if q = 0 then [] else if q = 1 then zs.filter (evB zs) else backF zs
theorem acc_next (zs : List Int) {q : Nat} (h : q < 2) : accF zs q ++ zs.filter (pF zs q) = accF zs (q + 1) := by
  rcases (show q = 0 ∨ q = 1 by omega) with rfl | rfl
  · have e : pF zs 0 = evB zs := by funext x; rfl
    rw [e]
    simp [accF]
  · have e : pF zs 1 = fun x => !evB zs x := by funext x; rfl
    rw [e]
    simp [accF, backF]
theorem pF_iff (zs : List Int) (y q : Nat) (h : q < 2) : pF zs q (y : Int) = decide (sqF (nb zs) y % 2 = q) := by
  rcases (show q = 0 ∨ q = 1 by omega) with rfl | rfl
  · simp [pF, evB]
    exact Bool.beq_eq_decide_eq _ _
  · simp only [pF, evB, Int.toNat_natCast]
    rcases Nat.mod_two_eq_zero_or_one (sqF (nb zs) y) with h | h <;> simp [h]
theorem acc_len (zs : List Int) (q j : Nat) : (accF zs q).length ≤ zs.length ∧ ((zs.take j).filter (pF zs q)).length ≤ zs.length := by
  constructor
  · unfold accF
    split
    · simp
    · split
      · exact List.length_filter_le _ _
      · rw [back_len]; exact Nat.le_refl _
  · exact Nat.le_trans (filt_le _ _ _) (List.length_filter_le _ _)
set_option maxHeartbeats 2000000 in
theorem spec_back (A : Option Addr) (n c : Nat) (zs : List Int) (w : World) (hn : zs.length = n) (hnc : n ≤ c) (hp : permB zs = true) (hz : Fits zs) (hss : IntsAt w w.heap.size .i64 A zs) :
    Calls Try.prog 54 #[.slice A n c] w (IsIL w.heap.size (backF zs) w) := by
  obtain ⟨i0, hi, hz0, hz1, hz2⟩ := info_parts infoInt
  have h12 := (permB_yes hp).1
  rw [hn] at h12
  have HZK : Hid (∀ j, j < n → zs.getD j 0 = (fOf zs j : Nat)) := fun j hj => fOf_get hp (by rw [hn]; exact hj)
  have HZL : Hid (∀ j, j < n → fOf zs j < n) := fun j hj => by have := (bij_of hp).lt j (by rw [hn]; exact hj); rwa [hn] at this
  have HFE := Lib.hid (fun q j (hj : j < n) => filt_snoc (pF zs q) zs (k := j) (by rw [hn]; exact hj))
  have HPI := Lib.hid (pF_iff zs)
  have HAL : Hid (∀ q j, (accF zs q).length ≤ n ∧ ((zs.take j).filter (pF zs q)).length ≤ n) := fun q j => by have := acc_len zs q j; rwa [hn] at this
  have HN := Lib.hid hn
  have HP := Lib.hid hp
  have hpl : (partF zs).length = n := by unfold partF; rw [irow_len]; exact hn
  have HPL := Lib.hid hpl
  have HPG : Hid (∀ v, v < n → (partF zs).getD v 0 = ((sqF (nb zs) v : Nat) : Int)) := fun v hv => by unfold partF; rw [irow_get (by rw [hn]; exact hv)]
  clear hn hp hpl
  go_enter Try.func54, Try.ntmps54
  go_wp2_with fail
  refine (spec_parts A n c zs w HN.out hnc HP.out hz hss).mono ?_
  rintro e w1 ⟨A1, c1, rfl, ho1, hb1⟩
  rw [HPL.out] at ho1
  rw [HPL.out]
  have hs1 := hb1.size
  have HO1 := Lib.hid ho1
  have HB1 := Lib.hid hb1
  have HLIT := Lib.hid (World.ownsRow_lit (base := w1.heap.size) (e := 3) (size := 1) w1 #[] 0 (Nat.le_refl _) (Nat.zero_le _) rfl)
  have HBA := Lib.hid ((Below.refl w1.heap.size w1).alloc (Nat.le_refl _) (.cells #[] 3))
  clear ho1 hb1
  obtain ⟨b1, hb1⟩ : ∃ b, b = w1.heap.size := ⟨_, rfl⟩
  have HBB := Lib.hid hb1
  rw [← hb1] at HLIT HBA hs1
  clear hb1
  go_wp2
  go_loopw [4, 5] (fun v r wr => ∃ q : Nat, q ≤ 2 ∧ r = .int .i64 (q : Int) ∧ (∃ A4 c4, v = .slice A4 (accF zs q).length c4 ∧ wr.ownsRow b1 3 1 (.slice A4 (accF zs q).length c4) (accF zs q).length (vals (accF zs q))) ∧ Below b1 w1 wr) (fun _ r _ => 2 - (intOf r).toNat)
  case atStart => exact ⟨0, Nat.zero_le _, rfl, ⟨_, _, by rw [← HBB.out]; rfl, HLIT.out⟩, HBA.out⟩
  case round =>
    obtain ⟨q, hq, rfl, ⟨A4, c4, rfl, hown⟩, hbw⟩ := hrel
    clear HLIT HBA
    by_cases hq2 : q < 2
    · have HNEXT := Lib.hid (acc_next zs hq2)
      have HACC := Lib.hid (HAL.out q)
      obtain ⟨ac, hac⟩ : ∃ ac, ac = accF zs q := ⟨_, rfl⟩
      rw [← hac] at hown HNEXT HACC
      rw [← hac]
      have HOWN := Lib.hid hown
      have HBW := Lib.hid hbw
      have hdq : decide ((q : Int) < 2) = true := decide_eq_true (by omega)
      clear hac hown hbw
      go_wp2
      go_loopw [4, 17] (fun v i wr => ∃ j : Nat, j ≤ n ∧ i = .int .i64 (j : Int) ∧ (∃ A4 c4, v = .slice A4 (ac ++ (zs.take j).filter (pF zs q)).length c4 ∧ wr.ownsRow b1 3 1 (.slice A4 (ac ++ (zs.take j).filter (pF zs q)).length c4) (ac ++ (zs.take j).filter (pF zs q)).length (vals (ac ++ (zs.take j).filter (pF zs q)))) ∧ Below b1 w1 wr) (fun _ i _ => n - (intOf i).toNat)
      case atStart =>
        have e : ac ++ (zs.take 0).filter (pF zs q) = ac := by simp
        exact ⟨0, Nat.zero_le _, rfl, ⟨A4, c4, by rw [e], by rw [e]; exact HOWN.out⟩, HBW.out⟩
      case round =>
        obtain ⟨j, hj, rfl, ⟨A5, c5, rfl, hown⟩, hbw⟩ := hrel
        clear HOWN HBW
        have hszw := hbw.size
        have hszb : b1 ≤ wr.heap.size := by rw [HBB.out]; exact hszw
        by_cases hjl : j < n
        · obtain ⟨b, o, rfl, hbb, hc0⟩ := hss j (by rw [HN.out]; exact hjl)
          have hc1 := ((HB1.out.trans (hbw.mono hs1)).cell (p := ⟨b, o + j, none⟩) hbb).trans hc0
          have hfe := HFE.out q j hjl
          have hy := HZL.out j hjl
          rw [HZK.out j hjl] at hc1 hfe
          generalize fOf zs j = y at hc1 hfe hy
          obtain ⟨g1, rfl⟩ := own_shape HO1.out (by omega)
          have hpr := own_below HO1.out (by rw [← HBB.out]; exact hbw)
          have hc2 : wr.cell? ⟨g1, y, none⟩ = some (.int .i64 ((sqF (nb zs) y : Nat) : Int)) := by
            rw [hpr.cellAt y (by omega), ← HPG.out y hy]
            exact vals_get (by rw [HPL.out]; exact hy)
          have hpi := HPI.out y q hq2
          generalize sqF (nb zs) y = s at hc2 hpi
          have hal := HACC.out j
          have hll : (ac ++ (zs.take j).filter (pF zs q)).length ≤ 24 := by rw [List.length_append]; omega
          have hmod : ((s : Nat) : Int).tmod 2 = ((s % 2 : Nat) : Int) := by rw [Int.tmod_eq_emod_of_nonneg (by omega)]; omega
          have HOWN := Lib.hid hown
          have HBW := Lib.hid hbw
          have HFE1 := Lib.hid hfe
          clear hpr hown hbw hfe
          generalize hF : (zs.take j).filter (pF zs q) = F at *
          have HF := Lib.hid hF
          clear hF
          by_cases hcn : s % 2 = q
          · rw [decide_eq_true hcn] at hpi
            have hmq : ((s : Nat) : Int).tmod 2 = (q : Int) := by rw [hmod]; omega
            have HE : Hid ((zs.take (j + 1)).filter (pF zs q) = F ++ [(y : Int)]) := by show _ = _; rw [HFE1.out, hpi]; rfl
            clear hmod hpi
            go_wp2_with (at_builtin; refine app_more rfl (.tmp 28) (.tmp 30) 24 rfl b1 3 i0 (.int .i64 0) 8 Try.underlying24 hi hz0 hz1 hz2 (by decide) rfl _ _ _ _ rfl HOWN.out (.int .i64 (y : Int)) rfl _ rfl rfl (by omega) hszb ?_; intro g c6 w5 hown5 hgr5)
            have HB5 := Lib.hid (HBW.out.grown hgr5 hszb (fun k hk => (own_lo HOWN.out k hk).1))
            have HO5 := Lib.hid hown5
            clear hown5 hgr5
            go_roundw
            case rel =>
              refine ⟨j + 1, by omega, by go_num, ⟨some ⟨g, 0, none⟩, c6, ?_, ?_⟩, HB5.out⟩
              rotate_left
              · have e : ac ++ (zs.take (j + 1)).filter (pF zs q) = (ac ++ F) ++ [(y : Int)] := by rw [HE.out, List.append_assoc]
                rw [e]
                have := HO5.out
                rw [show vals (ac ++ F) ++ [Value.int .i64 (y : Int)] = vals ((ac ++ F) ++ [(y : Int)]) by simp [vals]] at this
                rw [show ((ac ++ F) ++ [(y : Int)]).length = (ac ++ F).length + 1 by rw [List.length_append, List.length_singleton]]
                exact this
              · rw [HE.out]; simp; omega
            case measure => simp [intOf]; omega
          · rw [decide_eq_false hcn] at hpi
            have hmq : ¬ ((s : Nat) : Int).tmod 2 = (q : Int) := by rw [hmod]; omega
            have HE : Hid ((zs.take (j + 1)).filter (pF zs q) = F) := by show _ = _; rw [HFE1.out, hpi]; simp
            clear hmod hpi
            go_wp2
            go_roundw
            case rel => exact ⟨j + 1, by omega, by go_num, ⟨_, _, by rw [HE.out], by rw [HE.out]; exact HOWN.out⟩, HBW.out⟩
            case measure => simp [intOf]; omega
        · have hjn : j = n := by omega
          subst hjn
          have htk : ac ++ (zs.take j).filter (pF zs q) = accF zs (q + 1) := by rw [← HNEXT.out, ← HN.out, List.take_length]
          rw [htk] at hown
          rw [htk]
          have HO := Lib.hid hown
          have HB := Lib.hid hbw
          clear hown hbw htk
          go_wp2
          go_roundw
          case rel => exact ⟨q + 1, by omega, by go_num, ⟨_, _, rfl, HO.out⟩, HB.out⟩
          case measure => simp [intOf]; omega
    · have hq3 : q = 2 := by omega
      subst hq3
      have e : accF zs 2 = backF zs := rfl
      rw [e] at hown
      rw [e]
      have HO := Lib.hid (own_mono hown hs1)
      have HB := Lib.hid (HB1.out.trans (hbw.mono hs1))
      have HBL := Lib.hid (show (backF zs).length = n by rw [back_len]; exact HN.out)
      clear hown hbw
      go_wp2
      go_ret
      exact ⟨A4, c4, rfl, HO.out, HB.out⟩
end Go.Proofs.Ytceolmihglhijaa.Rsu
