/- OrderOfPerm and IsEven of the program and of the model, for every list of ints. -/
import Derived.Test.YtpbpgpccjabghaaCyc
import Derived.Test.YtpbpgpccjabghaaPfn
import Derived.Test.YtpbpgpccjabghaaSame
set_option linter.unusedVariables false
set_option maxRecDepth 20000
namespace Go.Proofs.Ytpbpgpccjabghaa.Ord
open Go.RowKit Fr Own Pk Ins Pok Prm Rws Orb Cyc Pfn Sam

theorem pow_get {zs : List Int} (h : permB zs = true) (k : Nat) : ∀ x, x < zs.length → (powTo zs k).getD x 0 = (it (fOf zs) k x : Nat) := by
  induction k with
  | zero =>
    intro x hx
    show (imarks 0 zs.length).getD x 0 = _
    rw [imarks_get 0 _ x hx]; simp [it]
  | succ k ih =>
    intro x hx
    show (joinF (powTo zs k) zs).getD x 0 = _
    rw [joinF_get _ _ x hx, fOf_get h hx, Int.toNat_natCast, ih _ ((bij_of h).lt x hx)]
    rfl
theorem pow_same {zs : List Int} (h : permB zs = true) (k : Nat) : sameB (powTo zs k) (powTo zs 0) = decide (ordN (fOf zs) zs.length ∣ k) := by
  unfold sameB
  rw [Bool.eq_iff_iff, decide_eq_true_eq, decide_eq_true_eq, ← it_all (bij_of h)]
  constructor
  · intro e x hx
    have h1 := pow_get h k x hx
    rw [e, pow_get h 0 x hx] at h1
    exact (Int.ofNat_inj.1 h1).symm
  · intro hall
    refine same_all _ _ (by rw [powTo_len, powTo_len]) fun i hi => ?_
    rw [powTo_len] at hi
    rw [pow_get h k i hi, pow_get h 0 i hi, hall i hi]; rfl
theorem pow_one {zs : List Int} (h : permB zs = true) : powTo zs 1 = zs := by
  refine same_all _ _ (powTo_len _ _) fun i hi => ?_
  rw [powTo_len] at hi
  rw [pow_get h 1 i hi, fOf_get h hi]; rfl
theorem ord_small {zs : List Int} (h : permB zs = true) : 1 ≤ ordN (fOf zs) zs.length ∧ ordN (fOf zs) zs.length ≤ 27720 := by
  have h12 := (permB_yes h).1
  refine lcmL_small _ fun l hl => ?_
  obtain ⟨c, hc, rfl⟩ := List.mem_map.1 hl
  have := cyc_len (bij_of h) (Nat.le_refl _) hc
  omega
/-- the order, or 0 -/
def ordF (zs : List Int) : Nat := if permB zs then ordN (fOf zs) zs.length else 0
theorem ordF_yes {zs : List Int} (h : permB zs = true) : ordF zs = ordN (fOf zs) zs.length := by unfold ordF; rw [if_pos h]
theorem ordF_no {zs : List Int} (h : permB zs = false) : ordF zs = 0 := by unfold ordF; rw [h]; rfl

set_option maxHeartbeats 1000000 in
theorem spec_ord (A : Option Addr) (n c : Nat) (zs : List Int) (w : World) (g : Nat) (hA : A = some ⟨g, 0, none⟩) (hn : zs.length = n) (hnc : n ≤ c) (hn2 : n ≤ 9223372036854775807) (hz : Fits zs) (hss : IntsAt w w.heap.size .i64 A zs) :
    Calls Try.prog 66 #[.slice A n c] w fun e w' => e = .returned (.int .i64 (ordF zs : Nat)) ∧ Below w.heap.size w w' := by
  subst hA
  have HN := Lib.hid hn
  clear hn
  cases hp : permB zs with
  | false =>
    have HP := Lib.hid hp
    have HF := Lib.hid (ordF_no hp)
    clear hp
    go_enter Try.func66, Try.ntmps66
    go_wp2_with fail
    refine (spec_perm _ n c zs _ HN.out hnc hn2 hz hss).mono ?_
    rintro e w1 ⟨rfl, rfl⟩
    rw [HP.out]
    go_wp2
    go_ret
    exact ⟨by rw [HF.out]; rfl, Below.refl _ _⟩
  | true =>
    obtain ⟨i0, hi, hz0, hz1, hz2⟩ := info_parts infoInt
    have h12 := perm_short hp
    rw [HN.out] at h12
    have hin := inR_perm hp
    rw [HN.out] at hin
    have HP := Lib.hid hp
    obtain ⟨ho1, ho2⟩ := ord_small hp
    have HSAME := Lib.hid (pow_same hp)
    have HONE := Lib.hid (pow_one hp)
    have HF := Lib.hid (ordF_yes hp)
    have HID := Lib.hid (newF_id zs n HN.out h12)
    have HPL := Lib.hid (fun k => show (powTo zs k).length = n by rw [powTo_len]; exact HN.out)
    clear hp
    generalize ordN (fOf zs) zs.length = M at *
    go_enter Try.func66, Try.ntmps66
    go_wp2_with fail
    refine (spec_perm _ n c zs _ HN.out hnc hn2 hz hss).mono ?_
    rintro e w1 ⟨rfl, rfl⟩
    rw [HP.out]
    go_wp2_with fail
    refine (Nwp.spec_new (n : Int) _ (by omega) (by omega)).mono ?_
    rintro e w1 ⟨A2, c2, rfl, hown, hb⟩
    rw [HID.out, HPL.out 0] at hown
    rw [HID.out, HPL.out 0]
    have hlit := World.ownsRow_lit (base := w1.heap.size) (e := 3) (size := 1) w1 #[] 0 (Nat.le_refl _) (Nat.zero_le _) rfl
    have hid1 := hown.alloc (.cells #[] 3)
    have hs1 : (w1.alloc (.cells #[] 3)).heap.size = w1.heap.size + 1 := by simp
    have hb1 := hb.alloc hb.size (.cells #[] 3)
    have hat1 := hss.below hb1
    have hsz := hb.size
    have hA2 := own_lo hown
    clear hown hb
    go_wp2_with (at_builtin; refine app_list rfl (.tmp 12) (.tmp 13) 24 rfl w1.heap.size 3 i0 8 Try.underlying24 hi hz0 hz1 hz2 (by decide) _ _ 0 _ rfl hlit g 0 n c zs rfl HN.out _ hat1 (by omega) (by omega) (by rw [hs1]; omega) ?_; intro A3 c3 w2 hown2 hgr2)
    have hid2 := own_gr hid1 hgr2 (fun k hk e => by have h1 := (hA2 k hk).2; simp only [Option.map_some, Option.some.injEq] at e; omega)
    have hb2 := hb1.grown hgr2 (by rw [hs1]; omega) (fun k hk => by simp only [Option.map_some, Option.some.injEq] at hk; omega)
    rw [Nat.zero_add, List.nil_append] at hown2
    have hown3 : w2.ownsRow w.heap.size 3 1 (.slice A3 n c3) n ((powTo zs 1).map (Value.int .i64)) := by rw [HONE.out]; exact own_mono hown2 hsz
    have HO3 := Lib.hid hown3
    have HID2 := Lib.hid hid2
    have HB2 := Lib.hid hb2
    have HLT := Lib.hid (fun k hk => (own_lo hid2 k hk).2)
    clear hown3 hid2 hb2 hown2 hgr2 hid1 hlit hat1 hb1 hs1 hA2
    go_wp2
    go_loopw [4, 5] (fun v i wr => ∃ k : Nat, 1 ≤ k ∧ k ≤ M ∧ i = .int .i64 k ∧ (∃ A c, v = .slice A n c ∧ wr.ownsRow w.heap.size 3 1 (.slice A n c) n ((powTo zs k).map (Value.int .i64))) ∧ wr.ownsRow w.heap.size 3 1 (.slice A2 n c2) n ((powTo zs 0).map (Value.int .i64)) ∧ Below w.heap.size w wr) (fun _ i _ => M - (intOf i).toNat)
    case atStart => exact ⟨1, Nat.le_refl _, ho1, rfl, ⟨_, _, rfl, HO3.out⟩, HID2.out, HB2.out⟩
    case round =>
      obtain ⟨k, hk1, hk, rfl, ⟨A4, c4, rfl, hownk⟩, hidk, hbk⟩ := hrel
      clear HO3 HID2 HB2 HLT
      have hszk := hbk.size
      have hpt := ints_of hownk
      have hit := ints_of hidk
      have hat := (hss.below hbk).more hszk
      by_cases hdv : M ∣ k
      · have hkm : k = M := by have := Nat.le_of_dvd (by omega) hdv; omega
        subst hkm
        have HB := Lib.hid ((HSAME.out k).trans (decide_eq_true hdv))
        clear hownk hidk hdv
        go_wp2_with fail
        refine (spec_same A4 A2 n n c4 c2 (powTo zs k) (powTo zs 0) _ (HPL.out k) (HPL.out 0) (by omega) (by omega) hpt hit).mono ?_
        rintro e w' ⟨rfl, rfl⟩
        rw [HB.out]
        go_wp2
        go_ret
        exact ⟨by rw [HF.out]; rfl, hbk⟩
      · have hkm : k < M := by
          rcases Nat.lt_or_ge k M with h | h
          · exact h
          · exact absurd (by rw [show k = M by omega]; exact Nat.dvd_refl M) hdv
        have HB := Lib.hid ((HSAME.out k).trans (decide_eq_false hdv))
        have HIDK := Lib.hid hidk
        clear hownk hidk hdv
        go_wp2_with fail
        refine (spec_same A4 A2 n n c4 c2 (powTo zs k) (powTo zs 0) _ (HPL.out k) (HPL.out 0) (by omega) (by omega) hpt hit).mono ?_
        rintro e w' ⟨rfl, rfl⟩
        rw [HB.out]
        go_wp2_with fail
        refine (join_any A4 n c4 (powTo zs k) _ n c zs _ (HPL.out k) hpt HN.out (by omega) hat hin).mono ?_
        rintro e w3 ⟨A5, c5, rfl, hown, hb3⟩
        rw [powTo_next, HPL.out (k + 1)] at hown
        rw [powTo_next, HPL.out (k + 1)]
        have HO := Lib.hid (own_mono hown hszk)
        have HI3 := Lib.hid (own_below HIDK.out hb3)
        have HB3 := Lib.hid (hbk.trans (hb3.mono hszk))
        clear hown hb3 hbk hpt hit HIDK
        go_wp2
        go_roundw
        case rel => exact ⟨k + 1, by omega, by omega, by go_num, ⟨_, _, rfl, HO.out⟩, HI3.out, HB3.out⟩
        case measure => simp [intOf]; omega

/-! ### the program's way: by the lengths of the cycles -/
theorem cyc_lens {zs : List Int} (h : permB zs = true) : lcmL ((cycI zs).map List.length) = ordF zs := by
  rw [ordF_yes h, cycI_yes h]
  unfold ordN
  congr 1
  rw [List.map_map]
  exact List.map_congr_left fun l _ => by simp [ints_len]
theorem cyc_bd {zs : List Int} (h : permB zs = true) : ∀ l ∈ (cycI zs).map List.length, 1 ≤ l ∧ l ≤ 12 := by
  have h12 := (permB_yes h).1
  rw [cycI_yes h]
  intro l hl
  rw [List.map_map] at hl
  obtain ⟨c, hc, rfl⟩ := List.mem_map.1 hl
  have := cyc_len (bij_of h) (Nat.le_refl _) hc
  simp only [Function.comp, ints_len]
  omega
theorem cyc_few {zs : List Int} (h : permB zs = true) : (cycI zs).length ≤ zs.length := by
  rw [cycI_yes h, List.length_map]
  exact cycTo_len _ _ _
def lcmTo (ls : List Nat) (j : Nat) : Nat := lcmL (ls.take j)
theorem lcmTo_next (ls : List Nat) (j : Nat) (h : j < ls.length) : lcmTo ls (j + 1) = Nat.lcm (lcmTo ls j) (ls.getD j 0) := by
  unfold lcmTo
  rw [List.take_succ_eq_append_getElem h, lcmL_snoc, List.getD_eq_getElem?_getD, List.getElem?_eq_getElem h]; rfl
theorem lcmTo_small (ls : List Nat) (h : ∀ l ∈ ls, 1 ≤ l ∧ l ≤ 12) (j : Nat) : 1 ≤ lcmTo ls j ∧ lcmTo ls j ≤ 27720 := lcmL_small _ fun l hl => h l (List.mem_of_mem_take hl)
theorem lcm_parts (a b : Nat) (ha : 1 ≤ a) (hb : 1 ≤ b) : ∃ r, 1 ≤ r ∧ Nat.lcm a b = a * r ∧ (∀ t, 1 ≤ t → b ∣ a * t → r ≤ t) ∧ b ∣ a * r := by
  obtain ⟨r, hr⟩ := Nat.dvd_lcm_left a b
  have hp := Nat.lcm_pos (show 0 < a by omega) (show 0 < b by omega)
  refine ⟨r, ?_, hr, ?_, by rw [← hr]; exact Nat.dvd_lcm_right a b⟩
  · rcases Nat.eq_zero_or_pos r with e | e
    · rw [e, Nat.mul_zero] at hr; omega
    · exact e
  · intro t ht hd
    have h1 := Nat.lcm_dvd (Nat.dvd_mul_right a t) hd
    have h2 := Nat.le_of_dvd (Nat.mul_pos (by omega) (by omega)) h1
    rw [hr] at h2
    exact Nat.le_of_mul_le_mul_left h2 (by omega)
theorem tmod_eq (a b : Nat) : ((a : Int) % (b : Int) == 0) = decide (b ∣ a) := by
  rw [Bool.eq_iff_iff, beq_iff_eq, decide_eq_true_eq]
  constructor
  · intro h; exact Int.ofNat_dvd.1 (Int.dvd_of_emod_eq_zero h)
  · intro h; exact Int.emod_eq_zero_of_dvd (Int.ofNat_dvd.2 h)

set_option maxHeartbeats 1000000 in
theorem impl_ord (A : Option Addr) (n c : Nat) (zs : List Int) (w : World) (hn : zs.length = n) (hn2 : n ≤ 9223372036854775807) (hz : Fits zs) (hss : IntsAt w w.heap.size .i64 A zs) :
    Calls Try.prog 45 #[.slice A n c] w fun e w' => e = .returned (.int .i64 (ordF zs : Nat)) ∧ Below w.heap.size w w' := by
  have HN := Lib.hid hn
  clear hn
  cases hp : permB zs with
  | false =>
    have HP := Lib.hid hp
    have HF := Lib.hid (ordF_no hp)
    clear hp
    go_enter Try.func45, Try.ntmps45
    go_wp2_with fail
    refine (impl_perm A n c zs _ HN.out hn2 hz hss).mono ?_
    rintro e w1 ⟨rfl, hb⟩
    rw [HP.out]
    go_wp2
    go_ret
    exact ⟨by rw [HF.out]; rfl, hb⟩
  | true =>
    have HP := Lib.hid hp
    have HF := Lib.hid (cyc_lens hp)
    have HBD := Lib.hid (cyc_bd hp)
    have hfew := cyc_few hp
    have h12 := perm_short hp
    rw [HN.out] at h12 hfew
    clear hp
    go_enter Try.func45, Try.ntmps45
    go_wp2_with fail
    refine (impl_perm A n c zs _ HN.out hn2 hz hss).mono ?_
    rintro e w1 ⟨rfl, hb⟩
    rw [HP.out]
    replace hss := (hss.below hb).more hb.size
    go_wp2_with fail
    refine (impl_cyc A n c zs _ HN.out hn2 hz hss).mono ?_
    rintro e w2 ⟨A2, c2, rs, rfl, hrs, hrow, hb2⟩
    have HB := Lib.hid (hb.trans (hb2.mono hb.size))
    have HROW := Lib.hid hrow
    have HRS := Lib.hid hrs
    have HLEN := Lib.hid hrow.len
    rw [← hrs] at HF HBD
    clear hb hb2 hrow hrs hss
    generalize (cycI zs).length = m at *
    rw [List.map_map] at HF HBD
    obtain ⟨ls, hls⟩ : ∃ ls, ls = rs.map (List.length ∘ RD.zs) := ⟨_, rfl⟩
    rw [← hls] at HF HBD
    have HLL := Lib.hid (show ls.length = m by rw [hls, List.length_map]; exact HLEN.out)
    have HLG := Lib.hid (fun j (hj : j < m) => show (rs.getD j rd0).zs.length = ls.getD j 0 by
      rw [hls]
      simp [List.getD_eq_getElem?_getD, List.getElem?_map, List.getElem?_eq_getElem (show j < rs.length by rw [HLEN.out]; exact hj)])
    have HZ := Lib.hid (show lcmTo ls 0 = 1 from rfl)
    clear hls
    go_wp2
    go_loop [3, 13] (fun q i => ∃ j : Nat, j ≤ m ∧ i = .int .i64 j ∧ q = .int .i64 (lcmTo ls j : Nat)) (fun _ i => m - (intOf i).toNat)
    case atStart => exact ⟨0, Nat.zero_le _, rfl, by rw [HZ.out]; rfl⟩
    case round =>
      obtain ⟨j, hj, rfl, rfl⟩ := hrel
      by_cases hlt : j < m
      · obtain ⟨g, rfl, hc⟩ := HROW.out.cell j hlt
        have hnext := lcmTo_next ls j (by rw [HLL.out]; exact hlt)
        have hsm := lcmTo_small ls HBD.out j
        have hsm2 := lcmTo_small ls HBD.out (j + 1)
        have hlg := HLG.out j hlt
        have hbd := HBD.out (ls.getD j 0) (by
          rw [List.getD_eq_getElem?_getD, List.getElem?_eq_getElem (by rw [HLL.out]; exact hlt)]
          exact List.getElem_mem _)
        simp only [RD.v] at hc
        rw [hlg] at hc
        generalize ls.getD j 0 = l at *
        generalize (rs.getD j rd0).A = A1 at hc
        generalize (rs.getD j rd0).c = c1 at hc
        generalize lcmTo ls j = q at *
        generalize hq2 : lcmTo ls (j + 1) = q2 at *
        obtain ⟨r, hr1, hr2, hr3, hr4⟩ := lcm_parts q l hsm.1 hbd.1
        rw [hr2] at hnext
        have HQ2 := Lib.hid hq2
        have HR3 := Lib.hid hr3
        have HNX := Lib.hid hnext
        have HR4 := Lib.hid hr4
        have hqr : q * r ≤ 27720 := by rw [← hnext]; exact hsm2.2
        have hq1 := hsm.1
        have hl1 := hbd.1
        have hl2 := hbd.2
        clear hq2 hr3 hnext hr4 hr2 hlg hsm hsm2 hbd
        go_wp2
        go_loop [3] (fun v => ∃ t : Nat, 1 ≤ t ∧ t ≤ r ∧ v = .int .i64 ((q * t : Nat) : Int)) (fun v => 27720 - (intOf v).toNat)
        case atStart => exact ⟨1, Nat.le_refl _, hr1, by simp⟩
        case round =>
          obtain ⟨t, ht1, ht2, rfl⟩ := hrel
          have hmul : q * t ≤ q * r := Nat.mul_le_mul_left q ht2
          have hsucc : q * (t + 1) = q * t + q := Nat.mul_succ q t
          have hmono : ∀ s, s ≤ r → q * s ≤ q * r := fun s hs => Nat.mul_le_mul_left q hs
          have hmod := tmod_eq (q * t) l
          by_cases hd : l ∣ q * t
          · have hrt := HR3.out t ht1 hd
            have htr : t = r := by omega
            rw [decide_eq_true hd] at hmod
            subst htr
            generalize q * t = p at *
            have hm2 : ((p : Int) % (l : Int) != 0) = false := by rw [bne, hmod]; rfl
            clear hd hsucc hmono
            go_wp2
            go_round
            case rel => exact ⟨j + 1, by omega, by go_num, by rw [HQ2.out, HNX.out]⟩
            case measure => simp [intOf]; omega
          · have htr : t < r := by
              rcases Nat.lt_or_ge t r with h | h
              · exact h
              · exact absurd (by rw [show t = r by omega]; exact HR4.out) hd
            rw [decide_eq_false hd] at hmod
            have hlow := hmono (t + 1) htr
            have hpos : 1 ≤ q * t := Nat.mul_pos hq1 ht1
            have HS := Lib.hid hsucc
            rw [hsucc] at hlow
            clear hd hsucc hmono
            generalize q * t = p at *
            have hm2 : ((p : Int) % (l : Int) != 0) = true := by rw [bne, hmod]; rfl
            clear hmod
            go_wp2
            go_round
            case rel => exact ⟨t + 1, by omega, by omega, by rw [HS.out]; go_num⟩
            case measure => simp [intOf]; omega
      · have hjn : j = m := by omega
        subst hjn
        have HE := Lib.hid (show lcmTo ls j = ordF zs by rw [← HF.out]; unfold lcmTo; rw [List.take_of_length_le (by rw [HLL.out]; exact Nat.le_refl _)])
        go_wp2
        go_ret
        exact ⟨by rw [HE.out]; rfl, HB.out⟩

/-! ### IsEven -/
def evenF (zs : List Int) : Bool := permB zs && decide (2 ∣ zs.length - (cycI zs).length)
theorem evenF_no {zs : List Int} (h : permB zs = false) : evenF zs = false := by unfold evenF; rw [h]; rfl
theorem evenF_yes {zs : List Int} (h : permB zs = true) : evenF zs = decide (2 ∣ zs.length - (cycI zs).length) := by unfold evenF; rw [h]; rfl
end Go.Proofs.Ytpbpgpccjabghaa.Ord
