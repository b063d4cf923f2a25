/- What is left of what is known after a look at a card or at the sides (SeeCard, SeeSides), of the model. -/
import Derived.Test.YthcggkhpamjjbaaKno
import Derived.Test.YthcggkhpamjjbaaBig
set_option linter.unusedVariables false
set_option maxRecDepth 20000
namespace Go.Proofs.Ythcggkhpamjjbaa.Kns
open Go.RowKit Fr _root_.Go.Proofs.Ythcggkhpamjjbaa.Own Pk Ins Pok Rws Lb Cat Srt Sst Arr Kno

/-- the packets that fit with what was seen -/
def seeF (f : List Int → Bool) (zss : List (List Int)) : List (List Int) := if knowB zss = true then zss.filter f else []
theorem see_no {f : List Int → Bool} {zss : List (List Int)} (h : knowB zss = false) : seeF f zss = [] := by unfold seeF; rw [h]; rfl
theorem see_yes {f : List Int → Bool} {zss : List (List Int)} (h : knowB zss = true) : seeF f zss = zss.filter f := by unfold seeF; rw [if_pos h]
def cardAt (p card : Int) (zs : List Int) : Bool := decide (0 ≤ p ∧ p < zs.length) && decide (cardF (zs.getD p.toNat 0) = card)
theorem arr_parts {ps qs : List Int} (h : arrB ps qs = true) : okB ps = true ∧ okB qs = true ∧ ps.length = qs.length := by
  unfold arrB at h
  rw [Bool.and_eq_true, Bool.and_eq_true, Bool.and_eq_true] at h
  exact ⟨h.1.1.1, h.1.1.2, of_decide_eq_true h.1.2⟩
/-- each packet of a valid list -/
theorem know_row {ls : List RD} {n : Nat} (hn : ls.length = n) (h : knowB (ls.map RD.zs) = true) (k : Nat) (hk : k < n) : okB (ls.getD k rd0).zs = true ∧ 1 ≤ (ls.getD k rd0).zs.length ∧ (ls.getD k rd0).zs.length ≤ 12 ∧ (ls.getD k rd0).zs.length = (ls.getD 0 rd0).zs.length := by
  obtain ⟨h1, h2, h3, h4⟩ := know_len h
  rw [List.length_map, hn] at h4
  have hs := h4 k hk
  unfold stepB at hs
  rw [Bool.and_eq_true, map_getD, map_getD] at hs
  obtain ⟨q1, q2, q3⟩ := arr_parts hs.1
  rw [map_getD] at h3
  exact ⟨q2, by omega, (okB_yes q2).1, q3.symm⟩
theorem know_few {ls : List RD} {n : Nat} (hn : ls.length = n) (h : knowB (ls.map RD.zs) = true) : 1 ≤ n ∧ n ≤ 3000 := by
  obtain ⟨h1, h2, _⟩ := know_len h
  rw [List.length_map, hn] at h1 h2
  exact ⟨h1, h2⟩
theorem filt_no {f : List Int → Bool} {ls : List RD} {k n : Nat} (hn : ls.length = n) (hk : k < n) (h : f (ls.getD k rd0).zs = false) : ((ls.map RD.zs).take (k + 1)).filter f = ((ls.map RD.zs).take k).filter f := by
  have e : (ls.map RD.zs).take (k + 1) = (ls.map RD.zs).take k ++ [(ls.getD k rd0).zs] := by
    rw [List.take_add_one, List.getElem?_map, List.getElem?_eq_getElem (by omega)]
    simp [List.getD_eq_getElem?_getD, List.getElem?_eq_getElem (show k < ls.length by omega)]
  rw [e, List.filter_append]
  simp only [List.filter_cons, h, List.filter_nil]
  simp
theorem filt_yes {f : List Int → Bool} {ls : List RD} {k n : Nat} (hn : ls.length = n) (hk : k < n) (h : f (ls.getD k rd0).zs = true) : ((ls.map RD.zs).take (k + 1)).filter f = ((ls.map RD.zs).take k).filter f ++ [(ls.getD k rd0).zs] := by
  have e : (ls.map RD.zs).take (k + 1) = (ls.map RD.zs).take k ++ [(ls.getD k rd0).zs] := by
    rw [List.take_add_one, List.getElem?_map, List.getElem?_eq_getElem (by omega)]
    simp [List.getD_eq_getElem?_getD, List.getElem?_eq_getElem (show k < ls.length by omega)]
  rw [e, List.filter_append]
  simp only [List.filter_cons, h, List.filter_nil]
  simp
theorem filt_len {f : List Int → Bool} {zss : List (List Int)} (k : Nat) : ((zss.take k).filter f).length ≤ k := by
  have h1 := List.length_filter_le f (zss.take k)
  rw [List.length_take] at h1
  omega
/-- a row has one more list -/
theorem snoc_zs {ro : List RD} {zss : List (List Int)} {r : RD} {zs : List Int} (h : ro.map RD.zs = zss) (hr : r.zs = zs) : (ro ++ [r]).map RD.zs = zss ++ [zs] := by
  rw [List.map_append, h]
  simp [hr]

theorem tots_filter (f : List Int → Bool) : ∀ l : List (List Int), tots (l.filter f) ≤ tots l
  | [] => Nat.le_refl _
  | x :: l => by
    have ih := tots_filter f l
    rw [List.filter_cons, tots_cons]
    split
    · rw [tots_cons]; omega
    · omega
theorem see_big (f : List Int → Bool) {zss : List (List Int)} (h : Big.BigSS zss) : Big.BigSS (seeF f zss) := by
  unfold seeF
  split
  · exact ⟨Nat.le_trans (List.length_filter_le f zss) h.1, Nat.le_trans (tots_filter f zss) h.2⟩
  · exact ⟨Nat.zero_le _, Nat.zero_le _⟩
set_option maxHeartbeats 2000000 in
theorem spec_card (A : Option Addr) (n c : Nat) (ls : List RD) (p card : Int) (w : World) (hn : ls.length = n) (hat : SSAt w w.heap.size A ls) (hf : ∀ i, i < n → Fits (ls.getD i rd0).zs) (hz : ∀ i, i < n → (ls.getD i rd0).zs.length ≤ 1048576) (hn2 : n ≤ 1048576) :
    Calls Try.prog 22 #[.slice A n c, .int .i64 p, .int .i64 card] w (IsSS w.heap.size (seeF (cardAt p card) (ls.map RD.zs)) w) := by
  obtain ⟨i0, hi, hz0, hz1, hz2⟩ := info_parts infoInt
  obtain ⟨i1, hj, hy0, hy1, hy2⟩ := infos_parts
  have CK := spec_know A n c ls w hn hat hf hz hn2
  obtain ⟨R, hR⟩ : ∃ R, R = seeF (cardAt p card) (ls.map RD.zs) := ⟨_, rfl⟩
  rw [← hR]
  have HR := Lib.hid hR
  have HN := Lib.hid hn
  have HAT := Lib.hid hat
  have HF := Lib.hid hf
  have HZ := Lib.hid hz
  cases hkb : knowB (ls.map RD.zs) with
  | false =>
    have HS := Lib.hid (show R = [] by rw [HR.out, see_no hkb])
    rw [hkb] at CK
    clear HR hR hn hat hf hz hkb
    go_enter Try.func22, Try.ntmps22
    go_wp2_with fail
    refine CK.mono ?_
    rintro e w1 ⟨rfl, hb1⟩
    go_wp2
    go_ret
    exact ⟨none, 0, [], by rw [HS.out]; rfl, by rw [HS.out]; rfl, by rw [HS.out]; exact SSRow.empty (World.ownsRow_nil _ _ _ _), hb1⟩
  | true =>
    have HS := Lib.hid (show ((ls.map RD.zs).take n).filter (cardAt p card) = R by rw [HR.out, see_yes hkb, ← HN.out, List.take_of_length_le (by rw [List.length_map]; exact Nat.le_refl _)])
    have HKR := Lib.hid (know_row hn hkb)
    obtain ⟨hfe, hfw⟩ := know_few hn hkb
    rw [hkb] at CK
    clear HR hR hn hat hf hz hkb
    go_enter Try.func22, Try.ntmps22
    go_wp2_with fail
    refine CK.mono ?_
    rintro e w1 ⟨rfl, hb1⟩
    have HO0 := Lib.hid (SSRow.empty (World.ownsRow_lit (base := w.heap.size) (e := 31) (size := 1) w1 #[] 0 hb1.size (Nat.zero_le _) rfl))
    have HAL := Lib.hid (hb1.alloc hb1.size (.cells #[] 31))
    clear hb1 CK
    go_wp2
    go_loopg [7, 9, 16] n (fun g s7 _ s16 wr => ∃ (k : Nat) (Ao : Option Addr) (no co : Nat) (ro : List RD), k ≤ n ∧ g = n - k ∧ s16 = .int .i64 (k : Int) ∧ s7 = .slice Ao no co ∧ no ≤ k ∧
      Hid (ro.map RD.zs = ((ls.map RD.zs).take k).filter (cardAt p card)) ∧ Hid (SSRow wr w.heap.size wr.heap.size Ao no co ro) ∧ Hid (Below w.heap.size w wr))
    case atStart => exact ⟨0, _, 0, 0, [], Nat.zero_le _, rfl, rfl, rfl, Nat.le_refl _, Lib.hid rfl, HO0, HAL⟩
    case round =>
      clear HO0 HAL
      obtain ⟨k, Ao, no, co, ro, hk, hg, rfl, rfl, hno, HRZ, HO, HBW⟩ := hrel
      have hsz := HBW.out.size
      by_cases hlt : k < n
      · obtain ⟨b, o, Ak, mk, ck, rfl, hbb, hck, hmk, hik, hfk, hsk⟩ := row_at (HAT.out.below HBW.out) HN.out HF.out HZ.out k hlt
        have hrow := HKR.out k hlt
        have HSK := Lib.hid (fun h : cardAt p card (ls.getD k rd0).zs = false => (filt_no HN.out hlt h).symm ▸ HRZ.out)
        have HAP := Lib.hid (fun (h : cardAt p card (ls.getD k rd0).zs = true) (r : RD) (hr : r.zs = (ls.getD k rd0).zs) => (show (ro ++ [r]).map RD.zs = ((ls.map RD.zs).take (k + 1)).filter (cardAt p card) by rw [filt_yes HN.out hlt h]; exact snoc_zs HRZ.out hr))
        clear HRZ
        generalize (ls.getD k rd0).zs = zs at *
        rw [hmk] at hrow
        have hm1 := hrow.2.1
        have hm2 := hrow.2.2.1
        have HM := Lib.hid hmk
        obtain ⟨ba, oa, rfl, hba, _⟩ := hik 0 (by rw [hmk]; omega)
        clear hrow
        by_cases hin : 0 ≤ p ∧ p < (mk : Int)
        · obtain ⟨j, rfl⟩ := Int.eq_ofNat_of_zero_le hin.1
          have hj1 : j < mk := by omega
          obtain ⟨bx, ox, ex, hbx, hcx⟩ := hik j (by rw [hmk]; exact hj1)
          simp only [Option.some.injEq, Addr.mk.injEq, and_true] at ex
          obtain ⟨rfl, rfl⟩ := ex
          obtain ⟨hx1, hx2⟩ := hfk j (by rw [hmk]; exact hj1)
          have HD := Lib.hid (show cardAt (j : Int) card zs = decide (cardF (zs.getD j 0) = card) by unfold cardAt; rw [hmk, decide_eq_true hin]; simp)
          generalize hx : zs.getD j 0 = x at hcx hx1 hx2 HD
          clear hx
          have hcin : ∀ W : World, Calls Try.prog 37 #[.int .i64 (j : Int), .int .i64 0, .int .i64 ((mk : Int) - 1)] W fun e w' => e = .returned (.bool true) ∧ W = w' := fun W => Pk.in_yes _ _ _ _ (by omega) (by omega)
          by_cases hcd : cardF x = card
          · have HAP2 := Lib.hid (HAP.out (by rw [HD.out, decide_eq_true hcd]))
            have hcdb : (cardF x == card) = true := by rw [beq_iff_eq]; exact hcd
            clear HD HAP HSK hin
            have HL := Lib.hid (World.ownsRow_lit (base := wr.heap.size) (e := 3) (size := 1) wr #[] 0 (Nat.le_refl _) (Nat.zero_le _) rfl)
            have HL2 := Lib.hid ((Below.refl wr.heap.size wr).alloc (Nat.le_refl _) (.cells #[] 3))
            have hl2s := HL2.out.size
            have HXL := Lib.hid ((hik.more hsz).below HL2.out)
            have HO3 := Lib.hid (HO.out.below HL2.out)
            have HBW3 := Lib.hid (HBW.out.trans (HL2.out.mono hsz))
            clear hik hmk hfk HO HBW HL2
            go_wp2_with fail
            refine (hcin _).mono ?_
            rintro e w' ⟨rfl, rfl⟩
            go_wp2_with fail
            refine (Pk.spec_card x _ hx1 hx2).mono ?_
            rintro e w' ⟨rfl, rfl⟩
            go_wp2_with (at_builtin; first
              | (refine app_any rfl (.tmp 35) (.tmp 36) 31 rfl wr.heap.size 3 i0 8 Try.underlying31 hi hz0 hz1 hz2 (by decide) (some ⟨wr.heap.size, 0, none⟩) 0 0 [] rfl HL.out (some ⟨ba, oa, none⟩) mk ck zs rfl HM.out (fun e => by cases e) wr.heap.size HXL.out (by decide) (by omega) hl2s (fun a e => by cases e; rfl) ?_; intro A5 c5 w5 hown5 hgr5; rw [Nat.zero_add] at hown5 ⊢; have hr5 := HO3.out.grown hgr5 (fun k hk => by simp only [Option.map_some, Option.some.injEq] at hk; omega); have HB5 := Lib.hid (HBW3.out.grown hgr5 (by omega) (fun k hk => by simp only [Option.map_some, Option.some.injEq] at hk; omega)); have hs5 := hgr5.size)
              | (refine app_more rfl (.tmp 34) (.tmp 38) 22 rfl w.heap.size 31 i1 (.slice none 0 0) 24 Try.underlying22 hj hy0 hy1 hy2 (by decide) rfl _ _ _ _ rfl hr5.1 (.slice A5 mk c5) rfl _ rfl rfl (by omega) (by omega) ?_; intro g6 c6 w6 hown6 hgr6))
            have HSN := Lib.hid (SSRow.snoc (zs := zs) (A1 := A5) (c1 := c5) hr5 hsz (by rw [HM.out]; exact own_mono hown5 (by omega)) (by rw [HM.out]; exact hown6) hgr6)
            have HB6 := Lib.hid (HB5.out.grown hgr6 (by omega) (fun k hk => hr5.outlo k hk))
            have HR6 := Lib.hid (HAP2.out ⟨A5, c5, zs⟩ rfl)
            clear hr5 hown5 hown6 hgr5 hgr6
            go_roundg (n - (k + 1))
            case rel => exact ⟨k + 1, _, no + 1, c6, _, by omega, rfl, by go_num, rfl, by omega, HR6, HSN, HB6⟩
            case measure => omega
          · have HS2 := Lib.hid (HSK.out (by rw [HD.out, decide_eq_false hcd]))
            have hcdb : (cardF x == card) = false := by rw [beq_eq_false_iff_ne]; exact hcd
            clear HD HAP HSK hin hcd
            go_wp2_with fail
            refine (hcin _).mono ?_
            rintro e w' ⟨rfl, rfl⟩
            go_wp2_with fail
            refine (Pk.spec_card x _ hx1 hx2).mono ?_
            rintro e w' ⟨rfl, rfl⟩
            go_wp2
            go_roundg (n - (k + 1))
            case rel => exact ⟨k + 1, Ao, no, co, ro, by omega, rfl, by go_num, rfl, by omega, HS2, HO, HBW⟩
            case measure => omega
        · have HS2 := Lib.hid (HSK.out (by unfold cardAt; rw [hmk, decide_eq_false hin]; rfl))
          have hcin : ∀ W : World, Calls Try.prog 37 #[.int .i64 p, .int .i64 0, .int .i64 ((mk : Int) - 1)] W fun e w' => e = .returned (.bool false) ∧ W = w' := fun W => Pk.in_no _ _ _ _ (by omega)
          clear HAP HSK hin
          go_wp2_with fail
          refine (hcin _).mono ?_
          rintro e w' ⟨rfl, rfl⟩
          go_wp2
          go_roundg (n - (k + 1))
          case rel => exact ⟨k + 1, Ao, no, co, ro, by omega, rfl, by go_num, rfl, by omega, HS2, HO, HBW⟩
          case measure => omega
      · have hkn : k = n := by omega
        have HRR := Lib.hid (show ro.map RD.zs = R by rw [HRZ.out, hkn]; exact HS.out)
        have HRL := Lib.hid (show R.length = no by rw [← HRR.out, List.length_map, HO.out.len])
        clear hkn HRZ HS
        go_wp2
        go_ret
        exact ⟨Ao, co, ro, by rw [HRL.out]; rfl, HRR.out, by rw [HRL.out]; exact HO.out, HBW.out⟩
def sidesB (up zs : List Int) : Bool := (List.range zs.length).all fun i => upB (zs.getD i 0) == hasB up (i : Int)
theorem sides_yes {up zs : List Int} (h : ∀ i, i < zs.length → upB (zs.getD i 0) = hasB up (i : Int)) : sidesB up zs = true := by
  unfold sidesB
  rw [List.all_eq_true]
  intro i hi
  rw [beq_iff_eq]
  exact h i (List.mem_range.1 hi)
theorem sides_no {up zs : List Int} {i : Nat} (hi : i < zs.length) (h : upB (zs.getD i 0) ≠ hasB up (i : Int)) : sidesB up zs = false := by
  rw [Bool.eq_false_iff]
  intro hs
  unfold sidesB at hs
  rw [List.all_eq_true] at hs
  exact h (beq_iff_eq.1 (hs i (List.mem_range.2 hi)))
set_option maxHeartbeats 1000000 in
theorem spec_sides1 (A : Option Addr) (m c : Nat) (zs : List Int) (A2 : Option Addr) (n2 c2 : Nat) (up : List Int) (w : World) (hm : zs.length = m) (hm2 : m ≤ 1048576) (hz : Fits zs) (hss : IntsAt w w.heap.size .i64 A zs)
    (hn2 : up.length = n2) (hb2 : n2 ≤ 9223372036854775807) (hs2 : IntsAt w w.heap.size .i64 A2 up) :
    Calls Try.prog 54 #[.slice A m c, .slice A2 n2 c2] w fun e w' => e = .returned (.bool (sidesB up zs)) ∧ w = w' := by
  have HM := Lib.hid hm
  have CH := fun x : Int => Pok.has_any A2 n2 c2 up x w hn2 hb2 hs2
  obtain ⟨R, hR⟩ : ∃ R, R = sidesB up zs := ⟨_, rfl⟩
  rw [← hR]
  have HR := Lib.hid hR
  clear hm hn2 hs2 hR
  go_enter Try.func54, Try.ntmps54
  go_wp2
  go_loop [5, 6, 9] (fun _ _ i => ∃ k : Nat, k ≤ m ∧ i = .int .i64 k ∧ Hid (∀ i, i < k → upB (zs.getD i 0) = hasB up (i : Int))) (fun _ _ i => m - (intOf i).toNat)
  case atStart => exact ⟨0, Nat.zero_le _, rfl, (fun i hi => absurd hi (Nat.not_lt_zero _))⟩
  case round =>
    obtain ⟨k, hk, rfl, HE⟩ := hrel
    by_cases hlt : k < m
    · obtain ⟨b, o, rfl, hbb, hc⟩ := hss k (by rw [HM.out]; exact hlt)
      have CK := CH (k : Int)
      obtain ⟨h, hh⟩ : ∃ h, h = hasB up (k : Int) := ⟨_, rfl⟩
      rw [← hh] at CK
      obtain ⟨u, hu⟩ : ∃ u, u = upB (zs.getD k 0) := ⟨_, rfl⟩
      have CU := fun W => Pk.spec_up (zs.getD k 0) W
      rw [← hu] at CU
      have HY := Lib.hid (fun e : u = h => (show ∀ i, i < k + 1 → upB (zs.getD i 0) = hasB up (i : Int) from fun i hi => by
        by_cases hik : i = k
        · rw [hik, ← hh, ← hu]; exact e
        · exact HE.out i (by omega)))
      have HNO := Lib.hid (fun e : u ≠ h => (show false = R by rw [HR.out, sides_no (i := k) (by rw [HM.out]; exact hlt) (by rw [← hh, ← hu]; exact e)]))
      generalize zs.getD k 0 = x at *
      clear hh hu HE CH
      by_cases e : u = h
      · have HS := Lib.hid (HY.out e)
        have hne : (!(u == h)) = false := by rw [e]; simp
        clear HY HNO e
        go_wp2_with fail
        refine (CU _).mono ?_
        rintro e w' ⟨rfl, rfl⟩
        go_wp2_with fail
        refine CK.mono ?_
        rintro e w' ⟨rfl, rfl⟩
        go_wp2
        go_round
        case rel => exact ⟨k + 1, by omega, by go_num, HS⟩
        case measure => simp [intOf]; omega
      · have HS := Lib.hid (HNO.out e)
        have hne : (!(u == h)) = true := by simpa using e
        clear HY HNO e
        go_wp2_with fail
        refine (CU _).mono ?_
        rintro e w' ⟨rfl, rfl⟩
        go_wp2_with fail
        refine CK.mono ?_
        rintro e w' ⟨rfl, rfl⟩
        go_wp2
        go_ret
        exact ⟨ret_b HS.out, rfl⟩
    · have hkn : k = m := by omega
      have HS := Lib.hid (show true = R by rw [HR.out, sides_yes (fun i hi => HE.out i (by rw [hkn, ← HM.out]; exact hi))])
      clear hkn HE
      go_wp2
      go_ret
      exact ⟨ret_b HS.out, rfl⟩
set_option maxHeartbeats 2000000 in
theorem spec_sides (A : Option Addr) (n c : Nat) (ls : List RD) (A2 : Option Addr) (n2 c2 : Nat) (up : List Int) (w : World) (hn : ls.length = n) (hat : SSAt w w.heap.size A ls) (hf : ∀ i, i < n → Fits (ls.getD i rd0).zs) (hz : ∀ i, i < n → (ls.getD i rd0).zs.length ≤ 1048576) (hn2 : n ≤ 1048576) (hm2 : up.length = n2) (hb2 : n2 ≤ 9223372036854775807) (hs2 : IntsAt w w.heap.size .i64 A2 up) :
    Calls Try.prog 26 #[.slice A n c, .slice A2 n2 c2] w (IsSS w.heap.size (seeF (sidesB up) (ls.map RD.zs)) w) := by
  obtain ⟨i0, hi, hz0, hz1, hz2⟩ := info_parts infoInt
  obtain ⟨i1, hj, hy0, hy1, hy2⟩ := infos_parts
  have CK := spec_know A n c ls w hn hat hf hz hn2
  obtain ⟨R, hR⟩ : ∃ R, R = seeF (sidesB up) (ls.map RD.zs) := ⟨_, rfl⟩
  rw [← hR]
  have HR := Lib.hid hR
  have HN := Lib.hid hn
  have HAT := Lib.hid hat
  have HF := Lib.hid hf
  have HZ := Lib.hid hz
  have HU := Lib.hid hm2
  have HU2 := Lib.hid hs2
  clear hm2 hs2
  cases hkb : knowB (ls.map RD.zs) with
  | false =>
    have HS := Lib.hid (show R = [] by rw [HR.out, see_no hkb])
    rw [hkb] at CK
    clear HR hR hn hat hf hz hkb
    go_enter Try.func26, Try.ntmps26
    go_wp2_with fail
    refine CK.mono ?_
    rintro e w1 ⟨rfl, hb1⟩
    go_wp2
    go_ret
    exact ⟨none, 0, [], by rw [HS.out]; rfl, by rw [HS.out]; rfl, by rw [HS.out]; exact SSRow.empty (World.ownsRow_nil _ _ _ _), hb1⟩
  | true =>
    have HS := Lib.hid (show ((ls.map RD.zs).take n).filter (sidesB up) = R by rw [HR.out, see_yes hkb, ← HN.out, List.take_of_length_le (by rw [List.length_map]; exact Nat.le_refl _)])
    have HKR := Lib.hid (know_row hn hkb)
    obtain ⟨hfe, hfw⟩ := know_few hn hkb
    rw [hkb] at CK
    clear HR hR hn hat hf hz hkb
    go_enter Try.func26, Try.ntmps26
    go_wp2_with fail
    refine CK.mono ?_
    rintro e w1 ⟨rfl, hb1⟩
    have HO0 := Lib.hid (SSRow.empty (World.ownsRow_lit (base := w.heap.size) (e := 31) (size := 1) w1 #[] 0 hb1.size (Nat.zero_le _) rfl))
    have HAL := Lib.hid (hb1.alloc hb1.size (.cells #[] 31))
    clear hb1 CK
    go_wp2
    go_loopg [5, 7, 14] n (fun g s7 _ s16 wr => ∃ (k : Nat) (Ao : Option Addr) (no co : Nat) (ro : List RD), k ≤ n ∧ g = n - k ∧ s16 = .int .i64 (k : Int) ∧ s7 = .slice Ao no co ∧ no ≤ k ∧
      Hid (ro.map RD.zs = ((ls.map RD.zs).take k).filter (sidesB up)) ∧ Hid (SSRow wr w.heap.size wr.heap.size Ao no co ro) ∧ Hid (Below w.heap.size w wr))
    case atStart => exact ⟨0, _, 0, 0, [], Nat.zero_le _, rfl, rfl, rfl, Nat.le_refl _, Lib.hid rfl, HO0, HAL⟩
    case round =>
      clear HO0 HAL
      obtain ⟨k, Ao, no, co, ro, hk, hg, rfl, rfl, hno, HRZ, HO, HBW⟩ := hrel
      have hsz := HBW.out.size
      by_cases hlt : k < n
      · obtain ⟨b, o, Ak, mk, ck, rfl, hbb, hck, hmk, hik, hfk, hsk⟩ := row_at (HAT.out.below HBW.out) HN.out HF.out HZ.out k hlt
        have hrow := HKR.out k hlt
        have HSK := Lib.hid (fun h : sidesB up (ls.getD k rd0).zs = false => (filt_no HN.out hlt h).symm ▸ HRZ.out)
        have HAP := Lib.hid (fun (h : sidesB up (ls.getD k rd0).zs = true) (r : RD) (hr : r.zs = (ls.getD k rd0).zs) => (show (ro ++ [r]).map RD.zs = ((ls.map RD.zs).take (k + 1)).filter (sidesB up) by rw [filt_yes HN.out hlt h]; exact snoc_zs HRZ.out hr))
        clear HRZ
        generalize (ls.getD k rd0).zs = zs at *
        rw [hmk] at hrow
        have hm1 := hrow.2.1
        have hm2 := hrow.2.2.1
        have HM := Lib.hid hmk
        obtain ⟨ba, oa, rfl, hba, _⟩ := hik 0 (by rw [hmk]; omega)
        clear hrow
        have CS := spec_sides1 (some ⟨ba, oa, none⟩) mk ck zs A2 n2 c2 up wr HM.out hsk hfk (hik.more hsz) HU.out hb2 ((HU2.out.below HBW.out).more hsz)
        cases hcd : sidesB up zs with
        | true =>
            rw [hcd] at CS
            have HAP2 := Lib.hid (HAP.out hcd)
            clear HAP HSK hcd
            have HL := Lib.hid (World.ownsRow_lit (base := wr.heap.size) (e := 3) (size := 1) wr #[] 0 (Nat.le_refl _) (Nat.zero_le _) rfl)
            have HL2 := Lib.hid ((Below.refl wr.heap.size wr).alloc (Nat.le_refl _) (.cells #[] 3))
            have hl2s := HL2.out.size
            have HXL := Lib.hid ((hik.more hsz).below HL2.out)
            have HO3 := Lib.hid (HO.out.below HL2.out)
            have HBW3 := Lib.hid (HBW.out.trans (HL2.out.mono hsz))
            clear hik hmk hfk HO HBW HL2
            go_wp2_with fail
            refine CS.mono ?_
            rintro e w' ⟨rfl, rfl⟩
            clear CS
            go_wp2_with (at_builtin; first
              | (refine app_any rfl (.tmp 22) (.tmp 23) 31 rfl wr.heap.size 3 i0 8 Try.underlying31 hi hz0 hz1 hz2 (by decide) (some ⟨wr.heap.size, 0, none⟩) 0 0 [] rfl HL.out (some ⟨ba, oa, none⟩) mk ck zs rfl HM.out (fun e => by cases e) wr.heap.size HXL.out (by decide) (by omega) hl2s (fun a e => by cases e; rfl) ?_; intro A5 c5 w5 hown5 hgr5; rw [Nat.zero_add] at hown5 ⊢; have hr5 := HO3.out.grown hgr5 (fun k hk => by simp only [Option.map_some, Option.some.injEq] at hk; omega); have HB5 := Lib.hid (HBW3.out.grown hgr5 (by omega) (fun k hk => by simp only [Option.map_some, Option.some.injEq] at hk; omega)); have hs5 := hgr5.size)
              | (refine app_more rfl (.tmp 21) (.tmp 25) 22 rfl w.heap.size 31 i1 (.slice none 0 0) 24 Try.underlying22 hj hy0 hy1 hy2 (by decide) rfl _ _ _ _ rfl hr5.1 (.slice A5 mk c5) rfl _ rfl rfl (by omega) (by omega) ?_; intro g6 c6 w6 hown6 hgr6))
            have HSN := Lib.hid (SSRow.snoc (zs := zs) (A1 := A5) (c1 := c5) hr5 hsz (by rw [HM.out]; exact own_mono hown5 (by omega)) (by rw [HM.out]; exact hown6) hgr6)
            have HB6 := Lib.hid (HB5.out.grown hgr6 (by omega) (fun k hk => hr5.outlo k hk))
            have HR6 := Lib.hid (HAP2.out ⟨A5, c5, zs⟩ rfl)
            clear hr5 hown5 hown6 hgr5 hgr6
            go_roundg (n - (k + 1))
            case rel => exact ⟨k + 1, _, no + 1, c6, _, by omega, rfl, by go_num, rfl, by omega, HR6, HSN, HB6⟩
            case measure => omega
        | false =>
            rw [hcd] at CS
            have HS2 := Lib.hid (HSK.out hcd)
            clear HAP HSK hcd
            go_wp2_with fail
            refine CS.mono ?_
            rintro e w' ⟨rfl, rfl⟩
            clear CS
            go_wp2
            go_roundg (n - (k + 1))
            case rel => exact ⟨k + 1, Ao, no, co, ro, by omega, rfl, by go_num, rfl, by omega, HS2, HO, HBW⟩
            case measure => omega
      · have hkn : k = n := by omega
        have HRR := Lib.hid (show ro.map RD.zs = R by rw [HRZ.out, hkn]; exact HS.out)
        have HRL := Lib.hid (show R.length = no by rw [← HRR.out, List.length_map, HO.out.len])
        clear hkn HRZ HS
        go_wp2
        go_ret
        exact ⟨Ao, co, ro, by rw [HRL.out]; rfl, HRR.out, by rw [HRL.out]; exact HO.out, HBW.out⟩
end Go.Proofs.Ythcggkhpamjjbaa.Kns
