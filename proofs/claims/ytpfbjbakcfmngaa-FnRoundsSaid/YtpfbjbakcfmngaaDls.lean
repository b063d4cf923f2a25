/- PilesOf of the model, and both PilesOf for all arguments. -/
import Derived.Test.YtpfbjbakcfmngaaDlt
import Derived.Test.YtpfbjbakcfmngaaCat
set_option linter.unusedVariables false
set_option maxRecDepth 20000
namespace Go.Proofs.Ytpfbjbakcfmngaa.Dls
open Go.RowKit Fr _root_.Go.Proofs.Ytpfbjbakcfmngaa.Own Pk Ins Pfn Rws Lb Plk Dlt

theorem take_next {m k : Nat} {zs : List Int} {t : Nat} (h : k < m) : (pilesF zs m t).take (k + 1) = (pilesF zs m t).take k ++ [pileT zs m k t] := by
  have hl := piles_len zs m t
  rw [List.take_add_one, List.getElem?_eq_getElem (by omega)]
  have := piles_get zs m t k h
  rw [List.getD_eq_getElem?_getD, List.getElem?_eq_getElem (by omega)] at this
  rw [← this]
  rfl
theorem own_nil {W : World} {lo : Nat} {e : TypeId} {A : Option Addr} {n c : Nat} {xs : List Value} (h : W.ownsRow lo e 1 (.slice A n c) n xs) : (A = none → c = 0) ∧ ∀ a, A = some a → a.spot = none := by
  rcases own_full h with ⟨h1, _, h3⟩ | ⟨g, _, h1, _⟩
  · exact ⟨fun _ => h3, fun a ha => (by rw [h1] at ha; cases ha)⟩
  · exact ⟨fun ha => (by rw [h1] at ha; cases ha), fun a ha => (by rw [h1] at ha; injection ha with ha; rw [← ha])⟩
set_option maxHeartbeats 2000000 in
theorem spec_l14 (A : Option Addr) (n c m : Nat) (zs : List Int) (w : World) (hn : zs.length = n) (hn2 : n ≤ 12) (hm : m = 2 ∨ m = 3 ∨ m = 4) (h1 : m ≤ n) (hss : IntsAt w w.heap.size .i64 A zs) :
    Calls Try.prog 66 #[.slice A n c, .int .i64 (m : Int)] w (IsSS w.heap.size (pilesF zs m n) w) := by
  obtain ⟨i0, hi, hz0, hz1, hz2⟩ := info_parts infoInt
  obtain ⟨i1, hj1, hy0, hy1, hy2⟩ := infos_parts
  have HS := Lib.hid hss
  have HN := Lib.hid hn
  have HM := Lib.hid hm
  have hm4 : m ≤ 4 := by omega
  have hm1 : 2 ≤ m := by omega
  have HL0 := Lib.hid (SSRow.empty (World.ownsRow_lit (base := w.heap.size) (e := 25) (size := 1) w #[] 0 (Nat.le_refl _) (Nat.zero_le _) rfl))
  have HB0 := Lib.hid ((Below.refl w.heap.size w).alloc (Nat.le_refl _) (.cells #[] 25))
  clear hss hn hm
  go_enter Try.func66, Try.ntmps66
  go_wp2
  go_loopw [5, 6, 7, 8] (fun v j _ _ wr => ∃ k : Nat, k ≤ m ∧ j = .int .i64 (k : Int) ∧ (∃ A3 c3 rs, v = .slice A3 k c3 ∧ Hid (SSRow wr w.heap.size wr.heap.size A3 k c3 rs) ∧ Hid (rs.map RD.zs = (pilesF zs m n).take k)) ∧ Hid (Below w.heap.size w wr)) (fun _ j _ _ _ => m - (intOf j).toNat)
  case atStart => exact ⟨0, Nat.zero_le _, rfl, ⟨_, _, [], rfl, HL0, rfl⟩, HB0⟩
  case round =>
    obtain ⟨k, hk, rfl, ⟨A3, c3, rs, rfl, HR, HRZ⟩, HB⟩ := hrel
    clear HL0 HB0
    have hsz := HB.out.size
    by_cases hlt : k < m
    · obtain ⟨b0, hb0⟩ : ∃ b0, b0 = wr.heap.size := ⟨_, rfl⟩
      have HTK := Lib.hid (take_next (zs := zs) (t := n) hlt)
      have hbA : ∀ ob, Below wr.heap.size wr (wr.alloc ob) := fun ob => (Below.refl wr.heap.size wr).alloc (Nat.le_refl _) ob
      have HSI := Lib.hid (HR.out.below (hbA (.cells #[] 3)))
      have HPI := Lib.hid (World.ownsRow_lit (base := b0) (e := 3) (size := 1) wr #[] 0 (by omega) (Nat.zero_le _) rfl)
      have HBI := Lib.hid (HB.out.trans ((hbA (.cells #[] 3)).mono hsz))
      have HP0 := Lib.hid (pile_first zs m k hlt k (Nat.le_refl _))
      have hk0 : k % m = k := Nat.mod_eq_of_lt hlt
      rw [← hb0] at HSI
      have hsz0 : w.heap.size ≤ b0 := by omega
      clear hbA hb0 hsz HR HB
      go_wp2
      go_loopw [7, 8] (fun v j wr => ∃ i : Nat, i % m = k ∧ i < n + m ∧ j = .int .i64 (i : Int) ∧ (∃ A4 N4 c4 q, v = .slice A4 N4 c4 ∧ N4 ≤ i ∧ Hid (wr.ownsRow b0 3 1 (.slice A4 N4 c4) N4 (vals q)) ∧ Hid (q = pileT zs m k i)) ∧ Hid (SSRow wr w.heap.size b0 A3 k c3 rs) ∧ Hid (Below w.heap.size w wr)) (fun _ j _ => n + m - (intOf j).toNat)
      case atStart => exact ⟨k, hk0, by omega, rfl, ⟨_, 0, 0, [], rfl, Nat.zero_le _, HPI, Lib.hid HP0.out.symm⟩, HSI, HBI⟩
      case round =>
        obtain ⟨i, hik, hin, rfl, ⟨A4, N4, c4, q, rfl, hN4, HO, HQ⟩, HSS, HB⟩ := hrel
        clear HPI HSI HBI
        have hbs : b0 ≤ wr.heap.size := HSS.out.2.2.2.2
        by_cases hlt2 : i < n
        · have hx := HS.out.below HB.out i (by rw [HN.out]; exact hlt2)
          obtain ⟨bx, ox, hAx, hbx, hcx⟩ := hx
          subst hAx
          have hlit := World.ownsRow_lit (base := b0) (e := 3) (size := 1) wr #[.int .i64 (zs.getD i 0)] 1 hbs (by decide) rfl
          have hbl := (Below.refl wr.heap.size wr).alloc (Nat.le_refl _) (.cells #[.int .i64 (zs.getD i 0)] 3)
          have HUA := Lib.hid (ints_of (own_below HO.out hbl))
          have hsl := hbl.size
          obtain ⟨hnil, hspot⟩ := own_nil HO.out
          have HBL := Lib.hid hbl
          have hql : q.length = N4 := by have := HO.out.1; rw [vals_len] at this; omega
          have HNX := Lib.hid (show pileT zs m k (i + m) = zs.getD i 0 :: q by rw [HQ.out]; exact pile_next zs HM.out hik)
          clear hbl
          go_wp2_with (at_builtin; refine Cat.app_any rfl (.tmp 28) (.tmp 29) 25 rfl b0 3 i0 8 Try.underlying25 hi hz0 hz1 hz2 (by decide) (some ⟨wr.heap.size, 0, none⟩) 1 1 [zs.getD i 0] rfl hlit A4 N4 c4 q rfl hql hnil _ HUA.out (by decide) (by omega) (Nat.le_trans hbs hsl) hspot ?_; intro A6 c6 w6 hown6 hgr6)
          have HB6 := Lib.hid ((HB.out.trans (HBL.out.mono HB.out.size)).grown hgr6 (Nat.le_trans HB.out.size hsl) (fun k hk => by simp only [Option.map_some, Option.some.injEq] at hk; omega))
          have HS6 := Lib.hid ((HSS.out.below HBL.out).grown hgr6 (fun k hk => by simp only [Option.map_some, Option.some.injEq] at hk; omega))
          have HO6 := Lib.hid (show w6.ownsRow b0 3 1 (.slice A6 (1 + N4) c6) (1 + N4) (vals (zs.getD i 0 :: q)) from hown6)
          have hmk : (i + m) % m = k := by rw [Nat.add_mod_right]; exact hik
          clear hown6 hgr6 hcx
          go_wp2
          refine ⟨⟨i + m, hmk, by omega, by go_num, ⟨A6, 1 + N4, c6, _, rfl, by omega, HO6, Lib.hid HNX.out.symm⟩, HS6, HB6⟩, ?_⟩
          simp [intOf]; omega
        · have HEND := Lib.hid (show pileT zs m k n = q by rw [HQ.out]; exact (pile_end zs HM.out hik (by omega) hin (by omega)).symm)
          have hql : q.length = N4 := by have := HO.out.1; rw [vals_len] at this; omega
          have hszw := HB.out.size
          have hown8 := HSS.out.1
          have HBF := HSS
          go_wp2_with (at_builtin; refine Aat.app_at rfl (.tmp 31) (.tmp 33) 28 rfl w.heap.size 25 i1 (.slice none 0 0) 24 Try.underlying28 hj1 hy0 hy1 hy2 (by decide) rfl A3 c3 k _ rfl hown8 (.slice A4 N4 c4) rfl _ rfl rfl (by omega) hszw ?_; intro g7 c7 w7 hown7 hgr7 hat7)
          have HSN := Lib.hid (SSRow.snoc (zs := q) (A1 := A4) (c1 := c4) HSS.out hsz0 (by rw [hql]; exact HO.out) (by rw [hql]; exact hown7) hgr7)
          have HB7 := Lib.hid (HB.out.grown hgr7 hszw (fun q hq => (own_lo hown8 q hq).1))
          have HZ7 := Lib.hid (show (rs ++ [(⟨A4, c4, q⟩ : RD)]).map RD.zs = (pilesF zs m n).take (k + 1) by rw [HTK.out, List.map_append, HRZ.out, HEND.out]; rfl)
          clear hown7 hgr7 hat7 hown8
          refine ⟨⟨k + 1, by omega, by go_num, ⟨_, _, _, by go_num, HSN, HZ7⟩, HB7⟩, ?_⟩
          simp [intOf]; omega
    · have hkm : k = m := by omega
      subst hkm
      have HL := Lib.hid (piles_len zs k n)
      go_wp2
      go_ret
      refine ⟨A3, c3, rs, by rw [HL.out]; rfl, ?_, by rw [HL.out]; exact HR.out, HB.out⟩
      rw [HRZ.out, List.take_of_length_le (by rw [HL.out]; exact Nat.le_refl _)]
theorem piles_no1 {zs : List Int} {m : Int} (h : Pok.okB zs = false) : pilesI zs m = [] := by unfold pilesI; rw [h]; rfl
theorem piles_no2 {zs : List Int} {m : Int} (h : okB zs.length m = false) : pilesI zs m = [] := by unfold pilesI; rw [h, Bool.and_false]; rfl
theorem piles_yes {zs : List Int} {m : Int} (h1 : Pok.okB zs = true) (h2 : okB zs.length m = true) : pilesI zs m = pilesF zs m.toNat zs.length := by unfold pilesI; rw [h1, h2]; rfl
theorem pilesI_small (zs : List Int) (m : Int) : SmallSS (pilesI zs m) := by
  cases h1 : Pok.okB zs with
  | false => rw [piles_no1 h1]; exact ⟨Nat.zero_le _, fun l hl => by cases hl⟩
  | true =>
    cases h2 : okB zs.length m with
    | false => rw [piles_no2 h2]; exact ⟨Nat.zero_le _, fun l hl => by cases hl⟩
    | true =>
      obtain ⟨N, M, e1, rfl, h3, h4, h5, h6⟩ := ok_parts h2
      rw [piles_yes h1 h2]
      refine ⟨by rw [piles_len]; omega, fun l hl => ?_⟩
      obtain ⟨k, _, rfl⟩ := List.mem_map.1 hl
      have := pile_len zs (M : Int).toNat k zs.length
      omega
theorem impl_pilesof (A : Option Addr) (n c : Nat) (zs : List Int) (m : Int) (w : World) (hn : zs.length = n) (hn2 : n ≤ 1048576) (hz : Fits zs) (hss : IntsAt w w.heap.size .i64 A zs) (h1 : -9223372036854775808 ≤ m) (h2 : m ≤ 9223372036854775807) :
    Calls Try.prog 16 #[.slice A n c, .int .i64 m] w (IsSS w.heap.size (pilesI zs m) w) := by
  cases h3 : Pok.okB zs with
  | false => rw [piles_no1 h3]; exact impl_piles_no A n c zs m w (dealt_no1 A n c zs m w hn hn2 hz hss h3)
  | true =>
    cases h4 : okB zs.length m with
    | false => rw [piles_no2 h4]; exact impl_piles_no A n c zs m w (dealt_no2 A n c zs m w hn hn2 hz hss h3 (by rw [← hn]; exact h4) h1 h2)
    | true =>
      rw [piles_yes h3 h4]
      obtain ⟨N, M, e1, rfl, h5, h6, h7, h8⟩ := ok_parts h4
      have hN : N = n := by omega
      subst hN
      rw [hn, show (M : Int).toNat = M from rfl]
      exact impl_piles_yes A N c M zs w _ h5 (dealt_yes A N c M zs w hn h7 hz hss h3 h5 h6 h8)
theorem spec_pilesof (A : Option Addr) (n c : Nat) (zs : List Int) (m : Int) (w : World) (hn : zs.length = n) (hn2 : n ≤ 1048576) (hz : Fits zs) (hss : IntsAt w w.heap.size .i64 A zs) (h1 : -9223372036854775808 ≤ m) (h2 : m ≤ 9223372036854775807) :
    Calls Try.prog 27 #[.slice A n c, .int .i64 m] w (IsSS w.heap.size (pilesI zs m) w) := by
  have HP := Lib.hid (Pok.spec_ok A n c zs w hn (by omega) hz hss)
  have HQ := Lib.hid fun W => spec_ok n m W (by omega) (by omega) h1 h2
  cases h3 : Pok.okB zs with
  | false =>
    rw [piles_no1 h3]
    rw [h3] at HP
    clear hz hss hn h3
    go_enter Try.func27, Try.ntmps27
    go_wp2_with fail
    refine HP.out.mono ?_
    rintro e w1 ⟨rfl, hb⟩
    go_wp2
    go_ret
    exact ⟨none, 0, [], rfl, rfl, (SSRow.none_ _ _).under (Below.refl _ _), hb⟩
  | true =>
    rw [h3] at HP
    cases h4 : okB zs.length m with
    | false =>
      rw [piles_no2 h4]
      rw [← hn, h4] at HQ
      rw [hn] at HQ
      clear hz hss hn h3 h4
      go_enter Try.func27, Try.ntmps27
      go_wp2_with fail
      refine HP.out.mono ?_
      rintro e w1 ⟨rfl, hb⟩
      go_wp2_with fail
      refine (HQ.out _).mono ?_
      rintro e w2 ⟨rfl, rfl⟩
      go_wp2
      go_ret
      exact ⟨none, 0, [], rfl, rfl, (SSRow.none_ _ _).under (Below.refl _ _), hb⟩
    | true =>
      rw [piles_yes h3 h4]
      rw [← hn, h4] at HQ
      rw [hn] at HQ
      obtain ⟨N, M, e1, rfl, h5, h6, h7, h8⟩ := ok_parts h4
      have hN : N = n := by omega
      subst hN
      rw [hn, show (M : Int).toNat = M from rfl]
      have HL := Lib.hid fun W (hb : Below w.heap.size w W) => spec_l14 A N c M zs W hn h7 h5 h6 ((hss.below hb).more hb.size)
      clear hz hss hn h3 h4 e1
      go_enter Try.func27, Try.ntmps27
      go_wp2_with fail
      refine HP.out.mono ?_
      rintro e w1 ⟨rfl, hb⟩
      go_wp2_with fail
      refine (HQ.out _).mono ?_
      rintro e w2 ⟨rfl, rfl⟩
      go_wp2_with fail
      refine (HL.out w1 hb).mono ?_
      rintro e w3 ⟨A3, c3, rs, rfl, hz3, hr3, hb3⟩
      go_wp2
      go_ret
      exact ⟨A3, c3, rs, rfl, hz3, ⟨own_mono hr3.1 hb.size, fun i hi => ⟨own_mono (hr3.2.1 i hi).1 hb.size, (hr3.2.1 i hi).2⟩, hr3.2.2⟩, hb.trans (hb3.mono hb.size)⟩
end Go.Proofs.Ytpfbjbakcfmngaa.Dls
