/- GilbreathsOf of the model: branch by branch, by a function that calls itself. -/
import Derived.Test.YtpmfiflpipcojaaGis
import Derived.Deep.Cut
set_option linter.unusedVariables false
set_option maxRecDepth 20000
namespace Go.Proofs.Ytpmfiflpipcojaa.Git
open Go.RowKit Fr Own Pk Ins Pok Prm Pfn Rws Gip Gir Gis

/-- what a call of the branches hands back -/
def Grown (lo : Nat) (zss : List (List Int)) (w : World) (e : Ending) (w' : World) : Prop :=
  ∃ A N c rs, e = .returned (.slice A N c) ∧ rs.map RD.zs = zss ∧ SSRow w' lo w'.heap.size A N c rs ∧ Wt lo w w'
theorem wt_grown {lo : Nat} {W W' : World} {row : Option Nat} (hg : W.grownBy W' row) (hr : ∀ k, row = some k → W.heap.size ≤ k) : Wt lo W W' :=
  ⟨hg.os, hg.tape, hg.output, hg.size, fun k hk _ => hg.block k hk fun e => by have := hr k e.symm; omega⟩

def growT (n : Nat) (f : Nat) (ps : List Int) (l hv : Int) (b : Bool) : List (List Int) := if b then growF n f (ps ++ [l]) l hv else []
set_option maxHeartbeats 4000000 in
theorem grow_any : ∀ (f lo b0 N m n : Nat) (A Aa : Option Addr) (c ca : Nat) (rs : List RD) (ps : List Int) (l hv : Int) (w : World), n ≤ 12 → ps.length = m → m + f = n → 1 ≤ m → 0 ≤ l → l ≤ 11 → 0 ≤ hv → hv ≤ 11 →
    N + 2 ^ f ≤ 1000000 → SSRow w lo b0 A N c rs → lo ≤ b0 → w.ownsRow b0 3 1 (.slice Aa m ca) m (ps.map (Value.int .i64)) →
    Calls Try.prog 65 #[.slice A N c, .slice Aa m ca, .int .i64 l, .int .i64 hv, .int .i64 n] w (Grown lo (rs.map RD.zs ++ growF n f ps l hv) w) := by
  obtain ⟨i0, hi, hz0, hz1, hz2⟩ := info_parts infoInt
  obtain ⟨i1, hj1, hy0, hy1, hy2⟩ := infos_parts
  intro f
  induction f with
  | zero =>
    intro lo b0 N m n A Aa c ca rs ps l hv w hn hm hf hm1 hl1 hl2 hh1 hh2 hN hrow hlo hown
    have hfn : m = n := by omega
    subst hfn
    have HM := Lib.hid hm
    have HROW := Lib.hid hrow
    have HOWN := Lib.hid hown
    have hN2 : N ≤ 1000000 := by omega
    have hb := hrow.2.2.2.2
    clear hm hrow hown hf hN
    go_enter Try.func65, Try.ntmps65
    go_wp2_with (at_builtin; refine app_more rfl (.tmp 15) (.tmp 17) 26 rfl lo 23 i1 (.slice none 0 0) 24 Try.underlying26 hj1 hy0 hy1 hy2 (by decide) rfl _ _ _ _ rfl HROW.out.1 (.slice Aa m ca) rfl _ rfl rfl (by omega) (by omega) ?_; intro g5 c5 w5 hown5 hgr5)
    have HSN := Lib.hid (SSRow.snoc (zs := ps) (A1 := Aa) (c1 := ca) HROW.out hlo (by rw [HM.out]; exact HOWN.out) (by rw [HM.out]; exact hown5) hgr5)
    have HW := Lib.hid (Wt.of_grown HROW.out.1 hgr5)
    clear hown5 hgr5
    go_wp2
    go_ret
    exact ⟨_, _, _, _, rfl, by rw [List.map_append]; rfl, HSN.out, HW.out⟩
  | succ f ih =>
    intro lo b0 N m n A Aa c ca rs ps l hv w hn hm hf hm1 hl1 hl2 hh1 hh2 hN hrow hlo hown
    have hne : ((m : Int) == (n : Int)) = false := by simp; omega
    have hnen : (m == n) = false := by simp; omega
    have hp : 2 ^ (f + 1) = 2 ^ f + 2 ^ f := by rw [Nat.pow_succ]; omega
    rw [hp] at hN
    have HG := Lib.hid (show growF n (f + 1) ps l hv = growT n f ps (l - 1) hv (decide (0 < l)) ++ (if hv < (n : Int) - 1 then growF n f (ps ++ [hv + 1]) l (hv + 1) else []) by
      rw [growF]; unfold growT; simp)
    rw [HG.out]
    have HGL := Lib.hid (show (growT n f ps (l - 1) hv (decide (0 < l))).length ≤ 2 ^ f by
      unfold growT; split
      · exact growF_len _ _ _ _ _
      · exact Nat.zero_le _)
    generalize hP : 2 ^ f = P at *
    have HIH := Lib.hid ih
    have HM := Lib.hid hm
    have HROW := Lib.hid hrow
    have HOWN := Lib.hid hown
    have hb := hrow.2.2.2.2
    obtain ⟨ga, rfl⟩ := own_shape hown (by omega)
    have hga := own_lo hown ga rfl
    clear hm hrow hown hp ih
    obtain ⟨T, hT⟩ : ∃ T, T = growT n f ps (l - 1) hv (decide (0 < l)) := ⟨_, rfl⟩
    rw [← hT] at HGL
    rw [← hT]
    have HT := Lib.hid hT
    obtain ⟨U, hU⟩ : ∃ U, U = (if hv < (n : Int) - 1 then growF n f (ps ++ [hv + 1]) l (hv + 1) else []) := ⟨_, rfl⟩
    rw [← hU]
    have HU := Lib.hid hU
    clear hU
    have HPP := Lib.hid hP
    clear hT HG hP
    go_enter Try.func65, Try.ntmps65
    go_upto_if 20 with fail
    go_cut [0] from 11 (fun s0 wx => ∃ A2 N2 c2 rs2, s0 = .slice A2 N2 c2 ∧ rs2.map RD.zs = rs.map RD.zs ++ T ∧ SSRow wx lo wx.heap.size A2 N2 c2 rs2 ∧ Wt lo w wx)
    case first =>
      by_cases h0 : 0 < l
      · have HT2 := Lib.hid (show T = growF n f (ps ++ [l - 1]) (l - 1) hv by rw [HT.out, decide_eq_true h0]; rfl)
        have HLIT := Lib.hid (World.ownsRow_lit (base := w.heap.size) (e := 3) (size := 1) w #[] 0 (Nat.le_refl _) (Nat.zero_le _) rfl)
        have HBA := Lib.hid ((Below.refl w.heap.size w).alloc (Nat.le_refl _) (.cells #[] 3))
        have hsa : w.heap.size ≤ (w.alloc (.cells #[] 3)).heap.size := HBA.out.size
        have HAT := Lib.hid (own_ints (own_below HOWN.out HBA.out))
        go_wp2_with (first | (at_builtin; refine app_list rfl (.tmp 22) (.tmp 23) 23 rfl w.heap.size 3 i0 8 Try.underlying23 hi hz0 hz1 hz2 (by decide) _ _ 0 [] rfl HLIT.out ga 0 m ca ps rfl HM.out _ HAT.out (by omega) (by omega) hsa ?_; intro A4 c4 w4 hown4 hgr4; (rw [Nat.zero_add, List.nil_append] at hown4); (have hb4 : Below w.heap.size w w4 := HBA.out.grown hgr4 hsa (fun k hk => by cases hk; exact Nat.le_refl _)); (have hs4 := hb4.size); (have H4 := Lib.hid hown4); clear hown4 hgr4 HLIT HAT) | (at_builtin; refine app_more rfl (.tmp 24) (.tmp 27) 23 rfl w.heap.size 3 i0 (.int .i64 0) 8 Try.underlying23 hi hz0 hz1 hz2 (by decide) rfl _ _ _ _ rfl H4.out (.int .i64 (l - 1)) rfl _ rfl rfl (by omega) hs4 ?_; intro g5 c5 w5 hown5 hgr5))
        have hb5 := hb4.grown hgr5 hs4 (fun k hk => (own_lo H4.out k hk).1)
        have hs5 := hb5.size
        have HROW5 := Lib.hid ((HROW.out.below hb5).higher (hi' := w.heap.size) HROW.out.2.2.2.2 hs5)
        have HW5 := Lib.hid (Wt.of_below (lo := lo) hb5)
        have H5 := Lib.hid hown5
        clear hown5 hgr5 hb4 hb5 H4
        refine (HIH.out lo w.heap.size N (m + 1) n A (some ⟨g5, 0, none⟩) c c5 rs (ps ++ [(l - 1)]) (l - 1) hv w5 hn (by rw [List.length_append, HM.out]; rfl) (by omega) (by omega) (by omega) (by omega) (by omega) (by omega) (by omega) HROW5.out (by omega) (by rw [List.map_append]; exact H5.out)).mono ?_
        rintro e w6 ⟨A6, N6, c6, rs6, rfl, hrs6, hrow6, hw6⟩
        have HR6 := Lib.hid hrs6
        have H6 := Lib.hid hrow6
        have HW6 := Lib.hid (HW5.out.trans hw6)
        clear hrs6 hrow6 hw6
        go_wp2_with fail
        go_meet
        exact ⟨A6, N6, c6, rs6, rfl, by rw [HR6.out, HT2.out], H6.out, HW6.out⟩
      · have HT2 := Lib.hid (show T = [] by rw [HT.out, decide_eq_false h0]; rfl)
        have h0' : decide (0 < l) = false := decide_eq_false h0
        go_wp2_with fail
        go_meet
        exact ⟨A, N, c, rs, rfl, by rw [HT2.out, List.append_nil], HROW.out.higher hb (Nat.le_refl _), Wt.refl _ _⟩
    case rest =>
    obtain ⟨A2, N2, c2, rs2, rfl, hrs2, hrow2, hw⟩ := hcut
    have HOWN2 := Lib.hid (own_wt HOWN.out hw)
    have hN2 : N2 + P ≤ 1000000 := by
      have e := congrArg List.length hrs2
      rw [List.length_append, List.length_map, List.length_map, hrow2.len, HROW.out.len] at e
      have := HGL.out
      omega
    have hga2 := own_lo HOWN2.out ga rfl
    have HROW2 := Lib.hid hrow2
    have HR2 := Lib.hid hrs2
    have HW2 := Lib.hid hw
    have hsw := hw.size
    clear hrow2 hrs2 hw HROW HOWN HT
    by_cases h0 : hv < (n : Int) - 1
    · have E := Lib.hid (show U = growF n f (ps ++ [hv + 1]) l (hv + 1) from HU.out.trans (if_pos h0))
      have HLIT := Lib.hid (World.ownsRow_lit (base := wc.heap.size) (e := 3) (size := 1) wc #[] 0 (Nat.le_refl _) (Nat.zero_le _) rfl)
      have HBA := Lib.hid ((Below.refl wc.heap.size wc).alloc (Nat.le_refl _) (.cells #[] 3))
      have hsa : wc.heap.size ≤ (wc.alloc (.cells #[] 3)).heap.size := HBA.out.size
      have HAT := Lib.hid (own_ints (own_below HOWN2.out HBA.out))
      go_wp2_with (first | (at_builtin; refine app_list rfl (.tmp 39) (.tmp 40) 23 rfl wc.heap.size 3 i0 8 Try.underlying23 hi hz0 hz1 hz2 (by decide) _ _ 0 [] rfl HLIT.out ga 0 m ca ps rfl HM.out _ HAT.out (by omega) (by omega) hsa ?_; intro A4 c4 w4 hown4 hgr4; (rw [Nat.zero_add, List.nil_append] at hown4); (have hb4 : Below wc.heap.size wc w4 := HBA.out.grown hgr4 hsa (fun k hk => by cases hk; exact Nat.le_refl _)); (have hs4 := hb4.size); (have H4 := Lib.hid hown4); clear hown4 hgr4 HLIT HAT) | (at_builtin; refine app_more rfl (.tmp 41) (.tmp 44) 23 rfl wc.heap.size 3 i0 (.int .i64 0) 8 Try.underlying23 hi hz0 hz1 hz2 (by decide) rfl _ _ _ _ rfl H4.out (.int .i64 (hv + 1)) rfl _ rfl rfl (by omega) hs4 ?_; intro g5 c5 w5 hown5 hgr5))
      have hb5 := hb4.grown hgr5 hs4 (fun k hk => (own_lo H4.out k hk).1)
      have hs5 := hb5.size
      have HROW5 := Lib.hid ((HROW2.out.below hb5).higher (hi' := wc.heap.size) HROW2.out.2.2.2.2 hs5)
      have HW5 := Lib.hid (Wt.of_below (lo := lo) hb5)
      have H5 := Lib.hid hown5
      clear hown5 hgr5 hb4 hb5 H4
      refine (HIH.out lo wc.heap.size N2 (m + 1) n A2 (some ⟨g5, 0, none⟩) c2 c5 rs2 (ps ++ [(hv + 1)]) (l) (hv + 1) w5 hn (by rw [List.length_append, HM.out]; rfl) (by omega) (by omega) (by omega) (by omega) (by omega) (by omega) (by omega) HROW5.out (by omega) (by rw [List.map_append]; exact H5.out)).mono ?_
      rintro e w6 ⟨A6, N6, c6, rs6, rfl, hrs6, hrow6, hw6⟩
      have HR6 := Lib.hid hrs6
      have H6 := Lib.hid hrow6
      have HW6 := Lib.hid (HW5.out.trans hw6)
      clear hrs6 hrow6 hw6
      go_wp2
      go_ret
      exact ⟨A6, N6, c6, rs6, rfl, by rw [HR6.out, HR2.out, E.out, List.append_assoc], H6.out, HW2.out.trans HW6.out⟩
    · have E := Lib.hid (show U = [] from HU.out.trans (if_neg h0))
      have h0' : decide (hv < (n : Int) - 1) = false := decide_eq_false h0
      go_wp2
      go_ret
      exact ⟨A2, N2, c2, rs2, rfl, by rw [HR2.out, E.out, List.append_nil], HROW2.out, HW2.out⟩
theorem spec_gils (n : Int) (w : World) (h1 : -9223372036854775808 ≤ n) (h2 : n ≤ 9223372036854775807) :
    Calls Try.prog 29 #[.int .i64 n] w (IsSS w.heap.size (gilsF n) w) := by
  by_cases h : 1 ≤ n ∧ n ≤ 12
  · obtain ⟨m, rfl⟩ : ∃ m : Nat, n = m := ⟨n.toNat, by omega⟩
    have hm1 : 1 ≤ m := by omega
    have hm2 : m ≤ 12 := by omega
    obtain ⟨g, hg⟩ : ∃ g : Int → List (List Int), g = fun x => growF m (m - 1) [x] x x := ⟨_, rfl⟩
    have HG := Lib.hid (show gilsF (m : Int) = (imarks 0 m).flatMap g by rw [gils_yes m hm1 hm2, gils_grow hm1, hg])
    have HGX := Lib.hid (fun k : Nat => show g (k : Int) = growF m (m - 1) [(k : Int)] k k by rw [hg])
    have HGL := Lib.hid (fun k : Nat => show (g (k : Int)).length ≤ 2048 by
      rw [hg]
      have h1 := growF_len m (m - 1) [(k : Int)] k k
      have h2 : 2 ^ (m - 1) ≤ 2 ^ 11 := Nat.pow_le_pow_right (by decide) (by omega)
      exact Nat.le_trans h1 h2)
    have HPW := Lib.hid (show 2 ^ (m - 1) ≤ 2 ^ 11 from Nat.pow_le_pow_right (by decide) (by omega))
    have HTK := Lib.hid (fun (k : Nat) (hk : k < m) => show ((imarks 0 m).take (k + 1)).flatMap g = ((imarks 0 m).take k).flatMap g ++ g (k : Int) by
      rw [take_snoc _ k (by rw [imarks_length]; exact hk), imarks_get 0 m k hk, List.flatMap_append, Int.zero_add]
      simp)
    have hin1 := h.1
    have hin2 := h.2
    clear hg h
    go_enter Try.func29, Try.ntmps29
    go_wp2_with fail
    refine (in_yes (m : Int) 1 12 _ hin1 hin2).mono ?_
    rintro e w' ⟨rfl, rfl⟩
    go_wp2
    go_loopw [3, 4] (fun v i wr => ∃ k : Nat, k ≤ m ∧ i = .int .i64 (k : Int) ∧ (∃ A N c rs, v = .slice A N c ∧ N ≤ 2048 * k ∧ SSRow wr w.heap.size wr.heap.size A N c rs ∧ Hid (rs.map RD.zs = ((imarks 0 m).take k).flatMap g)) ∧ Below w.heap.size w wr) (fun _ i _ => m - (intOf i).toNat)
    case atStart => exact ⟨0, Nat.zero_le _, rfl, ⟨_, _, _, [], rfl, by omega, SSRow.empty (World.ownsRow_lit w #[] 0 (Nat.le_refl _) (Nat.zero_le _) rfl), rfl⟩, (Below.refl _ w).alloc (Nat.le_refl _) _⟩
    case round =>
      obtain ⟨k, hk, rfl, ⟨A, N, c, rs, rfl, hN, hrow, HRS⟩, hbw⟩ := hrel
      have hsz := hbw.size
      by_cases hlt : k < m
      · have hb1 := (Below.refl wr.heap.size wr).alloc (Nat.le_refl _) (.cells #[.int .i64 (k : Int)] 3)
        have HC := Lib.hid (grow_any (m - 1) w.heap.size wr.heap.size N 1 m A (some ⟨wr.heap.size, 0, none⟩) c 1 rs [(k : Int)] k k (wr.alloc (.cells #[.int .i64 (k : Int)] 3)) hm2 rfl (by omega) (Nat.le_refl _) (by omega) (by omega) (by omega) (by omega)
          (by have := HPW.out; omega) (hrow.below hb1) hsz (World.ownsRow_lit wr #[.int .i64 (k : Int)] 1 (Nat.le_refl _) (by unfold maxLen; omega) rfl))
        have HL := Lib.hid hrow.len
        have HB1 := Lib.hid (hbw.trans (hb1.mono hsz))
        clear hrow hb1
        go_wp2_with fail
        refine HC.out.mono ?_
        rintro e w2 ⟨A2, N2, c2, rs2, rfl, hrs2, hrow2, hw2⟩
        rw [← HGX.out k, HRS.out, ← HTK.out k hlt] at hrs2
        have hN2 : N2 ≤ 2048 * (k + 1) := by
          have e := congrArg List.length hrs2
          rw [HTK.out k hlt, ← HRS.out, List.length_append, List.length_map, List.length_map, hrow2.len, HL.out] at e
          have := HGL.out k
          omega
        have H2 := Lib.hid hrow2
        have HR2 := Lib.hid hrs2
        have HB2 := Lib.hid (HB1.out.trans (hw2.below (by simp; omega)))
        clear hrow2 hrs2 hw2
        go_wp2
        go_roundw
        case rel => exact ⟨k + 1, by omega, by go_num, ⟨_, _, _, rs2, rfl, hN2, H2.out, HR2.out⟩, HB2.out⟩
        case measure => simp [intOf]; omega
      · have hkm : (imarks 0 m).take k = imarks 0 m := List.take_of_length_le (by rw [imarks_length]; omega)
        have H2 := Lib.hid hrow
        have HRS2 := Lib.hid (show rs.map RD.zs = gilsF (m : Int) by rw [HG.out, HRS.out, hkm])
        have HL := Lib.hid hrow.len
        clear hrow hkm
        go_wp2
        go_ret
        have e : (gilsF (m : Int)).length = N := by rw [← HRS2.out, List.length_map]; exact HL.out
        exact ⟨A, c, rs, by rw [e]; rfl, HRS2.out, by rw [e]; exact H2.out, hbw⟩
  · have HG := Lib.hid (gils_no h)
    have HH := Lib.hid h
    clear h
    go_enter Try.func29, Try.ntmps29
    go_wp2_with fail
    refine (in_no n 1 12 _ HH.out).mono ?_
    rintro e w' ⟨rfl, rfl⟩
    go_wp2
    go_ret
    rw [HG.out]
    exact ⟨none, 0, [], rfl, rfl, SSRow.empty (World.ownsRow_nil _ _ _ _), Below.refl _ _⟩
end Go.Proofs.Ytpmfiflpipcojaa.Git
