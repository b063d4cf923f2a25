/- GatherPiles of the model. -/
import Derived.Test.YtpfbjbakcfmngaaGat
set_option linter.unusedVariables false
set_option linter.unusedSimpArgs false
set_option maxRecDepth 20000
namespace Go.Proofs.Ytpfbjbakcfmngaa.Gas
open Go.RowKit Fr _root_.Go.Proofs.Ytpfbjbakcfmngaa.Own Pk Ins Pfn Rws Lb Plk Gat

def atOf (ch pl i : Nat) : Nat := if i ≤ pl then (if i ≤ ch then i else i + 1) else (if i - 1 ≤ ch then i - 1 else i)
theorem at_le (ch pl i : Nat) : atOf ch pl i ≤ i + 1 := by
  unfold atOf
  (repeat' split) <;> omega
theorem at_place {ch pl i : Nat} (h : i = pl) : idxAt ch pl i = ch ∧ atOf ch pl (i + 1) = atOf ch pl i := by
  subst h
  unfold idxAt atOf
  refine ⟨by simp, ?_⟩
  rw [if_neg (by omega), if_pos (Nat.le_refl _), Nat.add_sub_cancel]
theorem at_hit {ch pl i : Nat} (h : i ≠ pl) (e : atOf ch pl i = ch) : idxAt ch pl i = ch + 1 ∧ atOf ch pl (i + 1) = ch + 1 + 1 := by
  unfold idxAt atOf at *
  (repeat' split at e) <;> (constructor <;> (repeat' split) <;> omega)
theorem at_miss {ch pl i : Nat} (h : i ≠ pl) (e : atOf ch pl i ≠ ch) : idxAt ch pl i = atOf ch pl i ∧ atOf ch pl (i + 1) = atOf ch pl i + 1 := by
  unfold idxAt atOf at *
  (repeat' split at e) <;> (constructor <;> (repeat' split) <;> omega)
set_option maxHeartbeats 2000000 in
theorem spec_gath (lo hi : Nat) (A : Option Addr) (n c : Nat) (ch pl : Nat) (rs : List RD) (zss : List (List Int)) (w : World) (hz : rs.map RD.zs = zss) (hr : SSRow w lo hi A n c rs) (h4 : n = 2 ∨ n = 3 ∨ n = 4) (hch : ch < n) (hpl : pl < n) (hlen : ∀ l ∈ zss, l.length ≤ 1048576) :
    Calls Try.prog 68 #[.slice A n c, .int .i64 (ch : Int), .int .i64 (pl : Int)] w (IsIL w.heap.size (gatF zss ch pl) w) := by
  obtain ⟨i0, hi, hz0, hz1, hz2⟩ := info_parts infoInt
  have hrl : rs.length = n := hr.len
  have hzl : zss.length = n := by rw [← hz, List.length_map, hrl]
  obtain ⟨gA, rfl, _⟩ := hr.cell 0 (by omega)
  have hgA : gA < w.heap.size := (own_lo hr.1 gA rfl).2
  have hcA : ∀ j, j < n → w.cell? ⟨gA, j, none⟩ = some (rs.getD j rd0).v := fun j hj => by
    obtain ⟨g2, h1, h2⟩ := hr.cell j hj
    have e : g2 = gA := by injection h1 with h; injection h with h; exact h.symm
    rw [← e]
    exact h2
  obtain ⟨F, hF⟩ : ∃ F : Nat → List Int, F = fun k => (rs.getD (idxAt ch pl k) rd0).zs := ⟨_, rfl⟩
  have HRES := Lib.hid (show Cat.cat F n = gatF zss ch pl by
    unfold gatF
    rw [hzl, hF]
    exact cat_congr n (fun k hk => zs_get hz _))
  obtain ⟨R, hR⟩ : ∃ R, R = gatF zss ch pl := ⟨_, rfl⟩
  rw [← hR] at HRES ⊢
  have HIN := Lib.hid fun k (hk : k < n) => (show w.cell? ⟨gA, k, none⟩ = some (.slice (rs.getD k rd0).A (rs.getD k rd0).zs.length (rs.getD k rd0).c) ∧ (rs.getD k rd0).zs.length ≤ 1048576 ∧ ((rs.getD k rd0).A = none → (rs.getD k rd0).c = 0) ∧ (∀ a, (rs.getD k rd0).A = some a → a.spot = none) ∧ IntsAt w w.heap.size .i64 (rs.getD k rd0).A (rs.getD k rd0).zs from by
    have hrow := hr.2.1 k (by omega)
    refine ⟨hcA k hk, ?_, ?_, ?_, hrow.at_⟩
    · rw [zs_get hz]
      exact hlen _ (by rw [List.getD_eq_getElem?_getD, List.getElem?_eq_getElem (by omega)]; exact List.getElem_mem _)
    · rcases own_full hrow.1 with ⟨q1, _, q3⟩ | ⟨g, _, q1, _⟩
      · exact fun _ => q3
      · intro h; rw [q1] at h; cases h
    · rcases own_full hrow.1 with ⟨q1, _, q3⟩ | ⟨g, _, q1, _⟩
      · intro a h; rw [q1] at h; cases h
      · intro a h; rw [q1] at h; injection h with h; rw [← h])
  have HLEN := Lib.hid fun i (hi : i ≤ n) => (show (Cat.cat F i).length ≤ 4194304 from by
    refine Nat.le_trans (cat_le (B := 1048576) i (fun k hk => ?_)) (by omega)
    rw [hF]
    exact (HIN.out _ (idx_lt hch hpl (by omega))).2.1)
  have HFK := Lib.hid fun k => (show F k = (rs.getD (idxAt ch pl k) rd0).zs by rw [hF])
  have HL0 := Lib.hid (World.ownsRow_lit (base := w.heap.size) (e := 3) (size := 1) w #[] 0 (Nat.le_refl _) (Nat.zero_le _) rfl)
  have HB0 := Lib.hid ((Below.refl w.heap.size w).alloc (Nat.le_refl _) (.cells #[] 3))
  have hn2 : 2 ≤ n := by omega
  have hn4 : n ≤ 4 := by omega
  have HLT := Lib.hid fun k (hk : k < n) => idx_lt hch hpl hk
  have HA0 := Lib.hid (show atOf ch pl 0 = 0 by unfold atOf; simp)
  clear hrl hzl hr hcA hF hR hz hlen h4
  go_enter Try.func68, Try.ntmps68
  go_wp2
  go_loopw [7, 8, 9] (fun v a j wr => ∃ i t : Nat, i ≤ n ∧ t ≤ i + 1 ∧ j = .int .i64 (i : Int) ∧ a = .int .i64 (t : Int) ∧ Hid (atOf ch pl i = t) ∧ (∃ A3 N3 c3 q, v = .slice A3 N3 c3 ∧ N3 ≤ 4194304 ∧ Hid (wr.ownsRow w.heap.size 3 1 (.slice A3 N3 c3) N3 (vals q)) ∧ Hid (q = Cat.cat F i)) ∧ Hid (Below w.heap.size w wr)) (fun _ _ j _ => n - (intOf j).toNat)
  case atStart => exact ⟨0, 0, Nat.zero_le _, Nat.zero_le _, rfl, rfl, HA0, ⟨_, 0, 0, [], rfl, by omega, HL0, rfl⟩, HB0⟩
  case round =>
    obtain ⟨i, t, hi1, ht1, rfl, rfl, HAT, ⟨A3, N3, c3, q, rfl, hN3, HO, HQ⟩, HB⟩ := hrel
    clear HL0 HB0 HA0
    have hsz := HB.out.size
    by_cases hlt : i < n
    · have HX := fun k hk => HIN.out k hk
      have HL1 := Lib.hid (HLEN.out (i + 1) (by omega))
      have HCA := Lib.hid (show Cat.cat F (i + 1) = q ++ F i by rw [Cat.cat, HQ.out])
      have hql : q.length = N3 := by have := HO.out.1; rw [vals_len] at this; omega
      by_cases hp : i = pl
      · obtain ⟨p1, p2⟩ := at_place (ch := ch) hp
        obtain ⟨r, hr⟩ : ∃ r, r = rs.getD ch rd0 := ⟨_, rfl⟩
        obtain ⟨k1, k2, k3, k4, k5⟩ := HX ch hch
        rw [← hr] at k1 k2 k3 k4 k5
        have HFI := Lib.hid (show F i = r.zs by rw [HFK.out, p1, hr])
        have HA2 := Lib.hid (show atOf ch pl (i + 1) = t by rw [p2, HAT.out])
        have hcr : wr.cell? ⟨gA, ch, none⟩ = some (.slice r.A r.zs.length r.c) := (HB.out.cell (p := ⟨gA, ch, none⟩) hgA).trans k1
        have hat := k5.below HB.out
        have hip : (i : Int) = (pl : Int) := by omega
        have hchn : (ch : Int) < (n : Int) := by omega
        clear hr k1 k5 p1 p2 HX
        obtain ⟨m, hm⟩ : ∃ m, m = r.zs.length := ⟨_, rfl⟩
        have HM := Lib.hid hm
        rw [← hm] at hcr k2
        clear hm
        go_wp2_with (at_builtin; refine Cat.app_any rfl (.tmp 20) (.tmp 24) 25 rfl w.heap.size 3 i0 8 Try.underlying25 hi hz0 hz1 hz2 (by decide) A3 c3 N3 q rfl HO.out r.A m r.c r.zs rfl HM.out.symm k3 _ hat (by omega) (by omega) hsz k4 ?_; intro A6 c6 w6 hown6 hgr6)
        have HB6 := Lib.hid (HB.out.grown hgr6 hsz (fun k hk => (own_lo HO.out k hk).1))
        have HO6 := Lib.hid (show w6.ownsRow w.heap.size 3 1 (.slice A6 (N3 + m) c6) (N3 + m) (vals (q ++ r.zs)) from hown6)
        have HQ6 := Lib.hid (show q ++ r.zs = Cat.cat F (i + 1) by rw [HCA.out, HFI.out])
        have hN6 : N3 + m ≤ 4194304 := by
          have h := HL1.out
          rw [HCA.out, HFI.out, List.length_append, hql, ← HM.out] at h
          exact h
        clear hown6 hgr6 hcr
        go_wp2
        refine ⟨⟨i + 1, t, by omega, by omega, by rw [show (pl : Int) + 1 = ((i + 1 : Nat) : Int) by omega], rfl, HA2, ⟨A6, N3 + m, c6, _, rfl, hN6, HO6, HQ6⟩, HB6⟩, ?_⟩
        simp [intOf]; omega
      · have hipn : ¬ ((i : Int) = (pl : Int)) := by omega
        obtain ⟨u, hu⟩ : ∃ u, u = idxAt ch pl i := ⟨_, rfl⟩
        have HU := Lib.hid hu
        have hun : u < n := by rw [hu]; exact HLT.out i hlt
        obtain ⟨r, hr⟩ : ∃ r, r = rs.getD u rd0 := ⟨_, rfl⟩
        obtain ⟨k1, k2, k3, k4, k5⟩ := HX u hun
        rw [← hr] at k1 k2 k3 k4 k5
        have HFI := Lib.hid (show F i = r.zs by rw [HFK.out, ← hu, hr])
        have hcr : wr.cell? ⟨gA, u, none⟩ = some (.slice r.A r.zs.length r.c) := (HB.out.cell (p := ⟨gA, u, none⟩) hgA).trans k1
        have hat := k5.below HB.out
        have hchn : (u : Int) < (n : Int) := by omega
        clear hr k1 k5 HX
        obtain ⟨m, hm⟩ : ∃ m, m = r.zs.length := ⟨_, rfl⟩
        have HM := Lib.hid hm
        rw [← hm] at hcr k2
        clear hm
        by_cases he : t = ch
        · obtain ⟨p1, p2⟩ := at_hit hp (HAT.out.trans he)
          have hut : u = t + 1 := by rw [hu, p1, he]
          have HA2 := Lib.hid (show atOf ch pl (i + 1) = t + 1 + 1 by rw [p2, he])
          have hec : (t : Int) = (ch : Int) := by omega
          have hun1 : (t : Int) + 1 < (n : Int) := by omega
          have hct : wr.cell? ⟨gA, t + 1, none⟩ = some (.slice r.A m r.c) := by rw [← hut]; exact hcr
          have hut2 : (ch : Int) + 1 < (n : Int) := by omega
          have hctc : wr.cell? ⟨gA, ch + 1, none⟩ = some (.slice r.A m r.c) := by rw [← he]; exact hct
          clear hu hut p1 p2 hcr
          go_wp2_with (at_builtin; refine Cat.app_any rfl (.tmp 31) (.tmp 35) 25 rfl w.heap.size 3 i0 8 Try.underlying25 hi hz0 hz1 hz2 (by decide) A3 c3 N3 q rfl HO.out r.A m r.c r.zs rfl HM.out.symm k3 _ hat (by omega) (by omega) hsz k4 ?_; intro A6 c6 w6 hown6 hgr6)
          have HB6 := Lib.hid (HB.out.grown hgr6 hsz (fun k hk => (own_lo HO.out k hk).1))
          have HO6 := Lib.hid (show w6.ownsRow w.heap.size 3 1 (.slice A6 (N3 + m) c6) (N3 + m) (vals (q ++ r.zs)) from hown6)
          have HQ6 := Lib.hid (show q ++ r.zs = Cat.cat F (i + 1) by rw [HCA.out, HFI.out])
          have hN6 : N3 + m ≤ 4194304 := by
            have h := HL1.out
            rw [HCA.out, HFI.out, List.length_append, hql, ← HM.out] at h
            exact h
          clear hown6 hgr6 hct hctc
          go_wp2
          refine ⟨⟨i + 1, t + 1 + 1, by omega, (by rw [← HA2.out]; exact at_le _ _ _), by go_num, by rw [show (ch : Int) + 1 + 1 = ((t + 1 + 1 : Nat) : Int) by omega], HA2, ⟨A6, N3 + m, c6, _, rfl, hN6, HO6, HQ6⟩, HB6⟩, ?_⟩
          simp [intOf]; omega
        · obtain ⟨p1, p2⟩ := at_miss hp (fun e => he (HAT.out.symm.trans e))
          have hut : u = t := by rw [hu, p1, HAT.out]
          subst hut
          have HA2 := Lib.hid (show atOf ch pl (i + 1) = u + 1 by rw [p2, HAT.out])
          have hec : ¬ ((u : Int) = (ch : Int)) := by omega
          clear hu p1 p2
          go_wp2_with (at_builtin; refine Cat.app_any rfl (.tmp 31) (.tmp 35) 25 rfl w.heap.size 3 i0 8 Try.underlying25 hi hz0 hz1 hz2 (by decide) A3 c3 N3 q rfl HO.out r.A m r.c r.zs rfl HM.out.symm k3 _ hat (by omega) (by omega) hsz k4 ?_; intro A6 c6 w6 hown6 hgr6)
          have HB6 := Lib.hid (HB.out.grown hgr6 hsz (fun k hk => (own_lo HO.out k hk).1))
          have HO6 := Lib.hid (show w6.ownsRow w.heap.size 3 1 (.slice A6 (N3 + m) c6) (N3 + m) (vals (q ++ r.zs)) from hown6)
          have HQ6 := Lib.hid (show q ++ r.zs = Cat.cat F (i + 1) by rw [HCA.out, HFI.out])
          have hN6 : N3 + m ≤ 4194304 := by
            have h := HL1.out
            rw [HCA.out, HFI.out, List.length_append, hql, ← HM.out] at h
            exact h
          clear hown6 hgr6 hcr
          go_wp2
          refine ⟨⟨i + 1, u + 1, by omega, by omega, by go_num, by go_num, HA2, ⟨A6, N3 + m, c6, _, rfl, hN6, HO6, HQ6⟩, HB6⟩, ?_⟩
          simp [intOf]; omega
    · have hin : i = n := by omega
      subst hin
      have HQR := Lib.hid (HQ.out.trans HRES.out)
      have hql : q.length = N3 := by have := HO.out.1; rw [vals_len] at this; omega
      go_wp2
      go_ret
      exact ⟨A3, c3, by rw [← HQR.out, hql]; rfl, by rw [← HQR.out, hql]; exact HO.out, HB.out⟩
set_option maxHeartbeats 1000000 in
theorem spec_gather_no (A : Option Addr) (n c : Nat) (ch pl : Int) (w : World) (hn : n ≤ 1048576) (h : placeB n ch pl = false) :
    Calls Try.prog 35 #[.slice A n c, .int .i64 ch, .int .i64 pl] w (IsILB w.heap.size [] false w) := by
  have HI := Lib.hid fun (a lo hi : Int) W => in_any a lo hi W
  cases h1 : decide ((2 : Int) ≤ n ∧ (n : Int) ≤ 4) with
  | false =>
    have H1 := Lib.hid h1
    clear h h1
    go_enter Try.func35, Try.ntmps35
    go_wp2_with fail
    refine (HI.out n 2 4 _).mono ?_
    rintro e w1 ⟨rfl, rfl⟩
    rw [H1.out]
    go_wp2
    go_ret2
    exact no_ilb w
  | true =>
    have H1 := Lib.hid h1
    have hn2 := of_decide_eq_true h1
    have e1 : IntKind.i64.wrap ((n : Int) - 1) = (n : Int) - 1 := by rw [IntKind.wrap_i64]; omega
    cases h2 : decide ((0 : Int) ≤ ch ∧ ch ≤ (n : Int) - 1) with
    | false =>
      have H2 := Lib.hid h2
      clear h h1 h2
      go_enter Try.func35, Try.ntmps35
      go_wp2_with fail
      refine (HI.out n 2 4 _).mono ?_
      rintro e w1 ⟨rfl, rfl⟩
      rw [H1.out]
      go_wp2_with fail
      refine (HI.out ch 0 (n - 1) _).mono ?_
      rintro e w1 ⟨rfl, rfl⟩
      rw [H2.out]
      go_wp2
      go_ret2
      exact no_ilb w
    | true =>
      have H2 := Lib.hid h2
      have H3 := Lib.hid (show decide ((0 : Int) ≤ pl ∧ pl ≤ (n : Int) - 1) = false by
        have q2 := of_decide_eq_true h2
        unfold placeB inB at h
        rw [h1, decide_eq_true (show 0 ≤ ch ∧ ch < (n : Int) by omega)] at h
        have q3 : decide (0 ≤ pl ∧ pl < (n : Int)) = false := by simpa using h
        have q4 := of_decide_eq_false q3
        exact decide_eq_false (by omega))
      clear h h1 h2
      go_enter Try.func35, Try.ntmps35
      go_wp2_with fail
      refine (HI.out n 2 4 _).mono ?_
      rintro e w1 ⟨rfl, rfl⟩
      rw [H1.out]
      go_wp2_with fail
      refine (HI.out ch 0 (n - 1) _).mono ?_
      rintro e w1 ⟨rfl, rfl⟩
      rw [H2.out]
      go_wp2_with fail
      refine (HI.out pl 0 (n - 1) _).mono ?_
      rintro e w1 ⟨rfl, rfl⟩
      rw [H3.out]
      go_wp2
      go_ret2
      exact no_ilb w
set_option maxHeartbeats 1000000 in
theorem spec_gather_all (lo hi : Nat) (A : Option Addr) (n c : Nat) (ch pl : Nat) (rs : List RD) (zss : List (List Int)) (b : Bool) (w : World) (hz : rs.map RD.zs = zss) (hr : SSRow w lo hi A n c rs) (h4 : n = 2 ∨ n = 3 ∨ n = 4) (hch : ch < n) (hpl : pl < n)
    (hlen : ∀ l ∈ zss, l.length ≤ 1048576) (hfit : ∀ l ∈ zss, Fits l) (hok : Pok.okB (gatF zss ch pl) = b) :
    Calls Try.prog 35 #[.slice A n c, .int .i64 (ch : Int), .int .i64 (pl : Int)] w (IsILB w.heap.size (if b then gatF zss ch pl else []) b w) := by
  have hzl : zss.length = n := by rw [← hz, List.length_map, hr.len]
  have HG := Lib.hid (spec_gath lo hi A n c ch pl rs zss w hz hr h4 hch hpl hlen)
  have HRF := Lib.hid (show Fits (gatF zss ch pl) ∧ (gatF zss ch pl).length ≤ 4194304 by
    rw [gatF]
    refine ⟨cat_fits _ (fun k _ => fits_get hfit _), Nat.le_trans (cat_le (B := 1048576) _ (fun k _ => ?_)) (by rw [hzl]; omega)⟩
    by_cases hi : idxAt ch pl k < zss.length
    · exact hlen _ (by rw [List.getD_eq_getElem?_getD, List.getElem?_eq_getElem hi]; exact List.getElem_mem _)
    · rw [List.getD_eq_getElem?_getD, List.getElem?_eq_none (by omega)]; exact Nat.zero_le _)
  generalize gatF zss ch pl = R at *
  obtain ⟨R2, hR2⟩ : ∃ R2, R2 = if b then R else [] := ⟨_, rfl⟩
  rw [← hR2]
  have HR2 := Lib.hid hR2
  have HOK := Lib.hid hok
  have hn2 : 2 ≤ n := by omega
  have hn4 : n ≤ 4 := by omega
  have H1 := Lib.hid (in_yes (n : Int) 2 4 w (by omega) (by omega))
  have H2 := Lib.hid (in_yes (ch : Int) 0 ((n : Int) - 1) w (by omega) (by omega))
  have H3 := Lib.hid (in_yes (pl : Int) 0 ((n : Int) - 1) w (by omega) (by omega))
  clear hR2 hok hz hr h4 hlen hfit hzl
  go_enter Try.func35, Try.ntmps35
  go_wp2_with fail
  refine H1.out.mono ?_
  rintro e w1 ⟨rfl, rfl⟩
  go_wp2_with fail
  refine H2.out.mono ?_
  rintro e w1 ⟨rfl, rfl⟩
  go_wp2_with fail
  refine H3.out.mono ?_
  rintro e w1 ⟨rfl, rfl⟩
  go_wp2_with fail
  refine HG.out.mono ?_
  rintro e w5 ⟨A5, c5, rfl, ho5, hb5⟩
  have HB5 := Lib.hid hb5
  have HO5 := Lib.hid ho5
  have HPK := Lib.hid (Pok.spec_ok A5 R.length c5 R w5 rfl (by have := HRF.out.2; omega) HRF.out.1 (ints_of ho5))
  rw [HOK.out] at HPK
  clear ho5 hb5
  go_wp2_with fail
  refine HPK.out.mono ?_
  rintro e w6 ⟨rfl, hb6⟩
  have HB6 := Lib.hid (HB5.out.trans (hb6.mono HB5.out.size))
  have HO6 := Lib.hid (own_below HO5.out hb6)
  clear hb6
  cases b
  · go_wp2
    go_ret2
    have e := HR2.out
    simp only [Bool.false_eq_true, if_false] at e
    subst e
    exact ⟨none, 0, rfl, World.ownsRow_nil _ _ _ _, HB6.out⟩
  · go_wp2
    go_ret2
    have e := HR2.out
    simp only [if_true] at e
    subst e
    exact ⟨A5, c5, rfl, HO6.out, HB6.out⟩
/-- both, for all arguments -/
theorem impl_gather (lo hi : Nat) (A : Option Addr) (n c : Nat) (ch pl : Int) (rs : List RD) (zss : List (List Int)) (w : World) (hz : rs.map RD.zs = zss) (hr : SSRow w lo hi A n c rs) (hn : n ≤ 1048576) (hlen : ∀ l ∈ zss, l.length ≤ 1048576) (hfit : ∀ l ∈ zss, Fits l) :
    Calls Try.prog 20 #[.slice A n c, .int .i64 ch, .int .i64 pl] w (IsILB w.heap.size (gatL zss ch pl) (gatB zss ch pl) w) := by
  have hzl : zss.length = n := by rw [← hz, List.length_map, hr.len]
  cases hp : placeB n ch pl with
  | false =>
    have e := place_no (zss := zss) (ch := ch) (pl := pl) (by rw [hzl]; exact hp)
    rw [gat_no e, e]
    exact gather_no A n c ch pl w hn hp
  | true =>
    obtain ⟨h4, c0, p0, rfl, rfl, h1, h2⟩ := place_parts hp
    have h := gather_all lo hi A n c c0 p0 rs zss (Pok.okB (gatF zss c0 p0)) w hz hr h4 h1 h2 hlen hfit rfl
    have e1 : gatB zss (c0 : Int) (p0 : Int) = Pok.okB (gatF zss c0 p0) := by unfold gatB; rw [hzl, hp]; rfl
    have e2 : gatL zss (c0 : Int) (p0 : Int) = if Pok.okB (gatF zss c0 p0) then gatF zss c0 p0 else [] := by unfold gatL; rw [e1]; rfl
    rw [e1, e2]
    exact h
theorem spec_gather (lo hi : Nat) (A : Option Addr) (n c : Nat) (ch pl : Int) (rs : List RD) (zss : List (List Int)) (w : World) (hz : rs.map RD.zs = zss) (hr : SSRow w lo hi A n c rs) (hn : n ≤ 1048576) (hlen : ∀ l ∈ zss, l.length ≤ 1048576) (hfit : ∀ l ∈ zss, Fits l) :
    Calls Try.prog 35 #[.slice A n c, .int .i64 ch, .int .i64 pl] w (IsILB w.heap.size (gatL zss ch pl) (gatB zss ch pl) w) := by
  have hzl : zss.length = n := by rw [← hz, List.length_map, hr.len]
  cases hp : placeB n ch pl with
  | false =>
    have e := place_no (zss := zss) (ch := ch) (pl := pl) (by rw [hzl]; exact hp)
    rw [gat_no e, e]
    exact spec_gather_no A n c ch pl w hn hp
  | true =>
    obtain ⟨h4, c0, p0, rfl, rfl, h1, h2⟩ := place_parts hp
    have h := spec_gather_all lo hi A n c c0 p0 rs zss (Pok.okB (gatF zss c0 p0)) w hz hr h4 h1 h2 hlen hfit rfl
    have e1 : gatB zss (c0 : Int) (p0 : Int) = Pok.okB (gatF zss c0 p0) := by unfold gatB; rw [hzl, hp]; rfl
    have e2 : gatL zss (c0 : Int) (p0 : Int) = if Pok.okB (gatF zss c0 p0) then gatF zss c0 p0 else [] := by unfold gatL; rw [e1]; rfl
    rw [e1, e2]
    exact h
end Go.Proofs.Ytpfbjbakcfmngaa.Gas
