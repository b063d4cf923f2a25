/- PileRound of both. -/
import Derived.Test.YtpfbjbakcfmngaaGas
import Derived.Test.YtpfbjbakcfmngaaDls
set_option linter.unusedVariables false
set_option linter.unusedSimpArgs false
set_option maxRecDepth 20000
namespace Go.Proofs.Ytpfbjbakcfmngaa.Prd
open Go.RowKit Fr _root_.Go.Proofs.Ytpfbjbakcfmngaa.Own Pk Ins Pfn Rws Lb Plk Gat Gas Dls

/-- the first pile that has the card -/
def fstFrom (zss : List (List Int)) (card : Int) : Nat → Nat → Int
  | 0, _ => -1
  | f + 1, i => if 0 ≤ Pl.posF (zss.getD i []) card then (i : Int) else fstFrom zss card f (i + 1)
def fstF (zss : List (List Int)) (card : Int) : Int := fstFrom zss card zss.length 0
theorem fst_hit {zss : List (List Int)} {card : Int} {f i : Nat} (h : 0 ≤ Pl.posF (zss.getD i []) card) : fstFrom zss card (f + 1) i = i := by rw [fstFrom, if_pos h]
theorem fst_miss {zss : List (List Int)} {card : Int} {f i : Nat} (h : ¬ 0 ≤ Pl.posF (zss.getD i []) card) : fstFrom zss card (f + 1) i = fstFrom zss card f (i + 1) := by rw [fstFrom, if_neg h]
def rndL (zs : List Int) (m card pl : Int) : List Int := gatL (pilesI zs m) (fstF (pilesI zs m) card) pl
def rndB (zs : List Int) (m card pl : Int) : Bool := gatB (pilesI zs m) (fstF (pilesI zs m) card) pl
theorem pile_fits {zs : List Int} (hz : Fits zs) (m k : Nat) : ∀ t, t ≤ zs.length → Fits (pileT zs m k t)
  | 0, _ => fun i hi => by simp [pileT] at hi
  | t + 1, ht => by
    have ih := pile_fits hz m k t (by omega)
    rw [pileT]
    split
    · intro i hi
      match i with
      | 0 => exact hz t (by omega)
      | j + 1 => exact ih j (by simpa using hi)
    · exact ih
theorem piles_fits {zs : List Int} (hz : Fits zs) (m : Int) : ∀ l ∈ pilesI zs m, Fits l := by
  intro l hl
  unfold pilesI at hl
  split at hl
  · obtain ⟨k, _, rfl⟩ := List.mem_map.1 hl
    exact pile_fits hz _ _ _ (Nat.le_refl _)
  · cases hl
theorem clos_pos (bp : Nat) (A : Option Addr) (n c : Nat) (zs : List Int) (card : Int) (w : World) (hn : zs.length = n) (hn2 : n ≤ 1048576) (hz : Fits zs) (hss : IntsAt w w.heap.size .i64 A zs) (hb : w.cell? ⟨bp, 0, none⟩ = some (.int .i64 card)) :
    Calls Try.prog 50 #[.slice A n c, .pointer (some ⟨bp, 0, none⟩)] w fun e w' => e = .returned (.bool (decide (0 ≤ Pl.posF zs card))) ∧ w = w' := by
  have HP := Lib.hid (Pl.impl_pos A n c zs card w hn (by omega) hz hss)
  obtain ⟨P, hP⟩ : ∃ P, P = Pl.posF zs card := ⟨_, rfl⟩
  rw [← hP] at HP ⊢
  clear hn hz hss hP
  go_enter Try.func50, Try.ntmps50
  go_wp2_with fail
  refine HP.out.mono ?_
  rintro e w' ⟨rfl, rfl⟩
  by_cases h : 0 ≤ P
  · go_wp2
    go_ret
    exact ⟨ret_b (by simp [h]), rfl⟩
  · have h' : decide (0 ≤ P) = false := decide_eq_false h
    go_wp2
    go_ret
    exact ⟨ret_b (by simp [h]), rfl⟩
set_option maxHeartbeats 1000000 in
theorem index_piles (bp lo hi : Nat) (A : Option Addr) (n c : Nat) (rs : List RD) (zss : List (List Int)) (card : Int) (w : World) (hz : rs.map RD.zs = zss) (hr : SSRow w lo hi A n c rs) (hn2 : n ≤ 1048576) (hlen : ∀ l ∈ zss, l.length ≤ 1048576) (hfit : ∀ l ∈ zss, Fits l) (hb : w.cell? ⟨bp, 0, none⟩ = some (.int .i64 card)) :
    Calls Try.prog 49 #[.slice A n c, .func (.func 50) #[] #[.pointer (some ⟨bp, 0, none⟩)]] w fun e w' => e = .returned (.int .i64 (fstF zss card)) ∧ w = w' := by
  have hzl : zss.length = n := by rw [← hz, List.length_map, hr.len]
  have HCL := Lib.hid fun k (hk : k < n) => clos_pos bp (rs.getD k rd0).A (rs.getD k rd0).zs.length (rs.getD k rd0).c (rs.getD k rd0).zs card w rfl (by
    rw [zs_get hz]
    exact hlen _ (by rw [List.getD_eq_getElem?_getD, List.getElem?_eq_getElem (by omega)]; exact List.getElem_mem _)) (by rw [zs_get hz]; exact fits_get hfit k) (hr.2.1 k (by rw [hr.len]; exact hk)).at_ hb
  have HC := Lib.hid fun k (hk : k < n) => hr.cell k hk
  have HZ := Lib.hid fun k => zs_get hz k
  obtain ⟨R, hR⟩ : ∃ R, R = fstF zss card := ⟨_, rfl⟩
  rw [← hR]
  have H0 := Lib.hid (show R = fstFrom zss card (n - 0) 0 by rw [hR, fstF, hzl, Nat.sub_zero])
  clear hR hz hr hlen hfit hb hzl
  go_enter Try.func49, Try.ntmps49
  go_wp2
  go_loopw [5, 8] (fun _ i wr => ∃ k : Nat, k ≤ n ∧ i = .int .i64 (k : Int) ∧ wr = w ∧ Hid (R = fstFrom zss card (n - k) k)) (fun _ i _ => n - (intOf i).toNat)
  case atStart => exact ⟨0, Nat.zero_le _, rfl, rfl, H0⟩
  case round =>
    obtain ⟨k, hk, rfl, rfl, HR⟩ := hrel
    clear H0
    by_cases hlt : k < n
    · obtain ⟨g, hA, hc⟩ := HC.out k hlt
      have HX := Lib.hid (HCL.out k hlt)
      have HZK := Lib.hid (HZ.out k)
      subst hA
      generalize rs.getD k rd0 = r at *
      have hc2 : wr.cell? ⟨g, k, none⟩ = some (.slice r.A r.zs.length r.c) := hc
      clear hc
      by_cases hp : 0 ≤ Pl.posF r.zs card
      · have HD := Lib.hid (decide_eq_true hp)
        have HE := Lib.hid (show R = (k : Int) by rw [HR.out, show n - k = (n - (k + 1)) + 1 by omega]; exact fst_hit (by rw [← HZK.out]; exact hp))
        clear hp
        rw [HD.out] at HX
        go_wp2_with fail
        refine HX.out.mono ?_
        rintro e w' ⟨rfl, rfl⟩
        go_wp2
        go_ret
        exact ⟨by rw [HE.out]; rfl, rfl⟩
      · have HD := Lib.hid (decide_eq_false hp)
        have HE := Lib.hid (show R = fstFrom zss card (n - (k + 1)) (k + 1) by rw [HR.out, show n - k = (n - (k + 1)) + 1 by omega]; exact fst_miss (by rw [← HZK.out]; exact hp))
        clear hp
        rw [HD.out] at HX
        go_wp2_with fail
        refine HX.out.mono ?_
        rintro e w' ⟨rfl, rfl⟩
        go_wp2
        first | refine ⟨⟨k + 1, by omega, by go_num, trivial, HE⟩, ?_⟩ | refine ⟨⟨k + 1, by omega, by go_num, rfl, HE⟩, ?_⟩
        simp [intOf]; omega
    · have hkn : k = n := by omega
      subst hkn
      have HE := Lib.hid (show R = -1 by rw [HR.out, Nat.sub_self]; rfl)
      go_wp2
      go_ret
      first | exact ⟨by rw [HE.out]; rfl, rfl⟩ | exact ⟨by rw [HE.out]; rfl, trivial⟩
theorem ilb_after {B : Nat} {zs : List Int} {b : Bool} {w w1 w2 : World} {e : Ending} (h : IsILB w1.heap.size zs b w1 e w2) (hb : Below B w w1) (hB : B ≤ w1.heap.size) : IsILB B zs b w e w2 := by
  obtain ⟨A, c, rfl, ho, hb2⟩ := h
  exact ⟨A, c, rfl, own_mono ho hB, hb.trans (hb2.mono hB)⟩
set_option maxHeartbeats 1000000 in
theorem impl_round (A : Option Addr) (n c : Nat) (zs : List Int) (m card pl : Int) (w : World) (hn : zs.length = n) (hn2 : n ≤ 1048576) (hz : Fits zs) (hss : IntsAt w w.heap.size .i64 A zs) (h1 : -9223372036854775808 ≤ m) (h2 : m ≤ 9223372036854775807) :
    Calls Try.prog 17 #[.slice A n c, .int .i64 m, .int .i64 card, .int .i64 pl] w (IsILB w.heap.size (rndL zs m card pl) (rndB zs m card pl) w) := by
  obtain ⟨V, hV⟩ : ∃ V, w.alloc (.cells #[.int .i64 card] 3) = V := ⟨_, rfl⟩
  have hbV : Below w.heap.size w V := by rw [← hV]; exact (Below.refl w.heap.size w).alloc (Nat.le_refl _) _
  have hcV : V.cell? ⟨w.heap.size, 0, none⟩ = some (.int .i64 card) := by rw [← hV]; unfold World.cell?; rw [heap_alloc_new]; rfl
  have hsV : w.heap.size < V.heap.size := by rw [← hV]; simp
  have HP := Lib.hid (impl_pilesof A n c zs m V hn hn2 hz ((hss.below hbV).more hbV.size) h1 h2)
  have HF := Lib.hid (piles_fits hz m)
  have HS := Lib.hid (pilesI_small zs m)
  have HR := Lib.hid (show rndL zs m card pl = gatL (pilesI zs m) (fstF (pilesI zs m) card) pl ∧ rndB zs m card pl = gatB (pilesI zs m) (fstF (pilesI zs m) card) pl from ⟨rfl, rfl⟩)
  generalize rndL zs m card pl = R at *
  generalize rndB zs m card pl = RB at *
  generalize pilesI zs m = zss at *
  have HB := Lib.hid hbV
  have HCV := Lib.hid hcV
  clear hbV hz hss hn hcV
  go_enter Try.func17, Try.ntmps17
  go_wp2_with fail
  refine HP.out.mono ?_
  rintro e w1 ⟨A1, c1, rs, rfl, hzr, hr1, hb1⟩
  have hb1' := Lib.hid hb1
  have hlen : ∀ l ∈ zss, l.length ≤ 1048576 := fun l hl => by have := HS.out.2 l hl; omega
  have hnz : zss.length ≤ 1048576 := by have := HS.out.1; omega
  have HIX := Lib.hid (index_piles w.heap.size V.heap.size w1.heap.size A1 zss.length c1 rs zss card w1 hzr hr1 hnz hlen HF.out ((hb1.cell (p := ⟨w.heap.size, 0, none⟩) hsV).trans HCV.out))
  have HG := Lib.hid fun ch => impl_gather V.heap.size w1.heap.size A1 zss.length c1 ch pl rs zss w1 hzr hr1 hnz hlen HF.out
  have HB1 := Lib.hid (HB.out.trans (hb1.mono HB.out.size))
  clear hzr hr1 hb1 hlen hV
  generalize zss.length = nz at *
  go_wp2_with fail
  refine HIX.out.mono ?_
  rintro e w2 ⟨rfl, rfl⟩
  go_wp2_with fail
  refine (HG.out _).mono ?_
  rintro e w3 ⟨A3, c3, rfl, ho3, hb3⟩
  go_wp2
  go_ret2
  rw [HR.out.1, HR.out.2]
  exact ⟨A3, c3, rfl, own_mono ho3 HB1.out.size, HB1.out.trans (hb3.mono HB1.out.size)⟩
theorem gat_none (zss : List (List Int)) (pl : Int) : gatB zss (-1) pl = false ∧ gatL zss (-1) pl = [] := by
  have h : gatB zss (-1) pl = false := place_no (by unfold placeB inB; simp)
  exact ⟨h, gat_no h⟩
theorem rnd_short (zs : List Int) (m card pl : Int) : (rndL zs m card pl).length ≤ 1048576 := gat_short _ _ _
set_option maxHeartbeats 1000000 in
theorem spec_round (A : Option Addr) (n c : Nat) (zs : List Int) (m card pl : Int) (w : World) (hn : zs.length = n) (hn2 : n ≤ 1048576) (hz : Fits zs) (hss : IntsAt w w.heap.size .i64 A zs) (h1 : -9223372036854775808 ≤ m) (h2 : m ≤ 9223372036854775807) :
    Calls Try.prog 38 #[.slice A n c, .int .i64 m, .int .i64 card, .int .i64 pl] w (IsILB w.heap.size (rndL zs m card pl) (rndB zs m card pl) w) := by
  have HP := Lib.hid (spec_pilesof A n c zs m w hn hn2 hz hss h1 h2)
  have HF := Lib.hid (piles_fits hz m)
  have HS := Lib.hid (pilesI_small zs m)
  have HR := Lib.hid (show rndL zs m card pl = gatL (pilesI zs m) (fstF (pilesI zs m) card) pl ∧ rndB zs m card pl = gatB (pilesI zs m) (fstF (pilesI zs m) card) pl from ⟨rfl, rfl⟩)
  generalize rndL zs m card pl = R at *
  generalize rndB zs m card pl = RB at *
  generalize pilesI zs m = zss at *
  clear hz hss hn
  go_enter Try.func38, Try.ntmps38
  go_wp2_with fail
  refine HP.out.mono ?_
  rintro e w1 ⟨A1, c1, rs, rfl, hzr, hr1, hb1⟩
  have hlen : ∀ l ∈ zss, l.length ≤ 1048576 := fun l hl => by have := HS.out.2 l hl; omega
  have hnz : zss.length ≤ 1048576 := by have := HS.out.1; omega
  have HG := Lib.hid fun ch => spec_gather w.heap.size w1.heap.size A1 zss.length c1 ch pl rs zss w1 hzr hr1 hnz hlen HF.out
  have HB := Lib.hid hb1
  have HCL := Lib.hid fun k (hk : k < zss.length) => Pl.spec_pos (rs.getD k rd0).A (rs.getD k rd0).zs.length (rs.getD k rd0).c (rs.getD k rd0).zs card w1 rfl (by
    have : (rs.getD k rd0).zs.length ≤ 1048576 := by
      rw [zs_get hzr]
      exact hlen _ (by rw [List.getD_eq_getElem?_getD, List.getElem?_eq_getElem (by omega)]; exact List.getElem_mem _)
    omega) (by rw [zs_get hzr]; exact fits_get HF.out k) (hr1.2.1 k (by rw [hr1.len]; exact hk)).at_
  have HC := Lib.hid fun k (hk : k < zss.length) => hr1.cell k hk
  have HZ := Lib.hid fun k => zs_get hzr k
  obtain ⟨n1, hn1⟩ : ∃ n1, n1 = zss.length := ⟨_, rfl⟩
  obtain ⟨FI, hFI⟩ : ∃ FI, FI = fstF zss card := ⟨_, rfl⟩
  have H0 := Lib.hid (show FI = fstFrom zss card (n1 - 0) 0 by rw [hFI, hn1, fstF, Nat.sub_zero])
  rw [← hFI] at HR
  rw [← hn1] at HG HCL HC hnz ⊢
  clear hFI hn1 hzr hr1 hb1 hlen
  go_wp2
  go_loopw [11, 12, 18] (fun _ _ i wr => ∃ k : Nat, k ≤ n1 ∧ i = .int .i64 (k : Int) ∧ wr = w1 ∧ Hid (FI = fstFrom zss card (n1 - k) k)) (fun _ _ i _ => n1 - (intOf i).toNat)
  case atStart => exact ⟨0, Nat.zero_le _, rfl, rfl, H0⟩
  case round =>
    obtain ⟨k, hk, rfl, rfl, HRK⟩ := hrel
    clear H0
    by_cases hlt : k < n1
    · obtain ⟨g, hA, hc⟩ := HC.out k hlt
      have HX := Lib.hid (HCL.out k hlt)
      have HZK := Lib.hid (HZ.out k)
      subst hA
      generalize rs.getD k rd0 = r at *
      have hc2 : wr.cell? ⟨g, k, none⟩ = some (.slice r.A r.zs.length r.c) := hc
      clear hc
      by_cases hp : 0 ≤ Pl.posF r.zs card
      · have HE := Lib.hid (show FI = (k : Int) by rw [HRK.out, show n1 - k = (n1 - (k + 1)) + 1 by omega]; exact fst_hit (by rw [← HZK.out]; exact hp))
        obtain ⟨P, hP⟩ : ∃ P, P = Pl.posF r.zs card := ⟨_, rfl⟩
        rw [← hP] at HX hp
        have hp' : decide (0 ≤ P) = true := decide_eq_true hp
        clear hP
        go_wp2_with fail
        refine HX.out.mono ?_
        rintro e w' ⟨rfl, rfl⟩
        go_wp2_with fail
        refine (HG.out _).mono ?_
        rintro e w3 ⟨A3, c3, rfl, ho3, hb3⟩
        go_wp2
        go_ret2
        rw [HR.out.1, HR.out.2, HE.out]
        exact ⟨A3, c3, rfl, own_mono ho3 HB.out.size, HB.out.trans (hb3.mono HB.out.size)⟩
      · have HE := Lib.hid (show FI = fstFrom zss card (n1 - (k + 1)) (k + 1) by rw [HRK.out, show n1 - k = (n1 - (k + 1)) + 1 by omega]; exact fst_miss (by rw [← HZK.out]; exact hp))
        obtain ⟨P, hP⟩ : ∃ P, P = Pl.posF r.zs card := ⟨_, rfl⟩
        rw [← hP] at HX hp
        have hp' : decide (0 ≤ P) = false := decide_eq_false hp
        clear hP
        go_wp2_with fail
        refine HX.out.mono ?_
        rintro e w' ⟨rfl, rfl⟩
        go_wp2
        first | refine ⟨⟨k + 1, by omega, by go_num, trivial, HE⟩, ?_⟩ | refine ⟨⟨k + 1, by omega, by go_num, rfl, HE⟩, ?_⟩
        simp [intOf]; omega
    · have hkn : k = n1 := by omega
      subst hkn
      have HE := Lib.hid (show FI = -1 by rw [HRK.out, Nat.sub_self]; rfl)
      go_wp2
      go_ret2
      rw [HR.out.1, HR.out.2, HE.out, (gat_none zss pl).1, (gat_none zss pl).2]
      exact ⟨none, 0, rfl, World.ownsRow_nil _ _ _ _, HB.out⟩
end Go.Proofs.Ytpfbjbakcfmngaa.Prd
