/- Decode of the program and of the model. -/
import Derived.Test.YtefgcnjbiaileaaHen
set_option linter.unusedVariables false
set_option maxRecDepth 20000
namespace Go.Proofs.Ytefgcnjbiaileaa.Hde
open Go.RowKit Fr _root_.Go.Proofs.Ytefgcnjbiaileaa.Own Pk Ins Rws Srt Sst Fnd Hnd Hix Hco Hcp Him Wit Hce Hcf Cde Hpl Hen

def decB (D : Int) (Hs Ss : List (List Int)) (h : List Int) : Bool := codeB D Hs Ss && decide (h ∈ Ss)
def decI (D : Int) (Hs Ss : List (List Int)) (h : List Int) : Int := if decB D Hs Ss h = true then (withF (Hs.getD (idxI h Ss).toNat []) h).headD 0 else 0
def chkD (n k : Nat) : Bool := (handsF n k 0).all fun q => decide q.Nodup
theorem all_chkD : ((List.range 9).all fun n => (List.range 9).all fun k => chkD n k) = true := by kernel_rfl
theorem hands_nodup (D : Int) (k : Nat) : ∀ q ∈ handsI D (k : Int), q.Nodup := by
  intro q hq
  unfold handsI at hq
  split at hq
  · have h := List.all_eq_true.1 (List.all_eq_true.1 all_chkD D.toNat (List.mem_range.2 (by omega))) (k : Int).toNat (List.mem_range.2 (by omega))
    exact of_decide_eq_true (List.all_eq_true.1 h q hq)
  · cases hq
theorem code_at {D : Int} {Hs Ss : List (List Int)} {j : Nat} (h : codeB D Hs Ss = true) (hj : j < Hs.length) : (Ss.getD j []).length + 1 = (Hs.getD j []).length ∧ (Hs.getD j []).Nodup := by
  unfold codeB at h
  simp only [Bool.and_eq_true, decide_eq_true_eq] at h
  obtain ⟨_, _, _, _, hl, hc⟩ := h
  unfold coTo at hc
  have := List.all_eq_true.1 hc j (List.mem_range.2 hj)
  simp only [Bool.and_eq_true, decide_eq_true_eq] at this
  obtain ⟨e, hs, _⟩ := this
  unfold shownB at hs
  rw [Bool.and_eq_true, decide_eq_true_eq] at hs
  rw [← e]
  refine ⟨hs.1, hands_nodup D (Hs.getD 0 []).length _ ?_⟩
  generalize (Hs.getD 0 []).length = k at *
  rw [List.getD_eq_getElem?_getD, List.getElem?_eq_getElem (by omega)]
  exact List.getElem_mem _
theorem with_some {h m : List Int} (hl : m.length + 1 = h.length) (hn : h.Nodup) : withF h m ≠ [] := by
  intro e
  unfold withF at e
  rw [List.filter_eq_nil_iff] at e
  have := hn.length_le_of_subset (l₂ := m) fun x hx => by
    have := e x hx
    simpa using this
  omega
theorem with_head {h m : List Int} {t : Nat} (ht : t < h.length) (hall : ∀ i, i < t → h.getD i 0 ∈ m) (hx : h.getD t 0 ∉ m) : (withF h m).headD 0 = h.getD t 0 := by
  have e : withF h m = withF (h.take t) m ++ withF (h.drop t) m := by
    unfold withF
    rw [← List.filter_append, List.take_append_drop]
  have e1 : withF (h.take t) m = [] := by
    unfold withF
    rw [List.filter_eq_nil_iff]
    intro x hxm
    obtain ⟨i, hi, rfl⟩ := List.mem_take_iff_getElem.1 hxm
    have := hall i (by omega)
    rw [List.getD_eq_getElem?_getD, List.getElem?_eq_getElem (by omega)] at this
    simpa using this
  have e2 : withF (h.drop t) m = h.getD t 0 :: withF (h.drop (t + 1)) m := by
    rw [List.getD_eq_getElem?_getD, List.getElem?_eq_getElem ht] at hx ⊢
    unfold withF
    rw [List.drop_eq_getElem_cons ht, List.filter_cons_of_pos (by simpa using hx)]
    rfl
  rw [e, e1, e2]
  rfl
def IsTB (x : Int) (b : Bool) (w : World) (e : Ending) (w' : World) : Prop := e = .returned (.tuple #[.int .i64 x, .bool b]) ∧ Below w.heap.size w w'
theorem tb_nil {w W : World} {D : Int} {Hs Ss : List (List Int)} {h : List Int} (he : decB D Hs Ss h = false) (hb : Below w.heap.size w W) : IsTB (decI D Hs Ss h) (decB D Hs Ss h) w (.returned (.tuple #[.int .i64 0, .bool false])) W := by
  unfold decI
  rw [he]
  exact ⟨rfl, hb⟩
set_option maxHeartbeats 2000000 in
theorem impl_dec {lo hi : Nat} (D : Int) (A : Option Addr) (n c : Nat) (A2 : Option Addr) (m c2 : Nat) (rs r2 : List RD) (Ah : Option Addr) (nh ch : Nat) (h : List Int) (w : World) (hD1 : -9223372036854775808 ≤ D) (hD2 : D ≤ 9223372036854775807) (hcr : CR w lo hi A n c rs A2 m c2 r2)
    (hz : ∀ i, i < n → (rs.getD i rd0).zs.length ≤ 1048576) (hz2 : ∀ i, i < m → (r2.getD i rd0).zs.length ≤ 1048576 ∧ Fits (r2.getD i rd0).zs) (hn2 : n ≤ 1048576) (hm2 : m ≤ 1048576) (hh : h.length = nh) (hh2 : nh ≤ 1048576) (hat : IntsAt w w.heap.size .i64 Ah h) :
    Calls Try.prog 12 #[coV D A n c A2 m c2, .slice Ah nh ch] w (IsTB (decI D (rs.map RD.zs) (r2.map RD.zs) h) (decB D (rs.map RD.zs) (r2.map RD.zs) h) w) := by
  obtain ⟨W, hW, ba, bb, bc, hb0, hs0⟩ := box3 w (.int .i64 D) (.slice A n c) (.slice A2 m c2)
  have HB0 := Lib.hid hb0
  obtain ⟨mid, q1, q2, _⟩ := hcr
  have hn := q1.len
  have hm := q2.len
  have HP := Lib.hid (place_any A2 Ah m c2 nh ch r2 h W hm (ll_below (ll_of_ss q2) hb0) (fun i hi => (hz2 i hi).1) hm2 hh hh2 ((hat.below hb0).more hb0.size))
  have HC := fun V (hb : Below W.heap.size W V) => Lib.hid (impl_code D A n c A2 m c2 rs r2 V hD1 hD2 hn hm (ll_below (ll_below (ll_of_ss q1) hb0) hb) (ll_below (ll_below (ll_of_ss q2) hb0) hb) hz hz2 hn2)
  have HL2 := Lib.hid (ll_below (ll_of_ss q1) hb0)
  have HZ := Lib.hid hz
  have HH := Lib.hid hh
  have HAT := Lib.hid ((hat.below hb0).more hb0.size)
  have HN := Lib.hid hn
  have HM := Lib.hid hm
  have HZ2 := Lib.hid hz2
  have hlen : codeB D (rs.map RD.zs) (r2.map RD.zs) = true → m = n := fun hc => by
    have := code_len hc
    rw [List.length_map, List.length_map, hn, hm] at this
    exact this
  obtain ⟨CB, hCB⟩ : ∃ b, b = codeB D (rs.map RD.zs) (r2.map RD.zs) := ⟨_, rfl⟩
  rw [← hCB] at HC hlen
  have HCB := Lib.hid hCB.symm
  obtain ⟨X, hX⟩ : ∃ x, x = idxI h (r2.map RD.zs) := ⟨_, rfl⟩
  rw [← hX] at HP
  have HX := Lib.hid hX.symm
  clear q1 q2 hb0 hz hz2 hat hn hm hCB hX hh
  by_cases hmem : h ∈ r2.map RD.zs
  · obtain ⟨j, hj, hxj⟩ := idx_mem hmem
    rw [HX.out] at hxj
    rw [List.length_map, HM.out] at hj
    have hx0 : decide (X < 0) = false := decide_eq_false (by omega)
    cases hcb : CB with
    | false =>
      have HE := Lib.hid (fun V (hb : Below w.heap.size w V) => tb_nil (w := w) (W := V) (h := h) (show decB D (rs.map RD.zs) (r2.map RD.zs) h = false by unfold decB; rw [HCB.out, hcb]; rfl) hb)
      subst hcb
      clear hlen hmem hxj hj
      go_enter Try.func12, Try.ntmps12
      go_upto_region 1 with fail
      rw [← hW]
      clear hW
      go_wp2_with fail
      refine HP.out.mono ?_
      rintro e w1 ⟨rfl, hb1⟩
      replace ba := (hb1.cell (p := ⟨w.heap.size, 0, none⟩) hs0).trans ba
      replace bb := (hb1.cell (p := ⟨w.heap.size, 1, none⟩) hs0).trans bb
      replace bc := (hb1.cell (p := ⟨w.heap.size, 2, none⟩) hs0).trans bc
      have HB1 := Lib.hid (HB0.out.trans (hb1.mono HB0.out.size))
      have HCC := HC w1 hb1
      clear hb1
      go_wp2_with fail
      refine HCC.out.mono ?_
      rintro e w2 ⟨rfl, hb2⟩
      have HB2 := Lib.hid (HB1.out.trans (hb2.mono HB1.out.size))
      clear hb2
      go_wp2
      go_ret2
      exact HE.out _ HB2.out
    | true =>
      have hmn := hlen hcb
      have hjn : j < n := by omega
      clear hmn
      obtain ⟨b2, o2, rfl, hcs, his⟩ := HL2.out j (by rw [HN.out]; omega)
      have hzj := HZ.out j (by omega)
      have hca := code_at (j := j) (HCB.out.trans hcb) (by rw [List.length_map, HN.out]; exact hjn)
      have hmj : (r2.map RD.zs).getD j [] = h := by
        have : (r2.map RD.zs).idxOf h = j := by
          have := hxj
          rw [← HX.out] at this
          unfold idxI at this
          rw [if_pos hmem] at this
          omega
        have h5 : (r2.map RD.zs).getD ((r2.map RD.zs).idxOf h) [] = h := by
          rw [List.getD_eq_getElem?_getD, List.getElem?_eq_getElem (List.idxOf_lt_length_of_mem hmem)]
          exact List.getElem_idxOf _
        rw [this] at h5
        exact h5
      rw [hmj, show (rs.map RD.zs).getD j [] = (rs.getD j rd0).zs from zs_get rs (by rw [HN.out]; exact hjn)] at hca
      have HV := Lib.hid (show decI D (rs.map RD.zs) (r2.map RD.zs) h = (withF (rs.getD j rd0).zs h).headD 0 ∧ decB D (rs.map RD.zs) (r2.map RD.zs) h = true by
        have hb : decB D (rs.map RD.zs) (r2.map RD.zs) h = true := by unfold decB; rw [HCB.out, hcb, decide_eq_true hmem]; rfl
        refine ⟨?_, hb⟩
        unfold decI
        rw [if_pos hb, HX.out, hxj, Int.toNat_natCast, zs_get rs (by rw [HN.out]; exact hjn)])
      obtain ⟨R, hR⟩ : ∃ R, R = decI D (rs.map RD.zs) (r2.map RD.zs) h := ⟨_, rfl⟩
      obtain ⟨RB, hRB⟩ : ∃ R, R = decB D (rs.map RD.zs) (r2.map RD.zs) h := ⟨_, rfl⟩
      rw [← hR, ← hRB] at HV ⊢
      simp only [RD.v] at hcs
      generalize rs.getD j rd0 = rj at *
      obtain ⟨Aj, dj, zj⟩ := rj
      simp only at hcs his hzj HV hca
      have HI := Lib.hid his
      have HWS := Lib.hid (with_some hca.1 hca.2)
      obtain ⟨nj, hnj⟩ : ∃ k, k = zj.length := ⟨_, rfl⟩
      rw [← hnj] at hcs hzj
      have HNJ := Lib.hid hnj.symm
      clear hca hmj
      subst hcb hxj
      clear hlen hmem hR hRB his hnj hx0
      go_enter Try.func12, Try.ntmps12
      go_upto_region 1 with fail
      rw [← hW]
      clear hW
      go_wp2_with fail
      refine HP.out.mono ?_
      rintro e w1 ⟨rfl, hb1⟩
      replace ba := (hb1.cell (p := ⟨w.heap.size, 0, none⟩) hs0).trans ba
      replace bb := (hb1.cell (p := ⟨w.heap.size, 1, none⟩) hs0).trans bb
      replace bc := (hb1.cell (p := ⟨w.heap.size, 2, none⟩) hs0).trans bc
      have HB1 := Lib.hid (HB0.out.trans (hb1.mono HB0.out.size))
      have HCC := HC w1 hb1
      have hcs1 := (hb1.cell (World.block_lt_of_cell? W _ hcs)).trans hcs
      have HI1 := Lib.hid ((HI.out.below hb1).more hb1.size)
      have HA1 := Lib.hid ((HAT.out.below hb1).more hb1.size)
      have hs1 := hb1.size
      clear hb1 hcs
      go_wp2_with fail
      refine HCC.out.mono ?_
      rintro e w2 ⟨rfl, hb2⟩
      have hcs2 := (hb2.cell (World.block_lt_of_cell? w1 _ hcs1)).trans hcs1
      have HB2 := Lib.hid (HB1.out.trans (hb2.mono HB1.out.size))
      have bb2 := (hb2.cell (p := ⟨w.heap.size, 1, none⟩) (by show w.heap.size < _; omega)).trans bb
      have HCL := Lib.hid (without_any Aj nj dj zj Ah nh ch h w2 HNJ.out hzj ((HI1.out.below hb2).more hb2.size) HH.out hh2 ((HA1.out.below hb2).more hb2.size))
      clear hb2 bc bb hcs1
      go_wp2_with fail
      refine HCL.out.mono ?_
      rintro e w3 ⟨A3, c3, rfl, ho3, hb3⟩
      have HB3 := Lib.hid (HB2.out.trans (hb3.mono HB2.out.size))
      obtain ⟨us, hus⟩ : ∃ l, l = withF zj h := ⟨_, rfl⟩
      rw [← hus] at ho3 HWS HV
      rw [← hus]
      have hu0 : 0 < us.length := List.length_pos_iff.2 HWS.out
      obtain ⟨b3, o3, rfl, _, hc3⟩ := ints_of ho3 0 hu0
      have HU := Lib.hid (show us.getD 0 0 = us.headD 0 by cases us <;> rfl)
      rw [HU.out] at hc3
      generalize us.length = nu at *
      generalize us.headD 0 = x at *
      rw [Nat.add_zero] at hc3
      clear ho3 hb3 hus
      go_wp2
      go_ret2
      rw [HV.out.1, HV.out.2]
      exact ⟨rfl, HB3.out⟩
  · have hx1 : X = -1 := by rw [← HX.out]; exact idx_none hmem
    have HE := Lib.hid (fun V (hb : Below w.heap.size w V) => tb_nil (w := w) (W := V) (h := h) (show decB D (rs.map RD.zs) (r2.map RD.zs) h = false by unfold decB; rw [decide_eq_false hmem, Bool.and_false]) hb)
    subst hx1
    clear hmem hlen
    go_enter Try.func12, Try.ntmps12
    go_upto_region 1 with fail
    rw [← hW]
    clear hW
    go_wp2_with fail
    refine HP.out.mono ?_
    rintro e w1 ⟨rfl, hb1⟩
    have HB1 := Lib.hid (HB0.out.trans (hb1.mono HB0.out.size))
    clear hb1
    go_wp2
    go_ret2
    exact HE.out _ HB1.out
end Go.Proofs.Ytefgcnjbiaileaa.Hde
