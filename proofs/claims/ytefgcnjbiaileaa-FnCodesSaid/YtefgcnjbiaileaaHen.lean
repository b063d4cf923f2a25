/- Encode of the program and of the model. -/
import Derived.Test.YtefgcnjbiaileaaHpl
set_option linter.unusedVariables false
set_option maxRecDepth 20000
namespace Go.Proofs.Ytefgcnjbiaileaa.Hen
open Go.RowKit Fr _root_.Go.Proofs.Ytefgcnjbiaileaa.Own Pk Ins Rws Srt Sst Fnd Hix Hco Hcp Hcf Cde Hpl

def encB (D : Int) (Hs Ss : List (List Int)) (h : List Int) : Bool := codeB D Hs Ss && decide (h ∈ Hs)
def encV (D : Int) (Hs Ss : List (List Int)) (h : List Int) : List Int := if encB D Hs Ss h = true then Ss.getD (idxI h Hs).toNat [] else []
theorem idx_mem {q : List Int} {L : List (List Int)} (h : q ∈ L) : ∃ j : Nat, j < L.length ∧ idxI q L = (j : Int) := by
  unfold idxI
  rw [if_pos h]
  exact ⟨_, List.idxOf_lt_length_of_mem h, rfl⟩
theorem idx_none {q : List Int} {L : List (List Int)} (h : ¬ q ∈ L) : idxI q L = -1 := by unfold idxI; rw [if_neg h]
theorem code_len {D : Int} {Hs Ss : List (List Int)} (h : codeB D Hs Ss = true) : Ss.length = Hs.length := by
  unfold codeB at h
  simp only [Bool.and_eq_true, decide_eq_true_eq] at h
  exact h.2.2.1
theorem enc_short (D : Int) (Hs Ss : List (List Int)) (h : List Int) (hs : ∀ q ∈ Ss, q.length ≤ 1048576) : (encV D Hs Ss h).length ≤ 1048576 := by
  unfold encV
  split
  · by_cases hi : (idxI h Hs).toNat < Ss.length
    · rw [List.getD_eq_getElem?_getD, List.getElem?_eq_getElem hi]
      exact hs _ (List.getElem_mem _)
    · rw [List.getD_eq_getElem?_getD, List.getElem?_eq_none (by omega)]
      exact Nat.zero_le _
  · exact Nat.zero_le _
theorem ilb_nil {w W : World} {D : Int} {Hs Ss : List (List Int)} {h : List Int} (he : encB D Hs Ss h = false) (hb : Below w.heap.size w W) : Pfn.IsILB w.heap.size (encV D Hs Ss h) (encB D Hs Ss h) w (.returned (.tuple #[.slice none 0 0, .bool false])) W := by
  unfold encV
  rw [he]
  exact ⟨none, 0, rfl, World.ownsRow_nil _ _ _ _, hb⟩
set_option maxHeartbeats 2000000 in
theorem impl_enc {lo hi : Nat} (D : Int) (A : Option Addr) (n c : Nat) (A2 : Option Addr) (m c2 : Nat) (rs r2 : List RD) (Ah : Option Addr) (nh ch : Nat) (h : List Int) (w : World) (hD1 : -9223372036854775808 ≤ D) (hD2 : D ≤ 9223372036854775807) (hcr : CR w lo hi A n c rs A2 m c2 r2)
    (hz : ∀ i, i < n → (rs.getD i rd0).zs.length ≤ 1048576) (hz2 : ∀ i, i < m → (r2.getD i rd0).zs.length ≤ 1048576 ∧ Fits (r2.getD i rd0).zs) (hn2 : n ≤ 1048576) (hh : h.length = nh) (hh2 : nh ≤ 1048576) (hat : IntsAt w w.heap.size .i64 Ah h) :
    Calls Try.prog 11 #[coV D A n c A2 m c2, .slice Ah nh ch] w (Pfn.IsILB w.heap.size (encV D (rs.map RD.zs) (r2.map RD.zs) h) (encB D (rs.map RD.zs) (r2.map RD.zs) h) w) := by
  obtain ⟨W, hW, ba, bb, bc, hb0, hs0⟩ := box3 w (.int .i64 D) (.slice A n c) (.slice A2 m c2)
  have HB0 := Lib.hid hb0
  obtain ⟨mid, q1, q2, _⟩ := hcr
  have hn := q1.len
  have hm := q2.len
  have HP := Lib.hid (place_any A Ah n c nh ch rs h W hn (ll_below (ll_of_ss q1) hb0) hz hn2 hh hh2 ((hat.below hb0).more hb0.size))
  have HC := fun V (hb : Below W.heap.size W V) => Lib.hid (impl_code D A n c A2 m c2 rs r2 V hD1 hD2 hn hm (ll_below (ll_below (ll_of_ss q1) hb0) hb) (ll_below (ll_below (ll_of_ss q2) hb0) hb) hz hz2 hn2)
  have HL2 := Lib.hid (ll_below (ll_of_ss q2) hb0)
  have HN := Lib.hid hn
  have HM := Lib.hid hm
  have HZ2 := Lib.hid hz2
  have hlen : codeB D (rs.map RD.zs) (r2.map RD.zs) = true → m = n := fun hc => by
    have := code_len hc
    rw [List.length_map, List.length_map, hn, hm] at this
    exact this
  obtain ⟨CB, hCB⟩ : ∃ b, b = codeB D (rs.map RD.zs) (r2.map RD.zs) := ⟨_, rfl⟩
  rw [← hCB] at HC hlen
  have HCB := Lib.hid hCB.symm
  obtain ⟨X, hX⟩ : ∃ x, x = idxI h (rs.map RD.zs) := ⟨_, rfl⟩
  rw [← hX] at HP
  have HX := Lib.hid hX.symm
  clear q1 q2 hb0 hz hz2 hat hn hm hCB hX hh
  by_cases hmem : h ∈ rs.map RD.zs
  · obtain ⟨j, hj, hxj⟩ := idx_mem hmem
    rw [HX.out] at hxj
    rw [List.length_map, HN.out] at hj
    have hx0 : decide (X < 0) = false := decide_eq_false (by omega)
    cases hcb : CB with
    | false =>
      have HE := Lib.hid (fun V (hb : Below w.heap.size w V) => ilb_nil (w := w) (W := V) (h := h) (show encB D (rs.map RD.zs) (r2.map RD.zs) h = false by unfold encB; rw [HCB.out, hcb]; rfl) hb)
      subst hcb
      clear hlen hmem hxj hj
      go_enter Try.func11, Try.ntmps11
      go_upto_region 1 with fail
      rw [← hW]
      clear hW
      go_wp2_with fail
      refine HP.out.mono ?_
      rintro e w1 ⟨rfl, hb1⟩
      replace ba := (hb1.cell (p := ⟨w.heap.size, 0, none⟩) hs0).trans ba
      replace bb := (hb1.cell (p := ⟨w.heap.size, 1, none⟩) hs0).trans bb
      replace bc := (hb1.cell (p := ⟨w.heap.size, 2, none⟩) hs0).trans bc
      have HB1 := Lib.hid (HB0.out.trans (hb1.mono HB0.out.size))
      have HCC := HC w1 hb1
      clear hb1
      go_wp2_with fail
      refine HCC.out.mono ?_
      rintro e w2 ⟨rfl, hb2⟩
      have HB2 := Lib.hid (HB1.out.trans (hb2.mono HB1.out.size))
      clear hb2
      go_wp2
      go_ret2
      exact HE.out _ HB2.out
    | true =>
      have hmn := hlen hcb
      have hjm : j < m := by omega
      clear hmn
      obtain ⟨b2, o2, rfl, hcs, his⟩ := HL2.out j (by rw [HM.out]; omega)
      have hzj := (HZ2.out j (by omega)).1
      have HV := Lib.hid (show encV D (rs.map RD.zs) (r2.map RD.zs) h = (r2.getD j rd0).zs ∧ encB D (rs.map RD.zs) (r2.map RD.zs) h = true by
        have hb : encB D (rs.map RD.zs) (r2.map RD.zs) h = true := by unfold encB; rw [HCB.out, hcb, decide_eq_true hmem]; rfl
        refine ⟨?_, hb⟩
        unfold encV
        rw [if_pos hb, HX.out, hxj, Int.toNat_natCast]
        exact zs_get r2 (by rw [HM.out]; omega))
      obtain ⟨R, hR⟩ : ∃ R, R = encV D (rs.map RD.zs) (r2.map RD.zs) h := ⟨_, rfl⟩
      obtain ⟨RB, hRB⟩ : ∃ R, R = encB D (rs.map RD.zs) (r2.map RD.zs) h := ⟨_, rfl⟩
      rw [← hR, ← hRB] at HV ⊢
      simp only [RD.v] at hcs
      generalize r2.getD j rd0 = rj at *
      obtain ⟨Aj, dj, zj⟩ := rj
      simp only at hcs his hzj HV
      have HI := Lib.hid his
      obtain ⟨nj, hnj⟩ : ∃ k, k = zj.length := ⟨_, rfl⟩
      rw [← hnj] at hcs hzj
      have HNJ := Lib.hid hnj.symm
      subst hcb hxj
      clear hlen hmem hR hRB his hnj hx0
      go_enter Try.func11, Try.ntmps11
      go_upto_region 1 with fail
      rw [← hW]
      clear hW
      go_wp2_with fail
      refine HP.out.mono ?_
      rintro e w1 ⟨rfl, hb1⟩
      replace ba := (hb1.cell (p := ⟨w.heap.size, 0, none⟩) hs0).trans ba
      replace bb := (hb1.cell (p := ⟨w.heap.size, 1, none⟩) hs0).trans bb
      replace bc := (hb1.cell (p := ⟨w.heap.size, 2, none⟩) hs0).trans bc
      have HB1 := Lib.hid (HB0.out.trans (hb1.mono HB0.out.size))
      have HCC := HC w1 hb1
      have hcs1 := (hb1.cell (World.block_lt_of_cell? W _ hcs)).trans hcs
      have HI1 := Lib.hid ((HI.out.below hb1).more hb1.size)
      have hs1 := hb1.size
      clear hb1 hcs
      go_wp2_with fail
      refine HCC.out.mono ?_
      rintro e w2 ⟨rfl, hb2⟩
      have bc2 := (hb2.cell (p := ⟨w.heap.size, 2, none⟩) (by show w.heap.size < _; omega)).trans bc
      have hcs2 := (hb2.cell (World.block_lt_of_cell? w1 _ hcs1)).trans hcs1
      have HB2 := Lib.hid (HB1.out.trans (hb2.mono HB1.out.size))
      have HCL := Lib.hid (Lb.clone_any Aj nj dj zj w2 HNJ.out hzj ((HI1.out.below hb2).more hb2.size))
      clear hb2 bc hcs1
      go_wp2_with fail
      refine HCL.out.mono ?_
      rintro e w3 ⟨A3, c3, rfl, ho3, hb3⟩
      have HO3 := Lib.hid (own_mono ho3 HB2.out.size)
      have HB3 := Lib.hid (HB2.out.trans (hb3.mono HB2.out.size))
      clear ho3 hb3
      go_wp2
      go_ret2
      rw [HV.out.1, HV.out.2]
      exact ⟨A3, c3, rfl, HO3.out, HB3.out⟩
  · have hx1 : X = -1 := by rw [← HX.out]; exact idx_none hmem
    have HE := Lib.hid (fun V (hb : Below w.heap.size w V) => ilb_nil (w := w) (W := V) (h := h) (show encB D (rs.map RD.zs) (r2.map RD.zs) h = false by unfold encB; rw [decide_eq_false hmem, Bool.and_false]) hb)
    subst hx1
    clear hmem hlen
    go_enter Try.func11, Try.ntmps11
    go_upto_region 1 with fail
    rw [← hW]
    clear hW
    go_wp2_with fail
    refine HP.out.mono ?_
    rintro e w1 ⟨rfl, hb1⟩
    have HB1 := Lib.hid (HB0.out.trans (hb1.mono HB0.out.size))
    clear hb1
    go_wp2
    go_ret2
    exact HE.out _ HB1.out
end Go.Proofs.Ytefgcnjbiaileaa.Hen
