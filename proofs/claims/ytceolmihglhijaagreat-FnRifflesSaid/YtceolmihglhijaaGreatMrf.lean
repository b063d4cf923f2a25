/- How the laws draw a riffle's result (MakeRiffle). -/
import Derived.Test.YtceolmihglhijaaGreatRfl
import Derived.Test.YtceolmihglhijaaGreatMkp
set_option linter.unusedVariables false
set_option maxRecDepth 20000
namespace Go.Proofs.YtceolmihglhijaaGreat.Mrf
open Go.RowKit Fr _root_.Go.Proofs.YtceolmihglhijaaGreat.Own Pk Pok Ins Prm Pfn Rws Cur Mkp Wv Srt Big Sof So2 So5 Rsw Rfl

theorem okM_im {m : Nat} (h1 : 1 ≤ m) (hm : m ≤ 7) : okM 2 (imarks 0 m) = true := by
  have : ((List.range 8).all fun n => n == 0 || okM 2 (imarks 0 n)) = true := by kernel_rfl
  have h := at_n this hm
  have h0 : (m == 0) = false := by simp; omega
  simp only [h0, Bool.false_or] at h
  exact h
theorem cano_rif (zs : List Int) : cano (ofM 2 zs) = cano (rifI zs) := cano_same fun z => rif_mem zs z
def RifMade (w : World) (e : Ending) (w' : World) : Prop :=
  ∃ A2 m c2 zs, e = .returned (.slice A2 m c2) ∧ zs.length = m ∧ 1 ≤ m ∧ m ≤ 7 ∧ isrF zs = true ∧ w'.ownsRow w.heap.size 3 1 (.slice A2 m c2) m (vals zs) ∧ Below w.heap.size w w'
set_option maxHeartbeats 2000000 in
theorem make_riffle (A : Option Addr) (n cap : Nat) (w : World) (hn : n ≤ 1048576) (hbytes : BytesAt w w.heap.size A n) :
    Calls Tryz.prog 4 #[.slice A n cap] w (RifMade w) := by
  go_enter Tryz.func4, Tryz.ntmps4
  go_wp2_with fail
  refine (new_any A n cap _ hn hbytes).mono ?_
  rintro e w1 ⟨c, rfl, hwc, hcur, hb1⟩
  have hby := hbytes.below hb1
  have hsz := hb1.size
  have hc1 := hcur.lt
  go_wp2_with fail
  refine (below_any w.heap.size c A n cap 7 _ (by omega) (by omega) hn hwc hcur hby).mono ?_
  rintro e w2 ⟨x, rfl, hx0, hx1, hc2, ho2⟩
  have T2 := hb1.trans (ho2.below hwc)
  have hs2 := ho2.size
  have hby2 := hby.below (ho2.below hwc)
  obtain ⟨m, hm⟩ : ∃ m : Nat, 1 + x = (m : Int) := ⟨(1 + x).toNat, by omega⟩
  have hm1 : 1 ≤ m := by omega
  have hm7 : m ≤ 7 := by omega
  go_wp2_with fail
  clear hm hx0 hx1
  refine (Nwp.spec_new (m : Int) _ (by omega) (by omega)).mono ?_
  rintro e w3 ⟨A3, c3, rfl, hown, hb3⟩
  rw [Nwp.newF_yes m (by omega), imarks_length] at hown
  rw [Nwp.newF_yes m (by omega), imarks_length]
  have hcp := own_cap hown
  have hs3 := hb3.size
  have r3 := Ins.Row.mk hown
  have hc3 := hc2.below hb3 (by omega)
  have T3 := T2.trans (hb3.mono (by omega))
  have hby3 := hby2.below (hb3.mono (by omega))
  clear hown
  go_wp2_with fail
  refine (of_any 2 A3 m c3 (imarks 0 m) _ (imarks_length 0 m) hcp r3.at_ (okM_im hm1 hm7)).mono ?_
  rintro e w4 h4
  obtain ⟨A4, c4, rs, rfl, hl4, hz4, hat4, hok4, hcap4, hb4⟩ := of_big h4
  clear h4
  have hs4 := hb4.size
  have hc4 := hc3.below hb4 (by omega)
  have T4 := T3.trans (hb4.mono (by omega))
  have hby4 := hby3.below (hb4.mono (by omega))
  have hbig := ofM_len (okM_im hm1 hm7)
  have hlt := hcur.lt
  obtain ⟨N, hN⟩ : ∃ N, N = (cano (rifI (imarks 0 m))).length := ⟨_, rfl⟩
  have hNN := (res_n hm1 hm7).2
  rw [← hN] at hNN
  have hN2 : 1 ≤ N ∧ N ≤ 128 := by
    have : m = 1 ∨ m = 2 ∨ m = 3 ∨ m = 4 ∨ m = 5 ∨ m = 6 ∨ m = 7 := by omega
    rcases this with rfl | rfl | rfl | rfl | rfl | rfl | rfl <;> simp at hNN <;> omega
  have hcz : cano (rs.map RD.zs) = cano (rifI (imarks 0 m)) := by rw [hz4, cano_rif]
  have HN := Lib.hid hN
  clear hNN hN
  go_wp2_with fail
  refine (Sps.sort_any (ofM 2 (imarks 0 m)).length A4 c4 rs _ hl4 hat4 hok4 hcap4 (by omega)).mono ?_
  rintro e w5 ⟨A5, c5, rs5, rfl, hz5, h5, hb5⟩
  rw [hcz] at hz5 h5
  rw [hcz]
  rw [← HN.out] at h5
  rw [← HN.out]
  have hs5 := hb5.size
  have hc5 := hc4.below hb5 (by omega)
  have T5 := T4.trans (hb5.mono (by omega))
  have hby5 := hby4.below (hb5.mono (by omega))
  clear hcz hz4 hl4 hat4 hok4 hcap4 hbig
  go_wp2_with fail
  refine (below_any w.heap.size c A n cap (N : Int) _ (by omega) (by omega) hn hwc hc5 hby5).mono ?_
  rintro e w6 ⟨y, rfl, hy0, hy1, hc6, ho6⟩
  obtain ⟨i, rfl⟩ : ∃ i : Nat, y = (i : Int) := ⟨y.toNat, by omega⟩
  have hi : i < N := by omega
  have h6 := h5.grown (only_grown ho6) (fun k hk => by simp only [Option.some.injEq] at hk; omega)
  obtain ⟨g, rfl, hca⟩ := h6.cell i hi
  have hri := h6.2.1 i (by rw [h6.len]; exact hi)
  obtain ⟨zi, hzi⟩ : ∃ z, z = (rs5.getD i rd0).zs := ⟨_, rfl⟩
  have hmem : zi ∈ rifI (imarks 0 m) := by
    refine (cano_mem _ _).1 ?_
    rw [← hz5, hzi, List.getD_eq_getElem?_getD, List.getElem?_eq_getElem (by rw [h6.len]; exact hi)]
    exact List.mem_map.2 ⟨_, List.getElem_mem _, rfl⟩
  have hzl := rif_len hmem
  have hisr := rif_isr hm7 hmem
  simp only [RD.v] at hca
  rw [← hzi, hzl] at hca hri
  generalize (rs5.getD i rd0).A = Ai at *
  generalize (rs5.getD i rd0).c = ci at *
  have HO := Lib.hid (own_mono hri.own (show w.heap.size ≤ w4.heap.size by omega))
  have T6 := Lib.hid (T5.trans (ho6.below hwc))
  have q1 : (0 : Int) ≤ (i : Int) := by omega
  have HZL := Lib.hid hzl
  clear hri h6 h5 T5 T4 T3 T2 hc6 hc5 hc4 hc3 hby hby2 hby3 hby4 hby5 hmem hzi hz5 hzl
  go_wp2
  go_ret
  exact ⟨Ai, m, ci, zi, rfl, HZL.out, hm1, hm7, hisr, HO.out, T6.out⟩
end Go.Proofs.YtceolmihglhijaaGreat.Mrf
