/- Perform of the model; PermOfMove of the program and of the model. -/
import Derived.Test.YtaacdhccebedmaaDo
set_option linter.unusedVariables false
set_option maxRecDepth 20000
namespace Go.Proofs.Ytaacdhccebedmaa.Pa
open Go.RowKit Fr Own Pk Pok Arr Ins Nwp Pfn Rws Lb Cat Mvp Mv1 Mv2 Mv3 Mv4 Mk Mok2 Pf Sv Sv2 Sv3 Do

theorem box_kept {w W : World} {kd k : Int} (hb : Below (w.alloc (.cells #[.int .i64 kd, .int .i64 k] 30)).heap.size (w.alloc (.cells #[.int .i64 kd, .int .i64 k] 30)) W) : W.cell? ⟨w.heap.size, 0, none⟩ = some (.int .i64 kd) ∧ W.cell? ⟨w.heap.size, 1, none⟩ = some (.int .i64 k) := by
  have h := heap_alloc_new w (.cells #[.int .i64 kd, .int .i64 k] 30)
  have hl := (Array.getElem?_eq_some_iff.1 h).1
  have h2 := (hb.block w.heap.size hl).trans h
  unfold World.cell?
  rw [h2]
  exact ⟨rfl, rfl⟩

/-! ### PermOfMove -/
def pomF (n kd k : Int) : List Int := if mvB n kd k then srcI kd.toNat k.toNat n.toNat else []
theorem pomF_yes {n kd k : Int} (h : mvB n kd k = true) : pomF n kd k = srcI kd.toNat k.toNat n.toNat := by unfold pomF; rw [if_pos h]
theorem pomF_no {n kd k : Int} (h : mvB n kd k = false) : pomF n kd k = [] := by unfold pomF; rw [h]; rfl
theorem pom_short (n kd k : Int) : (pomF n kd k).length ≤ 1048576 := by
  cases h : mvB n kd k with
  | true =>
    obtain ⟨h1, h2, h3, h4, h5, h6⟩ := mvB_parts h
    rw [pomF_yes h, srcI_len h6 (by omega) (by omega)]; omega
  | false => rw [pomF_no h]; exact Nat.zero_le _
theorem new_perf (n kd k : Int) : perfB (newF n) kd k = mvB n kd k := by
  by_cases h : 0 ≤ n ∧ n ≤ 12
  · have hl : ((newF n).length : Int) = n := by unfold newF; rw [if_pos h, imarks_length]; omega
    have ho : okB (newF n) = true := by unfold newF; rw [if_pos h]; exact new_ok _ (by omega)
    unfold perfB
    rw [ho, hl]; rfl
  · rw [newF_no n h, mvB_out (fun h2 => h ⟨by omega, h2.2.1⟩)]
    unfold perfB
    rw [show (([] : List Int).length : Int) = 0 from rfl, mvB_out (fun h2 => by omega), Bool.and_false]
theorem new_at {n kd k : Int} (h : mvB n kd k = true) : newF n = imarks 0 n.toNat ∧ perfF (newF n) kd k = moveF kd.toNat k.toNat (imarks 0 n.toNat) := by
  have hp := mvB_parts h
  have e : newF n = imarks 0 n.toNat := by unfold newF; rw [if_pos (by omega)]
  refine ⟨e, ?_⟩
  rw [perfF_yes (by rw [new_perf]; exact h), e]
theorem new_bet {n kd k : Int} (h : mvB n kd k = true) : betF (newF n) (perfF (newF n) kd k) = pomF n kd k ∧ arrB (newF n) (perfF (newF n) kd k) = true := by
  obtain ⟨h1, h2, h3, h4, h5, h6⟩ := mvB_parts h
  obtain ⟨e1, e2⟩ := new_at h
  rw [e2, e1, pomF_yes h]
  have hl := imarks_length 0 n.toNat
  have h6' : kOk kd.toNat k.toNat (imarks 0 n.toNat).length = true := by rw [hl]; exact h6
  have ho := new_ok n.toNat (by omega)
  refine ⟨?_, move_arr h6' (by omega) ho⟩
  rw [move_bet h6' (by omega) ho, hl]
theorem perf_fits {zs : List Int} {kd k : Int} (hz : Fits zs) : Fits (perfF zs kd k) := by
  cases h : perfB zs kd k with
  | true =>
    obtain ⟨h1, h2, h3, h4, h5, h6, h7⟩ := perf_parts h
    rw [perfF_yes h]
    exact move_fits h7 h2 h1
  | false => rw [perfF_no h]; intro i hi; simp at hi
theorem new_fits (n : Int) : Fits (newF n) := by
  by_cases h : 0 ≤ n ∧ n ≤ 12
  · have ho : okB (newF n) = true := by unfold newF; rw [if_pos h]; exact new_ok _ (by omega)
    exact ok_fits ho
  · rw [newF_no n h]; intro i hi; simp at hi
theorem new_short (n : Int) : (newF n).length ≤ 12 := by
  unfold newF
  split
  · rw [imarks_length]; omega
  · simp
theorem row_cap {w : World} {B : Nat} {A : Option Addr} {n c : Nat} {xs : List Value} (h : w.ownsRow B 3 1 (.slice A n c) n xs) : n ≤ c := by
  rcases own_full h with ⟨_, h1, h2⟩ | ⟨_, _, _, _, _, h2, _⟩
  · omega
  · exact h2
set_option maxHeartbeats 1000000 in
theorem impl_pom (n kd k : Int) (w : World) (hn1 : -9223372036854775808 ≤ n) (hn2 : n ≤ 9223372036854775807) :
    Calls Try.prog 35 #[.int .i64 n, .agg #[.int .i64 kd, .int .i64 k]] w (IsILB w.heap.size (pomF n kd k) (mvB n kd k) w) := by
  have HAL := Lib.hid ((Below.refl w.heap.size w).alloc (Nat.le_refl _) (.cells #[.int .i64 kd, .int .i64 k] 30))
  have HBX := Lib.hid (fun W hb => box_kept (w := w) (W := W) (kd := kd) (k := k) hb)
  have HNF := Lib.hid (new_fits n)
  have HNS := Lib.hid (new_short n)
  have HPB := Lib.hid (new_perf n kd k)
  have HPF := Lib.hid (perf_fits (kd := kd) (k := k) (new_fits n))
  have HPS := Lib.hid (perf_short (newF n) kd k)
  cases hmv : mvB n kd k with
  | false =>
    rw [pomF_no hmv]
    rw [hmv] at HPB
    go_enter Try.func35, Try.ntmps35
    go_wp2_with fail
    refine (Nwp.impl_new n _ hn1 hn2).mono ?_
    rintro e w1 ⟨A1, c1, rfl, ho1, hb1⟩
    obtain ⟨hc0, hc1⟩ := HBX.out w1 hb1
    have HBA := Lib.hid (HAL.out.trans (hb1.mono HAL.out.size))
    have HO1 := Lib.hid ho1
    clear hb1 ho1 hmv
    go_wp2_with fail
    refine (impl_perform A1 _ c1 kd k (newF n) w1 rfl (row_cap HO1.out) (by have := HNS.out; omega) HNF.out (ints_of HO1.out)).mono ?_
    rintro e w2 ⟨A2, c2, rfl, ho2, hb2⟩
    rw [HPB.out]
    have HBB := Lib.hid (HBA.out.trans (hb2.mono HBA.out.size))
    clear hb2 ho2
    go_wp2
    go_ret2
    exact nil_after HBB.out
  | true =>
    obtain ⟨hbf, hba⟩ := new_bet hmv
    rw [hmv] at HPB
    have HBF := Lib.hid hbf
    have HBA0 := Lib.hid hba
    go_enter Try.func35, Try.ntmps35
    go_wp2_with fail
    refine (Nwp.impl_new n _ hn1 hn2).mono ?_
    rintro e w1 ⟨A1, c1, rfl, ho1, hb1⟩
    obtain ⟨hc0, hc1⟩ := HBX.out w1 hb1
    have HBA := Lib.hid (HAL.out.trans (hb1.mono HAL.out.size))
    have HO1 := Lib.hid ho1
    clear hb1 ho1 hmv hbf hba
    go_wp2_with fail
    refine (impl_perform A1 _ c1 kd k (newF n) w1 rfl (row_cap HO1.out) (by have := HNS.out; omega) HNF.out (ints_of HO1.out)).mono ?_
    rintro e w2 ⟨A2, c2, rfl, ho2, hb2⟩
    rw [HPB.out]
    have HBB := Lib.hid (HBA.out.trans (hb2.mono HBA.out.size))
    have HO1b := Lib.hid (own_low HO1.out (fun b h => (own_lo HO1.out b h).2) hb2)
    have HO2 := Lib.hid ho2
    clear hb2 ho2
    go_wp2_with fail
    refine (Pfn.impl_bet A1 _ c1 (newF n) A2 _ c2 (perfF (newF n) kd k) _ rfl (by have := HNS.out; omega) HNF.out (ints_of HO1b.out) rfl (by have := HPS.out; omega) HPF.out (ints_of HO2.out)).mono ?_
    rintro e w3 ⟨A3, c3, rfl, ho3, hb3⟩
    rw [HBF.out] at ho3
    rw [HBF.out, HBA0.out]
    have HO3 := Lib.hid (own_mono ho3 HBB.out.size)
    have HBC := Lib.hid (HBB.out.trans (hb3.mono HBB.out.size))
    clear ho3 hb3
    go_wp2
    go_ret2
    exact ⟨A3, c3, rfl, HO3.out, HBC.out⟩
end Go.Proofs.Ytaacdhccebedmaa.Pa
