/- FaroPerm and FaroOrder of the program and of the model. -/
import Derived.Test.YtpbpgpccjabghaaFsz
import Derived.Test.YtpbpgpccjabghaaPa
import Derived.Test.YtpbpgpccjabghaaOrd
set_option linter.unusedVariables false
set_option maxRecDepth 20000
namespace Go.Proofs.Ytpbpgpccjabghaa.Fpm
open Go.RowKit Fr Own Pk Pok Arr Ins Nwp Pfn Rws Lb Cat Mvp Mv1 Mv2 Mv3 Mv4 Mk Mok2 Pf Sv Sv2 Sv3 Do Pa Fsz Prm Cyc _root_.Go.Proofs.Ytpbpgpccjabghaa.Ord

def fpB (n k : Int) : Bool := szB n && mvB n 4 k
def fpF (n k : Int) : List Int := if fpB n k then pomF n 4 k else []
theorem fpF_no {n k : Int} (h : fpB n k = false) : fpF n k = [] := by unfold fpF; rw [h]; rfl
theorem fpF_yes {n k : Int} (h : fpB n k = true) : fpF n k = pomF n 4 k := by unfold fpF; rw [h]; rfl
theorem fpF_short (n k : Int) : (fpF n k).length ≤ 1048576 := by
  unfold fpF
  split
  · exact pom_short n 4 k
  · exact Nat.zero_le _
theorem mv_k {n k : Int} (h : szB n = true) : mvB n 4 k = decide (0 ≤ k ∧ k ≤ 1) := by
  obtain ⟨h1, h2, h3⟩ := sz_parts h
  unfold mvB
  rw [decide_eq_true (show 1 ≤ n ∧ n ≤ 12 by omega), Bool.true_and, show kOk (4 : Int).toNat k.toNat n.toNat = decide (k.toNat ≤ 1) from rfl, Bool.eq_iff_iff]
  simp only [Bool.and_eq_true, decide_eq_true_eq]
  omega
theorem fp_chk : ((List.range 13).all fun n => (List.range 2).all fun k => pomF (n : Int) 4 (k : Int) == (if n = 0 then [] else faroL (imarks 0 n) k)) = true := by kernel_rfl
theorem fp_eq {n k : Nat} (h0 : 1 ≤ n) (h12 : n ≤ 12) (hk : k ≤ 1) : faroL (imarks 0 n) k = pomF (n : Int) 4 (k : Int) := by
  have h := List.all_eq_true.1 (List.all_eq_true.1 fp_chk n (List.mem_range.2 (by omega))) k (List.mem_range.2 (by omega))
  rw [if_neg (by omega)] at h
  exact (eq_of_beq h).symm

set_option maxHeartbeats 1000000 in
theorem impl_fp (n k : Int) (w : World) (h1 : -9223372036854775808 ≤ n) (h2 : n ≤ 9223372036854775807) :
    Calls Try.prog 16 #[.int .i64 n, .int .i64 k] w (IsILB w.heap.size (fpF n k) (fpB n k) w) := by
  cases hs : szB n with
  | false =>
    have hb : fpB n k = false := by unfold fpB; rw [hs]; rfl
    rw [fpF_no hb, hb]
    have HS := Lib.hid hs
    clear hs hb
    go_enter Try.func16, Try.ntmps16
    go_wp2_with fail
    refine (impl_sz n _ h1 h2).mono ?_
    rintro e w1 ⟨rfl, rfl⟩
    rw [HS.out]
    go_wp2
    go_ret2
    exact nil_ilb _ _
  | true =>
    have hb : fpB n k = mvB n 4 k := by unfold fpB; rw [hs]; rfl
    have hf : fpF n k = pomF n 4 k := by
      cases hm : mvB n 4 k with
      | true => exact fpF_yes (hb.trans hm)
      | false => rw [fpF_no (hb.trans hm), pomF_no hm]
    rw [hf, hb]
    have HS := Lib.hid hs
    clear hs hb hf
    go_enter Try.func16, Try.ntmps16
    go_wp2_with fail
    refine (impl_sz n _ h1 h2).mono ?_
    rintro e w1 ⟨rfl, rfl⟩
    rw [HS.out]
    go_wp2_with fail
    refine (impl_pom n 4 k _ h1 h2).mono ?_
    rintro e w2 ⟨A2, c2, rfl, ho, hb⟩
    have HO := Lib.hid ho
    clear ho
    go_wp2
    go_ret2
    exact ⟨A2, c2, rfl, HO.out, hb⟩

set_option maxHeartbeats 1000000 in
theorem spec_l08p (n : Nat) (k : Nat) (w : World) (h0 : 1 ≤ n) (h12 : n ≤ 12) (hk : k ≤ 1) :
    Calls Try.prog 65 #[.int .i64 n, .int .i64 k] w (IsIL w.heap.size (pomF n 4 k) w) := by
  have HE := Lib.hid (fp_eq h0 h12 hk)
  have HN := Lib.hid (newF_yes n h12)
  have HL := Lib.hid (imarks_length 0 n)
  have hkv : ((k : Int) = 0 ∧ k = 0) ∨ ((k : Int) = 1 ∧ k = 1) := by omega
  have HKV := Lib.hid hkv
  clear hkv
  have hn1 : (-9223372036854775808 : Int) ≤ (n : Int) := by omega
  have hn2 : (n : Int) ≤ 9223372036854775807 := by omega
  go_enter Try.func65, Try.ntmps65
  go_wp2_with fail
  refine (Nwp.spec_new n _ hn1 hn2).mono ?_
  rintro e w1 ⟨A1, c1, rfl, ho1, hb1⟩
  rw [HN.out] at ho1
  rw [HN.out, HL.out]
  have HO1 := Lib.hid ho1
  have HB1 := Lib.hid hb1
  clear ho1 hb1
  have HO2 : Hid (w1.ownsRow w.heap.size 3 1 (.slice A1 n c1) n (vals (imarks 0 n))) := by have h := HO1.out; rw [HL.out] at h; exact h
  go_wp2_with fail
  refine (spec_faro_at A1 n c1 k k (imarks 0 n) w1 HL.out h0 h12 (row_cap HO2.out) HKV.out (ints_of HO2.out)).mono ?_
  rintro e w2 ⟨A2, c2, rfl, ho, hb⟩
  rw [HE.out] at ho
  rw [HE.out]
  have HO := Lib.hid (own_mono ho HB1.out.size)
  have HB := Lib.hid (HB1.out.trans (hb.mono HB1.out.size))
  clear ho hb
  go_wp2
  go_ret
  exact ⟨A2, c2, rfl, HO.out, HB.out⟩

set_option maxHeartbeats 1000000 in
theorem spec_fp (n k : Int) (w : World) (h1 : -9223372036854775808 ≤ n) (h2 : n ≤ 9223372036854775807) :
    Calls Try.prog 27 #[.int .i64 n, .int .i64 k] w (IsILB w.heap.size (fpF n k) (fpB n k) w) := by
  cases hs : szB n with
  | false =>
    have hb : fpB n k = false := by unfold fpB; rw [hs]; rfl
    rw [fpF_no hb, hb]
    have HS := Lib.hid hs
    clear hs hb
    go_enter Try.func27, Try.ntmps27
    go_wp2_with fail
    refine (spec_sz n _ h1 h2).mono ?_
    rintro e w1 ⟨rfl, rfl⟩
    rw [HS.out]
    go_wp2
    go_ret2
    exact nil_ilb _ _
  | true =>
    have hmk := mv_k (k := k) hs
    by_cases hk : 0 ≤ k ∧ k ≤ 1
    · have hb : fpB n k = true := by unfold fpB; rw [hs, hmk, decide_eq_true hk]; rfl
      rw [fpF_yes hb, hb]
      obtain ⟨p1, p2, p3⟩ := sz_parts hs
      obtain ⟨m, rfl⟩ : ∃ m : Nat, n = m := ⟨n.toNat, by omega⟩
      obtain ⟨j, rfl⟩ : ∃ j : Nat, k = j := ⟨k.toNat, by omega⟩
      have hm0 : 1 ≤ m := by omega
      have hm12 : m ≤ 12 := by omega
      have hj : j ≤ 1 := by omega
      have HK := Lib.hid hk
      have HS := Lib.hid hs
      clear hs hb hmk hk p1 p2 p3
      go_enter Try.func27, Try.ntmps27
      go_wp2_with fail
      refine (spec_sz _ _ h1 h2).mono ?_
      rintro e w1 ⟨rfl, rfl⟩
      rw [HS.out]
      go_wp2_with fail
      refine (in_yes _ 0 1 _ HK.out.1 HK.out.2).mono ?_
      rintro e w' ⟨rfl, rfl⟩
      go_wp2_with fail
      refine (spec_l08p m j _ hm0 hm12 hj).mono ?_
      rintro e w2 ⟨A2, c2, rfl, ho, hb⟩
      have HO := Lib.hid ho
      clear ho
      go_wp2
      go_ret2
      exact ⟨A2, c2, rfl, HO.out, hb⟩
    · have hb : fpB n k = false := by unfold fpB; rw [hs, hmk, decide_eq_false hk]; rfl
      rw [fpF_no hb, hb]
      have HK := Lib.hid hk
      have HS := Lib.hid hs
      clear hs hb hmk hk
      go_enter Try.func27, Try.ntmps27
      go_wp2_with fail
      refine (spec_sz n _ h1 h2).mono ?_
      rintro e w1 ⟨rfl, rfl⟩
      rw [HS.out]
      go_wp2_with fail
      refine (in_no _ 0 1 _ HK.out).mono ?_
      rintro e w' ⟨rfl, rfl⟩
      go_wp2
      go_ret2
      exact nil_ilb _ _

/-! ### FaroOrder -/
def foF (n k : Int) : Nat := if fpB n k then ordF (pomF n 4 k) else 0
theorem foF_no {n k : Int} (h : fpB n k = false) : foF n k = 0 := by unfold foF; rw [h]; rfl
theorem foF_yes {n k : Int} (h : fpB n k = true) : foF n k = ordF (pomF n 4 k) := by unfold foF; rw [h]; rfl
theorem pom_chk : ((List.range 13).all fun n => (List.range 2).all fun k => n == 0 || (permB (pomF (n : Int) 4 (k : Int)) && (pomF (n : Int) 4 (k : Int)).length == n)) = true := by kernel_rfl
theorem fp_parts {n k : Int} (h : fpB n k = true) : ∃ m j : Nat, n = m ∧ k = j ∧ 2 ≤ m ∧ m ≤ 12 ∧ m % 2 = 0 ∧ j ≤ 1 := by
  unfold fpB at h
  rw [Bool.and_eq_true] at h
  obtain ⟨h1, h2, h3⟩ := sz_parts h.1
  have h4 := h.2
  rw [mv_k h.1, decide_eq_true_eq] at h4
  exact ⟨n.toNat, k.toNat, by omega, by omega, by omega, by omega, by omega, by omega⟩
theorem pom_good {n k : Nat} (h0 : 1 ≤ n) (h12 : n ≤ 12) (hk : k ≤ 1) : permB (pomF (n : Int) 4 (k : Int)) = true ∧ (pomF (n : Int) 4 (k : Int)).length = n := by
  have h := List.all_eq_true.1 (List.all_eq_true.1 pom_chk n (List.mem_range.2 (by omega))) k (List.mem_range.2 (by omega))
  simp only [Bool.or_eq_true, beq_iff_eq, Bool.and_eq_true] at h
  rcases h with h | h
  · omega
  · exact h
theorem perm_fits {zs : List Int} (h : permB zs = true) : Fits zs := by
  obtain ⟨h1, h2⟩ := permB_yes h
  intro i hi
  have := (h2 i hi).1
  omega

set_option maxHeartbeats 1000000 in
theorem impl_fo (n k : Int) (w : World) (h1 : -9223372036854775808 ≤ n) (h2 : n ≤ 9223372036854775807) :
    Calls Try.prog 17 #[.int .i64 n, .int .i64 k] w fun e w' => e = .returned (.int .i64 (foF n k : Nat)) ∧ Below w.heap.size w w' := by
  cases hb : fpB n k with
  | false =>
    rw [foF_no hb]
    have HB := Lib.hid hb
    clear hb
    go_enter Try.func17, Try.ntmps17
    go_wp2_with fail
    refine (impl_fp n k _ h1 h2).mono ?_
    rintro e w1 ⟨A1, c1, rfl, ho, hbb⟩
    rw [HB.out]
    clear ho
    go_wp2
    go_ret
    exact ⟨rfl, hbb⟩
  | true =>
    rw [foF_yes hb]
    have HF := Lib.hid (fpF_yes hb)
    obtain ⟨m, j, rfl, rfl, hm2, hm12, _, hj⟩ := fp_parts hb
    obtain ⟨hp, hl⟩ := pom_good (n := m) (k := j) (by omega) hm12 hj
    have HL := Lib.hid hl
    have HP := Lib.hid (perm_fits hp)
    have HB := Lib.hid hb
    clear hb hp hl
    go_enter Try.func17, Try.ntmps17
    go_wp2_with fail
    refine (impl_fp _ _ _ h1 h2).mono ?_
    rintro e w1 ⟨A1, c1, rfl, ho, hbb⟩
    rw [HB.out, HF.out, HL.out]
    rw [HF.out, HL.out] at ho
    have HO := Lib.hid ho
    have HBB := Lib.hid hbb
    clear ho hbb
    go_wp2_with fail
    refine (Ord.impl_ord A1 m c1 _ _ HL.out (by omega) HP.out (ints_of HO.out)).mono ?_
    rintro e w2 ⟨rfl, hb2⟩
    have HB2 := Lib.hid (HBB.out.trans (hb2.mono HBB.out.size))
    clear hb2
    go_wp2
    go_ret
    exact ⟨rfl, HB2.out⟩

set_option maxHeartbeats 1000000 in
theorem spec_fo (n k : Int) (w : World) (h1 : -9223372036854775808 ≤ n) (h2 : n ≤ 9223372036854775807) :
    Calls Try.prog 31 #[.int .i64 n, .int .i64 k] w fun e w' => e = .returned (.int .i64 (foF n k : Nat)) ∧ Below w.heap.size w w' := by
  cases hb : fpB n k with
  | false =>
    rw [foF_no hb]
    have HB := Lib.hid hb
    clear hb
    go_enter Try.func31, Try.ntmps31
    go_wp2_with fail
    refine (spec_fp n k _ h1 h2).mono ?_
    rintro e w1 ⟨A1, c1, rfl, ho, hbb⟩
    rw [HB.out]
    clear ho
    go_wp2
    go_ret
    exact ⟨rfl, hbb⟩
  | true =>
    rw [foF_yes hb]
    have HF := Lib.hid (fpF_yes hb)
    obtain ⟨m, j, rfl, rfl, hm2, hm12, _, hj⟩ := fp_parts hb
    obtain ⟨hp, hl⟩ := pom_good (n := m) (k := j) (by omega) hm12 hj
    have HL := Lib.hid hl
    have HP := Lib.hid (perm_fits hp)
    have HB := Lib.hid hb
    clear hb hp hl
    go_enter Try.func31, Try.ntmps31
    go_wp2_with fail
    refine (spec_fp _ _ _ h1 h2).mono ?_
    rintro e w1 ⟨A1, c1, rfl, ho, hbb⟩
    rw [HB.out, HF.out, HL.out]
    rw [HF.out, HL.out] at ho
    obtain ⟨g, rfl⟩ := own_shape ho (by omega)
    have HO := Lib.hid ho
    have HBB := Lib.hid hbb
    clear ho hbb
    go_wp2_with fail
    refine (Ord.spec_ord _ m c1 _ _ g rfl HL.out (row_cap HO.out) (by omega) HP.out (ints_of HO.out)).mono ?_
    rintro e w2 ⟨rfl, hb2⟩
    have HB2 := Lib.hid (HBB.out.trans (hb2.mono HBB.out.size))
    clear hb2
    go_wp2
    go_ret
    exact ⟨rfl, HB2.out⟩
end Go.Proofs.Ytpbpgpccjabghaa.Fpm
