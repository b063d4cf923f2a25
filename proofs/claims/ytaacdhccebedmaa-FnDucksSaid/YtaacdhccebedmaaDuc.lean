/- LastIndex, LastByPower, DealOrder of the program and of the model. -/
import Derived.Test.YtaacdhccebedmaaDch
set_option linter.unusedVariables false
set_option maxRecDepth 20000
namespace Go.Proofs.Ytaacdhccebedmaa.Duc
open Go.RowKit Fr _root_.Go.Proofs.Ytaacdhccebedmaa.Own Pk Pok Arr Ins Nwp Prm Pfn Rws Lb Cat Mvp Mv1 Mv2 Mv3 Mv4 Mok2 Pf Sv Sv2 Sv3 Pa Duk Dch

theorem back_chk : ((List.range 13).all fun n => n == 0 || ((List.range 2).all fun k => (mapUp false ((dkL n k).take n).reverse ++ (dkL n k).drop n == (dkL n k).reverse) && (dkL n k).all fun x => decide (0 ≤ x ∧ x < 13))) = true := by kernel_rfl
theorem back_at {n k : Nat} (h1 : 1 ≤ n) (h12 : n ≤ 12) (hk : k ≤ 1) : mapUp false ((dkL n k).take n).reverse ++ (dkL n k).drop n = (dkL n k).reverse ∧ ∀ x ∈ dkL n k, 0 ≤ x ∧ x < 13 := by
  have h := List.all_eq_true.1 back_chk n (List.mem_range.2 (by omega))
  rw [Bool.or_eq_true] at h
  rcases h with h | h
  · have := eq_of_beq h; omega
  · have h := List.all_eq_true.1 h k (List.mem_range.2 (by omega))
    rw [Bool.and_eq_true] at h
    exact ⟨eq_of_beq h.1, fun x hx => of_decide_eq_true (List.all_eq_true.1 h.2 x hx)⟩
theorem back_dk {n k : Nat} (h1 : 1 ≤ n) (h12 : n ≤ 12) (hk : k ≤ 1) : mapUp false ((dkL n k).take n).reverse ++ (dkL n k).drop n = (dkL n k).reverse := (back_at h1 h12 hk).1
theorem fits_dk {n k : Nat} (h1 : 1 ≤ n) (h12 : n ≤ 12) (hk : k ≤ 1) : Fits (dkL n k) := fits_of fun z hz => wf_hi (by have := (back_at h1 h12 hk).2 z hz; omega) (by have := (back_at h1 h12 hk).2 z hz; omega)
theorem wrap_pw (m : Nat) : wrap64 ((2 : Int) ^ rl m) = ((pw m : Nat) : Int) := by
  rw [pw_rl]
  have h := rl_le m
  generalize rl m = r at *
  rcases (show r = 0 ∨ r = 1 ∨ r = 2 ∨ r = 3 by omega) with rfl | rfl | rfl | rfl <;> (rw [IntWalk.wrap64_in _ (by decide)]; rfl)
theorem pw_stop {m q : Nat} (h12 : m ≤ 12) (hq : q = 1 ∨ q = 2 ∨ q = 4 ∨ q = 8) (h1 : q ≤ m) (h2 : m < 2 * q) : q = pw m := by
  unfold pw
  repeat (split <;> try omega)
theorem kv_of {j : Nat} (h : j ≤ 1) : ((j : Int) = 0 ∧ j = 0) ∨ ((j : Int) = 1 ∧ j = 1) := by omega
set_option maxHeartbeats 1000000 in
theorem spec_last (n k : Int) (w : World) (h1 : -9223372036854775808 ≤ n) (h2 : n ≤ 9223372036854775807) :
    Calls Try.prog 18 #[.int .i64 n, .int .i64 k] w fun e w' => e = .returned (.int .i64 (lastF n k)) ∧ Below w.heap.size w w' := by
  cases hd : dkB n k with
  | false =>
    rw [last_no hd]
    have HD := Lib.hid hd
    clear hd
    go_enter Try.func18, Try.ntmps18
    go_wp2_with fail
    refine (spec_l09 n k _).mono ?_
    rintro e w1 ⟨rfl, rfl⟩
    rw [HD.out]
    go_wp2
    go_ret
    exact ⟨rfl, Below.refl _ _⟩
  | true =>
    obtain ⟨m, j, rfl, rfl, p1, p2, p3⟩ := dk_parts hd
    rw [last_yes hd]
    have HD := Lib.hid hd
    have HNF := Lib.hid (newF_yes m p2)
    have HNL := Lib.hid (imarks_length 0 m)
    have HDL := Lib.hid (duck_list p2 p3)
    have HDN := Lib.hid (dkL_len p1 p2 p3)
    clear hd
    go_enter Try.func18, Try.ntmps18
    go_wp2_with fail
    refine (spec_l09 _ _ _).mono ?_
    rintro e w1 ⟨rfl, rfl⟩
    rw [HD.out]
    go_wp2_with fail
    refine (spec_new (m : Int) _ h1 h2).mono ?_
    rintro e w2 ⟨A2, c2, rfl, ho2, hb2⟩
    rw [HNF.out, HNL.out] at ho2
    rw [HNF.out, HNL.out]
    have HO2 := Lib.hid ho2
    have HB2 := Lib.hid hb2
    clear ho2 hb2
    go_wp2_with fail
    refine (spec_duck_at A2 m c2 j (j : Int) (imarks 0 m) w2 HNL.out p1 p2 (kv_of p3) (ints_of HO2.out)).mono ?_
    rintro e w3 ⟨A3, c3, rfl, ho3, hb3⟩
    rw [HDL.out, HDN.out] at ho3
    rw [HDL.out, HDN.out]
    obtain ⟨g, rfl⟩ := own_shape ho3 p1
    have HB3 := Lib.hid (HB2.out.trans (hb3.mono HB2.out.size))
    obtain ⟨b, o, he, hbb, hcz⟩ := ints_of ho3 0 (by rw [HDN.out]; exact p1)
    clear ho3 hb3
    injection he with he
    injection he with he1 he2
    subst he1 he2
    simp only [Nat.add_zero] at hcz
    have hm0 : decide (0 < m) = true := decide_eq_true p1
    go_wp2
    go_ret
    exact ⟨rfl, HB3.out⟩
set_option maxHeartbeats 1000000 in
theorem impl_last (n k : Int) (w : World) (h1 : -9223372036854775808 ≤ n) (h2 : n ≤ 9223372036854775807) (h3 : -9223372036854775808 ≤ k) (h4 : k ≤ 9223372036854775807) :
    Calls Try.prog 11 #[.int .i64 n, .int .i64 k] w fun e w' => e = .returned (.int .i64 (lastF n k)) ∧ Below w.heap.size w w' := by
  cases hd : dkB n k with
  | false =>
    rw [last_no hd]
    have HD := Lib.hid (ord_no hd)
    clear hd
    go_enter Try.func11, Try.ntmps11
    go_wp2_with fail
    refine (impl_order n k _ h1 h2 h3 h4).mono ?_
    rintro e w1 ⟨A1, c1, rfl, ho1, hb1⟩
    rw [HD.out]
    have HB := Lib.hid hb1
    clear ho1 hb1
    go_wp2
    go_ret
    exact ⟨rfl, HB.out⟩
  | true =>
    obtain ⟨m, j, rfl, rfl, p1, p2, p3⟩ := dk_parts hd
    rw [last_yes hd]
    have HD := Lib.hid (ord_yes hd)
    have HL := Lib.hid (show ((dkL m j).reverse).length = m by rw [List.length_reverse, dkL_len p1 p2 p3])
    have HE := Lib.hid (show ((dkL m j).reverse).getD (m - 1) 0 = lastN m j by
      have hl := dkL_len p1 p2 p3
      unfold lastN
      rw [List.getD_eq_getElem?_getD, List.getD_eq_getElem?_getD, List.getElem?_reverse (by omega), hl]
      congr 2
      omega)
    clear hd
    go_enter Try.func11, Try.ntmps11
    go_wp2_with fail
    refine (impl_order (m : Int) (j : Int) _ h1 h2 h3 h4).mono ?_
    rintro e w1 ⟨A1, c1, rfl, ho1, hb1⟩
    rw [HD.out, HL.out] at ho1
    rw [HD.out, HL.out]
    obtain ⟨g, rfl⟩ := own_shape ho1 p1
    have HB := Lib.hid hb1
    obtain ⟨b, o, he, hbb, hcz⟩ := ints_of ho1 (m - 1) (by rw [HL.out]; omega)
    rw [HE.out] at hcz
    clear ho1 hb1
    injection he with he
    injection he with he1 he2
    subst he1 he2
    simp only [Nat.zero_add] at hcz
    have hm0 : (m == 0) = false := by simp; omega
    have hlt : m - 1 < m := by omega
    have hsub : (m : Int) - 1 = ((m - 1 : Nat) : Int) := by omega
    go_wp2
    go_ret
    exact ⟨rfl, HB.out⟩
set_option maxHeartbeats 1000000 in
theorem spec_order (n k : Int) (w : World) (h1 : -9223372036854775808 ≤ n) (h2 : n ≤ 9223372036854775807) :
    Calls Try.prog 20 #[.int .i64 n, .int .i64 k] w (IsIL w.heap.size (ordF n k) w) := by
  cases hd : dkB n k with
  | false =>
    rw [ord_no hd]
    have HD := Lib.hid hd
    clear hd
    go_enter Try.func20, Try.ntmps20
    go_wp2_with fail
    refine (spec_l09 n k _).mono ?_
    rintro e w1 ⟨rfl, rfl⟩
    rw [HD.out]
    go_wp2
    go_ret
    exact nil_il _ _
  | true =>
    obtain ⟨m, j, rfl, rfl, p1, p2, p3⟩ := dk_parts hd
    have HF := Lib.hid (ord_yes hd)
    have HD := Lib.hid hd
    have HNF := Lib.hid (newF_yes m p2)
    have HNL := Lib.hid (imarks_length 0 m)
    have HDL := Lib.hid (duck_list p2 p3)
    have HDN := Lib.hid (dkL_len p1 p2 p3)
    have HFT := Lib.hid (fits_dk p1 p2 p3)
    have HBK := Lib.hid (back_dk p1 p2 p3)
    clear hd
    go_enter Try.func20, Try.ntmps20
    go_wp2_with fail
    refine (spec_l09 _ _ _).mono ?_
    rintro e w1 ⟨rfl, rfl⟩
    rw [HD.out]
    go_wp2_with fail
    refine (spec_new (m : Int) _ h1 h2).mono ?_
    rintro e w2 ⟨A2, c2, rfl, ho2, hb2⟩
    rw [HNF.out, HNL.out] at ho2
    rw [HNF.out, HNL.out]
    have HO2 := Lib.hid ho2
    have HB2 := Lib.hid hb2
    clear ho2 hb2
    go_wp2_with fail
    refine (spec_duck_at A2 m c2 j (j : Int) (imarks 0 m) w2 HNL.out p1 p2 (kv_of p3) (ints_of HO2.out)).mono ?_
    rintro e w3 ⟨A3, c3, rfl, ho3, hb3⟩
    rw [HDL.out, HDN.out] at ho3
    rw [HDL.out, HDN.out]
    have HB3 := Lib.hid (HB2.out.trans (hb3.mono HB2.out.size))
    have HO3 := Lib.hid ho3
    clear ho3 hb3
    go_wp2_with fail
    refine (spec_back false A3 m c3 m (dkL m j) w3 HDN.out p1 p2 (row_cap HO3.out) (Nat.le_refl _) HFT.out (ints_of HO3.out)).mono ?_
    rintro e w4 ⟨A4, c4, rfl, ho4, hb4⟩
    rw [HBK.out] at ho4
    rw [HBK.out]
    have HB4 := Lib.hid (HB3.out.trans (hb4.mono HB3.out.size))
    have HO4 := Lib.hid (own_mono ho4 HB3.out.size)
    clear ho4 hb4
    go_wp2
    go_ret
    rw [HF.out]
    exact ⟨A4, c4, by rw [List.length_reverse]; rfl, HO4.out, HB4.out⟩
set_option maxHeartbeats 1000000 in
theorem impl_power (n k : Int) (w : World) (h1 : -9223372036854775808 ≤ n) (h2 : n ≤ 9223372036854775807) (h3 : -9223372036854775808 ≤ k) (h4 : k ≤ 9223372036854775807) :
    Calls Try.prog 13 #[.int .i64 n, .int .i64 k] w fun e w' => e = .returned (.int .i64 (lastF n k)) ∧ Below w.heap.size w w' := by
  cases hd : dkB n k with
  | false =>
    rw [last_no hd]
    have HD := Lib.hid hd
    clear hd
    go_enter Try.func13, Try.ntmps13
    go_wp2_with fail
    refine (impl_isduck n k _).mono ?_
    rintro e w1 ⟨rfl, hb1⟩
    rw [HD.out]
    have HB := Lib.hid hb1
    clear hb1
    go_wp2
    go_ret
    exact ⟨rfl, HB.out⟩
  | true =>
    obtain ⟨m, j, rfl, rfl, p1, p2, p3⟩ := dk_parts hd
    rw [last_yes hd]
    have HD := Lib.hid hd
    have HR := Lib.hid (rnd_yes p1 p2)
    have HLA := Lib.hid (last_at p1 p2)
    have hrl := rl_le m
    have hpw := pw_rl m
    have hple := pw_le p1
    clear hd
    go_enter Try.func13, Try.ntmps13
    go_wp2_with fail
    refine (impl_isduck _ _ _).mono ?_
    rintro e w1 ⟨rfl, hb1⟩
    rw [HD.out]
    have HB := Lib.hid hb1
    clear hb1
    go_wp2_with fail
    refine (impl_rounds (m : Int) _ h1 h2).mono ?_
    rintro e w2 ⟨rfl, rfl⟩
    rw [HR.out]
    go_upto_region 4 with fail
    rw [wrap_pw m]
    have hsub : (m : Int) - (pw m : Nat) = ((m - pw m : Nat) : Int) := by omega
    have hd12 : m - pw m ≤ 12 := by omega
    generalize hdd : m - pw m = d at hsub hd12 HLA ⊢
    generalize pw m = p at *
    rcases (show j = 0 ∨ j = 1 by omega) with rfl | rfl
    · have HL := Lib.hid HLA.out.1
      clear HLA hpw
      go_wp2
      go_ret
      rw [HL.out]
      exact ⟨by go_num, HB.out⟩
    · have HL := Lib.hid HLA.out.2
      clear HLA hpw
      by_cases h0 : d = 0
      · subst h0
        have hmp : m = p := by omega
        have HMP := Lib.hid hmp
        clear hmp
        go_wp2
        go_ret
        rw [HL.out, if_pos HMP.out]
        exact ⟨by go_num, HB.out⟩
      · have hmp : ¬ m = p := by omega
        have HMP := Lib.hid hmp
        have h0' : ((2 * (d : Int)) == 0) = false := by simp; omega
        clear hmp
        go_wp2
        go_ret
        rw [HL.out, if_neg HMP.out]
        exact ⟨by go_num, HB.out⟩
set_option maxHeartbeats 1000000 in
theorem spec_power (n k : Int) (w : World) (h1 : -9223372036854775808 ≤ n) (h2 : n ≤ 9223372036854775807) :
    Calls Try.prog 19 #[.int .i64 n, .int .i64 k] w fun e w' => e = .returned (.int .i64 (lastF n k)) ∧ w = w' := by
  cases hd : dkB n k with
  | false =>
    rw [last_no hd]
    have HD := Lib.hid hd
    clear hd
    go_enter Try.func19, Try.ntmps19
    go_wp2_with fail
    refine (spec_l09 n k _).mono ?_
    rintro e w1 ⟨rfl, rfl⟩
    rw [HD.out]
    go_wp2
    go_ret
    exact ⟨rfl, rfl⟩
  | true =>
    obtain ⟨m, j, rfl, rfl, p1, p2, p3⟩ := dk_parts hd
    rw [last_yes hd]
    have HD := Lib.hid hd
    have HLA := Lib.hid (last_at p1 p2)
    have HPW := Lib.hid (fun (q : Nat) => @pw_stop m q p2)
    have hple := pw_le p1
    clear hd
    go_enter Try.func19, Try.ntmps19
    go_wp2_with fail
    refine (spec_l09 _ _ _).mono ?_
    rintro e w1 ⟨rfl, rfl⟩
    rw [HD.out]
    go_wp2
    go_loop [5] (fun s5 => ∃ q : Nat, s5 = .int .i64 (q : Int) ∧ q ≤ m ∧ Hid (q = 1 ∨ q = 2 ∨ q = 4 ∨ q = 8)) (fun s5 => m - (intOf s5).toNat)
    case atStart => exact ⟨1, rfl, p1, .inl rfl⟩
    case round =>
      obtain ⟨q, rfl, q1, hq⟩ := hrel
      have q8 : 1 ≤ q ∧ q ≤ 8 := by have := hq.out; omega
      by_cases hlt : 2 * q ≤ m
      · have hlt' : (2 : Int) * (q : Int) ≤ (m : Int) := by omega
        go_wp2
        go_round
        case rel => exact ⟨2 * q, by go_num, hlt, Lib.hid (by have := hq.out; omega)⟩
        case measure => simp [intOf]; omega
      · have HQ := Lib.hid (HPW.out q hq.out q1 (by omega))
        have hlt' : ¬ (2 : Int) * (q : Int) ≤ (m : Int) := by omega
        go_upto_region 6 with fail
        rw [← HQ.out] at HLA
        have hsub : (m : Int) - (q : Nat) = ((m - q : Nat) : Int) := by omega
        have hd12 : m - q ≤ 12 := by omega
        generalize hdd : m - q = d at hsub hd12 HLA ⊢
        rcases (show j = 0 ∨ j = 1 by omega) with rfl | rfl
        · have HL := Lib.hid HLA.out.1
          clear HLA
          go_wp2
          go_ret
          rw [HL.out]
          exact ⟨by go_num, rfl⟩
        · have HL := Lib.hid HLA.out.2
          clear HLA
          by_cases h0 : d = 0
          · subst h0
            have hmp : m = q := by omega
            have HMP := Lib.hid hmp
            clear hmp
            go_wp2
            go_ret
            rw [HL.out, if_pos HMP.out]
            exact ⟨by go_num, rfl⟩
          · have hmp : ¬ m = q := by omega
            have HMP := Lib.hid hmp
            have h0' : ((2 * (d : Int)) == 0) = false := by simp; omega
            clear hmp
            go_wp2
            go_ret
            rw [HL.out, if_neg HMP.out]
            exact ⟨by go_num, rfl⟩
end Go.Proofs.Ytaacdhccebedmaa.Duc
