/- UpCountAfter and KeepsBalance of the program and of the model. -/
import Derived.Test.YtfbgpofpbdbkiaaBal
import Derived.Test.YtfbgpofpbdbkiaaPa
set_option linter.unusedVariables false
set_option maxRecDepth 20000
namespace Go.Proofs.Ytfbgpofpbdbkiaa.Bak
open Go.RowKit Fr _root_.Go.Proofs.Ytfbgpofpbdbkiaa.Own Pk Pok Arr Ins Pl Nwp Prm Pfn Rws Lb Cat Mvp Mv1 Mv2 Mv3 Mv4 Mok2 Pf Pa Bal

/-- the list with the elements at odd places below k turned over -/
def tuT (zs : List Int) (k : Nat) : List Int := (List.range zs.length).map fun i => if i % 2 = 1 ∧ i < k then turnF (zs.getD i 0) else zs.getD i 0
theorem tuT_len (zs : List Int) (k : Nat) : (tuT zs k).length = zs.length := by simp [tuT]
theorem tuT_get {zs : List Int} {i : Nat} (k : Nat) (h : i < zs.length) : (tuT zs k).getD i 0 = if i % 2 = 1 ∧ i < k then turnF (zs.getD i 0) else zs.getD i 0 := by
  unfold tuT
  rw [List.getD_eq_getElem?_getD, List.getElem?_map, List.getElem?_range h]
  rfl
theorem getD_lt {xs : List Int} {i : Nat} (h : i < xs.length) : xs[i] = xs.getD i 0 := by rw [List.getD_eq_getElem?_getD, List.getElem?_eq_getElem h]; rfl
theorem ext_getD {xs ys : List Int} (h : xs.length = ys.length) (h2 : ∀ i, i < xs.length → xs.getD i 0 = ys.getD i 0) : xs = ys := by
  refine List.ext_getElem h fun i h3 h4 => ?_
  rw [getD_lt h3, getD_lt h4]
  exact h2 i h3
theorem tuT_one (zs : List Int) : tuT zs 1 = zs := by
  refine ext_getD (tuT_len zs 1) fun i hi => ?_
  rw [tuT_len] at hi
  rw [tuT_get 1 hi, if_neg (by omega)]
theorem tuT_set {zs : List Int} {k : Nat} (hk : k % 2 = 1) (h : k < zs.length) : (tuT zs k).set k (turnF (zs.getD k 0)) = tuT zs (k + 2) := by
  refine ext_getD (by rw [List.length_set, tuT_len, tuT_len]) fun i hi => ?_
  rw [List.length_set, tuT_len] at hi
  rw [tuT_get _ hi]
  by_cases e : i = k
  · subst e
    rw [if_pos (by omega), List.getD_eq_getElem?_getD, List.getElem?_set_self (by rw [tuT_len]; exact hi)]
    rfl
  · rw [List.getD_eq_getElem?_getD, List.getElem?_set_ne (by omega), ← List.getD_eq_getElem?_getD, tuT_get _ hi]
    by_cases h1 : i % 2 = 1 ∧ i < k
    · rw [if_pos h1, if_pos (by omega)]
    · rw [if_neg h1, if_neg (by omega)]
theorem ok_bd {zs : List Int} (hz : okB zs = true) {i : Nat} (hi : i < zs.length) : -12 ≤ zs.getD i 0 ∧ zs.getD i 0 ≤ 11 := cardF_pos ((ok_parts hz).2.1 i hi)
theorem tuT_fits {zs : List Int} (hz : okB zs = true) (k : Nat) : Fits (tuT zs k) := by
  intro i hi
  rw [tuT_len] at hi
  rw [tuT_get k hi]
  have hb := ok_bd hz hi
  split
  · have := turn_bd hb; omega
  · omega
/-- turning every second card over, as many lie face up as there are signs 1 -/
theorem up_tu {zs : List Int} (hz : okB zs = true) {K : Nat} (hK : zs.length ≤ K) : ∀ j, j ≤ zs.length → upTo (tuT zs K) j = balN zs j
  | 0, _ => rfl
  | j + 1, hj => by
    have ih := up_tu hz hK j (by omega)
    have hg := tuT_get K (show j < zs.length by omega)
    have hc := (ok_parts hz).2.1 j (by omega)
    have ht := up_turn hc
    show upTo (tuT zs K) j + _ = balN zs j + _
    rw [ih, hg]
    unfold sgB
    rcases Nat.mod_two_eq_zero_or_one j with h0 | h0
    · rw [if_neg (show ¬ (j % 2 = 1 ∧ j < K) by omega), h0]
      cases upB (zs.getD j 0) <;> rfl
    · rw [if_pos (show j % 2 = 1 ∧ j < K by omega), h0, ht]
      cases upB (zs.getD j 0) <;> rfl

set_option maxHeartbeats 1000000 in
theorem impl_uca (A : Option Addr) (n c : Nat) (zs : List Int) (w : World) (hn : zs.length = n) (hn2 : n ≤ 1048576) (hz : Fits zs) (hss : IntsAt w w.heap.size .i64 A zs) :
    Calls Try.prog 19 #[.slice A n c] w fun e w' => e = .returned (.tuple #[.int .i64 (balI zs), .bool (balB zs)]) ∧ Below w.heap.size w w' := by
  have HN := Lib.hid hn
  cases hb : balB zs with
  | false =>
    have HBL := Lib.hid hb
    rw [balI_no hb]
    clear hb hn
    go_enter Try.func19, Try.ntmps19
    go_wp2_with fail
    refine (impl_bal A n c zs _ HN.out (by omega) hz hss).mono ?_
    rintro e w1 ⟨rfl, hb1⟩
    rw [HBL.out]
    have HB1 := Lib.hid hb1
    clear hb1
    go_wp2
    go_ret2
    exact ⟨rfl, HB1.out⟩
  | true =>
    have HBL := Lib.hid hb
    obtain ⟨hok, hev, h12⟩ := bal_parts hb
    rw [hn] at hev h12
    rw [balI_yes hb, hn]
    have HOK := Lib.hid hok
    clear hb hn hok
    go_enter Try.func19, Try.ntmps19
    go_wp2_with fail
    refine (impl_bal A n c zs _ HN.out (by omega) hz hss).mono ?_
    rintro e w1 ⟨rfl, hb1⟩
    rw [HBL.out]
    have HSS := Lib.hid ((hss.below hb1).more hb1.size)
    have HB1 := Lib.hid hb1
    clear hb1 hss
    go_wp2_with fail
    refine (clone_any A n c zs _ HN.out (by omega) HSS.out).mono ?_
    rintro e w2 ⟨A2, c2, rfl, ho2, hb2⟩
    rw [HN.out] at ho2
    rw [HN.out]
    have HB2 := Lib.hid (HB1.out.trans (hb2.mono HB1.out.size))
    have HO2 := Lib.hid (own_mono ho2 HB1.out.size)
    clear ho2 hb2 HB1 HSS
    go_wp2
    go_loopw [7] (fun i wr => ∃ j : Nat, j ≤ n + 1 ∧ j % 2 = 1 ∧ i = .int .i64 j ∧ Hid (wr.ownsRow w.heap.size 3 1 (.slice A2 n c2) n (vals (tuT zs j))) ∧ Hid (Below w.heap.size w wr)) (fun i _ => n + 1 - (intOf i).toNat)
    case atStart => exact ⟨1, by omega, rfl, rfl, by show World.ownsRow _ _ _ _ _ _ _; rw [tuT_one]; exact HO2.out, HB2⟩
    case round =>
      obtain ⟨j, hj, hjo, rfl, HO, HB⟩ := hrel
      clear HO2 HB2
      by_cases hlt : j < n
      · obtain ⟨g, hg⟩ := own_shape HO.out (by omega)
        subst hg
        have hsz := HB.out.size
        have hgl := (HO.out.lt g rfl)
        have hlt2 : j < zs.length := by rw [HN.out]; exact hlt
        have hcell : wr.cell? ⟨g, j, none⟩ = some (.int .i64 (zs.getD j 0)) := by
          rw [HO.out.cellAt j (by omega), vals_get (by rw [tuT_len]; exact hlt2), tuT_get j hlt2, if_neg (by omega)]
        have hst := HO.out.stored j (.int .i64 (turnF (zs.getD j 0)))
        rw [vals_set, tuT_set hjo hlt2] at hst
        have hfz := HO.out.frozenAt j
        obtain ⟨hx1, hx2⟩ := ok_bd HOK.out hlt2
        generalize zs.getD j 0 = x at hcell hst hx1 hx2
        have HST := Lib.hid hst.1
        have HB5 := Lib.hid (HB.out.setCell (p := ⟨g, j, none⟩) (by show w.heap.size ≤ g; exact hgl.1) (.int .i64 (turnF x)))
        clear hst HO HB
        go_wp2_with (go_at_call 44; refine (impl_turn x _ (by omega) (by omega)).mono ?_; rintro e w' ⟨rfl, rfl⟩)
        go_roundw
        case rel => exact ⟨j + 2, by omega, by omega, by go_num, HST, HB5⟩
        case measure => simp [intOf]; omega
      · have HU := Lib.hid (show upTo (tuT zs j) n = balN zs n by
          have h := up_tu HOK.out (K := j) (by rw [HN.out]; omega) n (by rw [HN.out]; omega)
          exact h)
        have hln := Lib.hid (show (tuT zs j).length = n by rw [tuT_len]; exact HN.out)
        have hfi := Lib.hid (tuT_fits HOK.out j)
        go_wp2_with fail
        refine (impl_count A2 n c2 (tuT zs j) _ hln.out (by omega) hfi.out (ints_of HO.out)).mono ?_
        rintro e w3 ⟨rfl, rfl⟩
        rw [HU.out]
        go_wp2
        go_ret2
        exact ⟨rfl, HB.out⟩

set_option maxHeartbeats 1000000 in
theorem spec_uca (A : Option Addr) (n c : Nat) (zs : List Int) (w : World) (hn : zs.length = n) (hn2 : n ≤ 1048576) (hz : Fits zs) (hss : IntsAt w w.heap.size .i64 A zs) :
    Calls Try.prog 29 #[.slice A n c] w fun e w' => e = .returned (.tuple #[.int .i64 (balI zs), .bool (balB zs)]) ∧ Below w.heap.size w w' := by
  have HN := Lib.hid hn
  cases hok : okB zs with
  | false =>
    have hb := bal_bad hok
    rw [hb, balI_no hb]
    have HK := Lib.hid hok
    clear hb hok hn
    go_enter Try.func29, Try.ntmps29
    go_wp2_with fail
    refine (spec_ok A n c zs _ HN.out (by omega) hz hss).mono ?_
    rintro e w1 ⟨rfl, hb1⟩
    rw [HK.out]
    have HB1 := Lib.hid hb1
    clear hb1
    go_wp2
    go_ret2
    exact ⟨rfl, HB1.out⟩
  | true =>
    have HK := Lib.hid hok
    have h12 : n ≤ 12 := by have := (okB_yes hok).1; omega
    by_cases ho : n % 2 = 1
    · have hb := bal_odd (zs := zs) (by omega)
      rw [hb, balI_no hb]
      have hm : ((n : Int) % 2 != 0) = true := by rw [bne_iff_ne]; omega
      clear hb hok hn ho
      go_enter Try.func29, Try.ntmps29
      go_wp2_with fail
      refine (spec_ok A n c zs _ HN.out (by omega) hz hss).mono ?_
      rintro e w1 ⟨rfl, hb1⟩
      rw [HK.out]
      have HB1 := Lib.hid hb1
      clear hb1
      go_wp2
      go_ret2
      exact ⟨rfl, HB1.out⟩
    · have hb := bal_of hok (by omega : zs.length % 2 = 0)
      have hm : ((n : Int) % 2 != 0) = false := by rw [bne_eq_false_iff_eq]; omega
      rw [hb, balI_yes hb, hn]
      have HUP := Lib.hid (fun j (hj : j < n) => up_turn ((ok_parts hok).2.1 j (by omega)))
      clear hb hok hn ho
      go_enter Try.func29, Try.ntmps29
      go_wp2_with fail
      refine (spec_ok A n c zs _ HN.out (by omega) hz hss).mono ?_
      rintro e w1 ⟨rfl, hb1⟩
      rw [HK.out]
      have hss1 := (hss.below hb1).more hb1.size
      have HB1 := Lib.hid hb1
      clear hb1 hss
      go_wp2
      go_loop [4, 5, 6, 18] (fun q a x i => ∃ j : Nat, j ≤ n ∧ i = .int .i64 j ∧ ∃ m : Nat, Hid (m = balN zs j) ∧ m ≤ j ∧ q = .int .i64 m) (fun _ _ _ i => n - (intOf i).toNat)
      case atStart => exact ⟨0, Nat.zero_le _, rfl, 0, rfl, Nat.le_refl _, rfl⟩
      case round =>
        obtain ⟨j, hj, rfl, m, HM, hm, rfl⟩ := hrel
        by_cases hlt : j < n
        · obtain ⟨b, o, rfl, hbb, hc⟩ := hss1 j (by rw [HN.out]; exact hlt)
          obtain ⟨hx1, hx2⟩ := hz j (by rw [HN.out]; exact hlt)
          have hy := balN_yes zs j
          have ho := balN_no zs j
          have hup := HUP.out j hlt
          unfold sgB at hy ho
          generalize zs.getD j 0 = x at hc hx1 hx2 hy ho hup
          rcases Nat.mod_two_eq_zero_or_one j with h0 | h0
          · rw [h0] at hy ho
            have htm : ((j : Int) % 2 == 1) = false := by rw [beq_eq_false_iff_ne]; omega
            cases hu : upB x with
            | false =>
              rw [hu] at hy ho hup
              have HY := Lib.hid (ho rfl)
              have HU := Lib.hid hu
              have HT := Lib.hid hup
              clear hy ho h0 hu hup
              go_wp2_with fail
              refine (spec_up x _).mono ?_
              rintro e w' ⟨rfl, rfl⟩
              rw [HU.out]
              go_wp2
              go_round
              case rel => exact ⟨j + 1, by omega, by go_num, m, by show m = _; rw [HY.out, HM.out], by omega, rfl⟩
              case measure => simp [intOf]; omega
            | true =>
              rw [hu] at hy ho hup
              have HY := Lib.hid (hy rfl)
              have HU := Lib.hid hu
              have HT := Lib.hid hup
              clear hy ho h0 hu hup
              go_wp2_with fail
              refine (spec_up x _).mono ?_
              rintro e w' ⟨rfl, rfl⟩
              rw [HU.out]
              go_wp2
              go_round
              case rel => exact ⟨j + 1, by omega, by go_num, m + 1, by show m + 1 = _; rw [HY.out, HM.out], by omega, by go_num⟩
              case measure => simp [intOf]; omega
          · rw [h0] at hy ho
            have htm : ((j : Int) % 2 == 1) = true := by rw [beq_iff_eq]; omega
            cases hu : upB x with
            | false =>
              rw [hu] at hy ho hup
              have HY := Lib.hid (hy rfl)
              have HU := Lib.hid hu
              have HT := Lib.hid hup
              clear hy ho h0 hu hup
              go_wp2_with fail
              refine (spec_turn x _ hx1 hx2).mono ?_
              rintro e w' ⟨rfl, rfl⟩
              go_wp2_with fail
              refine (spec_up (turnF x) _).mono ?_
              rintro e w' ⟨rfl, rfl⟩
              rw [HT.out]
              go_wp2
              go_round
              case rel => exact ⟨j + 1, by omega, by go_num, m + 1, by show m + 1 = _; rw [HY.out, HM.out], by omega, by go_num⟩
              case measure => simp [intOf]; omega
            | true =>
              rw [hu] at hy ho hup
              have HY := Lib.hid (ho rfl)
              have HU := Lib.hid hu
              have HT := Lib.hid hup
              clear hy ho h0 hu hup
              go_wp2_with fail
              refine (spec_turn x _ hx1 hx2).mono ?_
              rintro e w' ⟨rfl, rfl⟩
              go_wp2_with fail
              refine (spec_up (turnF x) _).mono ?_
              rintro e w' ⟨rfl, rfl⟩
              rw [HT.out]
              go_wp2
              go_round
              case rel => exact ⟨j + 1, by omega, by go_num, m, by show m = _; rw [HY.out, HM.out], by omega, rfl⟩
              case measure => simp [intOf]; omega
        · have hjn : j = n := by omega
          rw [hjn] at HM
          clear hjn
          go_wp2
          go_ret2
          exact ⟨congrArg (fun z : Nat => Ending.returned (.tuple #[.int .i64 (z : Int), .bool true])) HM.out, HB1.out⟩

/-- is the balance after a move that before, or its complement? -/
def keepB (zs : List Int) (kd k : Int) : Bool := balB zs && perfB zs kd k && decide (balN (perfF zs kd k) zs.length = balN zs zs.length ∨ balN (perfF zs kd k) zs.length + balN zs zs.length = zs.length)
theorem keep_no {zs : List Int} {kd k : Int} (h : balB zs = false ∨ perfB zs kd k = false) : keepB zs kd k = false := by
  unfold keepB
  rcases h with h | h <;> rw [h] <;> simp
theorem keep_at {zs : List Int} {kd k : Int} {n a b : Nat} (hn : zs.length = n) (h1 : balB zs = true) (h2 : perfB zs kd k = true) (ha : balN zs n = a) (hb : balN (perfF zs kd k) n = b) : keepB zs kd k = decide (b = a ∨ b + a = n) := by
  unfold keepB
  rw [h1, h2, hn, ha, hb]
  rfl
theorem keep_parts {zs : List Int} {kd k : Int} {n : Nat} (hn : zs.length = n) (h1 : balB zs = true) (h2 : perfB zs kd k = true) : (perfF zs kd k).length = n ∧ Fits (perfF zs kd k) ∧ balB (perfF zs kd k) = true := by
  obtain ⟨hok, hev, h12⟩ := bal_parts h1
  obtain ⟨p1, p2, p3, p4, p5, p6, p7⟩ := perf_parts h2
  have hl := perf_len h2
  have hk : okB (perfF zs kd k) = true := by rw [perfF_yes h2]; exact move_ok p7 p2 p1
  exact ⟨hl.trans hn, ok_fits hk, bal_of hk (by rw [hl]; exact hev)⟩

set_option maxHeartbeats 1000000 in
theorem impl_keep (A : Option Addr) (n c : Nat) (zs : List Int) (kd k : Int) (w : World) (hn : zs.length = n) (hnc : n ≤ c) (hn2 : n ≤ 9223372036854775807) (hz : Fits zs) (hss : IntsAt w w.heap.size .i64 A zs) :
    Calls Try.prog 21 #[.slice A n c, .agg #[.int .i64 kd, .int .i64 k]] w fun e w' => e = .returned (.bool (keepB zs kd k)) ∧ Below w.heap.size w w' := by
  have HN := Lib.hid hn
  have HAL := Lib.hid ((Below.refl w.heap.size w).alloc (Nat.le_refl _) (.cells #[.int .i64 kd, .int .i64 k] 37))
  have HBX := Lib.hid (fun W hb => box_kept (w := w) (W := W) (kd := kd) (k := k) hb)
  have HIN := Lib.hid (ints_on hss HAL.out)
  have hss0 := Lib.hid hss
  cases hb : balB zs with
  | false =>
    have hk := keep_no (kd := kd) (k := k) (Or.inl hb)
    rw [hk]
    have HBL := Lib.hid hb
    clear hb hk hn hss
    go_enter Try.func21, Try.ntmps21
    go_wp2_with fail
    refine (impl_bal A n c zs _ HN.out hn2 hz HIN.out).mono ?_
    rintro e w1 ⟨rfl, hb1⟩
    rw [HBL.out]
    obtain ⟨hc0, hc1⟩ := HBX.out w1 hb1
    have HB1 := Lib.hid (HAL.out.trans (hb1.mono HAL.out.size))
    clear hb1
    go_wp2_with fail
    refine (impl_perform A n c kd k zs _ HN.out hnc hn2 hz (ints_on hss0.out HB1.out)).mono ?_
    rintro e w2 ⟨A2, c2, rfl, ho2, hb2⟩
    have HB2 := Lib.hid (HB1.out.trans (hb2.mono HB1.out.size))
    clear hb2 ho2
    go_wp2
    go_ret
    exact ⟨rfl, HB2.out⟩
  | true =>
    have HBL := Lib.hid hb
    cases hp : perfB zs kd k with
    | false =>
      have hk := keep_no (kd := kd) (k := k) (Or.inr hp)
      rw [hk]
      have HP := Lib.hid hp
      clear hb hk hn hss hp
      go_enter Try.func21, Try.ntmps21
      go_wp2_with fail
      refine (impl_bal A n c zs _ HN.out hn2 hz HIN.out).mono ?_
      rintro e w1 ⟨rfl, hb1⟩
      rw [HBL.out]
      obtain ⟨hc0, hc1⟩ := HBX.out w1 hb1
      have HB1 := Lib.hid (HAL.out.trans (hb1.mono HAL.out.size))
      clear hb1
      go_wp2_with fail
      refine (impl_perform A n c kd k zs _ HN.out hnc hn2 hz (ints_on hss0.out HB1.out)).mono ?_
      rintro e w2 ⟨A2, c2, rfl, ho2, hb2⟩
      rw [HP.out]
      have HB2 := Lib.hid (HB1.out.trans (hb2.mono HB1.out.size))
      clear hb2 ho2
      go_wp2
      go_ret
      exact ⟨rfl, HB2.out⟩
    | true =>
      obtain ⟨hl, hf, hbq⟩ := keep_parts hn hb hp
      obtain ⟨a, ha⟩ : ∃ a, balN zs n = a := ⟨_, rfl⟩
      obtain ⟨b, hbb⟩ : ∃ b, balN (perfF zs kd k) n = b := ⟨_, rfl⟩
      have hkk := keep_at hn hb hp ha hbb
      have hal := balN_le zs n
      have hbl := balN_le (perfF zs kd k) n
      have h12 := (bal_parts hb).2.2
      rw [hn] at h12
      rw [ha] at hal
      rw [hbb] at hbl
      have HA := Lib.hid (show balI zs = (a : Int) by rw [balI_yes hb, hn, ha])
      have HQ := Lib.hid (show balI (perfF zs kd k) = (b : Int) by rw [balI_yes hbq, hl, hbb])
      rw [hkk]
      have HP := Lib.hid hp
      have HL := Lib.hid hl
      have HF := Lib.hid hf
      have HBB := Lib.hid hbb
      clear hb hn hss hp hl hf hbq ha hbb hkk
      go_enter Try.func21, Try.ntmps21
      go_wp2_with fail
      refine (impl_bal A n c zs _ HN.out hn2 hz HIN.out).mono ?_
      rintro e w1 ⟨rfl, hb1⟩
      rw [HBL.out, HA.out]
      obtain ⟨hc0, hc1⟩ := HBX.out w1 hb1
      have HB1 := Lib.hid (HAL.out.trans (hb1.mono HAL.out.size))
      clear hb1
      go_wp2_with fail
      refine (impl_perform A n c kd k zs _ HN.out hnc hn2 hz (ints_on hss0.out HB1.out)).mono ?_
      rintro e w2 ⟨A2, c2, rfl, ho2, hb2⟩
      rw [HL.out] at ho2
      rw [HP.out, HL.out]
      have HO2 := Lib.hid ho2
      have HB2 := Lib.hid (HB1.out.trans (hb2.mono HB1.out.size))
      clear hb2 ho2 hc0 hc1
      go_wp2_with fail
      refine (impl_bal A2 n c2 (perfF zs kd k) _ HL.out hn2 HF.out (ints_of HO2.out)).mono ?_
      rintro e w3 ⟨rfl, hb3⟩
      rw [HQ.out]
      have HB3 := Lib.hid (HB2.out.trans (hb3.mono HB2.out.size))
      clear hb3
      by_cases e1 : b = a
      · have e2 : decide (b = a ∨ b + a = n) = true := decide_eq_true (Or.inl e1)
        have E2 := Lib.hid e2
        have e3 : ((b : Int) == (a : Int)) = true := by rw [beq_iff_eq]; omega
        clear e2 e1
        go_wp2
        go_ret
        exact ⟨ret_b E2.out.symm, HB3.out⟩
      · have e3 : ((b : Int) == (a : Int)) = false := by rw [beq_eq_false_iff_ne]; omega
        by_cases e4 : b + a = n
        · have e2 : decide (b = a ∨ b + a = n) = true := decide_eq_true (Or.inr e4)
          have E2 := Lib.hid e2
          have e5 : ((b : Int) == (n : Int) - (a : Int)) = true := by rw [beq_iff_eq]; omega
          clear e2 e1 e4
          go_wp2
          go_ret
          exact ⟨ret_b E2.out.symm, HB3.out⟩
        · have e2 : decide (b = a ∨ b + a = n) = false := decide_eq_false (by omega)
          have E2 := Lib.hid e2
          have e5 : ((b : Int) == (n : Int) - (a : Int)) = false := by rw [beq_eq_false_iff_ne]; omega
          clear e2 e1 e4
          go_wp2
          go_ret
          exact ⟨ret_b E2.out.symm, HB3.out⟩

set_option maxHeartbeats 1000000 in
theorem spec_keep (A : Option Addr) (n c : Nat) (zs : List Int) (kd k : Int) (w : World) (hn : zs.length = n) (hnc : n ≤ c) (hn2 : n ≤ 9223372036854775807) (hz : Fits zs) (hss : IntsAt w w.heap.size .i64 A zs) :
    Calls Try.prog 27 #[.slice A n c, .agg #[.int .i64 kd, .int .i64 k]] w fun e w' => e = .returned (.bool (keepB zs kd k)) ∧ Below w.heap.size w w' := by
  have HN := Lib.hid hn
  have HAL := Lib.hid ((Below.refl w.heap.size w).alloc (Nat.le_refl _) (.cells #[.int .i64 kd, .int .i64 k] 37))
  have HBX := Lib.hid (fun W hb => box_kept (w := w) (W := W) (kd := kd) (k := k) hb)
  have HIN := Lib.hid (ints_on hss HAL.out)
  have hss0 := Lib.hid hss
  cases hb : balB zs with
  | false =>
    have hk := keep_no (kd := kd) (k := k) (Or.inl hb)
    rw [hk]
    have HBL := Lib.hid hb
    clear hb hk hn hss
    go_enter Try.func27, Try.ntmps27
    go_wp2_with fail
    refine (spec_bal A n c zs _ HN.out hn2 hz HIN.out).mono ?_
    rintro e w1 ⟨rfl, hb1⟩
    rw [HBL.out]
    obtain ⟨hc0, hc1⟩ := HBX.out w1 hb1
    have HB1 := Lib.hid (HAL.out.trans (hb1.mono HAL.out.size))
    clear hb1
    go_wp2_with fail
    refine (spec_perform A n c kd k zs _ HN.out hnc hn2 hz (ints_on hss0.out HB1.out)).mono ?_
    rintro e w2 ⟨A2, c2, rfl, ho2, hb2⟩
    have HB2 := Lib.hid (HB1.out.trans (hb2.mono HB1.out.size))
    clear hb2 ho2
    go_wp2
    go_ret
    exact ⟨rfl, HB2.out⟩
  | true =>
    have HBL := Lib.hid hb
    cases hp : perfB zs kd k with
    | false =>
      have hk := keep_no (kd := kd) (k := k) (Or.inr hp)
      rw [hk]
      have HP := Lib.hid hp
      clear hb hk hn hss hp
      go_enter Try.func27, Try.ntmps27
      go_wp2_with fail
      refine (spec_bal A n c zs _ HN.out hn2 hz HIN.out).mono ?_
      rintro e w1 ⟨rfl, hb1⟩
      rw [HBL.out]
      obtain ⟨hc0, hc1⟩ := HBX.out w1 hb1
      have HB1 := Lib.hid (HAL.out.trans (hb1.mono HAL.out.size))
      clear hb1
      go_wp2_with fail
      refine (spec_perform A n c kd k zs _ HN.out hnc hn2 hz (ints_on hss0.out HB1.out)).mono ?_
      rintro e w2 ⟨A2, c2, rfl, ho2, hb2⟩
      rw [HP.out]
      have HB2 := Lib.hid (HB1.out.trans (hb2.mono HB1.out.size))
      clear hb2 ho2
      go_wp2
      go_ret
      exact ⟨rfl, HB2.out⟩
    | true =>
      obtain ⟨hl, hf, hbq⟩ := keep_parts hn hb hp
      obtain ⟨a, ha⟩ : ∃ a, balN zs n = a := ⟨_, rfl⟩
      obtain ⟨b, hbb⟩ : ∃ b, balN (perfF zs kd k) n = b := ⟨_, rfl⟩
      have hkk := keep_at hn hb hp ha hbb
      have hal := balN_le zs n
      have hbl := balN_le (perfF zs kd k) n
      have h12 := (bal_parts hb).2.2
      rw [hn] at h12
      rw [ha] at hal
      rw [hbb] at hbl
      have HA := Lib.hid (show balI zs = (a : Int) by rw [balI_yes hb, hn, ha])
      have HQ := Lib.hid (show balI (perfF zs kd k) = (b : Int) by rw [balI_yes hbq, hl, hbb])
      rw [hkk]
      have HP := Lib.hid hp
      have HL := Lib.hid hl
      have HF := Lib.hid hf
      have HBB := Lib.hid hbb
      clear hb hn hss hp hl hf hbq ha hbb hkk
      go_enter Try.func27, Try.ntmps27
      go_wp2_with fail
      refine (spec_bal A n c zs _ HN.out hn2 hz HIN.out).mono ?_
      rintro e w1 ⟨rfl, hb1⟩
      rw [HBL.out, HA.out]
      obtain ⟨hc0, hc1⟩ := HBX.out w1 hb1
      have HB1 := Lib.hid (HAL.out.trans (hb1.mono HAL.out.size))
      clear hb1
      go_wp2_with fail
      refine (spec_perform A n c kd k zs _ HN.out hnc hn2 hz (ints_on hss0.out HB1.out)).mono ?_
      rintro e w2 ⟨A2, c2, rfl, ho2, hb2⟩
      rw [HL.out] at ho2
      rw [HP.out, HL.out]
      have HO2 := Lib.hid ho2
      have HB2 := Lib.hid (HB1.out.trans (hb2.mono HB1.out.size))
      clear hb2 ho2 hc0 hc1
      go_wp2_with fail
      refine (spec_bn A2 n c2 (perfF zs kd k) _ HL.out hn2 HF.out (ints_of HO2.out)).mono ?_
      rintro e w3 ⟨rfl, rfl⟩
      rw [HBB.out]
      have HB3 := Lib.hid HB2.out
      by_cases e1 : b = a
      · have e2 : decide (b = a ∨ b + a = n) = true := decide_eq_true (Or.inl e1)
        have E2 := Lib.hid e2
        have e3 : ((a : Int) == (b : Int)) = true := by rw [beq_iff_eq]; omega
        clear e2 e1
        go_wp2
        go_ret
        exact ⟨ret_b E2.out.symm, HB3.out⟩
      · have e3 : ((a : Int) == (b : Int)) = false := by rw [beq_eq_false_iff_ne]; omega
        by_cases e4 : b + a = n
        · have e2 : decide (b = a ∨ b + a = n) = true := decide_eq_true (Or.inr e4)
          have E2 := Lib.hid e2
          have e5 : ((a : Int) == (n : Int) - (b : Int)) = true := by rw [beq_iff_eq]; omega
          clear e2 e1 e4
          go_wp2
          go_ret
          exact ⟨ret_b E2.out.symm, HB3.out⟩
        · have e2 : decide (b = a ∨ b + a = n) = false := decide_eq_false (by omega)
          have E2 := Lib.hid e2
          have e5 : ((a : Int) == (n : Int) - (b : Int)) = false := by rw [beq_eq_false_iff_ne]; omega
          clear e2 e1 e4
          go_wp2
          go_ret
          exact ⟨ret_b E2.out.symm, HB3.out⟩
end Go.Proofs.Ytfbgpofpbdbkiaa.Bak
