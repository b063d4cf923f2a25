/- Perform of the model; PermOfMove of the program and of the model. -/
import Derived.Test.YtdelaoegfooaoaaDo
set_option linter.unusedVariables false
namespace Go.Proofs.Ytdelaoegfooaoaa.Pa
open Go.RowKit Fr Own Pk Pok Arr Ins Nwp Pfn Rws Lb Cat Mvp Mv1 Mv2 Mv3 Mv4 Mk Mok2 Pf Sv Sv2 Sv3 Do

theorem box_kept {w W : World} {kd k : Int} (hb : Below (w.alloc (.cells #[.int .i64 kd, .int .i64 k] 26)).heap.size (w.alloc (.cells #[.int .i64 kd, .int .i64 k] 26)) W) : W.cell? ⟨w.heap.size, 0, none⟩ = some (.int .i64 kd) ∧ W.cell? ⟨w.heap.size, 1, none⟩ = some (.int .i64 k) := by
  have h := heap_alloc_new w (.cells #[.int .i64 kd, .int .i64 k] 26)
  have hl := (Array.getElem?_eq_some_iff.1 h).1
  have h2 := (hb.block w.heap.size hl).trans h
  unfold World.cell?
  rw [h2]
  exact ⟨rfl, rfl⟩
theorem do_any (A : Option Addr) (n c : Nat) (kd k : Int) (zs : List Int) (w : World) (hR : Ready A n c zs w) (hmv : mvB n kd k = true) :
    Calls Try.prog 54 #[.slice A n c, .agg #[.int .i64 kd, .int .i64 k]] w (IsIL w.heap.size (moveF kd.toNat k.toNat zs) w) := by
  have hp := mvB_parts hmv
  rcases (show kd = 1 ∨ kd = 2 ∨ kd = 3 ∨ kd = 4 ∨ kd = 5 ∨ kd = 6 ∨ kd = 7 ∨ kd = 8 ∨ kd = 9 by omega) with rfl | rfl | rfl | rfl | rfl | rfl | rfl | rfl | rfl
  · exact do_1 A n c k zs w hR hmv
  · exact do_2 A n c k zs w hR hmv
  · exact do_3 A n c k zs w hR hmv
  · exact do_4 A n c k zs w hR hmv
  · exact do_5 A n c k zs w hR hmv
  · exact do_6 A n c k zs w hR hmv
  · exact do_7 A n c k zs w hR hmv
  · exact do_8 A n c k zs w hR hmv
  · exact do_9 A n c k zs w hR hmv
set_option maxHeartbeats 1000000 in
theorem spec_perform (A : Option Addr) (n c : Nat) (kd k : Int) (zs : List Int) (w : World) (hn : zs.length = n) (hnc : n ≤ c) (hn2 : n ≤ 9223372036854775807) (hz : Fits zs) (hss : IntsAt w w.heap.size .i64 A zs) :
    Calls Try.prog 31 #[.slice A n c, .agg #[.int .i64 kd, .int .i64 k]] w (IsILB w.heap.size (perfF zs kd k) (perfB zs kd k) w) := by
  have HAL := Lib.hid ((Below.refl w.heap.size w).alloc (Nat.le_refl _) (.cells #[.int .i64 kd, .int .i64 k] 26))
  have HBX := Lib.hid (fun W hb => box_kept (w := w) (W := W) (kd := kd) (k := k) hb)
  have HOK := Lib.hid (Pok.spec_ok A n c zs (w.alloc (.cells #[.int .i64 kd, .int .i64 k] 26)) hn (by omega) hz (ints_on hss HAL.out))
  cases hok : okB zs with
  | false =>
    have hB : perfB zs kd k = false := by unfold perfB; rw [hok]; rfl
    rw [perfF_no hB, hB]
    have HBK := Lib.hid hok
    clear hn hss hz hok hB
    go_enter Try.func31, Try.ntmps31
    go_wp2_with fail
    refine HOK.out.mono ?_
    rintro e w1 ⟨rfl, hb1⟩
    rw [HBK.out]
    have HBA := Lib.hid (HAL.out.trans (hb1.mono HAL.out.size))
    clear hb1
    go_wp2
    go_ret2
    exact nil_after HBA.out
  | true =>
    have HBK := Lib.hid hok
    cases hmv : mvB n kd k with
    | false =>
      have hB : perfB zs kd k = false := by unfold perfB; rw [hn, hmv, Bool.and_false]
      rw [perfF_no hB, hB]
      have HMV := Lib.hid hmv
      clear hn hss hz hok hB hmv
      go_enter Try.func31, Try.ntmps31
      go_wp2_with fail
      refine HOK.out.mono ?_
      rintro e w1 ⟨rfl, hb1⟩
      rw [HBK.out]
      have HBA := Lib.hid (HAL.out.trans (hb1.mono HAL.out.size))
      obtain ⟨hc0, hc1⟩ := HBX.out w1 hb1
      clear hb1
      go_wp2_with fail
      refine (spec_moveok _ _ _ _).mono ?_
      rintro e w2 ⟨rfl, hb2⟩
      rw [HMV.out]
      have HBB := Lib.hid (HBA.out.trans (hb2.mono HBA.out.size))
      clear hb2
      go_wp2
      go_ret2
      exact nil_after HBB.out
    | true =>
      have hB : perfB zs kd k = true := by unfold perfB; rw [hn, hmv, hok]; rfl
      rw [perfF_yes hB, hB]
      have HMV := Lib.hid hmv
      have hp := mvB_parts hmv
      have HR := Lib.hid (show Ready A n c zs w from ⟨hn, by omega, by omega, hnc, hz, hss⟩)
      clear hn hss hz hok hB hmv hp
      go_enter Try.func31, Try.ntmps31
      go_wp2_with fail
      refine HOK.out.mono ?_
      rintro e w1 ⟨rfl, hb1⟩
      rw [HBK.out]
      have HBA := Lib.hid (HAL.out.trans (hb1.mono HAL.out.size))
      obtain ⟨hc0, hc1⟩ := HBX.out w1 hb1
      have HB1 := Lib.hid hb1
      clear hb1
      go_wp2_with fail
      refine (spec_moveok _ _ _ _).mono ?_
      rintro e w2 ⟨rfl, hb2⟩
      rw [HMV.out]
      have HBB := Lib.hid (HBA.out.trans (hb2.mono HBA.out.size))
      obtain ⟨hd0, hd1⟩ := HBX.out w2 (HB1.out.trans (hb2.mono HB1.out.size))
      have HR2 : Hid (Ready A n c zs w2) := ⟨HR.out.len, HR.out.pos, HR.out.few, HR.out.cap, HR.out.fits, ints_on HR.out.cells HBB.out⟩
      clear hb2 hc0 hc1 HB1 HBA
      go_wp2_with fail
      refine (do_any A n c kd k zs w2 HR2.out HMV.out).mono ?_
      rintro e w5 h
      replace h := il_after h HBB.out HBB.out.size
      obtain ⟨A5, c5, rfl, ho, hb⟩ := h
      go_wp2
      go_ret2
      exact ⟨A5, c5, rfl, ho, hb⟩

/-! ### PermOfMove -/
def pomF (n kd k : Int) : List Int := if mvB n kd k then srcI kd.toNat k.toNat n.toNat else []
theorem pomF_yes {n kd k : Int} (h : mvB n kd k = true) : pomF n kd k = srcI kd.toNat k.toNat n.toNat := by unfold pomF; rw [if_pos h]
theorem pomF_no {n kd k : Int} (h : mvB n kd k = false) : pomF n kd k = [] := by unfold pomF; rw [h]; rfl
theorem pom_short (n kd k : Int) : (pomF n kd k).length ≤ 1048576 := by
  cases h : mvB n kd k with
  | true =>
    obtain ⟨h1, h2, h3, h4, h5, h6⟩ := mvB_parts h
    rw [pomF_yes h, srcI_len h6 (by omega) (by omega)]; omega
  | false => rw [pomF_no h]; exact Nat.zero_le _
theorem new_perf (n kd k : Int) : perfB (newF n) kd k = mvB n kd k := by
  by_cases h : 0 ≤ n ∧ n ≤ 12
  · have hl : ((newF n).length : Int) = n := by unfold newF; rw [if_pos h, imarks_length]; omega
    have ho : okB (newF n) = true := by unfold newF; rw [if_pos h]; exact new_ok _ (by omega)
    unfold perfB
    rw [ho, hl]; rfl
  · rw [newF_no n h, mvB_out (fun h2 => h ⟨by omega, h2.2.1⟩)]
    unfold perfB
    rw [show (([] : List Int).length : Int) = 0 from rfl, mvB_out (fun h2 => by omega), Bool.and_false]
theorem new_at {n kd k : Int} (h : mvB n kd k = true) : newF n = imarks 0 n.toNat ∧ perfF (newF n) kd k = moveF kd.toNat k.toNat (imarks 0 n.toNat) := by
  have hp := mvB_parts h
  have e : newF n = imarks 0 n.toNat := by unfold newF; rw [if_pos (by omega)]
  refine ⟨e, ?_⟩
  rw [perfF_yes (by rw [new_perf]; exact h), e]
theorem new_bet {n kd k : Int} (h : mvB n kd k = true) : betF (newF n) (perfF (newF n) kd k) = pomF n kd k ∧ arrB (newF n) (perfF (newF n) kd k) = true := by
  obtain ⟨h1, h2, h3, h4, h5, h6⟩ := mvB_parts h
  obtain ⟨e1, e2⟩ := new_at h
  rw [e2, e1, pomF_yes h]
  have hl := imarks_length 0 n.toNat
  have h6' : kOk kd.toNat k.toNat (imarks 0 n.toNat).length = true := by rw [hl]; exact h6
  have ho := new_ok n.toNat (by omega)
  refine ⟨?_, move_arr h6' (by omega) ho⟩
  rw [move_bet h6' (by omega) ho, hl]
theorem perf_fits {zs : List Int} {kd k : Int} (hz : Fits zs) : Fits (perfF zs kd k) := by
  cases h : perfB zs kd k with
  | true =>
    obtain ⟨h1, h2, h3, h4, h5, h6, h7⟩ := perf_parts h
    rw [perfF_yes h]
    exact move_fits h7 h2 h1
  | false => rw [perfF_no h]; intro i hi; simp at hi
theorem new_fits (n : Int) : Fits (newF n) := by
  by_cases h : 0 ≤ n ∧ n ≤ 12
  · have ho : okB (newF n) = true := by unfold newF; rw [if_pos h]; exact new_ok _ (by omega)
    exact ok_fits ho
  · rw [newF_no n h]; intro i hi; simp at hi
theorem new_short (n : Int) : (newF n).length ≤ 12 := by
  unfold newF
  split
  · rw [imarks_length]; omega
  · simp
theorem row_cap {w : World} {B : Nat} {A : Option Addr} {n c : Nat} {xs : List Value} (h : w.ownsRow B 3 1 (.slice A n c) n xs) : n ≤ c := by
  rcases own_full h with ⟨_, h1, h2⟩ | ⟨_, _, _, _, _, h2, _⟩
  · omega
  · exact h2
set_option maxHeartbeats 1000000 in
theorem impl_pom (n kd k : Int) (w : World) (hn1 : -9223372036854775808 ≤ n) (hn2 : n ≤ 9223372036854775807) :
    Calls Try.prog 14 #[.int .i64 n, .agg #[.int .i64 kd, .int .i64 k]] w (IsILB w.heap.size (pomF n kd k) (mvB n kd k) w) := by
  have HAL := Lib.hid ((Below.refl w.heap.size w).alloc (Nat.le_refl _) (.cells #[.int .i64 kd, .int .i64 k] 26))
  have HBX := Lib.hid (fun W hb => box_kept (w := w) (W := W) (kd := kd) (k := k) hb)
  have HNF := Lib.hid (new_fits n)
  have HNS := Lib.hid (new_short n)
  have HPB := Lib.hid (new_perf n kd k)
  have HPF := Lib.hid (perf_fits (kd := kd) (k := k) (new_fits n))
  have HPS := Lib.hid (perf_short (newF n) kd k)
  cases hmv : mvB n kd k with
  | false =>
    rw [pomF_no hmv]
    rw [hmv] at HPB
    go_enter Try.func14, Try.ntmps14
    go_wp2_with fail
    refine (Nwp.impl_new n _ hn1 hn2).mono ?_
    rintro e w1 ⟨A1, c1, rfl, ho1, hb1⟩
    obtain ⟨hc0, hc1⟩ := HBX.out w1 hb1
    have HBA := Lib.hid (HAL.out.trans (hb1.mono HAL.out.size))
    have HO1 := Lib.hid ho1
    clear hb1 ho1 hmv
    go_wp2_with fail
    refine (impl_perform A1 _ c1 kd k (newF n) w1 rfl (row_cap HO1.out) (by have := HNS.out; omega) HNF.out (ints_of HO1.out)).mono ?_
    rintro e w2 ⟨A2, c2, rfl, ho2, hb2⟩
    rw [HPB.out]
    have HBB := Lib.hid (HBA.out.trans (hb2.mono HBA.out.size))
    clear hb2 ho2
    go_wp2
    go_ret2
    exact nil_after HBB.out
  | true =>
    obtain ⟨hbf, hba⟩ := new_bet hmv
    rw [hmv] at HPB
    have HBF := Lib.hid hbf
    have HBA0 := Lib.hid hba
    go_enter Try.func14, Try.ntmps14
    go_wp2_with fail
    refine (Nwp.impl_new n _ hn1 hn2).mono ?_
    rintro e w1 ⟨A1, c1, rfl, ho1, hb1⟩
    obtain ⟨hc0, hc1⟩ := HBX.out w1 hb1
    have HBA := Lib.hid (HAL.out.trans (hb1.mono HAL.out.size))
    have HO1 := Lib.hid ho1
    clear hb1 ho1 hmv hbf hba
    go_wp2_with fail
    refine (impl_perform A1 _ c1 kd k (newF n) w1 rfl (row_cap HO1.out) (by have := HNS.out; omega) HNF.out (ints_of HO1.out)).mono ?_
    rintro e w2 ⟨A2, c2, rfl, ho2, hb2⟩
    rw [HPB.out]
    have HBB := Lib.hid (HBA.out.trans (hb2.mono HBA.out.size))
    have HO1b := Lib.hid (own_low HO1.out (fun b h => (own_lo HO1.out b h).2) hb2)
    have HO2 := Lib.hid ho2
    clear hb2 ho2
    go_wp2_with fail
    refine (Pfn.impl_bet A1 _ c1 (newF n) A2 _ c2 (perfF (newF n) kd k) _ rfl (by have := HNS.out; omega) HNF.out (ints_of HO1b.out) rfl (by have := HPS.out; omega) HPF.out (ints_of HO2.out)).mono ?_
    rintro e w3 ⟨A3, c3, rfl, ho3, hb3⟩
    rw [HBF.out] at ho3
    rw [HBF.out, HBA0.out]
    have HO3 := Lib.hid (own_mono ho3 HBB.out.size)
    have HBC := Lib.hid (HBB.out.trans (hb3.mono HBB.out.size))
    clear ho3 hb3
    go_wp2
    go_ret2
    exact ⟨A3, c3, rfl, HO3.out, HBC.out⟩
theorem map_snoc (zs : List Int) (j : Nat) (h : j < zs.length) : (zs.take (j + 1)).map cardF = (zs.take j).map cardF ++ [cardF (zs.getD j 0)] := by
  rw [List.take_succ_eq_append_getElem h, List.map_append]
  simp [List.getD_eq_getElem?_getD, List.getElem?_eq_getElem h]
theorem wpList_app_f {P : Program} {w : World} {ops : Array Oper} {rest : List Oper} {o : Oper} {a : Act} {Q : Exit → Act → World → Prop} (hgd : o.guard = none) (s x : Operand) (t : TypeId)
    (ho : o.op = .call { callee := .builtin .append, args := #[s, x], argTypes := #[t, t] })
    (B : Nat) (e : TypeId) (i : TypeInfo) (ht : P.underlying t = some (.slice e)) (hi : P.info? e = some i) (hz : i.zero = some (.int .i64 0))
    (hsize : i.size = 1) (hby : i.bytes = 8) (A : Option Addr) (c : Nat) (n : Nat) (xs : List Int) (hs : a.eval s = .slice A n c) (hown : w.ownsRow B e 1 (.slice A n c) n (vals xs))
    (b f m c2 : Nat) (zs : List Int) (hx : a.eval x = .slice (some ⟨b, f, none⟩) m c2) (hm : zs.length = m) (hat : IntsAt w w.heap.size .i64 (some ⟨b, f, none⟩) zs) (hn : n ≤ 1048576) (hm2 : m ≤ 1048576) (hB : B ≤ w.heap.size)
    (h : ∀ A' c' w', w'.ownsRow B e 1 (.slice A' (n + m) c') (n + m) (vals (xs ++ zs)) → w.grownBy w' (A.map (·.block)) → (∀ k, A'.map (·.block) = some k → A.map (·.block) = some k ∨ w.heap.size ≤ k) → wpList P ops Q rest (a.put o.dst (.slice A' (n + m) c')) w') :
    wpList P ops Q (o :: rest) a w :=
  wpList_plain hgd fun _ hK => wp_app_f s x t ho B e i ht hi hz hsize hby A c n xs hs hown b f m c2 zs hx hm hat hn hm2 hB fun A' c' w' h1 h2 h3 => hK _ _ (h A' c' w' h1 h2 h3)
set_option maxHeartbeats 1000000 in
theorem spec_pom (n kd k : Int) (w : World) (hn1 : -9223372036854775808 ≤ n) (hn2 : n ≤ 9223372036854775807) :
    Calls Try.prog 36 #[.int .i64 n, .agg #[.int .i64 kd, .int .i64 k]] w (IsILB w.heap.size (pomF n kd k) (mvB n kd k) w) := by
  obtain ⟨i0, hi, hz0, hz1, hz2⟩ := info_parts infoInt
  have HAL := Lib.hid ((Below.refl w.heap.size w).alloc (Nat.le_refl _) (.cells #[.int .i64 kd, .int .i64 k] 26))
  have HBX := Lib.hid (fun W hb => box_kept (w := w) (W := W) (kd := kd) (k := k) hb)
  cases hmv : mvB n kd k with
  | false =>
    rw [pomF_no hmv]
    have HMV := Lib.hid hmv
    clear hmv
    go_enter Try.func36, Try.ntmps36
    go_wp2_with fail
    refine (spec_moveok _ _ _ _).mono ?_
    rintro e w1 ⟨rfl, hb1⟩
    rw [HMV.out]
    have HBA := Lib.hid (HAL.out.trans (hb1.mono HAL.out.size))
    clear hb1
    go_wp2
    go_ret2
    exact nil_after HBA.out
  | true =>
    obtain ⟨h1, h2, h3, h4, h5, h6⟩ := mvB_parts hmv
    obtain ⟨m, rfl⟩ : ∃ m : Nat, n = m := ⟨n.toNat, by omega⟩
    rw [show ((m : Int)).toNat = m from rfl] at h6
    rw [pomF_yes hmv, show ((m : Int)).toNat = m from rfl]
    have HE := Lib.hid (new_cards h6 (by omega) (by omega))
    have hnw := newF_yes m (by omega)
    have hol := new_ok m (by omega)
    have h6' : kOk kd.toNat k.toNat (imarks 0 m).length = true := by rw [imarks_length]; exact h6
    have HML := Lib.hid (show (moveF kd.toNat k.toNat (imarks 0 m)).length = m by rw [move_len h6' (by rw [imarks_length]; omega) (by rw [imarks_length]; omega), imarks_length])
    have HMF := Lib.hid (move_fits h6' (by rw [imarks_length]; omega) hol)
    have HOF := Lib.hid (ok_fits hol)
    have HMV := Lib.hid hmv
    have HNW := Lib.hid hnw
    have hm12 : m ≤ 12 := by omega
    have hm1 : 1 ≤ m := by omega
    have hmA : (-9223372036854775808 : Int) ≤ (m : Int) := by omega
    have hmB : (m : Int) ≤ 9223372036854775807 := by omega
    clear hmv h1 h2 h3 h4 h5 h6 h6' hnw hol
    obtain ⟨zs, hzs⟩ : ∃ z, z = moveF kd.toNat k.toNat (imarks 0 m) := ⟨_, rfl⟩
    rw [← hzs] at HE HML HMF
    have HZS := Lib.hid hzs.symm
    clear hzs
    generalize srcI kd.toNat k.toNat m = R at *
    go_enter Try.func36, Try.ntmps36
    go_wp2_with fail
    refine (spec_moveok _ _ _ _).mono ?_
    rintro e w1 ⟨rfl, hb1⟩
    rw [HMV.out]
    obtain ⟨hc0, hc1⟩ := HBX.out w1 hb1
    have HBA := HAL.out.trans (hb1.mono HAL.out.size)
    have hlt := Nat.lt_of_lt_of_le (show w.heap.size < (w.alloc (.cells #[.int .i64 kd, .int .i64 k] 26)).heap.size by simp) hb1.size
    have HV0a := fun o => Lib.hid (keep_alloc (o := o) hc0)
    have HV1a := fun o => Lib.hid (keep_alloc (o := o) hc1)
    have HBVa := fun o => Lib.hid (HBA.alloc HBA.size o)
    have HLTa := fun o => Lib.hid (show w.heap.size < (w1.alloc o).heap.size by simp; omega)
    have HROa := Lib.hid (World.ownsRow_lit (base := w.heap.size) (e := 3) (size := 1) w1 #[] 0 (Nat.le_of_lt hlt) (Nat.zero_le _) rfl)
    have HROb := Lib.hid (show w1.heap.size < (w1.alloc (.cells #[] 3)).heap.size by simp)
    clear hb1 HBA hc0 hc1
    go_wp2
    generalize hV : w1.alloc _ = V
    have HV0 : Hid (V.cell? ⟨w.heap.size, 0, none⟩ = some (.int .i64 kd)) := by rw [← hV]; exact HV0a _
    have HV1 : Hid (V.cell? ⟨w.heap.size, 1, none⟩ = some (.int .i64 k)) := by rw [← hV]; exact HV1a _
    have HBV : Hid (Below w.heap.size w V) := by rw [← hV]; exact HBVa _
    have HLT0 : Hid ((⟨w.heap.size, 0, none⟩ : Addr).block < V.heap.size) := by rw [← hV]; exact HLTa _
    have HLT1 : Hid ((⟨w.heap.size, 1, none⟩ : Addr).block < V.heap.size) := by rw [← hV]; exact HLTa _
    have hro : V.ownsRow w.heap.size 3 1 (.slice (some ⟨w1.heap.size, 0, none⟩) 0 0) 0 (vals []) := by rw [← hV]; exact HROa.out
    have HRO := Lib.hid hro
    have HRB : Hid (w1.heap.size < V.heap.size) := by rw [← hV]; exact HROb
    have hv0 := HV0.out
    have hv1 := HV1.out
    clear hV HV0a HV1a HBVa HLTa HROa HROb hro
    go_region_held3 (fun w' => w'.cell? ⟨w.heap.size, 0, none⟩ = some (.int .i64 kd) ∧ w'.cell? ⟨w.heap.size, 1, none⟩ = some (.int .i64 k)) ((first | exact ⟨hv0, hv1⟩ | exact keepV HV0 HV1 HLT0 HLT1 HB3 | exact keepV HV0 HV1 HLT0 HLT1 HB2)) ((first
      | (go_at_call 55; refine (Nwp.spec_new (m : Int) _ hmA hmB).mono ?_; rintro e w2 ⟨A2, c2, rfl, ho2, hb2⟩; rw [HNW.out, imarks_length] at ho2; rw [HNW.out, imarks_length]; have HB2 : Hid (Below V.heap.size V w2) := ((Below.refl V.heap.size V).drew).trans hb2; have HR2 : Hid (Ready A2 m c2 (imarks 0 m) w2) := ⟨imarks_length 0 m, hm1, hm12, row_cap ho2, HOF.out, ints_of ho2⟩; clear hb2 ho2)
      | (go_at_call 54; refine (do_any A2 m c2 kd k (imarks 0 m) w2 HR2.out HMV.out).mono ?_; rintro e w3 ⟨A3, c3, rfl, ho3, hb3⟩; rw [HZS.out, HML.out] at ho3; rw [HZS.out, HML.out]; have HB3 : Hid (Below V.heap.size V w3) := HB2.out.trans (hb3.mono HB2.out.size); have HO3 := Lib.hid ho3; have HB23 := Lib.hid HB2.out.size; clear hb3 ho3)))
    have HBW3 := Lib.hid (HBV.out.trans (HB3.out.mono HBV.out.size))
    have HRO3 := Lib.hid (own_low HRO.out (fun b h => (own_lo HRO.out b h).2) HB3.out)
    have HNE0 := Lib.hid (show ∀ b, Option.map (fun x : Addr => x.block) (some ⟨w1.heap.size, 0, none⟩) = some b → Option.map (fun x : Addr => x.block) A3 ≠ some b from fun b h e => by have h1 := (own_lo HO3.out b e).1; have h2 := HB23.out; have h3 := HRB.out; simp only [Option.map_some, Option.some.injEq] at h; omega)
    have HO3b := Lib.hid (own_mono HO3.out (Nat.le_trans HBV.out.size HB23.out))
    clear hv0 hv1 HV0 HV1 HRO HRB HO3 HB23 HB3 HR2 HB2 HLT0 HLT1
    go_wp2
    go_loopw [6, 8, 19] (fun s6 s8 i wr => ∃ j : Nat, j ≤ m ∧ i = .int .i64 (j : Int) ∧ ∃ (A4 : Option Addr) (c4 : Nat), s6 = .slice A4 j c4 ∧ Hid (wr.ownsRow w.heap.size 3 1 (.slice A4 j c4) j (vals ((zs.take j).map cardF))) ∧ Hid (wr.ownsRow w.heap.size 3 1 (.slice A3 m c3) m (vals zs)) ∧ Hid (∀ b, A4.map (·.block) = some b → Option.map (fun x : Addr => x.block) A3 ≠ some b) ∧ Below w.heap.size w wr) (fun _ _ i _ => m - (intOf i).toNat)
    case atStart => exact ⟨0, Nat.zero_le _, rfl, _, 0, rfl, HRO3.out, HO3b.out, HNE0.out, HBW3.out⟩
    case round =>
      obtain ⟨j, hj, rfl, A4, c4, rfl, HOW, HOZ, HNE, hbw⟩ := hrel
      clear HRO3 HO3b HNE0 HBW3
      have hszw := hbw.size
      by_cases hlt2 : j < m
      · obtain ⟨b, o, rfl, hbb, hc⟩ := (ints_of HOZ.out) j (by rw [HML.out]; exact hlt2)
        obtain ⟨hx1, hx2⟩ := HMF.out j (by rw [HML.out]; exact hlt2)
        have hms := map_snoc zs j (by rw [HML.out]; exact hlt2)
        have HMS := Lib.hid hms
        generalize zs.getD j 0 = x at *
        have HOA := Lib.hid (HOW.out.alloc (.cells #[.int .i64 (cardF x)] 3))
        have HOZA := Lib.hid (HOZ.out.alloc (.cells #[.int .i64 (cardF x)] 3))
        have HBA := Lib.hid (hbw.alloc hszw (.cells #[.int .i64 (cardF x)] 3))
        have hsz2 : w.heap.size ≤ (wr.alloc (.cells #[.int .i64 (cardF x)] 3)).heap.size := HBA.out.size
        have hjs : j ≤ 1048576 := by omega
        have HBLT := Lib.hid (own_lo HOZ.out)
        clear hms HOW HOZ hbw
        go_wp2_with fail
        refine (Pk.spec_card x _ hx1 hx2).mono ?_
        rintro e w' ⟨rfl, rfl⟩
        go_wp2_with (at_builtin; refine wpList_app_f rfl (.tmp 23) (.tmp 26) 23 rfl w.heap.size 3 i0 Try.underlying23 hi hz0 hz1 hz2 A4 c4 j ((zs.take j).map cardF) rfl HOA.out wr.heap.size 0 1 1 [cardF x] rfl rfl (lit1_atB wr (cardF x)) hjs (by decide) hsz2 ?_; intro A5 c5 w5 hown5 hgr5 hf5; have HO5 := Lib.hid hown5; rw [← HMS.out] at HO5; have HZ5 := Lib.hid (own_gr HOZA.out hgr5 (fun b hb e => HNE.out b e hb)); have HN5 := Lib.hid (show ∀ b', Option.map (fun x : Addr => x.block) A5 = some b' → Option.map (fun x : Addr => x.block) (some (⟨b, o, none⟩ : Addr)) ≠ some b' from fun b' h e => by rcases hf5 b' h with h1 | h1; exact HNE.out b' h1 e; have h2 := (HBLT.out b' e).2; simp at h1; omega); have HB5 := Lib.hid (HBA.out.grown hgr5 hsz2 (fun b hb => (own_lo HOA.out b hb).1)); clear hown5 hgr5 hf5)
        go_roundw
        case rel => exact ⟨j + 1, by omega, by go_num, A5, c5, rfl, HO5, HZ5, HN5, HB5.out⟩
        case measure => simp [intOf]; omega
      · have hjm : j = m := by omega
        subst hjm
        have HF := Lib.hid (show (zs.take j).map cardF = R by rw [List.take_of_length_le (by rw [HML.out]; exact Nat.le_refl _)]; exact HE.out)
        rw [HF.out] at HOW
        have HL := Lib.hid (row_len HOW.out)
        clear hlt2
        go_wp2
        go_ret2
        exact ⟨A4, c4, by rw [HL.out]; rfl, by rw [HL.out]; exact HOW.out, hbw⟩
end Go.Proofs.Ytdelaoegfooaoaa.Pa
