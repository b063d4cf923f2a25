/- PerformAll of the program and of the model. -/
import Derived.Test.YtpbpgpccjabghaaPa
set_option linter.unusedVariables false
set_option maxRecDepth 20000
namespace Go.Proofs.Ytpbpgpccjabghaa.Pal
open Go.RowKit Fr Own Pk Pok Arr Ins Nwp Pfn Rws Lb Cat Mvp Mv1 Mv2 Mv3 Mv4 Mk Mok2 Pf Sv Sv2 Sv3 Do Pa

/-- pairs of integers in memory, below block B -/
def PairsAt (w : World) (B : Nat) (A : Option Addr) (zs : List (Int × Int)) : Prop :=
  ∀ j, j < zs.length → ∃ b o, A = some ⟨b, o, none⟩ ∧ b < B ∧ w.cell? ⟨b, o + j * 2, none⟩ = some (.int .i64 (zs.getD j (0, 0)).1) ∧ w.cell? ⟨b, o + j * 2 + 1, none⟩ = some (.int .i64 (zs.getD j (0, 0)).2)
theorem PairsAt.below {w w' : World} {B : Nat} {A : Option Addr} {zs : List (Int × Int)} (h : PairsAt w B A zs) (hb : Below B w w') : PairsAt w' B A zs := by
  intro j hj
  obtain ⟨b, o, hA, hlt, h0, h1⟩ := h j hj
  exact ⟨b, o, hA, hlt, (hb.cell (p := ⟨b, o + j * 2, none⟩) hlt).trans h0, (hb.cell (p := ⟨b, o + j * 2 + 1, none⟩) hlt).trans h1⟩
theorem PairsAt.more {w : World} {B B' : Nat} {A : Option Addr} {zs : List (Int × Int)} (h : PairsAt w B A zs) (hB : B ≤ B') : PairsAt w B' A zs := by
  intro j hj
  obtain ⟨b, o, hA, hlt, h0, h1⟩ := h j hj
  exact ⟨b, o, hA, by omega, h0, h1⟩
def allGo : List (Int × Int) → List Int → Option (List Int)
  | [], zs => some zs
  | m :: r, zs => if perfB zs m.1 m.2 = true then allGo r (perfF zs m.1 m.2) else none
def allB (zs : List Int) (ms : List (Int × Int)) : Bool := okB zs && decide (ms.length ≤ 20) && (allGo ms zs).isSome
def allF (zs : List Int) (ms : List (Int × Int)) : List Int := if allB zs ms then (allGo ms zs).getD [] else []
theorem allF_no {zs : List Int} {ms : List (Int × Int)} (h : allB zs ms = false) : allF zs ms = [] := by unfold allF; rw [h]; rfl
theorem all_at {zs q : List Int} {ms : List (Int × Int)} (h1 : okB zs = true) (h2 : ms.length ≤ 20) (h3 : allGo ms zs = some q) : allB zs ms = true ∧ allF zs ms = q := by
  have hB : allB zs ms = true := by unfold allB; rw [h1, decide_eq_true h2, h3]; rfl
  refine ⟨hB, ?_⟩
  unfold allF
  rw [if_pos hB, h3]
  rfl
theorem all_none {zs : List Int} {ms : List (Int × Int)} (h3 : allGo ms zs = none) : allB zs ms = false := by unfold allB; rw [h3, Bool.and_comm]; rfl
theorem go_step {ms : List (Int × Int)} {j : Nat} (h : j < ms.length) (q : List Int) : allGo (ms.drop j) q = if perfB q (ms.getD j (0, 0)).1 (ms.getD j (0, 0)).2 = true then allGo (ms.drop (j + 1)) (perfF q (ms.getD j (0, 0)).1 (ms.getD j (0, 0)).2) else none := by
  rw [List.drop_eq_getElem_cons h, allGo]
  simp only [List.getD_eq_getElem?_getD, List.getElem?_eq_getElem h, Option.getD_some]
theorem perf_ok {zs : List Int} {kd k : Int} (h : perfB zs kd k = true) : okB (perfF zs kd k) = true := by
  obtain ⟨h1, h2, h3, h4, h5, h6, h7⟩ := perf_parts h
  rw [perfF_yes h]
  exact move_ok h7 h2 h1
theorem go_short : ∀ (ms : List (Int × Int)) (zs q : List Int), okB zs = true → allGo ms zs = some q → q.length ≤ 12
  | [], zs, q, h0, h => by
    simp only [allGo, Option.some.injEq] at h
    rw [← h]; exact (okB_yes h0).1
  | m :: r, zs, q, h0, h => by
    rw [allGo] at h
    split at h
    · rename_i hp
      exact go_short r _ q (perf_ok hp) h
    · cases h
theorem all_short (zs : List Int) (ms : List (Int × Int)) : (allF zs ms).length ≤ 1048576 := by
  cases h : allB zs ms with
  | false => rw [allF_no h]; exact Nat.zero_le _
  | true =>
    have h2 := h
    unfold allB at h2
    rw [Bool.and_eq_true, Bool.and_eq_true] at h2
    cases hg : allGo ms zs with
    | none => rw [hg] at h2; simp at h2
    | some q =>
      have h3 := all_at h2.1.1 (of_decide_eq_true h2.1.2) hg
      have := go_short ms zs q h2.1.1 hg
      rw [h3.2]; omega
set_option maxHeartbeats 1000000 in
theorem impl_all (A : Option Addr) (n c : Nat) (zs : List Int) (A2 : Option Addr) (m c2 : Nat) (ms : List (Int × Int)) (w : World) (hn : zs.length = n) (hn2 : n ≤ 9223372036854775807) (hz : Fits zs) (hss : IntsAt w w.heap.size .i64 A zs)
    (hm : ms.length = m) (hm2 : m ≤ 9223372036854775807) (hmm : PairsAt w w.heap.size A2 ms) :
    Calls Try.prog 43 #[.slice A n c, .slice A2 m c2] w (IsILB w.heap.size (allF zs ms) (allB zs ms) w) := by
  obtain ⟨i0, hi, hz0, hz1, hz2⟩ := info_parts infoInt
  have HOK := Lib.hid (Pok.impl_ok A n c zs w hn hn2 hz hss)
  cases hok : okB zs with
  | false =>
    have hB : allB zs ms = false := by unfold allB; rw [hok]; rfl
    rw [allF_no hB, hB]
    have HBK := Lib.hid hok
    clear hn hss hz hok hB hm hmm
    go_enter Try.func43, Try.ntmps43
    go_wp2_with fail
    refine HOK.out.mono ?_
    rintro e w1 ⟨rfl, hb1⟩
    rw [HBK.out]
    go_wp2
    go_ret2
    exact nil_after hb1
  | true =>
    have HBK := Lib.hid hok
    by_cases h20 : m ≤ 20
    · have hc20 : decide ((20 : Int) < (m : Int)) = false := decide_eq_false (by omega)
      have hn12 : n ≤ 12 := by have := (okB_yes hok).1; omega
      have HN := Lib.hid hn
      have HM := Lib.hid hm
      have HS := Lib.hid hss
      have HP := Lib.hid hmm
      have HZ := Lib.hid hz
      obtain ⟨G, hG⟩ : ∃ G, G = allGo ms zs := ⟨_, rfl⟩
      have HG := Lib.hid hG.symm
      have HG0 := Lib.hid (show allGo (ms.drop 0) zs = G by rw [List.drop_zero, hG])
      obtain ⟨RB, hRB⟩ : ∃ R, R = allB zs ms := ⟨_, rfl⟩
      obtain ⟨RF, hRF⟩ : ∃ R, R = allF zs ms := ⟨_, rfl⟩
      rw [← hRB, ← hRF]
      have HRB := Lib.hid hRB
      have HRF := Lib.hid hRF
      clear hn hss hz hok hm hmm hG hRB hRF
      go_enter Try.func43, Try.ntmps43
      go_wp2_with fail
      refine HOK.out.mono ?_
      rintro e w1 ⟨rfl, hb1⟩
      rw [HBK.out]
      have HB1 := Lib.hid hb1
      have HS1 := Lib.hid (ints_on HS.out hb1)
      clear hb1 HOK
      go_wp2_with fail
      refine (clone_any A n c zs _ HN.out (by omega) HS1.out).mono ?_
      rintro e w2 ⟨A3, c3, rfl, ho3, hb3⟩
      rw [HN.out] at ho3
      rw [HN.out]
      have HO3 := Lib.hid (own_mono ho3 HB1.out.size)
      have HB3 := Lib.hid (HB1.out.trans (hb3.mono HB1.out.size))
      clear ho3 hb3
      go_wp2
      go_loopw [6, 8, 9, 22] (fun s6 s8 s9 i wr => ∃ j : Nat, j ≤ m ∧ i = .int .i64 (j : Int) ∧ ∃ (A4 : Option Addr) (n4 c4 : Nat) (q : List Int), s6 = .slice A4 n4 c4 ∧ Hid (wr.ownsRow w.heap.size 3 1 (.slice A4 n4 c4) n4 (vals q)) ∧ Hid (okB q = true) ∧ n4 ≤ 12 ∧ Hid (allGo (ms.drop j) q = G) ∧ Below w.heap.size w wr) (fun _ _ _ i _ => m - (intOf i).toNat)
      case atStart => exact ⟨0, Nat.zero_le _, rfl, A3, n, c3, zs, rfl, HO3.out, HBK.out, hn12, HG0, HB3.out⟩
      case round =>
        obtain ⟨j, hj, rfl, A4, n4, c4, q, rfl, HOQ, HKQ, hn4, HGJ, hbw⟩ := hrel
        clear HO3 HB3 HG0
        have hszw := hbw.size
        have HQL := Lib.hid (row_len HOQ.out)
        by_cases hlt : j < m
        · obtain ⟨b, o, rfl, hbb, hc0, hc1⟩ := (HP.out.below hbw) j (by rw [HM.out]; exact hlt)
          have HST := Lib.hid ((go_step (ms := ms) (j := j) (by rw [HM.out]; exact hlt) q).symm.trans HGJ.out)
          generalize (ms.getD j (0, 0)).1 = kd at *
          generalize (ms.getD j (0, 0)).2 = k at *
          have HBA := Lib.hid (hbw.alloc hszw (.cells #[.int .i64 kd, .int .i64 k] 39))
          have HOA := Lib.hid (HOQ.out.alloc (.cells #[.int .i64 kd, .int .i64 k] 39))
          have hbx := box_kept (w := wr) (kd := kd) (k := k) (Below.refl _ _)
          have HBXW := Lib.hid (fun W hb => box_kept (w := wr) (W := W) (kd := kd) (k := k) hb)
          have HBX := Lib.hid hbx
          have hn4s : n4 ≤ 9223372036854775807 := by omega
          clear HOQ HGJ hbw hbx
          go_wp2_with fail
          refine (impl_perform A4 n4 c4 kd k q _ HQL.out (row_cap HOA.out) hn4s (ok_fits HKQ.out) (ints_of HOA.out)).mono ?_
          rintro e w5 ⟨A5, c5, rfl, ho5, hb5⟩
          have HB5 := Lib.hid (HBA.out.trans (hb5.mono HBA.out.size))
          have HO5 := Lib.hid (own_mono ho5 HBA.out.size)
          clear hb5 ho5 HBA HOA
          cases hpb : perfB q kd k with
          | false =>
            have HN2 := Lib.hid (show none = G by have h := HST.out; rw [hpb] at h; exact h)
            have hnb : allB zs ms = false := all_none (HG.out.trans HN2.out.symm)
            have e1 : RB = false := HRB.out.trans hnb
            have e2 : RF = [] := HRF.out.trans (allF_no hnb)
            subst e1 e2
            clear hpb hnb
            go_wp2
            go_ret2
            exact nil_after HB5.out
          | true =>
            have HG2 := Lib.hid (show allGo (ms.drop (j + 1)) (perfF q kd k) = G by have h := HST.out; rw [hpb, if_pos rfl] at h; exact h)
            have HK2 := Lib.hid (perf_ok hpb)
            have hl2 : (perfF q kd k).length = n4 := by rw [perf_len hpb, HQL.out]
            rw [hl2] at HO5
            rw [hl2]
            clear hpb hl2 HST HQL HKQ
            generalize perfF q kd k = q2 at *
            go_wp2
            go_roundw
            case rel => exact ⟨j + 1, by omega, by go_num, A5, n4, c5, q2, rfl, HO5, HK2, hn4, HG2, HB5.out⟩
            case measure => simp [intOf]; omega
        · have hjm : j = m := by omega
          subst hjm
          have hgs : allGo ms zs = some q := by
            have h := HGJ.out
            rw [List.drop_eq_nil_of_le (by rw [HM.out]; exact Nat.le_refl _), allGo] at h
            rw [HG.out, ← h]
          obtain ⟨g1, g2⟩ := all_at HBK.out (by rw [HM.out]; exact h20) hgs
          have e1 : RB = true := HRB.out.trans g1
          have e2 : q = RF := (HRF.out.trans g2).symm
          subst e1 e2
          have HQ2 := Lib.hid HQL.out
          clear hgs g1 g2 hlt HGJ HRF HRB
          go_wp2
          go_ret2
          exact ⟨A4, c4, by rw [HQ2.out]; rfl, by rw [HQ2.out]; exact HOQ.out, hbw⟩
    · have hc20 : (20 : Int) < (m : Int) := by omega
      have hB : allB zs ms = false := by unfold allB; rw [decide_eq_false (p := ms.length ≤ 20) (by omega), Bool.and_false]; rfl
      rw [allF_no hB, hB]
      clear hn hss hz hok hB hm hmm h20
      go_enter Try.func43, Try.ntmps43
      go_wp2_with fail
      refine HOK.out.mono ?_
      rintro e w1 ⟨rfl, hb1⟩
      rw [HBK.out]
      go_wp2
      go_ret2
      exact nil_after hb1
end Go.Proofs.Ytpbpgpccjabghaa.Pal
