/- ForceOk and PlayForce of the program, PlayForce of the model. -/
import Derived.Test.YtjmfdflhplobmaaTre
set_option linter.unusedVariables false
set_option maxRecDepth 20000
namespace Go.Proofs.Ytjmfdflhplobmaa.Frc
open Go.RowKit Fr _root_.Go.Proofs.Ytjmfdflhplobmaa.Own Pk Ins Rws Fpl Nod Nob Tcf Fok Trs Tre

theorem impl_ok (A : Option Addr) (n c : Nat) (rs : List NR) (L : List NV) (w : World) (hz : rs.map NR.nv = L) (hn : rs.length = n) (hnc : n ≤ c) (hfit : FitN L) (hbig : BigN L) (hat : NodesAt w w.heap.size A rs) :
    Calls Try.prog 17 #[.slice A n c] w fun e w' => e = .returned (.bool (okB L)) ∧ Below w.heap.size w w' := by
  have HT := Lib.hid (tree_any A n c rs L w hz hn hnc hfit hbig hat)
  clear hat hfit hbig
  go_enter Try.func17, Try.ntmps17
  go_wp2_with fail
  refine HT.out.mono ?_
  rintro e w1 ⟨hb, (⟨hno, rfl⟩ | ⟨hok, tp, rfl, htr⟩)⟩
  · have HB := Lib.hid hb
    have HNO := Lib.hid (ok_no hno)
    clear hb hno
    go_wp2
    go_ret
    exact ⟨by rw [HNO.out]; rfl, HB.out⟩
  · have HB := Lib.hid hb
    have HNO := Lib.hid (ok_yes hok)
    clear hb hok htr
    go_wp2
    go_ret
    exact ⟨by rw [HNO.out]; rfl, HB.out⟩
/-- the node that the answers lead to, and whether they lead to one -/
noncomputable def playI (L : List NV) (ws : List Int) : Int := match playO L ws with | some j => (j : Int) | none => 0
noncomputable def playB (L : List NV) (ws : List Int) : Bool := (playO L ws).isSome
theorem play_no {L : List NV} {ws : List Int} (h : ¬ OkF L) : playI L ws = 0 ∧ playB L ws = false := by
  unfold playI playB playO; rw [ok_no h]; exact ⟨rfl, rfl⟩
theorem play_ok {L : List NV} (h : OkF L) (ws : List Int) : playO L ws = playF L 0 ws := by unfold playO; rw [ok_yes h]; rfl
theorem play_bad {L : List NV} {ws : List Int} (h : playO L ws = none) : playI L ws = 0 ∧ playB L ws = false := by unfold playI playB; rw [h]; exact ⟨rfl, rfl⟩
theorem play_good {L : List NV} {ws : List Int} {j : Nat} (h : playO L ws = some j) : playI L ws = j ∧ playB L ws = true := by unfold playI playB; rw [h]; exact ⟨rfl, rfl⟩
theorem play_step {L : List NV} {ws : List Int} {j t : Nat} (ht : t < ws.length) (h : 0 ≤ ws.getD t 0 ∧ ws.getD t 0 < (nx L j).length) : playF L j (ws.drop t) = playF L ((nx L j).getD (ws.getD t 0).toNat 0).toNat (ws.drop (t + 1)) := by
  have e : ws.getD t 0 = ws[t] := by rw [List.getD_eq_getElem?_getD, List.getElem?_eq_getElem ht]; rfl
  rw [e] at h ⊢
  rw [List.drop_eq_getElem_cons ht]
  simp only [playF]
  rw [if_pos h]
theorem play_stop {L : List NV} {ws : List Int} {j t : Nat} (ht : t < ws.length) (h : ¬ (0 ≤ ws.getD t 0 ∧ ws.getD t 0 < (nx L j).length)) : playF L j (ws.drop t) = none := by
  have e : ws.getD t 0 = ws[t] := by rw [List.getD_eq_getElem?_getD, List.getElem?_eq_getElem ht]; rfl
  rw [e] at h
  rw [List.drop_eq_getElem_cons ht]
  simp only [playF]
  rw [if_neg h]
theorem play_end' {L : List NV} {ws : List Int} {j t : Nat} (ht : ws.length ≤ t) : playF L j (ws.drop t) = some j := by rw [List.drop_eq_nil_of_le ht]; rfl
set_option maxHeartbeats 1000000 in
theorem impl_play (A : Option Addr) (n c : Nat) (rs : List NR) (L : List NV) (B : Option Addr) (m d : Nat) (ws : List Int) (w : World) (hz : rs.map NR.nv = L) (hn : rs.length = n) (hnc : n ≤ c) (hfit : FitN L) (hbig : BigN L) (hat : NodesAt w w.heap.size A rs)
    (hm : ws.length = m) (hm2 : m ≤ 1048576) (hws : Fits ws) (hbt : IntsAt w w.heap.size .i64 B ws) :
    Calls Try.prog 21 #[.slice A n c, .slice B m d] w fun e w' => e = .returned (.tuple #[.int .i64 (playI L ws), .bool (playB L ws)]) ∧ Below w.heap.size w w' := by
  have HT := Lib.hid (tree_any A n c rs L w hz hn hnc hfit hbig hat)
  have HM := Lib.hid hm
  have HWS := Lib.hid hws
  have HBT := Lib.hid hbt
  obtain ⟨I, hI⟩ : ∃ I, I = playI L ws := ⟨_, rfl⟩
  obtain ⟨R, hR⟩ : ∃ R, R = playB L ws := ⟨_, rfl⟩
  rw [← hI, ← hR]
  have HI := Lib.hid hI
  have HR := Lib.hid hR
  clear hat hfit hbig hm hws hbt hI hR
  go_enter Try.func21, Try.ntmps21
  go_wp2_with fail
  refine HT.out.mono ?_
  rintro e w1 ⟨hb, (⟨hno, rfl⟩ | ⟨hok, tp, rfl, htr⟩)⟩
  · have HB := Lib.hid hb
    obtain ⟨p1, p2⟩ := play_no (ws := ws) hno
    have H1 := Lib.hid (HI.out.trans p1)
    have H2 := Lib.hid (HR.out.trans p2)
    clear hb hno p1 p2
    go_wp2
    go_ret2
    exact ⟨by rw [H1.out, H2.out]; rfl, HB.out⟩
  · have HB := Lib.hid hb
    have HOK := Lib.hid hok
    have HTR := Lib.hid htr
    have hsz1 := hb.size
    clear hb hok htr
    go_wp2
    go_loop [6, 15] (fun p q => ∃ j t : Nat, t ≤ m ∧ q = .int .i64 t ∧ p = .pointer (some ⟨tp j, 0, none⟩) ∧ j < L.length ∧ Hid (playF L j (ws.drop t) = playF L 0 ws)) (fun _ q => m - (intOf q).toNat)
    case atStart => exact ⟨0, 0, Nat.zero_le _, rfl, rfl, HOK.out.pos, Lib.hid (by rw [List.drop_zero])⟩
    case round =>
      obtain ⟨j, t, ht, rfl, rfl, hj, HP⟩ := hrel
      obtain ⟨A2, c2, h1, h2, h3⟩ := HTR.out j hj
      obtain ⟨k0, k1, k2⟩ := cell3 h1
      by_cases hlt : t < m
      · obtain ⟨b, o, rfl, hbb, hc⟩ := (HBT.out.below HB.out) t (by rw [HM.out]; exact hlt)
        obtain ⟨hx1, hx2⟩ := HWS.out t (by rw [HM.out]; exact hlt)
        have HST := Lib.hid (play_step (L := L) (j := j) (show t < ws.length by rw [HM.out]; exact hlt))
        have HSP := Lib.hid (play_stop (L := L) (j := j) (show t < ws.length by rw [HM.out]; exact hlt))
        generalize ws.getD t 0 = x at *
        by_cases hx : 0 ≤ x ∧ x < (nx L j).length
        · obtain ⟨y, rfl⟩ : ∃ y : Nat, x = (y : Int) := ⟨x.toNat, by omega⟩
          have hy : y < (nx L j).length := by omega
          obtain ⟨q, hq, hq1, hq2⟩ := HOK.out.child hj hy
          obtain ⟨g2, rfl⟩ := own_shape h3 (by omega)
          have hck : w1.cell? ⟨g2, y, none⟩ = some (.pointer (some ⟨tp q, 0, none⟩)) := by
            rw [h3.cellAt y (by omega)]
            unfold kidsV
            rw [List.getElem?_map, List.getElem?_eq_getElem hy]
            have : (nx L j)[y] = (q : Int) := by
              rw [← hq, List.getD_eq_getElem?_getD, List.getElem?_eq_getElem hy]; rfl
            rw [this]
            simp
          have HP2 := Lib.hid (show playF L q (ws.drop (t + 1)) = playF L 0 ws by
            have := HST.out hx
            rw [Int.toNat_natCast, hq, Int.toNat_natCast] at this
            rw [← this]; exact HP.out)
          generalize (nx L j).length = l at *
          clear hx h3 h1 hq
          go_wp2
          go_round
          case rel => exact ⟨q, t + 1, by omega, by go_num, rfl, hq2, HP2⟩
          case measure => simp [intOf]; omega
        · have hpn := HP.out
          rw [HSP.out hx] at hpn
          obtain ⟨p1, p2⟩ := play_bad (L := L) (ws := ws) (by rw [play_ok HOK.out]; exact hpn.symm)
          have H1 := Lib.hid (HI.out.trans p1)
          have H2 := Lib.hid (HR.out.trans p2)
          generalize (nx L j).length = l at *
          clear hpn p1 p2 h3 h1
          by_cases hx0 : x < 0
          · go_wp2
            go_ret2
            exact ⟨by rw [H1.out, H2.out]; rfl, HB.out⟩
          · have hx0' : decide (x < 0) = false := decide_eq_false hx0
            have hxl : (l : Int) ≤ x := by omega
            go_wp2
            go_ret2
            exact ⟨by rw [H1.out, H2.out]; rfl, HB.out⟩
      · have hpn := HP.out
        rw [play_end' (by rw [HM.out]; omega)] at hpn
        obtain ⟨p1, p2⟩ := play_good (L := L) (ws := ws) (j := j) (by rw [play_ok HOK.out]; exact hpn.symm)
        have H1 := Lib.hid (HI.out.trans p1)
        have H2 := Lib.hid (HR.out.trans p2)
        generalize (nx L j).length = l at *
        clear hpn p1 p2 h3 h1
        go_wp2
        go_ret2
        exact ⟨by rw [H1.out, H2.out]; rfl, HB.out⟩
set_option maxHeartbeats 1000000 in
theorem spec_play (A : Option Addr) (n c : Nat) (rs : List NR) (L : List NV) (B : Option Addr) (m d : Nat) (ws : List Int) (w : World) (hz : rs.map NR.nv = L) (hn : rs.length = n) (hnc : n ≤ c) (hfit : FitN L) (hbig : BigN L) (hat : NodesAt w w.heap.size A rs)
    (hm : ws.length = m) (hm2 : m ≤ 1048576) (hws : Fits ws) (hbt : IntsAt w w.heap.size .i64 B ws) :
    Calls Try.prog 37 #[.slice A n c, .slice B m d] w fun e w' => e = .returned (.tuple #[.int .i64 (playI L ws), .bool (playB L ws)]) ∧ Below w.heap.size w w' := by
  have HT := Lib.hid (spec_ok A n c rs L w hz hn hfit hbig hat)
  have HX := Lib.hid (nx_small hbig)
  have HL := Lib.hid (show L.length = n by rw [← hz, List.length_map]; exact hn)
  have HN := Lib.hid hn
  have HZ := Lib.hid (fun j => nv_at hz j)
  have HAT := Lib.hid hat
  have HM := Lib.hid hm
  have HWS := Lib.hid hws
  have HBT := Lib.hid hbt
  obtain ⟨I, hI⟩ : ∃ I, I = playI L ws := ⟨_, rfl⟩
  obtain ⟨R, hR⟩ : ∃ R, R = playB L ws := ⟨_, rfl⟩
  rw [← hI, ← hR]
  have HI := Lib.hid hI
  have HR := Lib.hid hR
  have hn2 : n ≤ 1048576 := by have := big_n hz hbig; omega
  clear hat hfit hbig hm hws hbt hI hR hn hz
  go_enter Try.func37, Try.ntmps37
  go_wp2_with fail
  refine HT.out.mono ?_
  rintro e w1 ⟨rfl, hb⟩
  have HB := Lib.hid hb
  have hsz1 := hb.size
  clear hb HT
  by_cases hok : OkF L
  · have HOK := Lib.hid hok
    rw [ok_yes hok]
    clear hok
    go_wp2
    go_loop [6, 14] (fun p q => ∃ j t : Nat, t ≤ m ∧ q = .int .i64 t ∧ p = .int .i64 j ∧ j < n ∧ Hid (playF L j (ws.drop t) = playF L 0 ws)) (fun _ q => m - (intOf q).toNat)
    case atStart => exact ⟨0, 0, Nat.zero_le _, rfl, rfl, by rw [← HL.out]; exact HOK.out.pos, Lib.hid (by rw [List.drop_zero])⟩
    case round =>
      obtain ⟨j, t, ht, rfl, rfl, hj, HP⟩ := hrel
      have hjl : j < L.length := by rw [HL.out]; exact hj
      obtain ⟨b2, o2, rfl, hbb2, c0, c1, c2, hi4⟩ := (HAT.out.below HB.out) j (by rw [HN.out]; exact hj)
      obtain ⟨z1, z2⟩ := HZ.out j
      unfold NR.sv at c1
      rw [z1] at c1 hi4
      generalize (rs.getD j nr0).A = A1 at c1 hi4
      generalize (rs.getD j nr0).c = d1 at c1
      clear z1 z2 c0 c2
      have hxj := HX.out j
      by_cases hlt : t < m
      · obtain ⟨b, o, rfl, hbb, hc⟩ := (HBT.out.below HB.out) t (by rw [HM.out]; exact hlt)
        obtain ⟨hx1, hx2⟩ := HWS.out t (by rw [HM.out]; exact hlt)
        have HST := Lib.hid (play_step (L := L) (j := j) (show t < ws.length by rw [HM.out]; exact hlt))
        have HSP := Lib.hid (play_stop (L := L) (j := j) (show t < ws.length by rw [HM.out]; exact hlt))
        generalize ws.getD t 0 = x at *
        by_cases hx : 0 ≤ x ∧ x < (nx L j).length
        · obtain ⟨y, rfl⟩ : ∃ y : Nat, x = (y : Int) := ⟨x.toNat, by omega⟩
          have hy : y < (nx L j).length := by omega
          obtain ⟨q, hq, hq1, hq2⟩ := HOK.out.child hjl hy
          obtain ⟨b4, o4, rfl, hb4, hc4⟩ := hi4 y hy
          rw [hq] at hc4
          have HP2 := Lib.hid (show playF L q (ws.drop (t + 1)) = playF L 0 ws by
            have := HST.out hx
            rw [Int.toNat_natCast, hq, Int.toNat_natCast] at this
            rw [← this]; exact HP.out)
          have hqn : q < n := by rw [← HL.out]; exact hq2
          have HIN := Lib.hid (in_yes (y : Int) 0 (((nx L j).length : Int) - 1) w1 (by omega) (by omega))
          generalize (nx L j).length = l at *
          clear hx hq
          go_wp2_with fail
          refine HIN.out.mono ?_
          rintro e w' ⟨rfl, rfl⟩
          go_wp2
          go_round
          case rel => exact ⟨q, t + 1, by omega, by go_num, rfl, hqn, HP2⟩
          case measure => simp [intOf]; omega
        · have hpn := HP.out
          rw [HSP.out hx] at hpn
          obtain ⟨p1, p2⟩ := play_bad (L := L) (ws := ws) (by rw [play_ok HOK.out]; exact hpn.symm)
          have H1 := Lib.hid (HI.out.trans p1)
          have H2 := Lib.hid (HR.out.trans p2)
          have HIN := Lib.hid (in_no x 0 (((nx L j).length : Int) - 1) w1 (by omega))
          generalize (nx L j).length = l at *
          clear hpn p1 p2
          go_wp2_with fail
          refine HIN.out.mono ?_
          rintro e w' ⟨rfl, rfl⟩
          go_wp2
          go_ret2
          exact ⟨by rw [H1.out, H2.out]; rfl, HB.out⟩
      · have hpn := HP.out
        rw [play_end' (by rw [HM.out]; omega)] at hpn
        obtain ⟨p1, p2⟩ := play_good (L := L) (ws := ws) (j := j) (by rw [play_ok HOK.out]; exact hpn.symm)
        have H1 := Lib.hid (HI.out.trans p1)
        have H2 := Lib.hid (HR.out.trans p2)
        generalize (nx L j).length = l at *
        clear hpn p1 p2
        go_wp2
        go_ret2
        exact ⟨by rw [H1.out, H2.out]; rfl, HB.out⟩
  · obtain ⟨p1, p2⟩ := play_no (ws := ws) hok
    rw [ok_no hok]
    have H1 := Lib.hid (HI.out.trans p1)
    have H2 := Lib.hid (HR.out.trans p2)
    clear hok p1 p2
    go_wp2
    go_ret2
    exact ⟨by rw [H1.out, H2.out]; rfl, HB.out⟩
end Go.Proofs.Ytjmfdflhplobmaa.Frc
