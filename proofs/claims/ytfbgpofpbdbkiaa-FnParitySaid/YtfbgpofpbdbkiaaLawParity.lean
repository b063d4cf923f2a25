/- The law of turned pairs holds: turning pairs over and cutting never changes the balance, but for its complement. No condition. -/
import Derived.Deep.RegionHeld3
import Derived.Deep.RegionWith
import Derived.Deep.Cut
import Derived.Deep.CutRange
import Derived.BigQuiet
import Derived.Test.YtfbgpofpbdbkiaaBap
import Derived.Test.YtfbgpofpbdbkiaaMkq
import Derived.Test.YtfbgpofpbdbkiaaMkp
import Derived.Test.YtfbgpofpbdbkiaaCur
import Derived.Test.YtfbgpofpbdbkiaaFrame
set_option linter.unusedVariables false
namespace Go.Proofs.Ytfbgpofpbdbkiaa.LawParity
open Go.ChangeShapes Go.WideShapes Go.ChangeAt Go.RowKit Fr Cur _root_.Go.Proofs.Ytfbgpofpbdbkiaa.Own Pk Pok Pl Ins Prm Rws Pfn Mvp Pf Pa Bal Bak Spt Bap Mkq

theorem bytes_more {w : World} {B B2 : Nat} {A : Option Addr} {n : Nat} (h : BytesAt w B A n) (hB : B ≤ B2) : BytesAt w B2 A n := fun i hi => by
  obtain ⟨b, o, k, h1, h2, r⟩ := h i hi
  exact ⟨b, o, k, h1, by omega, r⟩
/-- a packet of the law's own: where it lies, and what is known of it -/
def Pack (W : World) (B : Nat) (A : Option Addr) (m c : Nat) (q : List Int) : Prop := q.length = m ∧ okB q = true ∧ W.ownsRow B 3 1 (.slice A m c) m (vals q)
set_option maxHeartbeats 4000000 in
set_option maxRecDepth 20000 in
theorem walk (A : Option Addr) (n c : Nat) (zs : List Int) (w : World) (hn : zs.length = n) (hm : n ≤ maxLen) (hs : ∀ z ∈ zs, (Lit.int .u8 z).wf = true) (ha : Fr.IntsAt w w.heap.size .u8 A zs) :
    Calls Try.prog 4 #[.slice A n c] w fun e w' => e = .returned (.bool true) ∧ Below w.heap.size w w' := by
  have hm0 : n ≤ 9223372036854775807 := by unfold maxLen at hm; omega
  have hby := Cur.bytes_of hn hs ha
  clear hn hs ha zs hm
  obtain ⟨i0, hi, hz0, hz1, hz2⟩ := info_parts infoInt
  by_cases h1 : n ≤ 1048576
  · have h1' : decide ((1048576 : Int) < (n : Int)) = false := decide_eq_false (by omega)
    go_enter Try.func4, Try.ntmps4
    go_wp2_with fail
    refine (Cur.num_any A n c 1 _ h1 (by omega) hby).mono ?_
    rintro e w1 ⟨x, rfl, hx0, hx1, T⟩
    obtain ⟨j, hj⟩ : ∃ j : Nat, x % 4 = (j : Int) := ⟨(x % 4).toNat, by omega⟩
    have hj1 : j ≤ 3 := by omega
    obtain ⟨m, hm⟩ : ∃ m : Nat, m = 2 + 2 * j := ⟨_, rfl⟩
    have hmi : (2 : Int) + 2 * (j : Int) = (m : Int) := by omega
    have hm2 : 2 ≤ m := by omega
    have hm8 : m ≤ 8 := by omega
    have hme : m % 2 = 0 := by omega
    clear hm hj1
    have s1 : w.heap.size ≤ w1.heap.size := T.size
    replace hby := BytesAt.below hby T
    go_wp2_with fail
    refine (Mkp.make_perm A n c 3 m _ h1 (by omega) (by omega) (by omega) (bytes_more hby s1)).mono ?_
    rintro e w2 ⟨A2, c2, p0, rfl, hl0, hp0, ho, hb⟩
    clear hj hmi hx0 hx1
    replace hby := BytesAt.below hby (hb.mono s1)
    replace T := T.trans (hb.mono s1)
    have HP0 := Lib.hid (show Pack w2 w.heap.size A2 m c2 p0 from ⟨hl0, perm_ok hp0, own_mono ho s1⟩)
    have HT := Lib.hid T
    have HBY := Lib.hid hby
    clear hb ho hl0 hp0 T hby
    go_wp2
    go_loopw [5, 32] (fun _ i wr => ∃ t : Nat, t ≤ m ∧ i = .int .i64 (t : Int) ∧ ∃ q : List Int, Hid (Pack wr w.heap.size A2 m c2 q) ∧ Hid (BytesAt wr w.heap.size A n) ∧ Hid (Below w.heap.size w wr)) (fun _ i _ => m - (intOf i).toNat)
    case atStart => exact ⟨0, Nat.zero_le _, rfl, p0, HP0, HBY, HT⟩
    case round =>
      obtain ⟨t, ht, rfl, q, HP, HY, HB⟩ := hrel
      clear HP0 HBY HT
      have hszr := HB.out.size
      by_cases hlt : t < m
      · go_wp2_with fail
        have e30 : (30 : Int) + (t : Int) = ((30 + t : Nat) : Int) := by omega
        try rw [e30]
        refine (Cur.num_any A n c (30 + t) _ h1 (by omega) (bytes_more HY.out hszr)).mono ?_
        rintro e w3 ⟨x, rfl, hx0, hx1, hb⟩
        have HY3 := Lib.hid (HY.out.below (hb.mono hszr))
        have HB3 := Lib.hid (HB.out.trans (hb.mono hszr))
        have HP3 : Hid (Pack w3 w.heap.size A2 m c2 q) := ⟨HP.out.1, HP.out.2.1, own_below HP.out.2.2 hb⟩
        clear hb HY HB HP e30
        by_cases hc : x % 2 = 1
        · have hc2 : (x % 2 == 1) = true := by rw [beq_iff_eq]; exact hc
          obtain ⟨hl, hok, hown⟩ := HP3.out
          obtain ⟨g, rfl⟩ := own_shape hown (by omega)
          have hx := cardF_pos ((ok_parts hok).2.1 t (by omega))
          have hcell : w3.cell? ⟨g, t, none⟩ = some (.int .i64 (q.getD t 0)) := by rw [hown.cellAt t (by omega)]; exact vals_get (by omega)
          have hfz := hown.frozenAt t
          have hst := hown.stored t (.int .i64 (-1 - q.getD t 0))
          rw [vals_set] at hst
          have hgg := (own_lo hown g rfl)
          have HK6 : Hid (Pack (w3.setCell ⟨g, t, none⟩ (.int .i64 (-1 - q.getD t 0))) w.heap.size (some ⟨g, 0, none⟩) m c2 (q.set t (-1 - q.getD t 0))) := ⟨by rw [List.length_set]; exact hl, flip_ok hok (by omega), hst.1⟩
          have HB6 := Lib.hid (HB3.out.setCell (p := ⟨g, t, none⟩) (by show w.heap.size ≤ g; exact hgg.1) (.int .i64 (-1 - q.getD t 0)))
          have HY6 := Lib.hid (HY3.out.below ((Below.refl w.heap.size w3).setCell (p := ⟨g, t, none⟩) (by show w.heap.size ≤ g; exact hgg.1) (.int .i64 (-1 - q.getD t 0))))
          generalize q.getD t 0 = y at hx hcell HK6 HB6 HY6
          generalize q.set t (-1 - y) = q6 at HK6
          clear hst HP3 HB3 HY3 hown hl hok hc hx1 hgg
          go_wp2
          go_roundw
          case rel => exact ⟨t + 1, by omega, by go_num, q6, HK6, HY6, HB6⟩
          case measure => simp [intOf]; omega
        · have hc2 : (x % 2 == 1) = false := by rw [beq_eq_false_iff_ne]; exact hc
          clear hc hx1
          go_wp2
          go_roundw
          case rel => exact ⟨t + 1, by omega, by go_num, q, HP3, HY3, HB3⟩
          case measure => simp [intOf]; omega
      · have htm : m = t := by omega
        subst htm
        clear hlt ht
        obtain ⟨hl, hok, hown⟩ := HP.out
        have hbq : balB q = true := bal_of hok (by rw [hl]; exact hme)
        obtain ⟨b, hbb⟩ : ∃ b, balN q m = b := ⟨_, rfl⟩
        have hbm := balN_le q m
        rw [hbb] at hbm
        have HQ := Lib.hid (show balI q = (b : Int) by rw [balI_yes hbq, hl, hbb])
        have HBQ := Lib.hid hbq
        have HBB := Lib.hid hbb
        have HL := Lib.hid hl
        have HOK := Lib.hid hok
        have HF := Lib.hid (ok_fits hok)
        obtain ⟨g, rfl⟩ := own_shape hown (by omega)
        have HO := Lib.hid hown
        clear hl hok hown hbq hbb HP
        go_wp2_with fail
        refine (impl_bal (some ⟨g, 0, none⟩) m c2 q _ HL.out (by omega) HF.out (ints_of HO.out)).mono ?_
        rintro e w3 ⟨rfl, hb⟩
        rw [HQ.out, HBQ.out]
        have HB3 := Lib.hid (HB.out.trans (hb.mono hszr))
        have HY3 := Lib.hid (HY.out.below (hb.mono hszr))
        have HO3 := Lib.hid (own_below HO.out hb)
        have s3 := HB3.out.size
        clear hb HB HY HO
        go_wp2_with fail
        refine (impl_uca (some ⟨g, 0, none⟩) m c2 q _ HL.out (by omega) HF.out (ints_of HO3.out)).mono ?_
        rintro e w4 ⟨rfl, hb⟩
        rw [HQ.out, HBQ.out]
        have HB4 := Lib.hid (HB3.out.trans (hb.mono s3))
        have HY4 := Lib.hid (HY3.out.below (hb.mono s3))
        have HO4 := Lib.hid (own_below HO3.out hb)
        have s4 := HB4.out.size
        clear hb HB3 HY3 HO3 s3
        have hbne : ((b : Int) != (b : Int)) = false := by simp
        have hlit := World.ownsRow_lit (base := w.heap.size) (e := 3) (size := 1) w4 #[] 0 s4 (Nat.zero_le _) rfl
        have HB5 := Lib.hid (HB4.out.alloc s4 (.cells #[] 3))
        have HY5 := Lib.hid (HY4.out.below ((Below.refl w.heap.size w4).alloc s4 (.cells #[] 3)))
        have HI5 := Lib.hid (ints_of (HO4.out.alloc (.cells #[] 3)))
        have s5 := HB5.out.size
        clear HB4 HY4 HO4
        go_wp2_with (at_builtin; refine app_list rfl (.tmp 71) (.tmp 72) 23 rfl w.heap.size 3 i0 8 Try.underlying23 hi hz0 hz1 hz2 (by decide) _ _ 0 _ rfl hlit g 0 m c2 q rfl HL.out _ HI5.out (by omega) (by omega) s5 ?_; intro A6 c6 w6 hown6 hgr6)
        have HB6 := Lib.hid (HB5.out.grown hgr6 s5 (fun k hk => by simp only [Option.map_some, Option.some.injEq] at hk; omega))
        have HY6 := Lib.hid (HY5.out.below ((Below.refl w.heap.size _).grown hgr6 s5 (fun k hk => by simp only [Option.map_some, Option.some.injEq] at hk; omega)))
        rw [Nat.zero_add, List.nil_append] at hown6
        have HP6 := Lib.hid (show Pack w6 w.heap.size A6 m c6 q from ⟨HL.out, HOK.out, hown6⟩)
        clear hown6 hgr6 hlit HI5 HB5 HY5 s4 s5 hbne HF HQ HBQ
        go_wp2
        go_loopw [10, 11, 12, 13, 14] (fun v i _ _ _ wr => ∃ t : Nat, t ≤ 4 ∧ i = .int .i64 (t : Int) ∧ ∃ (Aq : Option Addr) (cq : Nat) (y : List Int), v = .slice Aq m cq ∧ Hid (Pack wr w.heap.size Aq m cq y) ∧ Hid (balN y m = b ∨ balN y m + b = m) ∧ Hid (BytesAt wr w.heap.size A n) ∧ Hid (Below w.heap.size w wr)) (fun _ i _ _ _ _ => 4 - (intOf i).toNat)
        case atStart => exact ⟨0, by omega, rfl, A6, c6, q, rfl, HP6, Or.inl HBB.out, HY6, HB6⟩
        case round =>
          obtain ⟨t, ht, rfl, Aq, cq, y, rfl, HP, HV, HY, HB⟩ := hrel
          clear HP6 HY6 HB6
          have hszr := HB.out.size
          by_cases hlt : t < 4
          · obtain ⟨hl, hok, hown⟩ := HP.out
            have HLY := Lib.hid hl
            have HKY := Lib.hid hok
            have HFY := Lib.hid (ok_fits hok)
            have hlo := fun k hk => (own_lo hown k hk).2
            have HB0 := Lib.hid (HB.out.trans ((box_below wr 3 2).mono hszr))
            have HY0 := Lib.hid (HY.out.below ((box_below wr 3 2).mono hszr))
            have HO0 := Lib.hid (own_below hown (box_below wr 3 2))
            have HA0 := Lib.hid (box_at wr 3 2)
            have HZ0 := Lib.hid (box_size wr 3 2)
            clear hl hok hown HP HB HY
            go_wp2_with fail
            have e50 : (50 : Int) + (t : Int) = ((50 + t : Nat) : Int) := by omega
            rw [e50]
            refine (Cur.num_any A n c (50 + t) _ h1 (by omega) (bytes_more HY0.out HB0.out.size)).mono ?_
            rintro e w3 ⟨x2, rfl, hx20, hx21, hb⟩
            have HA3 := Lib.hid ((hb.block wr.heap.size HZ0.out).trans HA0.out)
            have hp3 : wr.heap.size < w3.heap.size := Nat.lt_of_lt_of_le HZ0.out hb.size
            have HB3 := Lib.hid (HB0.out.trans (hb.mono HB0.out.size))
            have HY3 := Lib.hid (HY0.out.below (hb.mono HB0.out.size))
            have HO3 := Lib.hid (own_below HO0.out hb)
            have hsz := HB3.out.size
            clear hb HB0 HY0 HO0 HA0 HZ0 e50
            generalize wr.heap.size = p at hszr hlo HA3 hp3 ⊢
            by_cases hc : x2 % 2 = 0
            · have hc2 : (x2 % 2 == 0) = true := by rw [beq_iff_eq]; exact hc
              clear hc
              go_wp2_with fail
              have e60 : (60 : Int) + (t : Int) = ((60 + t : Nat) : Int) := by omega
              rw [e60]
              refine (Cur.num_any A n c (60 + t) _ h1 (by omega) (bytes_more HY3.out hsz)).mono ?_
              rintro e w4 ⟨x3, rfl, hx30, hx31, hb⟩
              obtain ⟨k, hk⟩ : ∃ k : Nat, x3 % (m : Int) = (k : Int) := ⟨(x3 % (m : Int)).toNat, by have := Int.emod_nonneg x3 (show (m : Int) ≠ 0 by omega); omega⟩
              have hkm : k < m := by have := Int.emod_lt_of_pos x3 (show (0 : Int) < (m : Int) by omega); omega
              have hA4 := (hb.block p hp3).trans HA3.out
              have hp4 : p < w4.heap.size := Nat.lt_of_lt_of_le hp3 hb.size
              have hgr := put2_grown w4 p (.int .i64 1) (.int .i64 (k : Int))
              obtain ⟨hca, hcb⟩ := cell2 hA4
              have hfa := frz hA4 0
              have hfb := frz hA4 1
              have hset := put2 (x := .int .i64 1) (y := .int .i64 (k : Int)) hA4
              have hO5 := own_gr (own_below HO3.out hb) hgr (fun b hb e => by simp only [Option.some.injEq] at e; have := hlo b hb; omega)
              have hB4 := HB3.out.trans (hb.mono hsz)
              have hsp : w.heap.size ≤ w4.heap.size := hB4.size
              have hB5 := hB4.grown hgr hsp (fun b hb => by simp only [Option.some.injEq] at hb; omega)
              have hY5 := (HY3.out.below (hb.mono hsz)).below ((Below.refl w.heap.size w4).grown hgr hsp (fun b hb => by simp only [Option.some.injEq] at hb; omega))
              have hz5 := Nat.lt_of_lt_of_le hp4 hgr.size
              obtain ⟨W5, hW5⟩ : ∃ W, W = (w4.setCell ⟨p, 0, none⟩ (.int .i64 1)).setCell ⟨p, 1, none⟩ (.int .i64 (k : Int)) := ⟨_, rfl⟩
              rw [← hW5] at hset hO5 hB5 hY5 hz5
              have HA5 := Lib.hid hset
              have HOY := Lib.hid hO5
              have HB := Lib.hid hB5
              have HY := Lib.hid hY5
              have HZ5 := Lib.hid hz5
              have HW5 := Lib.hid hW5
              clear hset hO5 hB5 hY5 hz5 hW5 hgr hA4 HA3 HB3 HY3 HO3 hb hB4 hsp e60
              go_upto_region 22 with fail
              rw [← HW5.out]
              obtain ⟨hc0, hc1⟩ := cell2 HA5.out
              have hp := HZ5.out
              replace hsz := HB.out.size
              clear HW5 HA5 HZ5 hca hcb hfa hfb hp4
              obtain ⟨q1, q2, q3, q4, q5⟩ := cut_step HKY.out HLY.out hm2 hme (Nat.le_of_lt hkm)
              have Q1 := Lib.hid q1
              have Q2 := Lib.hid q2
              have Q3 := Lib.hid q3
              have HKP := Lib.hid (keep_step HLY.out HKY.out hme q1 q2 q5)
              have HV2 := Lib.hid (show balN (moveF 1 k y) m = b ∨ balN (moveF 1 k y) m + b = m by have := HV.out; omega)
              obtain ⟨y2, hy2⟩ : ∃ y2, y2 = moveF 1 k y := ⟨_, rfl⟩
              rw [← hy2] at q3 q4 q5
              have Q2b := Lib.hid (Q2.out.trans hy2.symm)
              have HV3 : Hid (balN y2 m = b ∨ balN y2 m + b = m) := by show _ ∨ _; rw [hy2]; exact HV2.out
              have Q3b := Lib.hid q3
              have Q4b := Lib.hid q4
              clear q1 q2 q3 q4 q5 Q2 Q3 HV2 HV hy2
              go_wp2_with fail
              refine (impl_perform Aq m cq 1 (k : Int) y _ HLY.out (row_cap HOY.out) (by omega) HFY.out (ints_of HOY.out)).mono ?_
              rintro e w7 ⟨A7, c7, rfl, hown, hb⟩
              rw [Q2b.out, Q3b.out] at hown
              rw [Q1.out, Q2b.out, Q3b.out]
              replace hc0 := (hb.cell (p := ⟨p, 0, none⟩) hp).trans hc0
              replace hc1 := (hb.cell (p := ⟨p, 1, none⟩) hp).trans hc1
              have hp7 : p < w7.heap.size := Nat.lt_of_lt_of_le hp hb.size
              have HBB7 := Lib.hid (HB.out.trans (hb.mono hsz))
              have HY7 := Lib.hid (HY.out.below (hb.mono hsz))
              have HOY7 := Lib.hid (own_below HOY.out hb)
              have HP7 := Lib.hid (show Pack w7 w.heap.size A7 m c7 y2 from ⟨Q3b.out, Q4b.out, own_mono hown hsz⟩)
              have hs7 := HBB7.out.size
              clear hb hown HB HY HOY hsz hp Q1 Q2b Q3b Q4b
              go_wp2_with fail
              refine (impl_keep Aq m cq y 1 (k : Int) _ HLY.out (row_cap HOY7.out) (by omega) HFY.out (ints_of HOY7.out)).mono ?_
              rintro e wc ⟨rfl, hb⟩
              rw [HKP.out]
              have HB8 := Lib.hid (HBB7.out.trans (hb.mono hs7))
              have HY8 := Lib.hid (HY7.out.below (hb.mono hs7))
              have HP8 : Hid (Pack wc w.heap.size A7 m c7 y2) := ⟨HP7.out.1, HP7.out.2.1, own_below HP7.out.2.2 hb⟩
              clear hb HBB7 HY7 HP7 HOY7 hc0 hc1 HKP
              go_wp2
              go_roundw
              case rel => exact ⟨t + 1, by omega, by go_num, A7, c7, y2, rfl, HP8, HV3, HY8, HB8⟩
              case measure => simp [intOf]; omega
            · have hc2 : (x2 % 2 == 0) = false := by rw [beq_eq_false_iff_ne]; exact hc
              obtain ⟨hc0, hc1⟩ := cell2 HA3.out
              have HB := Lib.hid HB3.out
              have HY := Lib.hid HY3.out
              have HOY := Lib.hid HO3.out
              have hp := hp3
              clear hc HA3 HB3 HY3 HO3 hp3
              go_upto_region 22 with fail
              obtain ⟨q1, q2, q3, q4, q5⟩ := flip_step HKY.out HLY.out hm2
              have Q1 := Lib.hid q1
              have Q2 := Lib.hid q2
              have Q3 := Lib.hid q3
              have HKP := Lib.hid (keep_step HLY.out HKY.out hme q1 q2 (Or.inl q5))
              have HV2 := Lib.hid (show balN (moveF 3 2 y) m = b ∨ balN (moveF 3 2 y) m + b = m by have := HV.out; omega)
              obtain ⟨y2, hy2⟩ : ∃ y2, y2 = moveF 3 2 y := ⟨_, rfl⟩
              rw [← hy2] at q3 q4 q5
              have Q2b := Lib.hid (Q2.out.trans hy2.symm)
              have HV3 : Hid (balN y2 m = b ∨ balN y2 m + b = m) := by show _ ∨ _; rw [hy2]; exact HV2.out
              have Q3b := Lib.hid q3
              have Q4b := Lib.hid q4
              clear q1 q2 q3 q4 q5 Q2 Q3 HV2 HV hy2
              go_wp2_with fail
              refine (impl_perform Aq m cq 3 2 y _ HLY.out (row_cap HOY.out) (by omega) HFY.out (ints_of HOY.out)).mono ?_
              rintro e w7 ⟨A7, c7, rfl, hown, hb⟩
              rw [Q2b.out, Q3b.out] at hown
              rw [Q1.out, Q2b.out, Q3b.out]
              replace hc0 := (hb.cell (p := ⟨p, 0, none⟩) hp).trans hc0
              replace hc1 := (hb.cell (p := ⟨p, 1, none⟩) hp).trans hc1
              have hp7 : p < w7.heap.size := Nat.lt_of_lt_of_le hp hb.size
              have HBB7 := Lib.hid (HB.out.trans (hb.mono hsz))
              have HY7 := Lib.hid (HY.out.below (hb.mono hsz))
              have HOY7 := Lib.hid (own_below HOY.out hb)
              have HP7 := Lib.hid (show Pack w7 w.heap.size A7 m c7 y2 from ⟨Q3b.out, Q4b.out, own_mono hown hsz⟩)
              have hs7 := HBB7.out.size
              clear hb hown HB HY HOY hsz hp Q1 Q2b Q3b Q4b
              go_wp2_with fail
              refine (impl_keep Aq m cq y 3 2 _ HLY.out (row_cap HOY7.out) (by omega) HFY.out (ints_of HOY7.out)).mono ?_
              rintro e wc ⟨rfl, hb⟩
              rw [HKP.out]
              have HB8 := Lib.hid (HBB7.out.trans (hb.mono hs7))
              have HY8 := Lib.hid (HY7.out.below (hb.mono hs7))
              have HP8 : Hid (Pack wc w.heap.size A7 m c7 y2) := ⟨HP7.out.1, HP7.out.2.1, own_below HP7.out.2.2 hb⟩
              clear hb HBB7 HY7 HP7 HOY7 hc0 hc1 HKP
              go_wp2
              go_roundw
              case rel => exact ⟨t + 1, by omega, by go_num, A7, c7, y2, rfl, HP8, HV3, HY8, HB8⟩
              case measure => simp [intOf]; omega
          · have ht4 : t = 4 := by omega
            subst ht4
            clear hlt ht
            obtain ⟨hl, hok, hown⟩ := HP.out
            have hbq : balB y = true := bal_of hok (by rw [hl]; exact hme)
            obtain ⟨v, hv⟩ : ∃ v, balN y m = v := ⟨_, rfl⟩
            have hvv := HV.out
            rw [hv] at hvv
            have hvm := balN_le y m
            rw [hv] at hvm
            have HQ := Lib.hid (show balI y = (v : Int) by rw [balI_yes hbq, hl, hv])
            have HBQ := Lib.hid hbq
            have HL := Lib.hid hl
            have HF := Lib.hid (ok_fits hok)
            have HC := Lib.hid (upL_cnt y m)
            have hall := all_cnt hok m (by omega)
            have hlu := upL_len y m
            have HO := Lib.hid hown
            clear hl hok hown hbq hv HP HV
            go_wp2_with fail
            refine (impl_bal Aq m cq y _ HL.out (by omega) HF.out (ints_of HO.out)).mono ?_
            rintro e w7 ⟨rfl, hb⟩
            rw [HQ.out, HBQ.out]
            have HB7 := Lib.hid (HB.out.trans (hb.mono hszr))
            have HO7 := Lib.hid (own_below HO.out hb)
            have s7 := HB7.out.size
            clear hb HB HY HO
            go_wp2_with fail
            refine (impl_split Aq m cq y _ HL.out (by omega) HF.out (ints_of HO7.out)).mono ?_
            rintro e w8 ⟨A8, c8, A9, c9, rfl, ho8, ho9, hne, hb⟩
            have HB8 := Lib.hid (HB7.out.trans (hb.mono s7))
            have HO8 := Lib.hid (own_below HO7.out hb)
            have h1L : (((upL y m).length : Nat) : Int) = ((upTo y m : Nat) : Int) := by rw [HC.out]
            have h2L : (((upL y m).length : Nat) : Int) + (((dnL y m).length : Nat) : Int) = (m : Int) := by omega
            clear hb ho8 ho9 hne HB7 HO7 hall hlu HC
            generalize (upL y m).length = L1 at h1L h2L ⊢
            generalize (dnL y m).length = L2 at h2L ⊢
            have hL12 : L1 ≤ 8 ∧ L2 ≤ 8 := by omega
            have h3L : ((L1 : Int) == ((upTo y m : Nat) : Int)) = true := by rw [beq_iff_eq]; exact h1L
            have h4L : ((L1 : Int) + (L2 : Int) == (m : Int)) = true := by rw [beq_iff_eq]; exact h2L
            have h5L : ((m : Int) == (m : Int)) = true := by simp
            clear h1L h2L
            by_cases hvb : v = b
            · have e1 : ((v : Int) == (b : Int)) = true := by rw [beq_iff_eq]; omega
              clear hvv hvb
              go_wp2_with (go_at_call 23; refine (impl_count Aq m cq y _ HL.out (by omega) HF.out (ints_of HO8.out)).mono ?_; rintro e w9 ⟨rfl, rfl⟩)
              go_ret
              exact ⟨rfl, HB8.out⟩
            · have e1 : ((v : Int) == (b : Int)) = false := by rw [beq_eq_false_iff_ne]; omega
              have e2 : ((v : Int) == (m : Int) - (b : Int)) = true := by rw [beq_iff_eq]; omega
              clear hvv hvb
              go_wp2_with (go_at_call 23; refine (impl_count Aq m cq y _ HL.out (by omega) HF.out (ints_of HO8.out)).mono ?_; rintro e w9 ⟨rfl, rfl⟩)
              go_ret
              exact ⟨rfl, HB8.out⟩
  · have h1' : (1048576 : Int) < (n : Int) := by omega
    go_enter Try.func4, Try.ntmps4
    go_wp2
    go_ret
    exact ⟨rfl, Below.refl _ w⟩

set_option maxRecDepth 100000 in
theorem lifted (os : Os) (started : os.Started) (H : Type) (enc : TypeId × Value → H) :
    ReturnsInHanded {} Try.checked os 4 .any (Rows.fnParitySpec.pre6 enc Try.prog Try.f4 Rows.fnParityRow.domain false) (Rows.fnParitySpec.post enc Try.prog Try.f4 false true false false) := by
  refine returnsInHanded_of_change (C := Try.checked) Fr.own started (by kernel_rfl) Try.func4
    (ChangeSpec.witness6 (enc := enc) (C := Try.checked) false ⟨#[], #[.slice none 0 0], []⟩ 8 (by kernel_rfl) (by kernel_rfl) (by kernel_rfl) (by kernel_rfl)) ?_
  intro W base args ds gs before hval0 hW hcnd _
  have hval : ∀ (j : Nat) t v, Try.f4.params[j]? = some t → args[j]? = some v → Value.okWide Try.prog W .any base t v := hval0
  have hW' := hW
  obtain ⟨p, q, hA0, hV, rfl, hfz, hnd⟩ := hW
  have hA : DataW.TrodAll enc Try.prog W 0 (fun _ => true) true Try.f4.params.toList args.toList ds p := hA0
  have hAk := hA
  rw [Try.params4] at hA hval
  obtain ⟨v0, d0, rfl, rfl, h0⟩ := trodAll_one hA
  obtain ⟨rfl, rfl⟩ := trodVars_none hV
  have hlt : ∀ x ∈ p, x.block < W.heap.size := fun x hx => by simpa using hW'.lt x (List.mem_append_left _ hx)
  obtain ⟨A0, n0, c0, l0, rfl, hn0, hm0, hs0, ha0⟩ := Fr.view_nums Try.underlying22 Try.underlying5 (by kernel_rfl) (hval 0 22 v0 rfl rfl) h0 hlt
  clear hA0 hval0
  refine (walk A0 n0 c0 l0 W hn0 hm0 hs0 ha0).mono fun e W' ⟨he, hb⟩ => ?_
  subst he
  exact ⟨_, rfl, _, _, _, [], p, [], hW', trodAll_mk1 (shut_bool Try.underlying4 _), Fr.below_all Fr.laidOut hb _ _ _ _ (Fr.readB_all (by kernel_rfl)) hAk hlt, rfl, hb.frame _, fun h => by cases h⟩

theorem proved : Rows.FnParitySaid :=
  OpenClaim.holds_of_wide 4 Try.f4 rfl rfl rfl rfl rfl rfl rfl ⟨rfl, rfl, rfl, rfl, rfl⟩ rfl rfl rfl rfl rfl (by kernel_rfl) Try.func4 (by kernel_rfl)
    (of_decide_eq_true (by kernel_rfl)) (by unfold Func.isWrapper; first | (rw [if_pos (by decide +kernel)]; kernel_rfl) | (rw [if_neg (by decide +kernel)]; exact ⟨rfl, rfl⟩))
    (fun os started H enc _ => lifted os started H enc)

end Go.Proofs.Ytfbgpofpbdbkiaa.LawParity
