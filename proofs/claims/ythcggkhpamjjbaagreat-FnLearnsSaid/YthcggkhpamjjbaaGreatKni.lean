/- Which lists of packets are valid as knowledge (KnowOk), of the program; what is left of them after a look (fitting, SeeCard, SeeSides). What is left of what is known after a look (fitting, SeeCard, SeeSides), of the program. -/
import Derived.Test.YthcggkhpamjjbaaGreatKno
import Derived.Test.YthcggkhpamjjbaaGreatSip
import Derived.BigQuiet
import Derived.Deep.RegionWith
import Derived.Test.YthcggkhpamjjbaaGreatPerm
set_option linter.unusedVariables false
set_option maxRecDepth 20000
namespace Go.Proofs.YthcggkhpamjjbaaGreat.Kni
open Go.RowKit Fr _root_.Go.Proofs.YthcggkhpamjjbaaGreat.Own Pk Ins Pok Rws Lb Cat Srt Sst Arr Kno Kns

set_option maxHeartbeats 2000000 in
theorem impl_know (A : Option Addr) (n c : Nat) (ls : List RD) (w : World) (hn : ls.length = n) (hat : SSAt w w.heap.size A ls) (hf : ∀ i, i < n → Fits (ls.getD i rd0).zs) (hz : ∀ i, i < n → (ls.getD i rd0).zs.length ≤ 1048576) (hn2 : n ≤ 1048576) :
    Calls Tryz.prog 9 #[.slice A n c] w fun e w' => e = .returned (.bool (knowB (ls.map RD.zs))) ∧ Below w.heap.size w w' := by
  have HN := Lib.hid hn
  have HML := Lib.hid (show (ls.map RD.zs).length = n by rw [List.length_map, hn])
  have HAT := Lib.hid hat
  have HF := Lib.hid hf
  have HZ := Lib.hid hz
  obtain ⟨R, hR⟩ : ∃ R, R = knowB (ls.map RD.zs) := ⟨_, rfl⟩
  rw [← hR]
  have HR := Lib.hid hR
  clear hn hat hf hz hR
  by_cases h1 : 1 ≤ n ∧ n ≤ 3000
  · obtain ⟨b, o, A0, m0, c0, rfl, hbb, hc0, hm0, hi0, hf0, hs0⟩ := row_at HAT.out HN.out HF.out HZ.out 0 (by omega)
    have HM0 := Lib.hid hm0
    have hn0 : ((n : Int) == 0) = false := by rw [beq_eq_false_iff_ne]; omega
    have hn3 : (n : Int) ≤ 3000 := by omega
    have hn4 : decide ((3000 : Int) < (n : Int)) = false := decide_eq_false (by omega)
    have hc0' : w.cell? ⟨b, o, none⟩ = some (.slice A0 m0 c0) := hc0
    by_cases h2 : m0 = 0
    · have HS := Lib.hid (show false = R by rw [HR.out, know_no2 (by rw [map_getD, HM0.out]; omega)])
      subst h2
      clear hm0 HM0 HR
      go_enter Tryz.func9, Tryz.ntmps9
      go_wp2_with fail
      go_ret
      exact ⟨ret_b HS.out, Below.refl _ w⟩
    · have hm1 : ((m0 : Int) == 0) = false := by rw [beq_eq_false_iff_ne]; omega
      have HM1 := Lib.hid (show 1 ≤ m0 by omega)
      have H1 := Lib.hid h1
      have h1a : 1 ≤ n := h1.1
      clear hm0 h2 h1 hc0
      go_enter Tryz.func9, Tryz.ntmps9
      go_wp2_with fail
      go_loopg [3, 4, 22] n (fun g _ _ s18 wr => ∃ k : Nat, k ≤ n ∧ g = n - k ∧ s18 = .int .i64 (k : Int) ∧ Hid (∀ i, i < k → stepB (ls.map RD.zs) i = true) ∧ Hid (Below w.heap.size w wr))
      case atStart => exact ⟨0, Nat.zero_le _, rfl, rfl, Lib.hid (fun i hi => absurd hi (Nat.not_lt_zero _)), Lib.hid (Below.refl _ w)⟩
      case round =>
        obtain ⟨k, hk, hg, rfl, HE, HBW⟩ := hrel
        have hsz := HBW.out.size
        have hcf : wr.cell? ⟨b, o, none⟩ = some (.slice A0 m0 c0) := (HBW.out.cell (p := ⟨b, o, none⟩) hbb).trans hc0'
        have hif : IntsAt wr wr.heap.size .i64 A0 (ls.getD 0 rd0).zs := (hi0.below HBW.out).more hsz
        by_cases hlt : k < n
        · obtain ⟨b', o', Ak, mk, ck, ek, hbk, hck, hmk, hik, hfk, hsk⟩ := row_at (HAT.out.below HBW.out) HN.out HF.out HZ.out k hlt
          simp only [Option.some.injEq, Addr.mk.injEq, and_true] at ek
          obtain ⟨rfl, rfl⟩ := ek
          have HMK := Lib.hid hmk
          have CA := impl_arr A0 m0 c0 _ Ak mk ck _ wr HM0.out (by omega) hf0 hif HMK.out (by omega) hfk (hik.more hsz)
          obtain ⟨a, ha⟩ : ∃ a, a = arrB (ls.getD 0 rd0).zs (ls.getD k rd0).zs := ⟨_, rfl⟩
          rw [← ha] at CA
          cases a with
          | false =>
            have HS := Lib.hid (show false = R by
              rw [HR.out, know_no3 (i := k) (by rw [HML.out]; exact hlt) ?_]
              unfold stepB
              rw [map_getD, map_getD, ← ha]; rfl)
            clear ha HR hmk HE
            go_wp2_with fail
            refine CA.mono ?_
            rintro e w1 ⟨rfl, hb1⟩
            go_wp2
            go_ret
            exact ⟨ret_b HS.out, HBW.out.trans (hb1.mono hsz)⟩
          | true =>
            by_cases hk0 : k = 0
            · have HS := Lib.hid (show ∀ i, i < k + 1 → stepB (ls.map RD.zs) i = true from fun i hi => by
                obtain rfl : i = 0 := by omega
                unfold stepB
                rw [map_getD]
                rw [hk0] at ha
                rw [← ha]; rfl)
              have hd0 : decide ((0 : Int) < (k : Int)) = false := decide_eq_false (by omega)
              have hd1 : decide (0 < k) = false := decide_eq_false (by omega)
              clear ha HR hmk HE hk0
              go_wp2_with fail
              refine CA.mono ?_
              rintro e w1 ⟨rfl, hb1⟩
              have HB := Lib.hid (HBW.out.trans (hb1.mono hsz))
              clear CA hb1 HBW
              go_wp2
              go_roundg (n - (k + 1))
              case rel => exact ⟨k + 1, by omega, rfl, by go_num, HS, HB⟩
              case measure => omega
            · obtain ⟨j, rfl⟩ : ∃ j, k = j + 1 := ⟨k - 1, by omega⟩
              obtain ⟨b', o', Aj, mj, cj, ej, hbj, hcj, hmj, hij, hfj, hsj⟩ := row_at (HAT.out.below HBW.out) HN.out HF.out HZ.out j (by omega)
              simp only [Option.some.injEq, Addr.mk.injEq, and_true] at ej
              obtain ⟨rfl, rfl⟩ := ej
              have HMJ := Lib.hid hmj
              obtain ⟨l, hl⟩ : ∃ l, l = lessL (ls.getD j rd0).zs (ls.getD (j + 1) rd0).zs := ⟨_, rfl⟩
              have HSTEP := Lib.hid (show stepB (ls.map RD.zs) (j + 1) = l by rw [stepk (by omega), ← ha, Nat.add_sub_cancel, hl]; rfl)
              obtain ⟨z, hzz⟩ : ∃ z, z = Cmp.cmpF (ls.getD j rd0).zs (ls.getD (j + 1) rd0).zs := ⟨_, rfl⟩
              have hzl : (z < 0) ↔ l = true := by rw [hzz, hl]; exact Cmp.cmp_less _ _
              have CL : ∀ W, Below wr.heap.size wr W → Calls Tryz.prog 28 #[.slice Aj mj cj, .slice Ak mk ck] W fun e w' => e = .returned (.int .i64 z) ∧ W = w' := fun W hW => by
                rw [hzz]
                exact Cmp.compare_any Aj Ak mj mk cj ck _ _ _ _ W HMJ.out HMK.out (by omega) (by omega) (((hij.more hsz).below hW).more hW.size) (((hik.more hsz).below hW).more hW.size)
              clear hzz
              clear ha hl hmk hmj hk0
              go_wp2_with fail
              refine CA.mono ?_
              rintro e w1 ⟨rfl, hb1⟩
              have hck1 := (hb1.cell (p := ⟨b, o + (j + 1), none⟩) (show b < _ by omega)).trans hck
              have hcj1 := (hb1.cell (p := ⟨b, o + j, none⟩) (show b < _ by omega)).trans hcj
              have HB := Lib.hid (HBW.out.trans (hb1.mono hsz))
              replace CL := CL w1 hb1
              clear CA hb1 HBW hck hcj hcf
              go_wp2_with fail
              refine CL.mono ?_
              rintro e w2 ⟨rfl, rfl⟩
              cases l with
              | false =>
                have hz0 : 0 ≤ z := by
                  rcases Int.lt_or_le z 0 with h | h
                  · exact absurd (hzl.1 h) (by decide)
                  · exact h
                clear hzl
                have HS := Lib.hid (show false = R by rw [HR.out, know_no3 (i := j + 1) (by rw [HML.out]; exact hlt) HSTEP.out])
                clear HSTEP HE HR
                go_wp2
                go_ret
                exact ⟨ret_b HS.out, HB.out⟩
              | true =>
                have hz0 : ¬ 0 ≤ z := by have h := hzl.2 rfl; omega
                have hz1 : decide (0 ≤ z) = false := decide_eq_false hz0
                have hz2 : z < 0 := by omega
                clear hzl hz0
                have HS := Lib.hid (show ∀ i, i < j + 1 + 1 → stepB (ls.map RD.zs) i = true from fun i hi => by
                  by_cases hij : i = j + 1
                  · rw [hij]; exact HSTEP.out
                  · exact HE.out i (by omega))
                clear HSTEP HE HR
                go_wp2
                go_roundg (n - (j + 1 + 1))
                case rel => exact ⟨j + 1 + 1, by omega, rfl, by go_num, HS, HB⟩
                case measure => omega
        · have hkn : k = n := by omega
          have HS := Lib.hid (show true = R by rw [HR.out, know_yes (by rw [HML.out]; exact h1a) (by rw [HML.out]; exact H1.out.2) (by rw [map_getD, HM0.out]; exact HM1.out) (fun i hi => HE.out i (by rw [hkn]; rw [HML.out] at hi; exact hi))])
          clear hkn HR HE
          go_wp2
          go_ret
          exact ⟨ret_b HS.out, HBW.out⟩
  · have HS := Lib.hid (show false = R by rw [HR.out, know_no1 (by rw [HML.out]; exact h1)])
    clear HR
    by_cases h0 : n = 0
    · subst h0
      go_enter Tryz.func9, Tryz.ntmps9
      go_wp2
      go_ret
      exact ⟨ret_b HS.out, Below.refl _ w⟩
    · have hn0 : ((n : Int) == 0) = false := by rw [beq_eq_false_iff_ne]; omega
      have hn3 : (3000 : Int) < (n : Int) := by omega
      clear h1 h0
      go_enter Tryz.func9, Tryz.ntmps9
      go_wp2
      go_ret
      exact ⟨ret_b HS.out, Below.refl _ w⟩
end Go.Proofs.YthcggkhpamjjbaaGreat.Kni

namespace Go.Proofs.YthcggkhpamjjbaaGreat.Knc
open Go.RowKit Fr _root_.Go.Proofs.YthcggkhpamjjbaaGreat.Own Pk Ins Pok Rws Lb Cat Srt Sst Arr Kno Kns Kni

/-- is i the index of one of n things? -/
def inB (i n : Int) : Bool := decide (0 ≤ i ∧ i < n)
theorem impl_in (i n : Int) (w : World) : Calls Tryz.prog 33 #[.int .i64 i, .int .i64 n] w fun e w' => e = .returned (.bool (inB i n)) ∧ w = w' := by
  by_cases h : 0 ≤ i
  · have HS := Lib.hid (show decide (i < n) = inB i n by unfold inB; simp [h])
    go_enter Tryz.func33, Tryz.ntmps33
    go_wp2
    go_ret
    exact ⟨ret_b HS.out, rfl⟩
  · have HS := Lib.hid (show false = inB i n by unfold inB; simp; omega)
    have h' : decide (0 ≤ i) = false := decide_eq_false h
    go_enter Tryz.func33, Tryz.ntmps33
    go_wp2
    go_ret
    exact ⟨ret_b HS.out, rfl⟩
/-- what a function that tells of a packet has to answer, in every world that has grown out of w -/
def Tells (w : World) (f : Nat) (cs : Array Value) (fb : List Int → Bool) : Prop :=
  ∀ (W : World) (A : Option Addr) (m c : Nat) (zs : List Int), Below w.heap.size w W → zs.length = m → m ≤ 12 → Fits zs → IntsAt W W.heap.size .i64 A zs →
    Calls Tryz.prog f (#[.slice A m c] ++ cs) W fun e w' => e = .returned (.bool (fb zs)) ∧ Below W.heap.size W w'
set_option maxHeartbeats 2000000 in
theorem fit_any (f : Nat) (cs : Array Value) (fb : List Int → Bool) (A : Option Addr) (n c : Nat) (ls : List RD) (w : World) (hn : ls.length = n) (hat : SSAt w w.heap.size A ls) (hf : ∀ i, i < n → Fits (ls.getD i rd0).zs) (hz : ∀ i, i < n → (ls.getD i rd0).zs.length ≤ 1048576) (hn2 : n ≤ 1048576)
    (hce : ∀ args w, (callFunc f args).run Tryz.prog w = .ok (.enter f args) w) (hT : Tells w f cs fb) :
    Calls Tryz.prog 34 #[.slice A n c, .func (.func f) #[] cs] w (IsSS w.heap.size (seeF fb (ls.map RD.zs)) w) := by
  obtain ⟨i1, hj, hy0, hy1, hy2⟩ := infos_parts
  have CK := impl_know A n c ls w hn hat hf hz hn2
  obtain ⟨R, hR⟩ : ∃ R, R = seeF fb (ls.map RD.zs) := ⟨_, rfl⟩
  rw [← hR]
  have HR := Lib.hid hR
  have HN := Lib.hid hn
  have HAT := Lib.hid hat
  have HF := Lib.hid hf
  have HZ := Lib.hid hz
  have HT := Lib.hid hT
  clear hT
  cases hkb : knowB (ls.map RD.zs) with
  | false =>
    have HS := Lib.hid (show R = [] by rw [HR.out, see_no hkb])
    rw [hkb] at CK
    clear HR hR hn hat hf hz hkb
    go_enter Tryz.func34, Tryz.ntmps34
    go_wp2_with fail
    refine CK.mono ?_
    rintro e w1 ⟨rfl, hb1⟩
    go_wp2
    go_ret
    exact ⟨none, 0, [], by rw [HS.out]; rfl, by rw [HS.out]; rfl, by rw [HS.out]; exact SSRow.empty (World.ownsRow_nil _ _ _ _), hb1⟩
  | true =>
    have HS := Lib.hid (show ((ls.map RD.zs).take n).filter fb = R by rw [HR.out, see_yes hkb, ← HN.out, List.take_of_length_le (by rw [List.length_map]; exact Nat.le_refl _)])
    have HKR := Lib.hid (know_row hn hkb)
    obtain ⟨hfe, hfw⟩ := know_few hn hkb
    rw [hkb] at CK
    clear HR hR hn hat hf hz hkb
    go_enter Tryz.func34, Tryz.ntmps34
    go_wp2_with fail
    refine CK.mono ?_
    rintro e w1 ⟨rfl, hb1⟩
    have HO0 := Lib.hid (SSRow.empty (World.ownsRow_nil w1 w.heap.size 28 1))
    have HAL := Lib.hid hb1
    clear hb1 CK
    go_wp2
    go_loopg [5, 7, 13] n (fun g s5 _ s13 wr => ∃ (k : Nat) (Ao : Option Addr) (no co : Nat) (ro : List RD), k ≤ n ∧ g = n - k ∧ s13 = .int .i64 (k : Int) ∧ s5 = .slice Ao no co ∧ no ≤ k ∧
      Hid (ro.map RD.zs = ((ls.map RD.zs).take k).filter fb) ∧ Hid (SSRow wr w.heap.size wr.heap.size Ao no co ro) ∧ Hid (Below w.heap.size w wr))
    case atStart => exact ⟨0, none, 0, 0, [], Nat.zero_le _, rfl, rfl, rfl, Nat.le_refl _, Lib.hid rfl, HO0, HAL⟩
    case round =>
      clear HO0 HAL
      obtain ⟨k, Ao, no, co, ro, hk, hg, rfl, rfl, hno, HRZ, HO, HBW⟩ := hrel
      have hsz := HBW.out.size
      by_cases hlt : k < n
      · obtain ⟨b, o, Ak, mk, ck, rfl, hbb, hck, hmk, hik, hfk, hsk⟩ := row_at (HAT.out.below HBW.out) HN.out HF.out HZ.out k hlt
        have hrow := HKR.out k hlt
        have HSK := Lib.hid (fun h : fb (ls.getD k rd0).zs = false => (filt_no HN.out hlt h).symm ▸ HRZ.out)
        have HAP := Lib.hid (fun (h : fb (ls.getD k rd0).zs = true) (r : RD) (hr : r.zs = (ls.getD k rd0).zs) => (show (ro ++ [r]).map RD.zs = ((ls.map RD.zs).take (k + 1)).filter fb by rw [filt_yes HN.out hlt h]; exact snoc_zs HRZ.out hr))
        clear HRZ
        generalize (ls.getD k rd0).zs = zs at *
        rw [hmk] at hrow
        have hm2 := hrow.2.2.1
        have HM := Lib.hid hmk
        have CT := HT.out wr Ak mk ck zs HBW.out hmk hm2 hfk (hik.more hsz)
        clear hrow
        cases hcd : fb zs with
        | true =>
          rw [hcd] at CT
          have HAP2 := Lib.hid (HAP.out hcd)
          clear HAP HSK hcd
          go_wp2_with fail
          refine CT.mono ?_
          rintro e w2 ⟨rfl, hb2⟩
          have HB2 := Lib.hid (HBW.out.trans (hb2.mono hsz))
          have HO2 := Lib.hid (HO.out.below hb2)
          have hs2 := hb2.size
          have HI2 := Lib.hid ((hik.more hsz).below hb2)
          clear CT hb2 HO HBW hik hmk hfk hck
          go_wp2_with fail
          refine (Lb.clone_any Ak mk ck zs _ HM.out (by omega) (HI2.out.more hs2)).mono ?_
          rintro e w3 ⟨A5, c5, rfl, hown5, hb3⟩
          rw [HM.out] at hown5 ⊢
          have hr5 := HO2.out.below hb3
          have HB3 := Lib.hid (HB2.out.trans (hb3.mono (show w.heap.size ≤ _ by omega)))
          have hs3 := hb3.size
          clear hb3 HO2 HB2
          go_wp2_with (at_builtin; (refine app_more rfl (.tmp 20) (.tmp 23) 23 rfl w.heap.size 28 i1 (.slice none 0 0) 24 Tryz.underlying23 hj hy0 hy1 hy2 (by decide) rfl _ _ _ _ rfl hr5.1 (.slice A5 mk c5) rfl _ rfl rfl (by omega) (by omega) ?_; intro g6 c6 w6 hown6 hgr6))
          have HSN := Lib.hid (SSRow.snoc (zs := zs) (A1 := A5) (c1 := c5) hr5 hsz (by rw [HM.out]; exact own_mono hown5 (by omega)) (by rw [HM.out]; exact hown6) hgr6)
          have HB6 := Lib.hid (HB3.out.grown hgr6 (by omega) (fun k hk => hr5.outlo k hk))
          have HR6 := Lib.hid (HAP2.out ⟨A5, c5, zs⟩ rfl)
          clear hr5 hown5 hown6 hgr6
          go_roundg (n - (k + 1))
          case rel => exact ⟨k + 1, _, no + 1, c6, _, by omega, rfl, by go_num, rfl, by omega, HR6, HSN, HB6⟩
          case measure => omega
        | false =>
          rw [hcd] at CT
          have HS2 := Lib.hid (HSK.out hcd)
          clear HAP HSK hcd
          go_wp2_with fail
          refine CT.mono ?_
          rintro e w2 ⟨rfl, hb2⟩
          have HB2 := Lib.hid (HBW.out.trans (hb2.mono hsz))
          have HO2 := Lib.hid ((HO.out.below hb2))
          have hs2 := hb2.size
          clear CT hb2 HO HBW hik hmk hfk hck
          go_wp2
          go_roundg (n - (k + 1))
          case rel => exact ⟨k + 1, Ao, no, co, ro, by omega, rfl, by go_num, rfl, by omega, HS2, Lib.hid (HO2.out.higher hs2 (Nat.le_refl _)), HB2⟩
          case measure => omega
      · have hkn : k = n := by omega
        have HRR := Lib.hid (show ro.map RD.zs = R by rw [HRZ.out, hkn]; exact HS.out)
        have HRL := Lib.hid (show R.length = no by rw [← HRR.out, List.length_map, HO.out.len])
        clear hkn HRZ HS
        go_wp2
        go_ret
        exact ⟨Ao, co, ro, by rw [HRL.out]; rfl, HRR.out, by rw [HRL.out]; exact HO.out, HBW.out⟩
theorem cell_box (w : World) (v : Value) (e : TypeId) (n : Nat) (hn : w.heap.size = n) : (w.alloc (.cells #[v] e)).cell? ⟨n, 0, none⟩ = some v := by
  have h := heap_alloc_new w (.cells #[v] e)
  rw [hn] at h
  unfold World.cell?
  rw [h]
  rfl
theorem seen_out {up : List Int} {k m : Nat} (h : k < up.length) (hx : ¬ (0 ≤ up.getD k 0 ∧ up.getD k 0 < (m : Int))) : Prm.brow m (Prm.seenF up (k + 1)) = Prm.brow m (Prm.seenF up k) := by
  refine Prm.brow_congr fun v hv => ?_
  unfold Prm.seenF
  rw [Prm.take_snoc up k h, Bool.eq_iff_iff]
  simp only [decide_eq_true_eq, List.mem_append, List.mem_singleton]
  constructor
  · rintro (h1 | h1)
    · exact h1
    · exact absurd ⟨by omega, by omega⟩ hx
  · exact Or.inl
theorem seen_all {up : List Int} {n : Nat} (hn : up.length = n) (i : Nat) : Prm.seenF up n i = Pok.hasB up (i : Int) := by
  unfold Prm.seenF Pok.hasB
  rw [← hn, List.take_length]
set_option maxHeartbeats 2000000 in
theorem sides1 (up : List Int) (bb : Nat) (A : Option Addr) (m c : Nat) (zs : List Int) (W : World) (hm : zs.length = m) (hm2 : m ≤ 12) (hz : Fits zs) (hss : IntsAt W W.heap.size .i64 A zs)
    (h1 : ∀ i, i < 12 → W.cell? ⟨bb, i, none⟩ = some (.bool (hasB up (i : Int)))) :
    Calls Tryz.prog 35 #[.slice A m c, .pointer (some ⟨bb, 0, none⟩)] W fun e w' => e = .returned (.bool (sidesB up zs)) ∧ Below W.heap.size W w' := by
  have HM := Lib.hid hm
  obtain ⟨R, hR⟩ : ∃ R, R = sidesB up zs := ⟨_, rfl⟩
  rw [← hR]
  have HR := Lib.hid hR
  clear hm hR
  go_enter Tryz.func35, Tryz.ntmps35
  go_wp2
  go_loopw [4, 5, 8] (fun _ _ i wr => ∃ k : Nat, k ≤ m ∧ i = .int .i64 k ∧ Hid (∀ i, i < k → upB (zs.getD i 0) = hasB up (i : Int)) ∧ Hid (Below W.heap.size W wr)) (fun _ _ i _ => m - (intOf i).toNat)
  case atStart => exact ⟨0, Nat.zero_le _, rfl, (fun i hi => absurd hi (Nat.not_lt_zero _)), Lib.hid (Below.refl _ W)⟩
  case round =>
    obtain ⟨k, hk, rfl, HE, HB⟩ := hrel
    by_cases hlt : k < m
    · obtain ⟨b, o, rfl, hbb, hc0⟩ := hss k (by rw [HM.out]; exact hlt)
      obtain ⟨hx1, hx2⟩ := hz k (by rw [HM.out]; exact hlt)
      have hc := (HB.out.cell (p := ⟨b, o + k, none⟩) hbb).trans hc0
      have h1k := h1 k (by omega)
      have hd := (HB.out.cell (p := ⟨bb, k, none⟩) (World.block_lt_of_cell? W _ h1k)).trans h1k
      obtain ⟨h, hh⟩ : ∃ h, h = hasB up (k : Int) := ⟨_, rfl⟩
      rw [← hh] at hd
      obtain ⟨u, hu⟩ : ∃ u, u = upB (zs.getD k 0) := ⟨_, rfl⟩
      have CU : ∀ V : World, Calls Tryz.prog 12 #[.int .i64 (zs.getD k 0)] V fun e w' => e = .returned (.bool u) ∧ w' = V := fun V => by
        rw [hu]
        exact (Pk.impl_up (zs.getD k 0) V hx1 hx2).mono fun e w' q => ⟨q.1, q.2.symm⟩
      have HY := Lib.hid (fun e : u = h => (show ∀ i, i < k + 1 → upB (zs.getD i 0) = hasB up (i : Int) from fun i hi => by
        by_cases hik : i = k
        · rw [hik, ← hh, ← hu]; exact e
        · exact HE.out i (by omega)))
      have HNO := Lib.hid (fun e : u ≠ h => (show false = R by rw [HR.out, sides_no (i := k) (by rw [HM.out]; exact hlt) (by rw [← hh, ← hu]; exact e)]))
      clear hc0 h1k hh hu HE hx1 hx2
      generalize zs.getD k 0 = x at *
      by_cases e : u = h
      · have HS := Lib.hid (HY.out e)
        have hne : (!(u == h)) = false := by rw [e]; simp
        clear HY HNO e
        go_wp2_with fail
        go_quiet ((go_at_call 12; with_reducible exact Calls.quiet_of_same (CU _)))
        go_wp2
        go_roundw
        case rel => exact ⟨k + 1, by omega, by go_num, HS, Lib.hid (below_drewN HB.out _)⟩
        case measure => simp [intOf]; omega
      · have HS := Lib.hid (HNO.out e)
        have hne : (!(u == h)) = true := by simpa using e
        clear HY HNO e
        go_wp2_with fail
        go_quiet ((go_at_call 12; with_reducible exact Calls.quiet_of_same (CU _)))
        go_wp2
        go_ret
        exact ⟨ret_b HS.out, below_drewN HB.out _⟩
    · have hkn : k = m := by omega
      have HS := Lib.hid (show true = R by rw [HR.out, sides_yes (fun i hi => HE.out i (by rw [hkn, ← HM.out]; exact hi))])
      clear hkn HE
      go_wp2
      go_ret
      exact ⟨ret_b HS.out, HB.out⟩
set_option maxHeartbeats 2000000 in
theorem impl_sides (A : Option Addr) (n c : Nat) (ls : List RD) (A2 : Option Addr) (n2 c2 : Nat) (up : List Int) (w : World) (hn : ls.length = n) (hat : SSAt w w.heap.size A ls) (hf : ∀ i, i < n → Fits (ls.getD i rd0).zs) (hz : ∀ i, i < n → (ls.getD i rd0).zs.length ≤ 1048576) (hn2 : n ≤ 1048576)
    (hm2 : up.length = n2) (hb2 : n2 ≤ 9223372036854775807) (hz2 : Fits up) (hs2 : IntsAt w w.heap.size .i64 A2 up) :
    Calls Tryz.prog 13 #[.slice A n c, .slice A2 n2 c2] w (IsSS w.heap.size (seeF (sidesB up) (ls.map RD.zs)) w) := by
  have HU := Lib.hid hm2
  have HN := Lib.hid hn
  have HAT := Lib.hid hat
  have HF := Lib.hid hf
  have HZ := Lib.hid hz
  clear hm2 hn hat hf hz
  have hown0 : (w.alloc (.cells #[.bool false, .bool false, .bool false, .bool false, .bool false, .bool false, .bool false, .bool false, .bool false, .bool false, .bool false, .bool false] 58)).ownsRow w.heap.size 58 1 (.slice (some ⟨w.heap.size, 0, none⟩) 12 12) 12 (Prm.brow 12 (Prm.seenF up 0)) := by
    rw [Prm.seen_zero]
    exact World.ownsRow_lit w _ 12 (Nat.le_refl _) (by unfold maxLen; omega) rfl
  have HOWN0 := Lib.hid hown0
  clear hown0
  go_enter Tryz.func13, Tryz.ntmps13
  go_wp2
  go_loopw [7, 10] (fun _ i wr => ∃ k : Nat, k ≤ n2 ∧ i = .int .i64 k ∧ wr.ownsRow w.heap.size 58 1 (.slice (some ⟨w.heap.size, 0, none⟩) 12 12) 12 (Prm.brow 12 (Prm.seenF up k)) ∧ Below w.heap.size w wr) (fun _ i _ => n2 - (intOf i).toNat)
  case atStart => exact ⟨0, Nat.zero_le _, rfl, HOWN0.out, (Below.refl _ w).alloc (Nat.le_refl _) _⟩
  case round =>
    obtain ⟨k, hk, rfl, hown, hbw⟩ := hrel
    clear HOWN0
    by_cases hlt : k < n2
    · obtain ⟨b, o, rfl, hbb, hc⟩ := (hs2.below hbw) k (by rw [HU.out]; exact hlt)
      obtain ⟨hx1, hx2⟩ := hz2 k (by rw [HU.out]; exact hlt)
      have hlt' : k < up.length := by rw [HU.out]; exact hlt
      have hsn := fun y => Prm.seen_next up k 12 y hlt'
      have hso := seen_out (m := 12) hlt'
      generalize up.getD k 0 = x at hc hx1 hx2 hsn hso
      by_cases h0 : 0 ≤ x ∧ x < 12
      · obtain ⟨y, rfl⟩ : ∃ y : Nat, x = y := ⟨x.toNat, by omega⟩
        have hy : y < 12 := by omega
        have C1 : ∀ V : World, Calls Tryz.prog 33 #[.int .i64 (y : Int), .int .i64 12] V fun e w' => e = .returned (.bool true) ∧ V = w' := fun V => by
          have h := impl_in (y : Int) 12 V
          rw [show inB (y : Int) 12 = true from decide_eq_true h0] at h
          exact h
        have hcell : wr.cell? ⟨w.heap.size, y, none⟩ = some (.bool (Prm.seenF up k y)) := by rw [hown.cellAt y (by omega)]; exact Prm.brow_get hy
        have hst := hown.stored y (.bool true)
        rw [hsn y rfl] at hst
        have hfz := hown.frozenAt y
        have HST := Lib.hid hst
        have HB2 := Lib.hid (hbw.setCell (p := ⟨w.heap.size, y, none⟩) (Nat.le_refl _) (.bool true))
        clear hsn hso hlt' hst h0
        go_wp2_with fail
        refine (C1 _).mono ?_
        rintro e w' ⟨rfl, rfl⟩
        go_wp2
        go_roundw
        case rel => exact ⟨k + 1, by omega, by go_num, HST.out.1, HB2.out⟩
        case measure => simp [intOf]; omega
      · have C1 : ∀ V : World, Calls Tryz.prog 33 #[.int .i64 x, .int .i64 12] V fun e w' => e = .returned (.bool false) ∧ V = w' := fun V => by
          have h := impl_in x 12 V
          rw [show inB x 12 = false from decide_eq_false h0] at h
          exact h
        have HO2 := Lib.hid hown
        rw [← hso h0] at HO2
        clear hsn hso hlt' h0 hown
        go_wp2_with fail
        refine (C1 _).mono ?_
        rintro e w' ⟨rfl, rfl⟩
        go_wp2
        go_roundw
        case rel => exact ⟨k + 1, by omega, by go_num, HO2.out, hbw⟩
        case measure => simp [intOf]; omega
    · have hkn : k = n2 := by omega
      have hsz := hbw.size
      have hfit := fit_any 35 #[.pointer (some ⟨w.heap.size, 0, none⟩)] (sidesB up) A n c ls wr HN.out ((HAT.out.below hbw).more hsz) HF.out HZ.out hn2 (fun args w => rfl) (fun W A' m c' zs hbW hm hm2 hz hss => by
        refine sides1 up w.heap.size A' m c' zs W hm hm2 hz hss fun i hi => ?_
        rw [hkn] at hown
        have hcell : wr.cell? ⟨w.heap.size, i, none⟩ = some (.bool (Prm.seenF up n2 i)) := by rw [hown.cellAt i (by omega)]; exact Prm.brow_get hi
        rw [seen_all HU.out i] at hcell
        exact (hbW.cell (p := ⟨w.heap.size, i, none⟩) (World.block_lt_of_cell? wr _ hcell)).trans hcell)
      clear hkn hown
      go_wp2_with fail
      refine hfit.mono ?_
      rintro e w3 h3
      obtain ⟨A5, c5, rs5, rfl, hz5, ho5, hb5⟩ := Sps.ss_mono h3 hbw hsz hsz
      clear h3 hfit
      go_wp2
      go_ret
      exact ⟨A5, c5, rs5, rfl, hz5, ho5, hb5⟩
end Go.Proofs.YthcggkhpamjjbaaGreat.Knc
