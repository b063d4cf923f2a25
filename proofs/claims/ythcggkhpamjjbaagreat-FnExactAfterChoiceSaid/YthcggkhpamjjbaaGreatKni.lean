/- Which lists of packets are valid as knowledge (KnowOk), of the program; what is left of them after a look (fitting, SeeCard, SeeSides). -/
import Derived.Test.YthcggkhpamjjbaaGreatKns
import Derived.Test.YthcggkhpamjjbaaGreatSip
import Derived.BigQuiet
import Derived.Deep.RegionWith
set_option linter.unusedVariables false
set_option maxRecDepth 20000
namespace Go.Proofs.YthcggkhpamjjbaaGreat.Kni
open Go.RowKit Fr _root_.Go.Proofs.YthcggkhpamjjbaaGreat.Own Pk Ins Pok Rws Lb Cat Srt Sst Arr Kno Kns

set_option maxHeartbeats 2000000 in
theorem impl_know (A : Option Addr) (n c : Nat) (ls : List RD) (w : World) (hn : ls.length = n) (hat : SSAt w w.heap.size A ls) (hf : ∀ i, i < n → Fits (ls.getD i rd0).zs) (hz : ∀ i, i < n → (ls.getD i rd0).zs.length ≤ 1048576) (hn2 : n ≤ 1048576) :
    Calls Tryz.prog 9 #[.slice A n c] w fun e w' => e = .returned (.bool (knowB (ls.map RD.zs))) ∧ Below w.heap.size w w' := by
  have HN := Lib.hid hn
  have HML := Lib.hid (show (ls.map RD.zs).length = n by rw [List.length_map, hn])
  have HAT := Lib.hid hat
  have HF := Lib.hid hf
  have HZ := Lib.hid hz
  obtain ⟨R, hR⟩ : ∃ R, R = knowB (ls.map RD.zs) := ⟨_, rfl⟩
  rw [← hR]
  have HR := Lib.hid hR
  clear hn hat hf hz hR
  by_cases h1 : 1 ≤ n ∧ n ≤ 3000
  · obtain ⟨b, o, A0, m0, c0, rfl, hbb, hc0, hm0, hi0, hf0, hs0⟩ := row_at HAT.out HN.out HF.out HZ.out 0 (by omega)
    have HM0 := Lib.hid hm0
    have hn0 : ((n : Int) == 0) = false := by rw [beq_eq_false_iff_ne]; omega
    have hn3 : (n : Int) ≤ 3000 := by omega
    have hn4 : decide ((3000 : Int) < (n : Int)) = false := decide_eq_false (by omega)
    have hc0' : w.cell? ⟨b, o, none⟩ = some (.slice A0 m0 c0) := hc0
    by_cases h2 : m0 = 0
    · have HS := Lib.hid (show false = R by rw [HR.out, know_no2 (by rw [map_getD, HM0.out]; omega)])
      subst h2
      clear hm0 HM0 HR
      go_enter Tryz.func9, Tryz.ntmps9
      go_wp2_with fail
      go_ret
      exact ⟨ret_b HS.out, Below.refl _ w⟩
    · have hm1 : ((m0 : Int) == 0) = false := by rw [beq_eq_false_iff_ne]; omega
      have HM1 := Lib.hid (show 1 ≤ m0 by omega)
      have H1 := Lib.hid h1
      have h1a : 1 ≤ n := h1.1
      clear hm0 h2 h1 hc0
      go_enter Tryz.func9, Tryz.ntmps9
      go_wp2_with fail
      go_loopg [3, 4, 22] n (fun g _ _ s18 wr => ∃ k : Nat, k ≤ n ∧ g = n - k ∧ s18 = .int .i64 (k : Int) ∧ Hid (∀ i, i < k → stepB (ls.map RD.zs) i = true) ∧ Hid (Below w.heap.size w wr))
      case atStart => exact ⟨0, Nat.zero_le _, rfl, rfl, Lib.hid (fun i hi => absurd hi (Nat.not_lt_zero _)), Lib.hid (Below.refl _ w)⟩
      case round =>
        obtain ⟨k, hk, hg, rfl, HE, HBW⟩ := hrel
        have hsz := HBW.out.size
        have hcf : wr.cell? ⟨b, o, none⟩ = some (.slice A0 m0 c0) := (HBW.out.cell (p := ⟨b, o, none⟩) hbb).trans hc0'
        have hif : IntsAt wr wr.heap.size .i64 A0 (ls.getD 0 rd0).zs := (hi0.below HBW.out).more hsz
        by_cases hlt : k < n
        · obtain ⟨b', o', Ak, mk, ck, ek, hbk, hck, hmk, hik, hfk, hsk⟩ := row_at (HAT.out.below HBW.out) HN.out HF.out HZ.out k hlt
          simp only [Option.some.injEq, Addr.mk.injEq, and_true] at ek
          obtain ⟨rfl, rfl⟩ := ek
          have HMK := Lib.hid hmk
          have CA := impl_arr A0 m0 c0 _ Ak mk ck _ wr HM0.out (by omega) hf0 hif HMK.out (by omega) hfk (hik.more hsz)
          obtain ⟨a, ha⟩ : ∃ a, a = arrB (ls.getD 0 rd0).zs (ls.getD k rd0).zs := ⟨_, rfl⟩
          rw [← ha] at CA
          cases a with
          | false =>
            have HS := Lib.hid (show false = R by
              rw [HR.out, know_no3 (i := k) (by rw [HML.out]; exact hlt) ?_]
              unfold stepB
              rw [map_getD, map_getD, ← ha]; rfl)
            clear ha HR hmk HE
            go_wp2_with fail
            refine CA.mono ?_
            rintro e w1 ⟨rfl, hb1⟩
            go_wp2
            go_ret
            exact ⟨ret_b HS.out, HBW.out.trans (hb1.mono hsz)⟩
          | true =>
            by_cases hk0 : k = 0
            · have HS := Lib.hid (show ∀ i, i < k + 1 → stepB (ls.map RD.zs) i = true from fun i hi => by
                obtain rfl : i = 0 := by omega
                unfold stepB
                rw [map_getD]
                rw [hk0] at ha
                rw [← ha]; rfl)
              have hd0 : decide ((0 : Int) < (k : Int)) = false := decide_eq_false (by omega)
              have hd1 : decide (0 < k) = false := decide_eq_false (by omega)
              clear ha HR hmk HE hk0
              go_wp2_with fail
              refine CA.mono ?_
              rintro e w1 ⟨rfl, hb1⟩
              have HB := Lib.hid (HBW.out.trans (hb1.mono hsz))
              clear CA hb1 HBW
              go_wp2
              go_roundg (n - (k + 1))
              case rel => exact ⟨k + 1, by omega, rfl, by go_num, HS, HB⟩
              case measure => omega
            · obtain ⟨j, rfl⟩ : ∃ j, k = j + 1 := ⟨k - 1, by omega⟩
              obtain ⟨b', o', Aj, mj, cj, ej, hbj, hcj, hmj, hij, hfj, hsj⟩ := row_at (HAT.out.below HBW.out) HN.out HF.out HZ.out j (by omega)
              simp only [Option.some.injEq, Addr.mk.injEq, and_true] at ej
              obtain ⟨rfl, rfl⟩ := ej
              have HMJ := Lib.hid hmj
              obtain ⟨l, hl⟩ : ∃ l, l = lessL (ls.getD j rd0).zs (ls.getD (j + 1) rd0).zs := ⟨_, rfl⟩
              have HSTEP := Lib.hid (show stepB (ls.map RD.zs) (j + 1) = l by rw [stepk (by omega), ← ha, Nat.add_sub_cancel, hl]; rfl)
              obtain ⟨z, hzz⟩ : ∃ z, z = Cmp.cmpF (ls.getD j rd0).zs (ls.getD (j + 1) rd0).zs := ⟨_, rfl⟩
              have hzl : (z < 0) ↔ l = true := by rw [hzz, hl]; exact Cmp.cmp_less _ _
              have CL : ∀ W, Below wr.heap.size wr W → Calls Tryz.prog 28 #[.slice Aj mj cj, .slice Ak mk ck] W fun e w' => e = .returned (.int .i64 z) ∧ W = w' := fun W hW => by
                rw [hzz]
                exact Cmp.compare_any Aj Ak mj mk cj ck _ _ _ _ W HMJ.out HMK.out (by omega) (by omega) (((hij.more hsz).below hW).more hW.size) (((hik.more hsz).below hW).more hW.size)
              clear hzz
              clear ha hl hmk hmj hk0
              go_wp2_with fail
              refine CA.mono ?_
              rintro e w1 ⟨rfl, hb1⟩
              have hck1 := (hb1.cell (p := ⟨b, o + (j + 1), none⟩) (show b < _ by omega)).trans hck
              have hcj1 := (hb1.cell (p := ⟨b, o + j, none⟩) (show b < _ by omega)).trans hcj
              have HB := Lib.hid (HBW.out.trans (hb1.mono hsz))
              replace CL := CL w1 hb1
              clear CA hb1 HBW hck hcj hcf
              go_wp2_with fail
              refine CL.mono ?_
              rintro e w2 ⟨rfl, rfl⟩
              cases l with
              | false =>
                have hz0 : 0 ≤ z := by
                  rcases Int.lt_or_le z 0 with h | h
                  · exact absurd (hzl.1 h) (by decide)
                  · exact h
                clear hzl
                have HS := Lib.hid (show false = R by rw [HR.out, know_no3 (i := j + 1) (by rw [HML.out]; exact hlt) HSTEP.out])
                clear HSTEP HE HR
                go_wp2
                go_ret
                exact ⟨ret_b HS.out, HB.out⟩
              | true =>
                have hz0 : ¬ 0 ≤ z := by have h := hzl.2 rfl; omega
                have hz1 : decide (0 ≤ z) = false := decide_eq_false hz0
                have hz2 : z < 0 := by omega
                clear hzl hz0
                have HS := Lib.hid (show ∀ i, i < j + 1 + 1 → stepB (ls.map RD.zs) i = true from fun i hi => by
                  by_cases hij : i = j + 1
                  · rw [hij]; exact HSTEP.out
                  · exact HE.out i (by omega))
                clear HSTEP HE HR
                go_wp2
                go_roundg (n - (j + 1 + 1))
                case rel => exact ⟨j + 1 + 1, by omega, rfl, by go_num, HS, HB⟩
                case measure => omega
        · have hkn : k = n := by omega
          have HS := Lib.hid (show true = R by rw [HR.out, know_yes (by rw [HML.out]; exact h1a) (by rw [HML.out]; exact H1.out.2) (by rw [map_getD, HM0.out]; exact HM1.out) (fun i hi => HE.out i (by rw [hkn]; rw [HML.out] at hi; exact hi))])
          clear hkn HR HE
          go_wp2
          go_ret
          exact ⟨ret_b HS.out, HBW.out⟩
  · have HS := Lib.hid (show false = R by rw [HR.out, know_no1 (by rw [HML.out]; exact h1)])
    clear HR
    by_cases h0 : n = 0
    · subst h0
      go_enter Tryz.func9, Tryz.ntmps9
      go_wp2
      go_ret
      exact ⟨ret_b HS.out, Below.refl _ w⟩
    · have hn0 : ((n : Int) == 0) = false := by rw [beq_eq_false_iff_ne]; omega
      have hn3 : (3000 : Int) < (n : Int) := by omega
      clear h1 h0
      go_enter Tryz.func9, Tryz.ntmps9
      go_wp2
      go_ret
      exact ⟨ret_b HS.out, Below.refl _ w⟩
end Go.Proofs.YthcggkhpamjjbaaGreat.Kni
