/- Which lists of packets are valid as knowledge (KnowOk), of the model. What is left of what is known after a look at a card or at the sides (SeeCard, SeeSides), of the model. -/
import Derived.Test.YthcggkhpamjjbaaGreatArr
import Derived.Test.YthcggkhpamjjbaaGreatSps
import Derived.Test.YthcggkhpamjjbaaGreatBig
set_option linter.unusedVariables false
set_option maxRecDepth 20000
namespace Go.Proofs.YthcggkhpamjjbaaGreat.Kno
open Go.RowKit Fr _root_.Go.Proofs.YthcggkhpamjjbaaGreat.Own Pk Ins Pok Rws Srt Sst Arr

def stepB (zss : List (List Int)) (i : Nat) : Bool := arrB (zss.getD 0 []) (zss.getD i []) && (decide (i = 0) || lessL (zss.getD (i - 1) []) (zss.getD i []))
/-- a list of packets that can be what is known -/
def knowB (zss : List (List Int)) : Bool := decide (1 ≤ zss.length ∧ zss.length ≤ 3000) && (decide (1 ≤ (zss.getD 0 []).length) && (List.range zss.length).all (stepB zss))
theorem map_getD (ls : List RD) (i : Nat) : (ls.map RD.zs).getD i [] = (ls.getD i rd0).zs := by
  rw [List.getD_eq_getElem?_getD, List.getD_eq_getElem?_getD, List.getElem?_map]
  cases ls[i]? <;> rfl
theorem map_zs2 {rs ls : List RD} (h : rs.map RD.zs = ls.map RD.zs) (i : Nat) : (rs.getD i rd0).zs = (ls.getD i rd0).zs := by
  rw [← map_getD, ← map_getD, h]
theorem fits_of {rs ls : List RD} {n : Nat} (h : WfSS ls) (hz : rs.map RD.zs = ls.map RD.zs) (hn : rs.length = n) : ∀ i, i < n → Fits (rs.getD i rd0).zs := by
  intro i hi
  have hl : rs.length = ls.length := by have := congrArg List.length hz; simpa using this
  rw [map_zs2 hz i]
  exact (h i (by omega)).2
theorem know_yes {zss : List (List Int)} (h1 : 1 ≤ zss.length) (h2 : zss.length ≤ 3000) (h3 : 1 ≤ (zss.getD 0 []).length) (h4 : ∀ i, i < zss.length → stepB zss i = true) : knowB zss = true := by
  unfold knowB
  rw [decide_eq_true ⟨h1, h2⟩, decide_eq_true h3, Bool.true_and, Bool.true_and, List.all_eq_true]
  intro i hi
  exact h4 i (List.mem_range.1 hi)
theorem know_no1 {zss : List (List Int)} (h : ¬ (1 ≤ zss.length ∧ zss.length ≤ 3000)) : knowB zss = false := by
  unfold knowB; rw [decide_eq_false h]; rfl
theorem know_no2 {zss : List (List Int)} (h : ¬ 1 ≤ (zss.getD 0 []).length) : knowB zss = false := by
  unfold knowB; rw [decide_eq_false h]; simp
theorem know_no3 {zss : List (List Int)} {i : Nat} (hi : i < zss.length) (h : stepB zss i = false) : knowB zss = false := by
  rw [Bool.eq_false_iff]
  intro hk
  unfold knowB at hk
  rw [Bool.and_eq_true, Bool.and_eq_true, List.all_eq_true] at hk
  rw [hk.2.2 i (List.mem_range.2 hi)] at h
  cases h
theorem know_len {zss : List (List Int)} (h : knowB zss = true) : 1 ≤ zss.length ∧ zss.length ≤ 3000 ∧ 1 ≤ (zss.getD 0 []).length ∧ ∀ i, i < zss.length → stepB zss i = true := by
  unfold knowB at h
  rw [Bool.and_eq_true, Bool.and_eq_true, List.all_eq_true] at h
  exact ⟨(of_decide_eq_true h.1).1, (of_decide_eq_true h.1).2, of_decide_eq_true h.2.1, fun i hi => h.2.2 i (List.mem_range.2 hi)⟩
/-- a row of an argument -/
theorem row_at {w : World} {B n : Nat} {A : Option Addr} {ls : List RD} (h : SSAt w B A ls) (hn : ls.length = n) (hf : ∀ i, i < n → Fits (ls.getD i rd0).zs) (hz : ∀ i, i < n → (ls.getD i rd0).zs.length ≤ 1048576) (k : Nat) (hk : k < n) :
    ∃ (b o : Nat) (A1 : Option Addr) (m c1 : Nat), A = some ⟨b, o, none⟩ ∧ b < B ∧ w.cell? ⟨b, o + k, none⟩ = some (.slice A1 m c1) ∧ (ls.getD k rd0).zs.length = m ∧ IntsAt w B .i64 A1 (ls.getD k rd0).zs ∧ Fits (ls.getD k rd0).zs ∧ m ≤ 1048576 := by
  obtain ⟨b, o, e, hb, hc, hi⟩ := h k (by rw [hn]; exact hk)
  exact ⟨b, o, _, _, _, e, hb, hc, rfl, hi, hf k hk, hz k hk⟩
theorem step0 {ls : List RD} : stepB (ls.map RD.zs) 0 = arrB (ls.getD 0 rd0).zs (ls.getD 0 rd0).zs := by
  unfold stepB; rw [map_getD]; simp
theorem stepk {ls : List RD} {k : Nat} (h : 0 < k) : stepB (ls.map RD.zs) k = (arrB (ls.getD 0 rd0).zs (ls.getD k rd0).zs && lessL (ls.getD (k - 1) rd0).zs (ls.getD k rd0).zs) := by
  unfold stepB; rw [map_getD, map_getD, map_getD, decide_eq_false (by omega)]; rfl

set_option maxHeartbeats 2000000 in
theorem spec_know (A : Option Addr) (n c : Nat) (ls : List RD) (w : World) (hn : ls.length = n) (hat : SSAt w w.heap.size A ls) (hf : ∀ i, i < n → Fits (ls.getD i rd0).zs) (hz : ∀ i, i < n → (ls.getD i rd0).zs.length ≤ 1048576) (hn2 : n ≤ 1048576) :
    Calls Tryz.prog 37 #[.slice A n c] w fun e w' => e = .returned (.bool (knowB (ls.map RD.zs))) ∧ Below w.heap.size w w' := by
  have HN := Lib.hid hn
  have HML := Lib.hid (show (ls.map RD.zs).length = n by rw [List.length_map, hn])
  have HAT := Lib.hid hat
  have HF := Lib.hid hf
  have HZ := Lib.hid hz
  obtain ⟨R, hR⟩ : ∃ R, R = knowB (ls.map RD.zs) := ⟨_, rfl⟩
  rw [← hR]
  have HR := Lib.hid hR
  clear hn hat hf hz hR
  by_cases h1 : 1 ≤ n ∧ n ≤ 3000
  · obtain ⟨b, o, A0, m0, c0, rfl, hbb, hc0, hm0, hi0, hf0, hs0⟩ := row_at HAT.out HN.out HF.out HZ.out 0 (by omega)
    have HM0 := Lib.hid hm0
    have hc0' : w.cell? ⟨b, o, none⟩ = some (.slice A0 m0 c0) := hc0
    have hin : ∀ W : World, Calls Tryz.prog 57 #[.int .i64 (n : Int), .int .i64 1, .int .i64 3000] W fun e w' => e = .returned (.bool true) ∧ W = w' := fun W => Pk.in_yes _ _ _ _ (by omega) (by omega)
    by_cases h2 : m0 = 0
    · have HS := Lib.hid (show false = R by rw [HR.out, know_no2 (by rw [map_getD, HM0.out]; omega)])
      subst h2
      clear hm0 HM0 HR
      go_enter Tryz.func37, Tryz.ntmps37
      go_wp2_with fail
      refine (hin _).mono ?_
      rintro e w' ⟨rfl, rfl⟩
      go_wp2
      go_ret
      exact ⟨ret_b HS.out, Below.refl _ w⟩
    · have hm1 : ((m0 : Int) == 0) = false := by rw [beq_eq_false_iff_ne]; omega
      have HM1 := Lib.hid (show 1 ≤ m0 by omega)
      have H1 := Lib.hid h1
      have h1a : 1 ≤ n := h1.1
      clear hm0 h2 h1 hc0
      go_enter Tryz.func37, Tryz.ntmps37
      go_wp2_with fail
      refine (hin _).mono ?_
      rintro e w' ⟨rfl, rfl⟩
      go_wp2
      clear hin
      go_loopg [3, 4, 18] n (fun g _ _ s18 wr => ∃ k : Nat, k ≤ n ∧ g = n - k ∧ s18 = .int .i64 (k : Int) ∧ Hid (∀ i, i < k → stepB (ls.map RD.zs) i = true) ∧ Hid (Below w.heap.size w wr))
      case atStart => exact ⟨0, Nat.zero_le _, rfl, rfl, Lib.hid (fun i hi => absurd hi (Nat.not_lt_zero _)), Lib.hid (Below.refl _ w)⟩
      case round =>
        obtain ⟨k, hk, hg, rfl, HE, HBW⟩ := hrel
        have hsz := HBW.out.size
        have hcf : wr.cell? ⟨b, o, none⟩ = some (.slice A0 m0 c0) := (HBW.out.cell (p := ⟨b, o, none⟩) hbb).trans hc0'
        have hif : IntsAt wr wr.heap.size .i64 A0 (ls.getD 0 rd0).zs := (hi0.below HBW.out).more hsz
        by_cases hlt : k < n
        · obtain ⟨b', o', Ak, mk, ck, ek, hbk, hck, hmk, hik, hfk, hsk⟩ := row_at (HAT.out.below HBW.out) HN.out HF.out HZ.out k hlt
          simp only [Option.some.injEq, Addr.mk.injEq, and_true] at ek
          obtain ⟨rfl, rfl⟩ := ek
          have HMK := Lib.hid hmk
          have CA := spec_arr A0 m0 c0 _ Ak mk ck _ wr HM0.out (by omega) hf0 hif HMK.out (by omega) hfk (hik.more hsz)
          obtain ⟨a, ha⟩ : ∃ a, a = arrB (ls.getD 0 rd0).zs (ls.getD k rd0).zs := ⟨_, rfl⟩
          rw [← ha] at CA
          cases a with
          | false =>
            have HS := Lib.hid (show false = R by
              rw [HR.out, know_no3 (i := k) (by rw [HML.out]; exact hlt) ?_]
              unfold stepB
              rw [map_getD, map_getD, ← ha]; rfl)
            clear ha HR hmk HE
            go_wp2_with fail
            refine CA.mono ?_
            rintro e w1 ⟨rfl, hb1⟩
            go_wp2
            go_ret
            exact ⟨ret_b HS.out, HBW.out.trans (hb1.mono hsz)⟩
          | true =>
            by_cases hk0 : k = 0
            · have HS := Lib.hid (show ∀ i, i < k + 1 → stepB (ls.map RD.zs) i = true from fun i hi => by
                obtain rfl : i = 0 := by omega
                unfold stepB
                rw [map_getD]
                rw [hk0] at ha
                rw [← ha]; rfl)
              have hd0 : decide ((0 : Int) < (k : Int)) = false := decide_eq_false (by omega)
              have hd1 : decide (0 < k) = false := decide_eq_false (by omega)
              clear ha HR hmk HE hk0
              go_wp2_with fail
              refine CA.mono ?_
              rintro e w1 ⟨rfl, hb1⟩
              have HB := Lib.hid (HBW.out.trans (hb1.mono hsz))
              clear CA hb1 HBW
              go_wp2
              go_roundg (n - (k + 1))
              case rel => exact ⟨k + 1, by omega, rfl, by go_num, HS, HB⟩
              case measure => omega
            · obtain ⟨j, rfl⟩ : ∃ j, k = j + 1 := ⟨k - 1, by omega⟩
              obtain ⟨b', o', Aj, mj, cj, ej, hbj, hcj, hmj, hij, hfj, hsj⟩ := row_at (HAT.out.below HBW.out) HN.out HF.out HZ.out j (by omega)
              simp only [Option.some.injEq, Addr.mk.injEq, and_true] at ej
              obtain ⟨rfl, rfl⟩ := ej
              have HMJ := Lib.hid hmj
              obtain ⟨l, hl⟩ : ∃ l, l = lessL (ls.getD j rd0).zs (ls.getD (j + 1) rd0).zs := ⟨_, rfl⟩
              have HSTEP := Lib.hid (show stepB (ls.map RD.zs) (j + 1) = l by rw [stepk (by omega), ← ha, Nat.add_sub_cancel, hl]; rfl)
              have CL : ∀ W, Below wr.heap.size wr W → Calls Tryz.prog 59 #[.slice Aj mj cj, .slice Ak mk ck] W fun e w' => e = .returned (.bool l) ∧ W = w' := fun W hW => by
                rw [hl]
                exact Spl.less_any Aj Ak mj mk cj ck _ _ W HMJ.out HMK.out (by omega) (by omega) (((hij.more hsz).below hW).more hW.size) (((hik.more hsz).below hW).more hW.size)
              clear ha hl hmk hmj hk0
              go_wp2_with fail
              refine CA.mono ?_
              rintro e w1 ⟨rfl, hb1⟩
              have hck1 := (hb1.cell (p := ⟨b, o + (j + 1), none⟩) (show b < _ by omega)).trans hck
              have hcj1 := (hb1.cell (p := ⟨b, o + j, none⟩) (show b < _ by omega)).trans hcj
              have HB := Lib.hid (HBW.out.trans (hb1.mono hsz))
              replace CL := CL w1 hb1
              clear CA hb1 HBW hck hcj hcf
              go_wp2_with fail
              refine CL.mono ?_
              rintro e w2 ⟨rfl, rfl⟩
              cases l with
              | false =>
                have HS := Lib.hid (show false = R by rw [HR.out, know_no3 (i := j + 1) (by rw [HML.out]; exact hlt) HSTEP.out])
                clear HSTEP HE HR
                go_wp2
                go_ret
                exact ⟨ret_b HS.out, HB.out⟩
              | true =>
                have HS := Lib.hid (show ∀ i, i < j + 1 + 1 → stepB (ls.map RD.zs) i = true from fun i hi => by
                  by_cases hij : i = j + 1
                  · rw [hij]; exact HSTEP.out
                  · exact HE.out i (by omega))
                clear HSTEP HE HR
                go_wp2
                go_roundg (n - (j + 1 + 1))
                case rel => exact ⟨j + 1 + 1, by omega, rfl, by go_num, HS, HB⟩
                case measure => omega
        · have hkn : k = n := by omega
          have HS := Lib.hid (show true = R by rw [HR.out, know_yes (by rw [HML.out]; exact h1a) (by rw [HML.out]; exact H1.out.2) (by rw [map_getD, HM0.out]; exact HM1.out) (fun i hi => HE.out i (by rw [hkn]; rw [HML.out] at hi; exact hi))])
          clear hkn HR HE
          go_wp2
          go_ret
          exact ⟨ret_b HS.out, HBW.out⟩
  · have HS := Lib.hid (show false = R by rw [HR.out, know_no1 (by rw [HML.out]; exact h1)])
    have hin : ∀ W : World, Calls Tryz.prog 57 #[.int .i64 (n : Int), .int .i64 1, .int .i64 3000] W fun e w' => e = .returned (.bool false) ∧ W = w' := fun W => Pk.in_no _ _ _ _ (by omega)
    clear HR
    go_enter Tryz.func37, Tryz.ntmps37
    go_wp2_with fail
    refine (hin _).mono ?_
    rintro e w' ⟨rfl, rfl⟩
    go_wp2
    go_ret
    exact ⟨ret_b HS.out, Below.refl _ w⟩
end Go.Proofs.YthcggkhpamjjbaaGreat.Kno

namespace Go.Proofs.YthcggkhpamjjbaaGreat.Kns
open Go.RowKit Fr _root_.Go.Proofs.YthcggkhpamjjbaaGreat.Own Pk Ins Pok Rws Lb Cat Srt Sst Arr Kno

/-- the packets that fit with what was seen -/
def seeF (f : List Int → Bool) (zss : List (List Int)) : List (List Int) := if knowB zss = true then zss.filter f else []
theorem see_no {f : List Int → Bool} {zss : List (List Int)} (h : knowB zss = false) : seeF f zss = [] := by unfold seeF; rw [h]; rfl
theorem see_yes {f : List Int → Bool} {zss : List (List Int)} (h : knowB zss = true) : seeF f zss = zss.filter f := by unfold seeF; rw [if_pos h]
def cardAt (p card : Int) (zs : List Int) : Bool := decide (0 ≤ p ∧ p < zs.length) && decide (cardF (zs.getD p.toNat 0) = card)
theorem arr_parts {ps qs : List Int} (h : arrB ps qs = true) : okB ps = true ∧ okB qs = true ∧ ps.length = qs.length := by
  unfold arrB at h
  rw [Bool.and_eq_true, Bool.and_eq_true, Bool.and_eq_true] at h
  exact ⟨h.1.1.1, h.1.1.2, of_decide_eq_true h.1.2⟩
/-- each packet of a valid list -/
theorem know_row {ls : List RD} {n : Nat} (hn : ls.length = n) (h : knowB (ls.map RD.zs) = true) (k : Nat) (hk : k < n) : okB (ls.getD k rd0).zs = true ∧ 1 ≤ (ls.getD k rd0).zs.length ∧ (ls.getD k rd0).zs.length ≤ 12 ∧ (ls.getD k rd0).zs.length = (ls.getD 0 rd0).zs.length := by
  obtain ⟨h1, h2, h3, h4⟩ := know_len h
  rw [List.length_map, hn] at h4
  have hs := h4 k hk
  unfold stepB at hs
  rw [Bool.and_eq_true, map_getD, map_getD] at hs
  obtain ⟨q1, q2, q3⟩ := arr_parts hs.1
  rw [map_getD] at h3
  exact ⟨q2, by omega, (okB_yes q2).1, q3.symm⟩
theorem know_few {ls : List RD} {n : Nat} (hn : ls.length = n) (h : knowB (ls.map RD.zs) = true) : 1 ≤ n ∧ n ≤ 3000 := by
  obtain ⟨h1, h2, _⟩ := know_len h
  rw [List.length_map, hn] at h1 h2
  exact ⟨h1, h2⟩
theorem filt_no {f : List Int → Bool} {ls : List RD} {k n : Nat} (hn : ls.length = n) (hk : k < n) (h : f (ls.getD k rd0).zs = false) : ((ls.map RD.zs).take (k + 1)).filter f = ((ls.map RD.zs).take k).filter f := by
  have e : (ls.map RD.zs).take (k + 1) = (ls.map RD.zs).take k ++ [(ls.getD k rd0).zs] := by
    rw [List.take_add_one, List.getElem?_map, List.getElem?_eq_getElem (by omega)]
    simp [List.getD_eq_getElem?_getD, List.getElem?_eq_getElem (show k < ls.length by omega)]
  rw [e, List.filter_append]
  simp only [List.filter_cons, h, List.filter_nil]
  simp
theorem filt_yes {f : List Int → Bool} {ls : List RD} {k n : Nat} (hn : ls.length = n) (hk : k < n) (h : f (ls.getD k rd0).zs = true) : ((ls.map RD.zs).take (k + 1)).filter f = ((ls.map RD.zs).take k).filter f ++ [(ls.getD k rd0).zs] := by
  have e : (ls.map RD.zs).take (k + 1) = (ls.map RD.zs).take k ++ [(ls.getD k rd0).zs] := by
    rw [List.take_add_one, List.getElem?_map, List.getElem?_eq_getElem (by omega)]
    simp [List.getD_eq_getElem?_getD, List.getElem?_eq_getElem (show k < ls.length by omega)]
  rw [e, List.filter_append]
  simp only [List.filter_cons, h, List.filter_nil]
  simp
theorem filt_len {f : List Int → Bool} {zss : List (List Int)} (k : Nat) : ((zss.take k).filter f).length ≤ k := by
  have h1 := List.length_filter_le f (zss.take k)
  rw [List.length_take] at h1
  omega
/-- a row has one more list -/
theorem snoc_zs {ro : List RD} {zss : List (List Int)} {r : RD} {zs : List Int} (h : ro.map RD.zs = zss) (hr : r.zs = zs) : (ro ++ [r]).map RD.zs = zss ++ [zs] := by
  rw [List.map_append, h]
  simp [hr]

theorem tots_filter (f : List Int → Bool) : ∀ l : List (List Int), tots (l.filter f) ≤ tots l
  | [] => Nat.le_refl _
  | x :: l => by
    have ih := tots_filter f l
    rw [List.filter_cons, tots_cons]
    split
    · rw [tots_cons]; omega
    · omega
theorem see_big (f : List Int → Bool) {zss : List (List Int)} (h : Big.BigSS zss) : Big.BigSS (seeF f zss) := by
  unfold seeF
  split
  · exact ⟨Nat.le_trans (List.length_filter_le f zss) h.1, Nat.le_trans (tots_filter f zss) h.2⟩
  · exact ⟨Nat.zero_le _, Nat.zero_le _⟩
def sidesB (up zs : List Int) : Bool := (List.range zs.length).all fun i => upB (zs.getD i 0) == hasB up (i : Int)
theorem sides_yes {up zs : List Int} (h : ∀ i, i < zs.length → upB (zs.getD i 0) = hasB up (i : Int)) : sidesB up zs = true := by
  unfold sidesB
  rw [List.all_eq_true]
  intro i hi
  rw [beq_iff_eq]
  exact h i (List.mem_range.1 hi)
theorem sides_no {up zs : List Int} {i : Nat} (hi : i < zs.length) (h : upB (zs.getD i 0) ≠ hasB up (i : Int)) : sidesB up zs = false := by
  rw [Bool.eq_false_iff]
  intro hs
  unfold sidesB at hs
  rw [List.all_eq_true] at hs
  exact h (beq_iff_eq.1 (hs i (List.mem_range.2 hi)))
end Go.Proofs.YthcggkhpamjjbaaGreat.Kns
