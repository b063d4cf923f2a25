/- The model's shift registers: l11Taps, ShiftStack. -/
import Derived.Test.YtkonakfbidnfhaaSko
import Derived.Test.YtkonakfbidnfhaaSkr
set_option linter.unusedVariables false
set_option maxRecDepth 20000
namespace Go.Proofs.Ytkonakfbidnfhaa.Skt
open Go.RowKit Go.Maps Fr _root_.Go.Proofs.Ytkonakfbidnfhaa.Own Pk Ins Pfn Rws Lb Map Cat Cut Stk Skp Sks Skw Skv Ski Skj Skk Stp Skg Skq Skm Skn Sko Sam Skr

/-- the taps as the model tests them: each from 1 to n, each above the one before -/
def upB (n : Int) (taps : List Int) : Nat → Bool
  | 0 => true
  | k + 1 => upB n taps k && (decide (1 ≤ taps.getD k 0 ∧ taps.getD k 0 ≤ n) && (decide (k = 0) || decide (taps.getD (k - 1) 0 < taps.getD k 0)))
theorem up_no {n : Int} {taps : List Int} {k : Nat} (h : upB n taps k = false) : ∀ j, k ≤ j → upB n taps j = false
  | 0, hj => by
    have : k = 0 := by omega
    subst this; exact h
  | j + 1, hj => by
    by_cases e : k = j + 1
    · subst e; exact h
    · simp only [upB]
      rw [up_no h j (by omega), Bool.false_and]
/-- what is before a place does not exceed it -/
theorem asc_drop {n : Int} {taps : List Int} (hl : taps.getD (taps.length - 1) 0 = n) (h0 : taps.length ≠ 0) : ∀ (f k : Nat) (last : Int), k + f = taps.length → 1 ≤ f → (last = if k = 0 then 0 else taps.getD (k - 1) 0) → upB n taps k = true → ascB n last (taps.drop k) = upB n taps taps.length
  | 0, k, last, hk, hf, _, _ => by omega
  | f + 1, k, last, hk, hf, hla, hu => by
    rw [drop_at (by omega), ascB]
    obtain ⟨y, hy⟩ : ∃ y, y = taps.getD k 0 := ⟨_, rfl⟩
    have hun : upB n taps (k + 1) = (decide (1 ≤ y ∧ y ≤ n) && (decide (k = 0) || decide (taps.getD (k - 1) 0 < y))) := by
      simp only [upB]
      rw [hu, Bool.true_and, hy]
    rw [← hy]
    by_cases hok : upB n taps (k + 1) = true
    · have hok2 := hok
      rw [hun] at hok2
      simp only [Bool.and_eq_true, Bool.or_eq_true, decide_eq_true_eq] at hok2
      have hlt : last < y := by
        rw [hla]
        by_cases e : k = 0
        · rw [if_pos e]; omega
        · rw [if_neg e]
          rcases hok2.2 with h | h
          · exact absurd h e
          · exact h
      rw [decide_eq_true hlt, Bool.true_and]
      by_cases hf1 : f = 0
      · subst hf1
        have e1 : k + 1 = taps.length := by omega
        rw [e1] at hok ⊢
        rw [hok, List.drop_length, ascB]
        exact decide_eq_true (by rw [hy, ← hl, ← e1, Nat.add_sub_cancel])
      · exact asc_drop hl h0 f (k + 1) y (by omega) (by omega) (by rw [if_neg (by omega), Nat.add_sub_cancel, hy]) hok
    · have hok3 : upB n taps (k + 1) = false := by simpa using hok
      rw [up_no hok3 taps.length (by omega)]
      rw [Bool.eq_false_iff]
      intro h
      simp only [Bool.and_eq_true, decide_eq_true_eq] at h
      apply hok
      rw [hun]
      simp only [Bool.and_eq_true, Bool.or_eq_true, decide_eq_true_eq]
      have hle := (asc_le h.2).1
      by_cases e : k = 0
      · rw [if_pos e] at hla
        exact ⟨⟨by omega, hle⟩, Or.inl e⟩
      · rw [if_neg e] at hla
        have hu2 := hu
        obtain ⟨q, rfl⟩ : ∃ q, k = q + 1 := ⟨k - 1, by omega⟩
        simp only [upB, Bool.and_eq_true, decide_eq_true_eq] at hu2
        rw [Nat.add_sub_cancel] at hla ⊢
        exact ⟨⟨by omega, hle⟩, Or.inr (by omega)⟩
theorem asc_up {n : Int} {taps : List Int} (hl : taps.getD (taps.length - 1) 0 = n) (h0 : taps.length ≠ 0) : ascB n 0 taps = upB n taps taps.length := by
  have h := asc_drop hl h0 taps.length 0 0 (by omega) (by omega) rfl rfl
  rwa [List.drop_zero] at h
theorem asc_last {n : Int} : ∀ {last : Int} {taps : List Int}, taps.length ≠ 0 → ascB n last taps = true → taps.getD (taps.length - 1) 0 = n
  | last, [], h, _ => absurd rfl h
  | last, [t], _, h => by
    simp only [ascB, Bool.and_eq_true, decide_eq_true_eq] at h
    exact h.2
  | last, t :: u :: r, _, h => by
    simp only [ascB, Bool.and_eq_true, decide_eq_true_eq] at h
    have h2 := asc_last (last := t) (taps := u :: r) (by simp) (by simp only [ascB, Bool.and_eq_true, decide_eq_true_eq]; exact h.2)
    simpa using h2
theorem asc_none {n : Int} (h : 1 ≤ n) : ascB n 0 [] = false := decide_eq_false (by omega)
/-- some 1 among the first k -/
def someB (l : List Int) (k : Nat) : Bool := decide ((1 : Int) ∈ l.take k)
theorem some_next {l : List Int} {k : Nat} (h : k < l.length) : someB l (k + 1) = (someB l k || decide (l.getD k 0 = 1)) := by
  unfold someB
  rw [take_next h, Bool.eq_iff_iff]
  simp only [decide_eq_true_eq, List.mem_append, List.mem_singleton, Bool.or_eq_true]
  constructor
  · rintro (h | h)
    · exact Or.inl h
    · exact Or.inr h.symm
  · rintro (h | h)
    · exact Or.inl h
    · exact Or.inr h.symm
set_option maxHeartbeats 4000000 in
theorem spec_taps (A0 : Option Addr) (n0 c0 : Nat) (taps : List Int) (A1 : Option Addr) (n1 c1 : Nat) (seed : List Int) (w : World) (hn0 : taps.length = n0) (hn0b : n0 ≤ 1048576) (hz0 : Fits taps) (ha0 : IntsAt w w.heap.size .i64 A0 taps)
    (hn1 : seed.length = n1) (hn1b : n1 ≤ 1048576) (hz1 : Fits seed) (ha1 : IntsAt w w.heap.size .i64 A1 seed) :
    Calls Try.prog 58 #[.slice A0 n0 c0, .slice A1 n1 c1] w fun e w' => e = .returned (.bool (shB taps seed)) ∧ w = w' := by
  have HN0 := Lib.hid hn0
  have HN1 := Lib.hid hn1
  have HA0 := Lib.hid ha0
  have HA1 := Lib.hid ha1
  clear ha0 ha1
  by_cases h1 : 1 ≤ (n1 : Int) ∧ (n1 : Int) ≤ 6
  · have H1 := Lib.hid (decide_eq_true h1)
    by_cases he : n0 = 0
    · subst he
      have hno : shB taps seed = false := sh_no4 (by rw [List.eq_nil_of_length_eq_zero hn0]; exact asc_none (by omega))
      rw [hno]
      clear hno hn0 hn1 h1
      go_enter Try.func58, Try.ntmps58
      go_wp2_with fail
      refine (in_any _ 1 6 _).mono ?_
      rintro e w1 ⟨rfl, rfl⟩
      rw [H1.out]
      go_wp2
      go_ret
      exact ⟨rfl, rfl⟩
    · obtain ⟨b, o, hA, hbb, hc⟩ := HA0.out (n0 - 1) (by omega)
      have hnz : ((n0 : Int) == 0) = false := by simp; omega
      have hnz2 : (n0 == 0) = false := by simp; omega
      by_cases hl : taps.getD (n0 - 1) 0 = (n1 : Int)
      · have hle : (taps.getD (n0 - 1) 0 != (n1 : Int)) = false := by rw [hl]; simp
        have HASC := Lib.hid (asc_up (taps := taps) (n := (n1 : Int)) (by rw [hn0]; exact hl) (by rw [hn0]; exact he))
        obtain ⟨R, hR⟩ : ∃ R, R = shB taps seed := ⟨_, rfl⟩
        have HB1 := Lib.hid (fun k (hk : k ≤ n0) (h : upB n1 taps k = false) => hR.trans (sh_no4 (by rw [hn1, HASC.out]; exact up_no h _ (by omega))))
        have HB2 := Lib.hid (fun h => hR.trans (sh_no2 (taps := taps) (seed := seed) h))
        have HEND := Lib.hid (show upB n1 taps n0 = true → seed.all isCol = true → R = someB seed n1 from fun q1 q2 => by
          rw [hR]
          unfold shB seedB someB
          rw [decide_eq_true (show 1 ≤ seed.length ∧ seed.length ≤ 6 by omega), q2, hn1, HASC.out, hn0, q1, List.take_of_length_le (by omega)]
          simp)
        rw [← hR]
        have hq : 1 ≤ n1 ∧ n1 ≤ 6 ∧ 1 ≤ n0 := by omega
        have hs1 : n0 - 1 < n0 := by omega
        generalize hlv : taps.getD (n0 - 1) 0 = lv at hc hle
        have hlv2 : lv = (n1 : Int) := by rw [← hlv]; exact hl
        subst hA
        clear hR hl hn0 hn1 h1 he HASC hlv hlv2
        go_enter Try.func58, Try.ntmps58
        go_wp2_with fail
        refine (in_any _ 1 6 _).mono ?_
        rintro e w1 ⟨rfl, rfl⟩
        rw [H1.out]
        go_wp2
        go_loop [5, 6, 32] (fun _ _ i => ∃ k : Nat, k ≤ n0 ∧ i = .int .i64 (k : Int) ∧ Hid (upB n1 taps k = true)) (fun _ _ i => n0 - (intOf i).toNat)
        case atStart => exact ⟨0, Nat.zero_le _, rfl, Lib.hid rfl⟩
        case round =>
          obtain ⟨k, hk, rfl, HU⟩ := hrel
          by_cases hlt : k < n0
          · obtain ⟨b2, o2, hA2, hbb2, hc2⟩ := HA0.out k (by rw [HN0.out]; exact hlt)
            simp only [Option.some.injEq, Addr.mk.injEq, and_true] at hA2
            obtain ⟨rfl, rfl⟩ := hA2
            have HUN := Lib.hid (show upB n1 taps (k + 1) = (decide (1 ≤ taps.getD k 0 ∧ taps.getD k 0 ≤ n1) && (decide (k = 0) || decide (taps.getD (k - 1) 0 < taps.getD k 0))) by simp only [upB]; rw [HU.out, Bool.true_and])
            by_cases h0 : k = 0
            · subst h0
              generalize taps.getD 0 0 = y at hc2 HUN
              rw [Nat.add_zero] at hc2
              go_wp2_with fail
              refine (in_any _ 1 _ _).mono ?_
              rintro e w1 ⟨rfl, rfl⟩
              by_cases hy : 1 ≤ y ∧ y ≤ (n1 : Int)
              · rw [decide_eq_true hy]
                have HU2 := Lib.hid (show upB n1 taps 1 = true by rw [HUN.out, decide_eq_true hy]; rfl)
                clear hy HUN HU
                go_wp2
                go_round
                case rel => exact ⟨1, by omega, by go_num, HU2⟩
                case measure => simp [intOf]; omega
              · rw [decide_eq_false hy]
                have HF := Lib.hid (HB1.out 1 (by omega) (by rw [HUN.out, decide_eq_false hy]; rfl))
                clear hy HUN HU
                go_wp2
                go_ret
                exact ⟨Pk.ret_b HF.out.symm, rfl⟩
            · obtain ⟨b3, o3, hA3, hbb3, hc3⟩ := HA0.out (k - 1) (by rw [HN0.out]; omega)
              simp only [Option.some.injEq, Addr.mk.injEq, and_true] at hA3
              obtain ⟨rfl, rfl⟩ := hA3
              have hkp : decide ((0 : Int) < (k : Int)) = true := decide_eq_true (by omega)
              have hkp2 : decide (0 < k) = true := decide_eq_true (by omega)
              have hk0 : decide (k = 0) = false := decide_eq_false h0
              generalize taps.getD k 0 = y at hc2 HUN
              generalize taps.getD (k - 1) 0 = z at hc3 HUN
              obtain ⟨q, rfl⟩ : ∃ q, k = q + 1 := ⟨k - 1, by omega⟩
              simp only [Nat.add_sub_cancel] at hc3
              go_wp2_with fail
              refine (in_any _ 1 _ _).mono ?_
              rintro e w1 ⟨rfl, rfl⟩
              by_cases hy : 1 ≤ y ∧ y ≤ (n1 : Int)
              · rw [decide_eq_true hy]
                by_cases hzy : z < y
                · have hd : decide (y ≤ z) = false := decide_eq_false (by omega)
                  have HU2 := Lib.hid (show upB n1 taps (q + 1 + 1) = true by rw [HUN.out, decide_eq_true hy, decide_eq_true hzy]; simp)
                  clear hy HUN HU hzy
                  go_wp2
                  go_round
                  case rel => exact ⟨q + 1 + 1, by omega, by go_num, HU2⟩
                  case measure => simp [intOf]; omega
                · have hd : decide (y ≤ z) = true := decide_eq_true (by omega)
                  have HF := Lib.hid (HB1.out (q + 1 + 1) (by omega) (by rw [HUN.out, decide_eq_false hzy, hk0]; simp))
                  clear hy HUN HU hzy
                  go_wp2
                  go_ret
                  exact ⟨Pk.ret_b HF.out.symm, rfl⟩
              · rw [decide_eq_false hy]
                have HF := Lib.hid (HB1.out (q + 1 + 1) (by omega) (by rw [HUN.out, decide_eq_false hy]; rfl))
                clear hy HUN HU
                go_wp2
                go_ret
                exact ⟨Pk.ret_b HF.out.symm, rfl⟩
          · have hkn : k = n0 := by omega
            subst hkn
            have HE2 := Lib.hid (HEND.out HU.out)
            clear HU HB1 HEND hc hle hlt
            go_wp2
            go_loop [7, 9, 58] (fun s _ i => ∃ j : Nat, j ≤ n1 ∧ i = .int .i64 (j : Int) ∧ s = .bool (someB seed j) ∧ Hid (∀ i, i < j → isCol (seed.getD i 0) = true)) (fun _ _ i => n1 - (intOf i).toNat)
            case atStart => exact ⟨0, Nat.zero_le _, rfl, rfl, (fun i hi => absurd hi (Nat.not_lt_zero _))⟩
            case round =>
              obtain ⟨j, hj, rfl, rfl, HJ⟩ := hrel
              by_cases hjl : j < n1
              · obtain ⟨b4, o4, hA4, hbb4, hc4⟩ := HA1.out j (by rw [HN1.out]; exact hjl)
                have HBAD := Lib.hid (fun h => HB2.out (all_hit (zs := seed) (k := j) (by rw [HN1.out]; exact hjl) h))
                have HSN := Lib.hid (some_next (l := seed) (k := j) (by rw [HN1.out]; exact hjl))
                have HOK := Lib.hid (show isCol (seed.getD j 0) = true → ∀ i, i < j + 1 → isCol (seed.getD i 0) = true from fun h i hi => by
                  by_cases e : i = j
                  · rw [e]; exact h
                  · exact HJ.out i (by omega))
                generalize seed.getD j 0 = x at hc4 HBAD HSN HOK
                subst hA4
                by_cases e0 : x = 0
                · subst e0
                  have HJ2 := Lib.hid (HOK.out rfl)
                  have HS2 := Lib.hid (show someB seed (j + 1) = someB seed j by rw [HSN.out]; simp)
                  generalize someB seed j = s at *
                  clear HBAD HSN HOK HJ
                  cases s
                  · go_wp2
                    go_round
                    case rel => exact ⟨j + 1, by omega, by go_num, by rw [HS2.out], HJ2⟩
                    case measure => simp [intOf]; omega
                  · go_wp2
                    go_round
                    case rel => exact ⟨j + 1, by omega, by go_num, by rw [HS2.out], HJ2⟩
                    case measure => simp [intOf]; omega
                · by_cases e1 : x = 1
                  · subst e1
                    have HJ2 := Lib.hid (HOK.out rfl)
                    have HS2 := Lib.hid (show someB seed (j + 1) = true by rw [HSN.out]; simp)
                    generalize someB seed j = s at *
                    clear HBAD HSN HOK HJ e0
                    cases s
                    · go_wp2
                      go_round
                      case rel => exact ⟨j + 1, by omega, by go_num, by rw [HS2.out], HJ2⟩
                      case measure => simp [intOf]; omega
                    · go_wp2
                      go_round
                      case rel => exact ⟨j + 1, by omega, by go_num, by rw [HS2.out], HJ2⟩
                      case measure => simp [intOf]; omega
                  · have k0 : (x != 0) = true := by rw [bne_iff_ne]; exact e0
                    have k1 : (x != 1) = true := by rw [bne_iff_ne]; exact e1
                    have HF := Lib.hid (HBAD.out (by simp [isCol, e0, e1]))
                    clear HBAD HSN HOK HJ e0 e1
                    go_wp2
                    go_ret
                    exact ⟨Pk.ret_b HF.out.symm, rfl⟩
              · have hjn : j = n1 := by omega
                subst hjn
                have HF := Lib.hid (HE2.out (all_done (zs := seed) fun i hi => HJ.out i (by rw [← HN1.out]; exact hi)))
                clear HJ
                go_wp2
                go_ret
                exact ⟨Pk.ret_b HF.out.symm, rfl⟩
      · have hno : shB taps seed = false := sh_no4 (by
          rw [hn1, Bool.eq_false_iff]
          intro h
          have h2 := asc_last (by rw [hn0]; exact he) h
          rw [hn0] at h2
          exact hl h2)
        rw [hno]
        have hle : (taps.getD (n0 - 1) 0 != (n1 : Int)) = true := by rw [bne_iff_ne]; exact hl
        have hs1 : n0 - 1 < n0 := by omega
        have hq : 1 ≤ n0 := by omega
        generalize taps.getD (n0 - 1) 0 = lv at hc hle
        subst hA
        clear hno hl hn0 hn1 h1 he
        go_enter Try.func58, Try.ntmps58
        go_wp2_with fail
        refine (in_any _ 1 6 _).mono ?_
        rintro e w1 ⟨rfl, rfl⟩
        rw [H1.out]
        go_wp2
        go_ret
        exact ⟨rfl, rfl⟩
  · have H1 := Lib.hid (decide_eq_false h1)
    have hno : shB taps seed = false := sh_no1 (by omega)
    rw [hno]
    clear hno hn0 hn1 h1
    go_enter Try.func58, Try.ntmps58
    go_wp2_with fail
    refine (in_any _ 1 6 _).mono ?_
    rintro e w1 ⟨rfl, rfl⟩
    rw [H1.out]
    go_wp2
    go_ret
    exact ⟨rfl, rfl⟩
theorem same_is {a b : List Int} (h : a = b) : sameB a b = true := decide_eq_true h
theorem same_not {a b : List Int} (h : a ≠ b) : sameB a b = false := decide_eq_false h
set_option maxHeartbeats 8000000 in
theorem spec_shift (A0 : Option Addr) (n0 c0 : Nat) (taps : List Int) (A1 : Option Addr) (n1 c1 : Nat) (seed : List Int) (w : World) (hn0 : taps.length = n0) (hc0 : n0 ≤ c0) (hn0b : n0 ≤ 1048576) (hz0 : Fits taps) (ha0 : IntsAt w w.heap.size .i64 A0 taps)
    (hn1 : seed.length = n1) (hc1 : n1 ≤ c1) (hn1b : n1 ≤ 1048576) (hz1 : Fits seed) (ha1 : IntsAt w w.heap.size .i64 A1 seed) :
    Calls Try.prog 34 #[.slice A0 n0 c0, .slice A1 n1 c1] w (IsSB w.heap.size (shS taps seed) (shM taps seed) (shB taps seed) w) := by
  have k1 := heap_alloc_new w (.cells #[.slice none 0 0, .int .i64 0] 25)
  have hb0 := box_below w (.cells #[.slice none 0 0, .int .i64 0] 25)
  have hs1 : w.heap.size < (w.alloc (.cells #[.slice none 0 0, .int .i64 0] 25)).heap.size := by simp
  obtain ⟨W, hW⟩ : ∃ W, W = w.alloc (.cells #[.slice none 0 0, .int .i64 0] 25) := ⟨_, rfl⟩
  rw [← hW] at k1 hb0 hs1
  have HB0 := Lib.hid hb0
  have HC1 := Lib.hid k1
  have HS0 := Lib.hid ((ha0.below hb0).more hb0.size)
  have HS1 := Lib.hid ((ha1.below hb0).more hb0.size)
  have HN0 := Lib.hid hn0
  have HN1 := Lib.hid hn1
  have HTAPS := Lib.hid (spec_taps A0 n0 c0 taps A1 n1 c1 seed W hn0 hn0b hz0 HS0.out hn1 hn1b hz1 HS1.out)
  clear hb0 k1 ha0 ha1
  cases hyes : shB taps seed with
  | false =>
    rw [(sh_no hyes).1, (sh_no hyes).2]
    rw [hyes] at HTAPS
    clear hyes hn0 hn1
    go_enter Try.func34, Try.ntmps34
    go_wp2_with fail
    rw [← hW]
    clear hW
    refine HTAPS.out.mono ?_
    rintro e w1 ⟨rfl, rfl⟩
    obtain ⟨k4, k5⟩ := cell2 HC1.out
    have f4 := frz HC1.out 0
    have f5 := frz HC1.out 1
    obtain ⟨HP1, HP2, _⟩ := put_box (x := .slice none 0 0) (y := .int .i64 0) HC1.out HB0.out (Nat.le_refl _)
    have HP1 := Lib.hid HP1
    have HP2 := Lib.hid HP2
    go_wp2
    (try simp only [Exit.inBlock, Exit.then])
    refine bodyPost_ret (results_cs rfl _ rfl rfl HP1.out) rfl ?_
    exact ⟨none, 0, rfl, World.ownsRow_nil _ _ _ _, HP2.out⟩
  | true =>
    rw [(sh_yes hyes).1, (sh_yes hyes).2]
    rw [hyes] at HTAPS
    obtain ⟨hG, hp1, hp2, hpT, hpj⟩ := reg_all hyes
    have hh := hyes
    unfold shB seedB at hh
    simp only [Bool.and_eq_true, decide_eq_true_eq] at hh
    obtain ⟨⟨⟨⟨h1, h6⟩, hbits⟩, _⟩, hasc⟩ := hh
    have hal := asc_len hasc
    rw [hn0] at hal
    have hal2 : n0 ≤ 6 := by omega
    have HTR := Lib.hid (fun k (hk : k < n0) => (show 1 ≤ taps.getD k 0 ∧ taps.getD k 0 ≤ n1 from by
      have hm2 : taps.getD k 0 ∈ taps := by rw [List.getD_eq_getElem?_getD, List.getElem?_eq_getElem (by omega)]; exact List.getElem_mem _
      have := (asc_le hasc).2 _ hm2
      omega))
    obtain ⟨T, hT⟩ : ∃ T, T = perT taps seed := ⟨_, rfl⟩
    rw [← hT] at hG hp1 hp2 hpT hpj ⊢
    have HCOLT := Lib.hid (fun t (ht : t ≤ T) => col_take (taps := taps) (seed := seed) (n := n1) hn1 (T := T) (t := t) ht)
    have HNXT := Lib.hid (fun t (ht : t < T) => col_next (taps := taps) (seed := seed) (n := n1) (by omega) hn1 (T := T) (t := t) ht)
    have HDR := Lib.hid (fun t => col_drop (taps := taps) (seed := seed) (n := n1) (by omega) hn1 t)
    have HCL := Lib.hid (fun t => col_len (taps := taps) (seed := seed) (n := n1) hn1 t)
    have HVB := Lib.hid (fun t => it_bits (taps := taps) hbits t)
    have HVL := Lib.hid (fun t => it_len (taps := taps) (n := n1) (by omega) hn1 t)
    have HNO := Lib.hid hpj
    have HYE := Lib.hid hpT
    have HG := Lib.hid hG
    have HFN := Lib.hid (fun V => (show fN taps V = sumF taps V n0 % 2 by unfold fN sumF; rw [List.take_of_length_le (by omega)]))
    obtain ⟨C, hC⟩ : ∃ C, C = colS taps seed T := ⟨_, rfl⟩
    rw [← hC] at HCOLT HNXT HG ⊢
    have HL := Lib.hid (show (C.take T).length = T by rw [List.length_take, HG.out.len]; omega)
    have hq : 1 ≤ n1 ∧ n1 ≤ 6 ∧ 1 ≤ T ∧ T ≤ 64 := by omega
    have HMI := Lib.hid (show (seed.length : Int) = (n1 : Int) by rw [hn1])
    rw [HMI.out]
    obtain ⟨i0, hi, hz0', hz1', hz2'⟩ := info_parts infoInt
    obtain ⟨b1, o1, rfl⟩ := ints_addr HS1.out (by omega)
    have HC0 := Lib.hid (show C.take (n1 + 0) = seed from HCOLT.out 0 (by omega))
    clear hyes hG hp1 hp2 hpT hpj h1 h6 hbits hasc hal hT hC hn0 hn1
    go_enter Try.func34, Try.ntmps34
    go_wp2_with fail
    rw [← hW]
    clear hW
    refine HTAPS.out.mono ?_
    rintro e w1 ⟨rfl, rfl⟩
    go_wp2_with (at_builtin; refine app_any rfl (.tmp 18) (.tmp 19) 23 rfl W.heap.size 3 i0 8 Try.underlying23 hi hz0' hz1' hz2' (by decide) _ 0 0 [] rfl (lit00 W) (some ⟨b1, o1, none⟩) n1 _ seed rfl HN1.out (fun h => by cases h) _ ((HS1.out.below (lit00_below W)).more (lit00_size W)) (by decide) (by omega) (lit00_size W) spot_some ?_; intro A2 c2 w2 hown2 hgr2; rw [Nat.zero_add, List.nil_append] at hown2; rw [Nat.zero_add])
    have HB2 := Lib.hid ((lit00_below W).grown hgr2 (lit00_size W) (fun k hk => by simp only [Option.map_some, Option.some.injEq] at hk; omega))
    obtain ⟨g2, rfl⟩ := own_shape hown2 (by omega)
    have HO2 := Lib.hid (show w2.ownsRow W.heap.size 3 1 (.slice (some ⟨g2, 0, none⟩) (n1 + 0) c2) (n1 + 0) (vals (C.take (n1 + 0))) by rw [HC0.out]; exact hown2)
    clear hown2 hgr2
    go_loopw [7, 8, 10, 23] (fun v _ _ _ wr => ∃ t : Nat, t < T ∧ (∃ g c4, v = .slice (some ⟨g, 0, none⟩) (n1 + t) c4 ∧ Hid (wr.ownsRow W.heap.size 3 1 (.slice (some ⟨g, 0, none⟩) (n1 + t) c4) (n1 + t) (vals (C.take (n1 + t))))) ∧ Hid (Below W.heap.size W wr)) (fun v _ _ _ _ => T + n1 - lenS v)
    case atStart => exact ⟨0, by omega, ⟨g2, c2, rfl, HO2⟩, HB2⟩
    case round =>
      obtain ⟨t, ht, ⟨g, c4, rfl, HCOL⟩, HBT⟩ := hrel
      clear HO2 HB2
      have hcap : n1 + t ≤ c4 := own_cap HCOL.out
      obtain ⟨V, hV⟩ : ∃ V, V = itW taps seed t := ⟨_, rfl⟩
      have HVLt := Lib.hid (show V.length = n1 by rw [hV]; exact HVL.out t)
      have HVBt := Lib.hid (show V.all isCol = true by rw [hV]; exact HVB.out t)
      have HX := Lib.hid (show C.getD (n1 + t) 0 = sumF taps V n0 % 2 by rw [HNXT.out t ht, ← hV, HFN.out])
      have HTN := Lib.hid (take_next (C := C) (k := n1 + t) (by rw [HG.out.len, HN1.out]; omega))
      have HCO := Lib.hid (fun i (hi : i < n1) => (show wr.cell? ⟨g, t + i, none⟩ = some (.int .i64 (V.getD i 0)) from by
        rw [HCOL.out.cellAt (t + i) (by omega), vals_get (by rw [List.length_take, HG.out.len, HN1.out]; omega), HCOLT.out t (by omega), hV, ← HDR.out t]
        simp only [List.getD_eq_getElem?_getD, List.getElem?_drop]))
      have HSM := Lib.hid (fun k (hk : k ≤ n0) => sum_small (taps := taps) HVBt.out k (by rw [HN0.out]; exact hk))
      have HSN := Lib.hid (fun k (hk : k < n0) => sum_next (taps := taps) (w := V) (k := k) (by rw [HN0.out]; exact hk))
      have HT0 := Lib.hid ((HS0.out.below HBT.out).more HBT.out.size)
      clear hV
      go_wp2
      go_loop [8, 10, 23] (fun s _ i => ∃ (k : Nat) (y : Int), k ≤ n0 ∧ i = .int .i64 k ∧ s = .int .i64 y ∧ Hid (y = sumF taps V k % 2)) (fun _ _ i => n0 - (intOf i).toNat)
      case atStart => exact ⟨0, 0, Nat.zero_le _, rfl, rfl, (rfl : (0 : Int) = sumF taps V 0 % 2)⟩
      case round =>
        obtain ⟨k, y, hk, rfl, rfl, HY⟩ := hrel
        by_cases hlt : k < n0
        · obtain ⟨b3, o3, hA, hbb, hc3⟩ := HT0.out k (by rw [HN0.out]; exact hlt)
          obtain ⟨hx1, hx2⟩ := HTR.out k hlt
          have HSX := HSN.out k hlt
          obtain ⟨x, hx⟩ : ∃ x : Nat, taps.getD k 0 = (x : Int) := ⟨(taps.getD k 0).toNat, by omega⟩
          rw [hx] at hc3 hx1 hx2 HSX
          have hxm : 1 ≤ x ∧ x ≤ n1 := by omega
          have hcv := HCO.out (n1 - x) (by omega)
          rw [show t + (n1 - x) = n1 + t - x by omega] at hcv
          have hvb := getD_bit HVBt.out (n1 - x)
          rw [HVLt.out, show ((x : Int)).toNat = x from rfl] at HSX
          generalize V.getD (n1 - x) 0 = v at hcv HSX hvb
          have hy : 0 ≤ y ∧ y ≤ 1 := by have := HY.out; omega
          have htm : Int.tmod (y + v) 2 = (y + v) % 2 := Int.tmod_eq_emod_of_nonneg (by omega)
          have HSX2 := Lib.hid (show (y + v) % 2 = sumF taps V (k + 1) % 2 by rw [HSX, HY.out]; omega)
          subst hA
          clear HSX hx
          go_wp2
          go_round
          case rel => exact ⟨k + 1, (y + v) % 2, by omega, by go_num, rfl, HSX2⟩
          case measure => simp [intOf]; omega
        · have hkn : k = n0 := by omega
          subst hkn
          have HXX := Lib.hid (show C.getD (n1 + t) 0 = y by rw [HX.out, HY.out])
          have hyb : -9223372036854775808 ≤ y ∧ y ≤ 9223372036854775807 := by have := HY.out; omega
          have hown4 := HCOL.out
          have hsz4 := HBT.out.size
          have e1 : n1 + t + 1 - n1 = t + 1 := by omega
          have e2 : n1 + t + 1 - (t + 1) = n1 := by omega
          have hlo4 := own_lo HCOL.out
          have HTN2 := Lib.hid (show C.take (n1 + t + 1) = C.take (n1 + t) ++ [y] by rw [HTN.out, HXX.out])
          obtain ⟨V6, hV6⟩ : ∃ V6, V6 = itW taps seed (t + 1) := ⟨_, rfl⟩
          have HV6 := Lib.hid hV6
          have HWS := Lib.hid (show wsF C n1 (t + 1) = V6 by rw [← take_drop_ws, HCOLT.out (t + 1) ht, HDR.out, hV6])
          have HWSL := Lib.hid (show V6.length = n1 by rw [hV6]; exact HVL.out (t + 1))
          have HAG := Lib.hid (show t + 1 = T → V6 = seed from fun h => by rw [hV6, h]; exact HYE.out)
          have HNE := Lib.hid (show t + 1 ≠ T → V6 ≠ seed from fun h => by rw [hV6]; exact HNO.out (t + 1) (by omega) (by omega))
          clear hV6 HV6
          clear HCO HSM HSN HX HXX HTN
          go_wp2_with (at_builtin; refine app_more rfl (.tmp 38) (.tmp 40) 23 rfl W.heap.size 3 i0 (.int .i64 0) 8 Try.underlying23 hi hz0' hz1' hz2' (by decide) rfl _ _ _ _ rfl hown4 (.int .i64 y) rfl _ rfl rfl (by omega) hsz4 ?_; intro g6 c6 w6 hown6 hgr6; have hcap6 : n1 + t + 1 ≤ c6 := own_cap hown6; have hct6 : t + 1 ≤ c6 := (by omega))
          have HO6 := Lib.hid (show w6.ownsRow W.heap.size 3 1 (.slice (some ⟨g6, 0, none⟩) (n1 + t + 1) c6) (n1 + t + 1) (vals (C.take (n1 + t + 1))) by rw [HTN2.out]; unfold vals; rw [List.map_append]; exact hown6)
          have HB6 := Lib.hid (HBT.out.grown hgr6 hsz4 (fun k hk => (hlo4 k hk).1))
          have hcap6 : n1 + t + 1 ≤ c6 := own_cap HO6.out
          have HAT6 := Lib.hid (show IntsAt w6 w6.heap.size .i64 (some ⟨g6, t + 1, none⟩) V6 by
            have h := ints_drop (k := t + 1) (ints_of HO6.out)
            rw [show n1 + t + 1 = n1 + (t + 1) by omega, take_drop_ws, HWS.out, Nat.zero_add] at h
            exact h)
          clear hown6 hgr6 hown4 hlo4
          (try simp only [e1, e2])
          have CS := spec_same (some ⟨g6, t + 1, none⟩) (some ⟨b1, o1, none⟩) n1 n1 (c6 - (t + 1)) c1 V6 seed w6 HWSL.out HN1.out (by omega) (by omega) HAT6.out ((HS1.out.below HB6.out).more HB6.out.size)
          have HCS := Lib.hid CS
          clear CS HAT6
          refine HCS.out.mono ?_
          rintro e w7 ⟨rfl, rfl⟩
          by_cases htT : t + 1 = T
          · rw [same_is (HAG.out htT)]
            have hns : T ≤ 4294967296 := by omega
            have HLT := Lib.hid (show IntsAt (w6.alloc (.cells #[] 3)) (w6.alloc (.cells #[] 3)).heap.size .i64 (some ⟨g6, 0, none⟩) (C.take T) by
              have h := Prm.ints_take T (ints_on (ints_of HO6.out) (box_below w6 (.cells #[] 3)))
              rw [List.take_take, Nat.min_eq_left (by omega)] at h
              exact h)
            go_wp2_with (at_builtin; (try simp only [e1, htT]); refine app_any rfl (.tmp 50) (.tmp 56) 23 rfl w6.heap.size 3 i0 8 Try.underlying23 hi hz0' hz1' hz2' (by decide) _ 0 0 [] rfl (lit00 w6) (some ⟨g6, 0, none⟩) T _ (C.take T) rfl HL.out (fun h => by cases h) _ HLT.out (by decide) hns (lit00_size w6) spot_some ?_; intro A12 c12 w12 hown12 hgr12; rw [Nat.zero_add, List.nil_append] at hown12; rw [Nat.zero_add]; have hb12 := (lit00_below w6).grown hgr12 (lit00_size w6) (fun k hk => by simp only [Option.map_some, Option.some.injEq] at hk; omega); have HBW := Lib.hid (HB6.out.trans (hb12.mono HB6.out.size)); have HX := Lib.hid ((HBW.out.block w.heap.size hs1).trans HC1.out); have HBw := Lib.hid (HB0.out.trans (HBW.out.mono HB0.out.size)); obtain ⟨k4, k5⟩ := cell2 HX.out; have f4 := frz HX.out 0; have f5 := frz HX.out 1; obtain ⟨HP1, HP2, HP3⟩ := put_box (x := .slice A12 T c12) (y := .int .i64 (n1 : Int)) HX.out HBw.out (Nat.le_refl _); have HP1 := Lib.hid HP1; have HP2 := Lib.hid HP2; have hsw6 := HB6.out.size; have HO := Lib.hid (own_mono (own_gr hown12 HP3 (fun j hj e => by have h1 := (own_lo hown12 j hj).1; injection e with e; omega)) (Nat.le_trans HB0.out.size hsw6)); clear hown12 hgr12 hb12 HP3)
            (try simp only [Exit.inBlock, Exit.then])
            refine bodyPost_ret (results_cs rfl _ rfl rfl HP1.out) rfl ?_
            exact ⟨A12, c12, by rw [HL.out]; rfl, by rw [HL.out]; exact HO.out, HP2.out⟩
          · rw [same_not (HNE.out htT)]
            have htT1 : t + 1 < T := by omega
            clear htT
            go_wp2
            (try go_roundw)
            all_goals
              first
                | exact ⟨t + 1, htT1, ⟨g6, c6, rfl, HO6⟩, HB6⟩
                | (refine ⟨⟨t + 1, htT1, ⟨g6, c6, rfl, HO6⟩, HB6⟩, ?_⟩; simp [lenS]; omega)
                | (simp [lenS]; omega)
end Go.Proofs.Ytkonakfbidnfhaa.Skt
