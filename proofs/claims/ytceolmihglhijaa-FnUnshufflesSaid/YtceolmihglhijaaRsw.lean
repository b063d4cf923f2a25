/- What is read off the rising sequences: whether a permutation is a riffle, its ways, its split, the least riffles; the number of riffles. -/
import Derived.Test.YtceolmihglhijaaRss
import Derived.Test.YtceolmihglhijaaShelf
set_option linter.unusedVariables false
set_option maxRecDepth 20000
namespace Go.Proofs.Ytceolmihglhijaa.Rsw
open Go.RowKit Fr _root_.Go.Proofs.Ytceolmihglhijaa.Own Pk Ins Pl Prm Pfn Rws Orb Cyc Rsm Rsc Rss Rsh

def isrF (zs : List Int) : Bool := permB zs && decide (cntS zs ≤ 2)
def splitF (zs : List Int) : Int := if cntS zs = 2 then (((riseI zs).getD 0 []).length : Nat) else -1
def waysF (zs : List Int) : Int := if isrF zs = true then (if cntS zs = 2 then 1 else ((zs.length + 1 : Nat) : Int)) else 0
def leastF (zs : List Int) : Int := if cntS zs = 0 then -1 else (leastN (cntS zs) : Nat)
def cntF (n : Int) : Int := if 1 ≤ n ∧ n ≤ 12 then ((2 ^ n.toNat : Nat) : Int) - n else -1
theorem isrF_no {zs : List Int} (h : permB zs = false) : isrF zs = false := by unfold isrF; rw [h]; rfl
theorem isrF_yes {zs : List Int} (h : permB zs = true) : isrF zs = decide (cntS zs ≤ 2) := by unfold isrF; rw [h]; rfl
theorem split_neg (zs : List Int) : decide (splitF zs < 0) = !decide (cntS zs = 2) := by
  unfold splitF
  split
  next h => rw [decide_eq_true h, decide_eq_false (by omega)]; rfl
  next h => rw [decide_eq_false h]; rfl
theorem cnt_cases (zs : List Int) : cntS zs = 0 ∨ cntS zs = 1 ∨ cntS zs = 2 ∨ cntS zs = 3 ∨ cntS zs = 4 ∨ cntS zs = 5 ∨ cntS zs = 6 ∨ cntS zs = 7 ∨ cntS zs = 8 ∨ cntS zs = 9 ∨ cntS zs = 10 ∨ cntS zs = 11 ∨ cntS zs = 12 := by
  have := cnt_le zs
  omega
theorem first_len {rs : List RD} {zs : List Int} (h : rs.map RD.zs = riseI zs) : (((riseI zs).getD 0 []).length : Nat) = (rs.getD 0 rd0).zs.length := by
  rw [← h]
  cases rs <;> rfl
theorem seq_short {b : Nat → Bool} (h0 : b 0 = true) {n : Nat} {l : List Nat} (h : l ∈ rsF b n) : l.length ≤ n := by
  obtain ⟨j, hj⟩ := List.mem_iff_getElem?.1 h
  cases n with
  | zero => cases h
  | succ n =>
    have hs := rsF_spec h0 n
    have e : (rsF b (n + 1)).getD j [] = l := by rw [List.getD_eq_getElem?_getD, hj]; rfl
    have h1 := hs.2.2.2.1 j
    have h2 := hs.2.2.2.2 j
    rw [e] at h1 h2
    have := h1.length_le_of_subset (l₂ := List.range (n + 1)) (fun v hv => List.mem_range.2 (by have := (h2 v).1 hv; omega))
    rwa [List.length_range] at this
theorem rise_small (zs : List Int) : SmallSS (riseI zs) := by
  refine ⟨?_, fun l hl => ?_⟩
  · rw [rise_len]; have := cnt_le zs; omega
  · cases hp : permB zs with
    | false => rw [riseI_no hp] at hl; cases hl
    | true =>
      have h12 := (permB_yes hp).1
      rw [riseI_yes hp] at hl
      obtain ⟨x, hx, rfl⟩ := List.mem_map.1 hl
      have := seq_short (nb_zero zs) hx
      rw [ints_len]
      omega
section
variable (A : Option Addr) (n c : Nat) (zs : List Int) (w : World) (hn : zs.length = n) (hn2 : n ≤ 9223372036854775807) (hz : Fits zs) (hss : IntsAt w w.heap.size .i64 A zs)
include hn hn2 hz hss
set_option maxHeartbeats 1000000 in
theorem impl_isr : Calls Try.prog 19 #[.slice A n c] w fun e w' => e = .returned (.bool (isrF zs)) ∧ Below w.heap.size w w' := by
  cases hp : permB zs with
  | false =>
    have HP := Lib.hid hp
    have HF := Lib.hid (isrF_no hp)
    clear hp
    go_enter Try.func19, Try.ntmps19
    go_wp2_with fail
    refine (impl_perm A n c zs _ hn hn2 hz hss).mono ?_
    rintro e w1 ⟨rfl, hb1⟩
    rw [HP.out]
    go_wp2
    go_ret
    rw [HF.out]
    exact ⟨rfl, hb1⟩
  | true =>
    have HP := Lib.hid hp
    have HF := Lib.hid (isrF_yes hp)
    clear hp
    go_enter Try.func19, Try.ntmps19
    go_wp2_with fail
    refine (impl_perm A n c zs _ hn hn2 hz hss).mono ?_
    rintro e w1 ⟨rfl, hb1⟩
    rw [HP.out]
    have hs1 := (hss.below hb1).more hb1.size
    have hsz1 := hb1.size
    have HB1 := Lib.hid hb1
    clear hb1
    go_wp2_with fail
    refine (impl_rise A n c zs _ hn hn2 hz hs1).mono ?_
    rintro e w2 ⟨A2, c2, rs, rfl, hrz, hrow, hb2⟩
    have HB2 := Lib.hid (HB1.out.trans (hb2.mono hsz1))
    rw [rise_len]
    clear hrz hrow hb2
    have HC : Hid (decide (((cntS zs : Nat) : Int) ≤ 2) = decide (cntS zs ≤ 2)) := decide_eq_decide.2 (by omega)
    go_wp2
    go_ret
    rw [HF.out]
    exact ⟨by show Ending.returned (.bool (decide (((cntS zs : Nat) : Int) ≤ 2))) = _; rw [HC.out], HB2.out⟩
set_option maxHeartbeats 1000000 in
theorem impl_split : Calls Try.prog 34 #[.slice A n c] w fun e w' => e = .returned (.int .i64 (splitF zs)) ∧ Below w.heap.size w w' := by
  go_enter Try.func34, Try.ntmps34
  go_wp2_with fail
  refine (impl_rise A n c zs _ hn hn2 hz hss).mono ?_
  rintro e w2 ⟨A2, c2, rs, rfl, hrz, hrow, hb2⟩
  rw [rise_len] at hrow
  rw [rise_len]
  by_cases h2 : cntS zs = 2
  · have hsp : splitF zs = ((rs.getD 0 rd0).zs.length : Nat) := by unfold splitF; rw [if_pos h2, first_len hrz]
    have HSP := Lib.hid hsp
    rw [h2] at hrow
    rw [h2]
    obtain ⟨g, rfl, hc⟩ := hrow.cell 0 (by omega)
    simp only [RD.v] at hc
    clear hsp hrow hrz
    go_wp2
    go_ret
    rw [HSP.out]
    exact ⟨rfl, hb2⟩
  · have hsp : splitF zs = -1 := by unfold splitF; rw [if_neg h2]
    have HSP := Lib.hid hsp
    have hd : decide (((cntS zs : Nat) : Int) = 2) = false := decide_eq_false (by omega)
    have hd2 : ¬ (((cntS zs : Nat) : Int) = 2) := by omega
    generalize cntS zs = m at *
    clear hsp hrow hrz
    go_wp2
    go_ret
    rw [HSP.out]
    exact ⟨rfl, hb2⟩
set_option maxHeartbeats 1000000 in
theorem impl_ways (hn3 : n ≤ 4194304) : Calls Try.prog 29 #[.slice A n c] w fun e w' => e = .returned (.int .i64 (waysF zs)) ∧ Below w.heap.size w w' := by
  go_enter Try.func29, Try.ntmps29
  go_wp2_with fail
  refine (impl_isr A n c zs _ hn hn2 hz hss).mono ?_
  rintro e w1 ⟨rfl, hb1⟩
  have hs1 := (hss.below hb1).more hb1.size
  have hsz1 := hb1.size
  have HB1 := Lib.hid hb1
  clear hb1
  cases hi : isrF zs with
  | false =>
    have HW : Hid (waysF zs = 0) := by show _ = _; unfold waysF; rw [hi]; rfl
    go_wp2
    go_ret
    rw [HW.out]
    exact ⟨rfl, HB1.out⟩
  | true =>
    go_wp2_with fail
    refine (impl_split A n c zs _ hn hn2 hz hs1).mono ?_
    rintro e w2 ⟨rfl, hb2⟩
    have HB2 := Lib.hid (HB1.out.trans (hb2.mono hsz1))
    have hsn := split_neg zs
    clear hb2
    by_cases h2 : cntS zs = 2
    · have HW : Hid (waysF zs = 1) := by show _ = _; unfold waysF; rw [hi, if_pos rfl, if_pos h2]
      rw [decide_eq_true h2] at hsn
      have hd : decide (splitF zs < 0) = false := hsn
      clear hsn
      generalize splitF zs = sp at *
      go_wp2
      go_ret
      rw [HW.out]
      exact ⟨rfl, HB2.out⟩
    · have HW : Hid (waysF zs = ((n + 1 : Nat) : Int)) := by show _ = _; unfold waysF; rw [hi, if_pos rfl, if_neg h2, hn]
      rw [decide_eq_false h2] at hsn
      have hd : decide (splitF zs < 0) = true := hsn
      clear hsn
      generalize splitF zs = sp at *
      go_wp2
      go_ret
      rw [HW.out]
      exact ⟨by go_num, HB2.out⟩
set_option maxHeartbeats 1000000 in
theorem impl_least : Calls Try.prog 14 #[.slice A n c] w fun e w' => e = .returned (.int .i64 (leastF zs)) ∧ Below w.heap.size w w' := by
  go_enter Try.func14, Try.ntmps14
  go_wp2_with fail
  refine (impl_rise A n c zs _ hn hn2 hz hss).mono ?_
  rintro e w2 ⟨A2, c2, rs, rfl, hrz, hrow, hb2⟩
  rw [rise_len]
  clear hrz hrow
  have hc := cnt_cases zs
  have HL : Hid (leastF zs = if cntS zs = 0 then -1 else ((leastN (cntS zs) : Nat) : Int)) := rfl
  generalize cntS zs = m at *
  rcases hc with rfl | rfl | rfl | rfl | rfl | rfl | rfl | rfl | rfl | rfl | rfl | rfl | rfl
  · go_wp2
    go_ret
    rw [HL.out]
    exact ⟨rfl, hb2⟩
  all_goals
    go_wp2_with fail
    refine (Try.bits_Len _ w2 (by decide) (by decide)).mono ?_
    rintro e w3 ⟨rfl, rfl⟩
    go_wp2
    go_ret
    rw [HL.out]
    exact ⟨rfl, hb2⟩
end
section
variable (A : Option Addr) (n c : Nat) (zs : List Int) (w : World) (hn : zs.length = n) (hnc : n ≤ c) (hn2 : n ≤ 9223372036854775807) (hz : Fits zs) (hss : IntsAt w w.heap.size .i64 A zs)
include hn hnc hn2 hz hss
set_option maxHeartbeats 1000000 in
theorem spec_isr : Calls Try.prog 27 #[.slice A n c] w fun e w' => e = .returned (.bool (isrF zs)) ∧ Below w.heap.size w w' := by
  cases hp : permB zs with
  | false =>
    have HP := Lib.hid hp
    have HF := Lib.hid (isrF_no hp)
    clear hp
    go_enter Try.func27, Try.ntmps27
    go_wp2_with fail
    refine (spec_perm A n c zs _ hn hnc hn2 hz hss).mono ?_
    rintro e w1 ⟨rfl, rfl⟩
    rw [HP.out]
    go_wp2
    go_ret
    rw [HF.out]
    exact ⟨rfl, Below.refl _ _⟩
  | true =>
    have HP := Lib.hid hp
    have HF := Lib.hid (isrF_yes hp)
    clear hp
    go_enter Try.func27, Try.ntmps27
    go_wp2_with fail
    refine (spec_perm A n c zs _ hn hnc hn2 hz hss).mono ?_
    rintro e w1 ⟨rfl, rfl⟩
    rw [HP.out]
    go_wp2_with fail
    refine (spec_rise A n c zs _ hn hnc hn2 hz hss).mono ?_
    rintro e w2 ⟨A2, c2, rs, rfl, hrz, hrow, hb2⟩
    rw [rise_len]
    clear hrz hrow
    have HC : Hid (decide (((cntS zs : Nat) : Int) ≤ 2) = decide (cntS zs ≤ 2)) := decide_eq_decide.2 (by omega)
    go_wp2
    go_ret
    rw [HF.out]
    exact ⟨by show Ending.returned (.bool (decide (((cntS zs : Nat) : Int) ≤ 2))) = _; rw [HC.out], hb2⟩
set_option maxHeartbeats 1000000 in
theorem spec_split : Calls Try.prog 33 #[.slice A n c] w fun e w' => e = .returned (.int .i64 (splitF zs)) ∧ Below w.heap.size w w' := by
  go_enter Try.func33, Try.ntmps33
  go_wp2_with fail
  refine (spec_rise A n c zs _ hn hnc hn2 hz hss).mono ?_
  rintro e w2 ⟨A2, c2, rs, rfl, hrz, hrow, hb2⟩
  rw [rise_len] at hrow
  rw [rise_len]
  by_cases h2 : cntS zs = 2
  · have hsp : splitF zs = ((rs.getD 0 rd0).zs.length : Nat) := by unfold splitF; rw [if_pos h2, first_len hrz]
    have HSP := Lib.hid hsp
    rw [h2] at hrow
    rw [h2]
    obtain ⟨g, rfl, hc⟩ := hrow.cell 0 (by omega)
    simp only [RD.v] at hc
    clear hsp hrow hrz
    go_wp2
    go_ret
    rw [HSP.out]
    exact ⟨rfl, hb2⟩
  · have hsp : splitF zs = -1 := by unfold splitF; rw [if_neg h2]
    have HSP := Lib.hid hsp
    have hd : decide (((cntS zs : Nat) : Int) = 2) = false := decide_eq_false (by omega)
    have hd2 : ¬ (((cntS zs : Nat) : Int) = 2) := by omega
    generalize cntS zs = m at *
    clear hsp hrow hrz
    go_wp2
    go_ret
    rw [HSP.out]
    exact ⟨rfl, hb2⟩
set_option maxHeartbeats 1000000 in
theorem spec_ways (hn3 : n ≤ 4194304) : Calls Try.prog 28 #[.slice A n c] w fun e w' => e = .returned (.int .i64 (waysF zs)) ∧ Below w.heap.size w w' := by
  go_enter Try.func28, Try.ntmps28
  go_wp2_with fail
  refine (spec_isr A n c zs _ hn hnc hn2 hz hss).mono ?_
  rintro e w1 ⟨rfl, hb1⟩
  have hs1 := (hss.below hb1).more hb1.size
  have hsz1 := hb1.size
  have HB1 := Lib.hid hb1
  clear hb1
  cases hi : isrF zs with
  | false =>
    have HW : Hid (waysF zs = 0) := by show _ = _; unfold waysF; rw [hi]; rfl
    go_wp2
    go_ret
    rw [HW.out]
    exact ⟨rfl, HB1.out⟩
  | true =>
    go_wp2_with fail
    refine (spec_rise A n c zs _ hn hnc hn2 hz hs1).mono ?_
    rintro e w2 ⟨A2, c2, rs, rfl, hrz, hrow, hb2⟩
    have HB2 := Lib.hid (HB1.out.trans (hb2.mono hsz1))
    rw [rise_len]
    clear hrz hrow hb2
    by_cases h2 : cntS zs = 2
    · have HW : Hid (waysF zs = 1) := by show _ = _; unfold waysF; rw [hi, if_pos rfl, if_pos h2]
      rw [h2]
      go_wp2
      go_ret
      rw [HW.out]
      exact ⟨rfl, HB2.out⟩
    · have HW : Hid (waysF zs = ((n + 1 : Nat) : Int)) := by show _ = _; unfold waysF; rw [hi, if_pos rfl, if_neg h2, hn]
      have hd2 : ¬ (((cntS zs : Nat) : Int) = 2) := by omega
      have hd : decide (((cntS zs : Nat) : Int) = 2) = false := decide_eq_false hd2
      generalize cntS zs = m at *
      go_wp2
      go_ret
      rw [HW.out]
      exact ⟨by go_num, HB2.out⟩
set_option maxHeartbeats 1000000 in
omit hn hnc hn2 hz hss in
theorem spec_l (m : Nat) (h1 : 1 ≤ m) (h12 : m ≤ 12) : Calls Try.prog 53 #[.int .i64 (m : Int)] w fun e w' => e = .returned (.int .i64 (leastN m : Nat)) ∧ w = w' := by
  have HH : Hid (1 ≤ m ∧ m ≤ 12) := ⟨h1, h12⟩
  go_enter Try.func53, Try.ntmps53
  go_wp2
  go_loop [3, 4] (fun x y => ∃ k : Nat, k ≤ leastN m ∧ x = .int .i64 (k : Int) ∧ y = .int .i64 ((2 ^ k : Nat) : Int)) (fun x _ => 5 - (intOf x).toNat)
  case atStart => exact ⟨0, Nat.zero_le _, rfl, rfl⟩
  case round =>
    obtain ⟨k, hk, rfl, rfl⟩ := hrel
    have hl4 := least_le m
    have hkc : k = 0 ∨ k = 1 ∨ k = 2 ∨ k = 3 ∨ k = 4 := by omega
    have hiff : (2 ^ k : Nat) < m ↔ k < leastN m := by
      unfold leastN at hk ⊢
      rcases hkc with rfl | rfl | rfl | rfl | rfl <;> repeat' split at hk <;> repeat' split <;> omega
    obtain ⟨p, hp⟩ : ∃ p : Nat, p = 2 ^ k := ⟨_, rfl⟩
    have hp2 : p ≤ 16 := by rcases hkc with rfl | rfl | rfl | rfl | rfl <;> omega
    have hps : 2 ^ (k + 1) = 2 * p := by rw [hp, Nat.pow_succ]; omega
    rw [← hp] at hiff
    rw [← hp]
    have HPS := Lib.hid hps
    clear hp hps hkc
    by_cases hlt : p < m
    · have hk2 := hiff.1 hlt
      go_wp2
      go_round
      case rel => exact ⟨k + 1, by omega, by go_num, by rw [HPS.out]; go_num⟩
      case measure => simp [intOf]; omega
    · have hk2 : k = leastN m := by have := mt hiff.2 hlt; omega
      go_wp2
      go_ret
      rw [← hk2]
      exact ⟨rfl, rfl⟩
set_option maxHeartbeats 1000000 in
theorem spec_least : Calls Try.prog 32 #[.slice A n c] w fun e w' => e = .returned (.int .i64 (leastF zs)) ∧ Below w.heap.size w w' := by
  cases hp : permB zs with
  | false =>
    have HL : Hid (leastF zs = -1) := by show _ = _; unfold leastF; rw [if_pos ((cnt_zero zs).2 (Or.inl hp))]
    have HP := Lib.hid hp
    clear hp
    go_enter Try.func32, Try.ntmps32
    go_wp2_with fail
    refine (spec_perm A n c zs _ hn hnc hn2 hz hss).mono ?_
    rintro e w1 ⟨rfl, rfl⟩
    rw [HP.out]
    go_wp2
    go_ret
    rw [HL.out]
    exact ⟨rfl, Below.refl _ _⟩
  | true =>
    have HP := Lib.hid hp
    have hcz := cnt_zero zs
    rw [hp] at hcz
    clear hp
    go_enter Try.func32, Try.ntmps32
    go_wp2_with fail
    refine (spec_perm A n c zs _ hn hnc hn2 hz hss).mono ?_
    rintro e w1 ⟨rfl, rfl⟩
    rw [HP.out]
    by_cases h0 : n = 0
    · have HL : Hid (leastF zs = -1) := by show _ = _; unfold leastF; rw [if_pos (hcz.2 (Or.inr (List.length_eq_zero_iff.1 (by omega))))]
      have hd0 : decide ((n : Int) = 0) = true := decide_eq_true (by omega)
      have hd1 : (n : Int) = 0 := by omega
      clear hcz
      go_wp2
      go_ret
      rw [HL.out]
      exact ⟨rfl, Below.refl _ _⟩
    · have hne : cntS zs ≠ 0 := fun e => by
        rcases hcz.1 e with h | h
        · cases h
        · rw [h] at hn; exact h0 hn.symm
      have HL : Hid (leastF zs = (leastN (cntS zs) : Nat)) := by show _ = _; unfold leastF; rw [if_neg hne]
      have hd0 : decide ((n : Int) = 0) = false := decide_eq_false (by omega)
      have hd1 : ¬ (n : Int) = 0 := by omega
      clear hcz
      go_wp2_with fail
      refine (spec_rise A n c zs _ hn hnc hn2 hz hss).mono ?_
      rintro e w2 ⟨A2, c2, rs, rfl, hrz, hrow, hb2⟩
      rw [rise_len]
      clear hrz hrow
      have hc12 := cnt_le zs
      go_wp2_with fail
      refine (spec_l w2 (cntS zs) (by omega) hc12).mono ?_
      rintro e w3 ⟨rfl, rfl⟩
      go_wp2
      go_ret
      rw [HL.out]
      exact ⟨rfl, hb2⟩
end
set_option maxHeartbeats 1000000 in
theorem impl_cr (n : Int) (w : World) (h1 : -9223372036854775808 ≤ n) (h2 : n ≤ 9223372036854775807) : Calls Try.prog 31 #[.int .i64 n] w fun e w' => e = .returned (.int .i64 (cntF n)) ∧ w = w' := by
  by_cases hin : 1 ≤ n ∧ n ≤ 12
  · have HF : Hid (cntF n = ((2 ^ n.toNat : Nat) : Int) - n) := by show _ = _; unfold cntF; rw [if_pos hin]
    have hc : n = 1 ∨ n = 2 ∨ n = 3 ∨ n = 4 ∨ n = 5 ∨ n = 6 ∨ n = 7 ∨ n = 8 ∨ n = 9 ∨ n = 10 ∨ n = 11 ∨ n = 12 := by omega
    rcases hc with rfl | rfl | rfl | rfl | rfl | rfl | rfl | rfl | rfl | rfl | rfl | rfl
    all_goals
      go_enter Try.func31, Try.ntmps31
      go_wp2
      go_ret
      rw [HF.out]
      exact ⟨rfl, rfl⟩
  · have HF : Hid (cntF n = -1) := by show _ = _; unfold cntF; rw [if_neg hin]
    by_cases hlt : n < 1
    · go_enter Try.func31, Try.ntmps31
      go_wp2
      go_ret
      rw [HF.out]
      exact ⟨rfl, rfl⟩
    · have hgt : 12 < n := by omega
      go_enter Try.func31, Try.ntmps31
      go_wp2
      go_ret
      rw [HF.out]
      exact ⟨rfl, rfl⟩
set_option maxHeartbeats 1000000 in
theorem spec_cr (n : Int) (w : World) (h1 : -9223372036854775808 ≤ n) (h2 : n ≤ 9223372036854775807) : Calls Try.prog 30 #[.int .i64 n] w fun e w' => e = .returned (.int .i64 (cntF n)) ∧ w = w' := by
  go_enter Try.func30, Try.ntmps30
  go_wp2_with fail
  refine (Pk.in_any n 1 12 w).mono ?_
  rintro e w1 ⟨rfl, rfl⟩
  by_cases hin : 1 ≤ n ∧ n ≤ 12
  · have HF : Hid (cntF n = ((2 ^ n.toNat : Nat) : Int) - n) := by show _ = _; unfold cntF; rw [if_pos hin]
    have hd : decide (1 ≤ n ∧ n ≤ 12) = true := decide_eq_true hin
    rw [hd]
    obtain ⟨m, rfl⟩ : ∃ m : Nat, n = (m : Int) := ⟨n.toNat, by omega⟩
    have hm : m ≤ 12 := by omega
    clear hd hin
    go_wp2
    go_loop [3, 4] (fun x i => ∃ k : Nat, k ≤ m ∧ i = .int .i64 (k : Int) ∧ x = .int .i64 ((2 ^ k : Nat) : Int)) (fun _ i => m - (intOf i).toNat)
    case atStart => exact ⟨0, Nat.zero_le _, rfl, rfl⟩
    case round =>
      obtain ⟨k, hk, rfl, rfl⟩ := hrel
      have hp2 : 2 ^ k ≤ 2 ^ 12 := Nat.pow_le_pow_right (by decide) (by omega)
      have hps : 2 ^ (k + 1) = 2 * 2 ^ k := by rw [Nat.pow_succ]; omega
      by_cases hlt : k < m
      · obtain ⟨p, hp⟩ : ∃ p : Nat, p = 2 ^ k := ⟨_, rfl⟩
        rw [← hp] at hp2 hps
        rw [← hp]
        have HPS := Lib.hid hps
        clear hp hps
        go_wp2
        go_round
        case rel => exact ⟨k + 1, by omega, by go_num, by rw [HPS.out]; go_num⟩
        case measure => simp [intOf]; omega
      · have hkm : k = m := by omega
        subst hkm
        have HF2 : Hid (cntF (k : Int) = ((2 ^ k : Nat) : Int) - (k : Int)) := HF.out
        clear HF hps
        obtain ⟨p, hp⟩ : ∃ p : Nat, p = 2 ^ k := ⟨_, rfl⟩
        rw [← hp] at hp2 HF2
        rw [← hp]
        clear hp
        go_wp2
        go_ret
        rw [HF2.out]
        exact ⟨rfl, rfl⟩
  · have HF : Hid (cntF n = -1) := by show _ = _; unfold cntF; rw [if_neg hin]
    have hd : decide (1 ≤ n ∧ n ≤ 12) = false := decide_eq_false hin
    rw [hd]
    clear hd
    go_wp2
    go_ret
    rw [HF.out]
    exact ⟨rfl, rfl⟩
end Go.Proofs.Ytceolmihglhijaa.Rsw
