/- What is read off the rising sequences: whether a permutation is a riffle, its ways, its split, the least riffles; the number of riffles. -/
import Derived.Test.YtceolmihglhijaaGreatRss
import Derived.Test.YtceolmihglhijaaGreatShelf
set_option linter.unusedVariables false
set_option maxRecDepth 20000
namespace Go.Proofs.YtceolmihglhijaaGreat.Rsw
open Go.RowKit Fr _root_.Go.Proofs.YtceolmihglhijaaGreat.Own Pk Ins Pl Prm Pfn Rws Orb Cyc Rsm Rsc Rss Rsh

def isrF (zs : List Int) : Bool := permB zs && decide (cntS zs ≤ 2)
def splitF (zs : List Int) : Int := if cntS zs = 2 then (((riseI zs).getD 0 []).length : Nat) else -1
def waysF (zs : List Int) : Int := if isrF zs = true then (if cntS zs = 2 then 1 else ((zs.length + 1 : Nat) : Int)) else 0
def leastF (zs : List Int) : Int := if cntS zs = 0 then -1 else (leastN (cntS zs) : Nat)
def cntF (n : Int) : Int := if 1 ≤ n ∧ n ≤ 12 then ((2 ^ n.toNat : Nat) : Int) - n else -1
theorem isrF_no {zs : List Int} (h : permB zs = false) : isrF zs = false := by unfold isrF; rw [h]; rfl
theorem isrF_yes {zs : List Int} (h : permB zs = true) : isrF zs = decide (cntS zs ≤ 2) := by unfold isrF; rw [h]; rfl
theorem split_neg (zs : List Int) : decide (splitF zs < 0) = !decide (cntS zs = 2) := by
  unfold splitF
  split
  next h => rw [decide_eq_true h, decide_eq_false (by omega)]; rfl
  next h => rw [decide_eq_false h]; rfl
theorem cnt_cases (zs : List Int) : cntS zs = 0 ∨ cntS zs = 1 ∨ cntS zs = 2 ∨ cntS zs = 3 ∨ cntS zs = 4 ∨ cntS zs = 5 ∨ cntS zs = 6 ∨ cntS zs = 7 ∨ cntS zs = 8 ∨ cntS zs = 9 ∨ cntS zs = 10 ∨ cntS zs = 11 ∨ cntS zs = 12 := by
  have := cnt_le zs
  omega
theorem first_len {rs : List RD} {zs : List Int} (h : rs.map RD.zs = riseI zs) : (((riseI zs).getD 0 []).length : Nat) = (rs.getD 0 rd0).zs.length := by
  rw [← h]
  cases rs <;> rfl
theorem seq_short {b : Nat → Bool} (h0 : b 0 = true) {n : Nat} {l : List Nat} (h : l ∈ rsF b n) : l.length ≤ n := by
  obtain ⟨j, hj⟩ := List.mem_iff_getElem?.1 h
  cases n with
  | zero => cases h
  | succ n =>
    have hs := rsF_spec h0 n
    have e : (rsF b (n + 1)).getD j [] = l := by rw [List.getD_eq_getElem?_getD, hj]; rfl
    have h1 := hs.2.2.2.1 j
    have h2 := hs.2.2.2.2 j
    rw [e] at h1 h2
    have := h1.length_le_of_subset (l₂ := List.range (n + 1)) (fun v hv => List.mem_range.2 (by have := (h2 v).1 hv; omega))
    rwa [List.length_range] at this
theorem rise_small (zs : List Int) : SmallSS (riseI zs) := by
  refine ⟨?_, fun l hl => ?_⟩
  · rw [rise_len]; have := cnt_le zs; omega
  · cases hp : permB zs with
    | false => rw [riseI_no hp] at hl; cases hl
    | true =>
      have h12 := (permB_yes hp).1
      rw [riseI_yes hp] at hl
      obtain ⟨x, hx, rfl⟩ := List.mem_map.1 hl
      have := seq_short (nb_zero zs) hx
      rw [ints_len]
      omega
section
variable (A : Option Addr) (n c : Nat) (zs : List Int) (w : World) (hn : zs.length = n) (hn2 : n ≤ 9223372036854775807) (hz : Fits zs) (hss : IntsAt w w.heap.size .i64 A zs)
include hn hn2 hz hss
set_option maxHeartbeats 1000000 in
theorem impl_isr : Calls Tryz.prog 7 #[.slice A n c] w fun e w' => e = .returned (.bool (isrF zs)) ∧ Below w.heap.size w w' := by
  cases hp : permB zs with
  | false =>
    have HP := Lib.hid hp
    have HF := Lib.hid (isrF_no hp)
    clear hp
    go_enter Tryz.func7, Tryz.ntmps7
    go_wp2_with fail
    refine (impl_perm A n c zs _ hn hn2 hz hss).mono ?_
    rintro e w1 ⟨rfl, hb1⟩
    rw [HP.out]
    go_wp2
    go_ret
    rw [HF.out]
    exact ⟨rfl, hb1⟩
  | true =>
    have HP := Lib.hid hp
    have HF := Lib.hid (isrF_yes hp)
    clear hp
    go_enter Tryz.func7, Tryz.ntmps7
    go_wp2_with fail
    refine (impl_perm A n c zs _ hn hn2 hz hss).mono ?_
    rintro e w1 ⟨rfl, hb1⟩
    rw [HP.out]
    have hs1 := (hss.below hb1).more hb1.size
    have hsz1 := hb1.size
    have HB1 := Lib.hid hb1
    clear hb1
    go_wp2_with fail
    refine (impl_rise A n c zs _ hn hn2 hz hs1).mono ?_
    rintro e w2 ⟨A2, c2, rs, rfl, hrz, hrow, hb2⟩
    have HB2 := Lib.hid (HB1.out.trans (hb2.mono hsz1))
    rw [rise_len]
    clear hrz hrow hb2
    have HC : Hid (decide (((cntS zs : Nat) : Int) ≤ 2) = decide (cntS zs ≤ 2)) := decide_eq_decide.2 (by omega)
    go_wp2
    go_ret
    rw [HF.out]
    exact ⟨by show Ending.returned (.bool (decide (((cntS zs : Nat) : Int) ≤ 2))) = _; rw [HC.out], HB2.out⟩
set_option maxHeartbeats 1000000 in
theorem impl_split : Calls Tryz.prog 13 #[.slice A n c] w fun e w' => e = .returned (.int .i64 (splitF zs)) ∧ Below w.heap.size w w' := by
  go_enter Tryz.func13, Tryz.ntmps13
  go_wp2_with fail
  refine (impl_rise A n c zs _ hn hn2 hz hss).mono ?_
  rintro e w2 ⟨A2, c2, rs, rfl, hrz, hrow, hb2⟩
  rw [rise_len] at hrow
  rw [rise_len]
  by_cases h2 : cntS zs = 2
  · have hsp : splitF zs = ((rs.getD 0 rd0).zs.length : Nat) := by unfold splitF; rw [if_pos h2, first_len hrz]
    have HSP := Lib.hid hsp
    rw [h2] at hrow
    rw [h2]
    obtain ⟨g, rfl, hc⟩ := hrow.cell 0 (by omega)
    simp only [RD.v] at hc
    clear hsp hrow hrz
    go_wp2
    go_ret
    rw [HSP.out]
    exact ⟨rfl, hb2⟩
  · have hsp : splitF zs = -1 := by unfold splitF; rw [if_neg h2]
    have HSP := Lib.hid hsp
    have hd : decide (((cntS zs : Nat) : Int) = 2) = false := decide_eq_false (by omega)
    have hd2 : ¬ (((cntS zs : Nat) : Int) = 2) := by omega
    generalize cntS zs = m at *
    clear hsp hrow hrz
    go_wp2
    go_ret
    rw [HSP.out]
    exact ⟨rfl, hb2⟩
set_option maxHeartbeats 1000000 in
theorem impl_ways (hn3 : n ≤ 4194304) : Calls Tryz.prog 12 #[.slice A n c] w fun e w' => e = .returned (.int .i64 (waysF zs)) ∧ Below w.heap.size w w' := by
  go_enter Tryz.func12, Tryz.ntmps12
  go_wp2_with fail
  refine (impl_isr A n c zs _ hn hn2 hz hss).mono ?_
  rintro e w1 ⟨rfl, hb1⟩
  have hs1 := (hss.below hb1).more hb1.size
  have hsz1 := hb1.size
  have HB1 := Lib.hid hb1
  clear hb1
  cases hi : isrF zs with
  | false =>
    have HW : Hid (waysF zs = 0) := by show _ = _; unfold waysF; rw [hi]; rfl
    go_wp2
    go_ret
    rw [HW.out]
    exact ⟨rfl, HB1.out⟩
  | true =>
    go_wp2_with fail
    refine (impl_split A n c zs _ hn hn2 hz hs1).mono ?_
    rintro e w2 ⟨rfl, hb2⟩
    have HB2 := Lib.hid (HB1.out.trans (hb2.mono hsz1))
    have hsn := split_neg zs
    clear hb2
    by_cases h2 : cntS zs = 2
    · have HW : Hid (waysF zs = 1) := by show _ = _; unfold waysF; rw [hi, if_pos rfl, if_pos h2]
      rw [decide_eq_true h2] at hsn
      have hd : decide (splitF zs < 0) = false := hsn
      clear hsn
      generalize splitF zs = sp at *
      go_wp2
      go_ret
      rw [HW.out]
      exact ⟨rfl, HB2.out⟩
    · have HW : Hid (waysF zs = ((n + 1 : Nat) : Int)) := by show _ = _; unfold waysF; rw [hi, if_pos rfl, if_neg h2, hn]
      rw [decide_eq_false h2] at hsn
      have hd : decide (splitF zs < 0) = true := hsn
      clear hsn
      generalize splitF zs = sp at *
      go_wp2
      go_ret
      rw [HW.out]
      exact ⟨by go_num, HB2.out⟩
end
section
variable (A : Option Addr) (n c : Nat) (zs : List Int) (w : World) (hn : zs.length = n) (hnc : n ≤ c) (hn2 : n ≤ 9223372036854775807) (hz : Fits zs) (hss : IntsAt w w.heap.size .i64 A zs)
include hn hnc hn2 hz hss
end
set_option maxHeartbeats 1000000 in
theorem impl_cr (n : Int) (w : World) (h1 : -9223372036854775808 ≤ n) (h2 : n ≤ 9223372036854775807) : Calls Tryz.prog 8 #[.int .i64 n] w fun e w' => e = .returned (.int .i64 (cntF n)) ∧ w = w' := by
  by_cases hin : 1 ≤ n ∧ n ≤ 12
  · have HF : Hid (cntF n = ((2 ^ n.toNat : Nat) : Int) - n) := by show _ = _; unfold cntF; rw [if_pos hin]
    have hc : n = 1 ∨ n = 2 ∨ n = 3 ∨ n = 4 ∨ n = 5 ∨ n = 6 ∨ n = 7 ∨ n = 8 ∨ n = 9 ∨ n = 10 ∨ n = 11 ∨ n = 12 := by omega
    rcases hc with rfl | rfl | rfl | rfl | rfl | rfl | rfl | rfl | rfl | rfl | rfl | rfl
    all_goals
      go_enter Tryz.func8, Tryz.ntmps8
      go_wp2
      go_ret
      rw [HF.out]
      exact ⟨rfl, rfl⟩
  · have HF : Hid (cntF n = -1) := by show _ = _; unfold cntF; rw [if_neg hin]
    by_cases hlt : n < 1
    · go_enter Tryz.func8, Tryz.ntmps8
      go_wp2
      go_ret
      rw [HF.out]
      exact ⟨rfl, rfl⟩
    · have hgt : 12 < n := by omega
      go_enter Tryz.func8, Tryz.ntmps8
      go_wp2
      go_ret
      rw [HF.out]
      exact ⟨rfl, rfl⟩
end Go.Proofs.YtceolmihglhijaaGreat.Rsw
