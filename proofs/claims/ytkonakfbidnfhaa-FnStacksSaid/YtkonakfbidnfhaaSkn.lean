/- The program's shift registers: tapsOk, slices.Contains, the function that tells the next color, ShiftStack. -/
import Derived.Test.YtkonakfbidnfhaaSkm
set_option linter.unusedVariables false
set_option maxRecDepth 20000
namespace Go.Proofs.Ytkonakfbidnfhaa.Skn
open Go.RowKit Go.Maps Fr _root_.Go.Proofs.Ytkonakfbidnfhaa.Own Pk Ins Pfn Rws Lb Map Cat Cut Stk Skp Sks Skw Skv Ski Skj Skk Stp Skg Skq Skm

theorem drop_at {l : List Int} {k : Nat} (h : k < l.length) : l.drop k = l.getD k 0 :: l.drop (k + 1) := by
  rw [List.drop_eq_getElem_cons h, List.getD_eq_getElem?_getD, List.getElem?_eq_getElem h]
  rfl
set_option maxHeartbeats 1000000 in
theorem impl_taps (A : Option Addr) (n c : Nat) (zs : List Int) (m : Int) (w : World) (hn : zs.length = n) (hn2 : n ≤ 1048576) (hz : Fits zs) (hss : IntsAt w w.heap.size .i64 A zs) :
    Calls Try.prog 51 #[.slice A n c, .int .i64 m] w fun e w' => e = .returned (.bool (ascB m 0 zs)) ∧ w = w' := by
  have HN := Lib.hid hn
  obtain ⟨R, hR⟩ : ∃ R, R = ascB m 0 zs := ⟨_, rfl⟩
  rw [← hR]
  have HR := Lib.hid hR
  clear hn hR
  go_enter Try.func51, Try.ntmps51
  go_wp2
  go_loop [5, 7, 10] (fun l _ i => ∃ (k : Nat) (x : Int), k ≤ n ∧ i = .int .i64 k ∧ l = .int .i64 x ∧ Hid (R = ascB m x (zs.drop k))) (fun _ _ i => n - (intOf i).toNat)
  case atStart => exact ⟨0, 0, Nat.zero_le _, rfl, rfl, HR⟩
  case round =>
    obtain ⟨k, x, hk, rfl, rfl, HE⟩ := hrel
    by_cases hlt : k < n
    · obtain ⟨b, o, rfl, hbb, hc⟩ := hss k (by rw [HN.out]; exact hlt)
      obtain ⟨hx1, hx2⟩ := hz k (by rw [HN.out]; exact hlt)
      have HD := Lib.hid (drop_at (l := zs) (k := k) (by rw [HN.out]; exact hlt))
      generalize zs.getD k 0 = y at hc hx1 hx2 HD
      have HS := Lib.hid (show R = (decide (x < y) && ascB m y (zs.drop (k + 1))) by rw [HE.out, HD.out]; rfl)
      clear HE HD
      by_cases hxy : y ≤ x
      · have HF := Lib.hid (show R = false by rw [HS.out, decide_eq_false (by omega)]; rfl)
        have hd := decide_eq_true hxy
        go_wp2
        go_ret
        exact ⟨Pk.ret_b HF.out.symm, rfl⟩
      · have HF := Lib.hid (show R = ascB m y (zs.drop (k + 1)) by rw [HS.out, decide_eq_true (by omega)]; rfl)
        have hd := decide_eq_false hxy
        clear HS
        go_wp2
        go_round
        case rel => exact ⟨k + 1, y, by omega, by go_num, rfl, HF⟩
        case measure => simp [intOf]; omega
    · have hkn : k = n := by omega
      have HF := Lib.hid (show R = decide (x = m) by rw [HE.out, List.drop_of_length_le (by rw [HN.out]; omega)]; rfl)
      clear HE hkn
      go_wp2
      go_ret
      exact ⟨Pk.ret_b (by rw [HF.out]; rfl), rfl⟩
set_option maxHeartbeats 1000000 in
theorem ix_any (A : Option Addr) (n c : Nat) (zs : List Int) (v : Int) (w : World) (hn : zs.length = n) (hn2 : n ≤ 1048576) (hss : IntsAt w w.heap.size .i64 A zs) :
    Calls Try.prog 66 #[.slice A n c, .int .i64 v] w fun e w' => (∃ x, e = .returned (.int .i64 x) ∧ decide (0 ≤ x) = decide (v ∈ zs)) ∧ w = w' := by
  have HN := Lib.hid hn
  obtain ⟨R, hR⟩ : ∃ R, R = decide (v ∈ zs) := ⟨_, rfl⟩
  rw [← hR]
  have HR := Lib.hid hR
  clear hn hR
  go_enter Try.func66, Try.ntmps66
  go_wp2
  go_loop [5, 8] (fun _ i => ∃ k : Nat, k ≤ n ∧ i = .int .i64 k ∧ Hid (v ∉ zs.take k)) (fun _ i => n - (intOf i).toNat)
  case atStart => exact ⟨0, Nat.zero_le _, rfl, (show v ∉ zs.take 0 from by simp)⟩
  case round =>
    obtain ⟨k, hk, rfl, HG⟩ := hrel
    by_cases hlt : k < n
    · obtain ⟨b, o, rfl, hbb, hc⟩ := hss k (by rw [HN.out]; exact hlt)
      have HT := Lib.hid (take_next (C := zs) (k := k) (by rw [HN.out]; exact hlt))
      have HM := Lib.hid (show zs.getD k 0 ∈ zs by rw [List.getD_eq_getElem?_getD, List.getElem?_eq_getElem (by rw [HN.out]; exact hlt)]; exact List.getElem_mem _)
      generalize zs.getD k 0 = y at hc HT HM
      by_cases hy : v = y
      · subst hy
        have HD := Lib.hid (show R = true by rw [HR.out, decide_eq_true HM.out])
        clear HT HG HM
        go_wp2
        go_ret
        exact ⟨⟨_, rfl, by rw [HD.out]; exact decide_eq_true (by omega)⟩, rfl⟩
      · have hb : (v == y) = false := by simpa using hy
        have HG2 := Lib.hid (show v ∉ zs.take (k + 1) by
          rw [HT.out]
          intro h
          rcases List.mem_append.1 h with h | h
          · exact HG.out h
          · exact hy (List.mem_singleton.1 h))
        clear HT HG HM hy
        go_wp2
        go_round
        case rel => exact ⟨k + 1, by omega, by go_num, HG2⟩
        case measure => simp [intOf]; omega
    · have hkn : k = n := by omega
      have HD := Lib.hid (show R = false by rw [HR.out]; exact decide_eq_false (by have h := HG.out; rwa [List.take_of_length_le (by rw [HN.out]; omega)] at h))
      clear HG hkn
      go_wp2
      go_ret
      exact ⟨⟨_, rfl, by rw [HD.out]; rfl⟩, rfl⟩
theorem has_any (A : Option Addr) (n c : Nat) (zs : List Int) (v : Int) (w : World) (hn : zs.length = n) (hn2 : n ≤ 1048576) (hss : IntsAt w w.heap.size .i64 A zs) :
    Calls Try.prog 50 #[.slice A n c, .int .i64 v] w fun e w' => e = .returned (.bool (decide (v ∈ zs))) ∧ w = w' := by
  have H := Lib.hid (ix_any A n c zs v w hn hn2 hss)
  go_enter Try.func50, Try.ntmps50
  clear hn hss
  go_wp2_with fail
  refine H.out.mono ?_
  rintro e w' ⟨⟨x, rfl, hx⟩, rfl⟩
  have HX := Lib.hid hx
  clear hx
  go_wp2
  go_ret
  exact ⟨Pk.ret_b HX.out, rfl⟩
/-! ### the next color -/
theorem asc_len {n : Int} : ∀ {last : Int} {l : List Int}, ascB n last l = true → (l.length : Int) ≤ n - last
  | last, [], h => by
    have := (asc_le h).1
    simp only [List.length_nil]
    omega
  | last, t :: r, h => by
    simp only [ascB, Bool.and_eq_true, decide_eq_true_eq] at h
    have := asc_len h.2
    rw [List.length_cons]
    omega
def sumF (taps w : List Int) (k : Nat) : Int := (taps.take k).foldl (fun s t => s + w.getD (w.length - t.toNat) 0) 0
theorem sum_next {taps w : List Int} {k : Nat} (h : k < taps.length) : sumF taps w (k + 1) = sumF taps w k + w.getD (w.length - (taps.getD k 0).toNat) 0 := by
  unfold sumF
  rw [take_next h, List.foldl_append]
  rfl
theorem getD_bit {w : List Int} (h : w.all isCol = true) (i : Nat) : 0 ≤ w.getD i 0 ∧ w.getD i 0 ≤ 1 := by
  by_cases hi : i < w.length
  · have := List.all_eq_true.1 h (w.getD i 0) (by rw [List.getD_eq_getElem?_getD, List.getElem?_eq_getElem hi]; exact List.getElem_mem _)
    have : w.getD i 0 = 0 ∨ w.getD i 0 = 1 := by simpa [isCol] using this
    omega
  · rw [List.getD_eq_getElem?_getD, List.getElem?_eq_none (by omega)]
    exact ⟨by decide, by decide⟩
theorem sum_small {taps w : List Int} (h : w.all isCol = true) : ∀ k, k ≤ taps.length → 0 ≤ sumF taps w k ∧ sumF taps w k ≤ k
  | 0, _ => by unfold sumF; simp
  | k + 1, hk => by
    have h1 := sum_small (taps := taps) h k (by omega)
    have h2 := getD_bit h (w.length - (taps.getD k 0).toNat)
    rw [sum_next (by omega)]
    omega
set_option maxHeartbeats 4000000 in
theorem sh_tells (p : Nat) (A : Option Addr) (nt ct : Nat) (taps seed : List Int) (w : World) (hsh : shB taps seed = true) (hnt : taps.length = nt) (hp : w.cell? ⟨p, 0, none⟩ = some (.slice A nt ct)) (hat : IntsAt w w.heap.size .i64 A taps) :
    Tells w 52 ⟨p, 0, none⟩ (colS taps seed (perT taps seed)) seed.length (perT taps seed) := by
  intro W t g c b ht hb hc hcol hm
  obtain ⟨hG, _, hT, _, _⟩ := reg_all hsh
  have hh := hsh
  unfold shB seedB at hh
  simp only [Bool.and_eq_true, decide_eq_true_eq] at hh
  obtain ⟨⟨⟨⟨h1, h6⟩, hbits⟩, _⟩, hasc⟩ := hh
  have hal := asc_len hasc
  rw [hnt] at hal
  obtain ⟨m, hmm⟩ : ∃ m, m = seed.length := ⟨_, rfl⟩
  rw [col_take rfl (by omega)] at hcol
  have hq : 1 ≤ m ∧ m ≤ 6 ∧ nt ≤ m ∧ t ≤ 64 := by omega
  obtain ⟨V, hV⟩ : ∃ V, V = itW taps seed t := ⟨_, rfl⟩
  have hVl : V.length = m := by rw [hV, it_len h1 rfl, hmm]
  have hVb : V.all isCol = true := by rw [hV]; exact it_bits hbits t
  rw [col_next h1 rfl ht, ← hV, ← hmm]
  have HX := Lib.hid (show fN taps V = sumF taps V nt % 2 by unfold fN sumF; rw [List.take_of_length_le (by omega)])
  have hpw := World.block_lt_of_cell? w ⟨p, 0, none⟩ hp
  have hpW : W.cell? ⟨p, 0, none⟩ = some (.slice A nt ct) := (hb.cell (p := ⟨p, 0, none⟩) hpw).trans hp
  have HT := Lib.hid ((hat.below hb).more hb.size)
  have HTR := Lib.hid (fun k (hk : k < nt) => (show 1 ≤ taps.getD k 0 ∧ taps.getD k 0 ≤ m from by
    have hm2 : taps.getD k 0 ∈ taps := by rw [List.getD_eq_getElem?_getD, List.getElem?_eq_getElem (by omega)]; exact List.getElem_mem _
    have := (asc_le hasc).2 _ hm2
    omega))
  have HNT := Lib.hid hnt
  have HSM := Lib.hid (fun k (hk : k ≤ nt) => sum_small (taps := taps) hVb k (by omega))
  have HCO := Lib.hid (fun i (hi : i < m) => (show W.cell? ⟨g, t + i, none⟩ = some (.int .i64 (V.getD i 0)) from by
    obtain ⟨b2, o2, e2, _, hc2⟩ := hcol (t + i) (by rw [col_len rfl]; omega)
    simp only [Option.some.injEq, Addr.mk.injEq, and_true] at e2
    obtain ⟨rfl, rfl⟩ := e2
    rw [Nat.zero_add] at hc2
    rw [hc2, hV, ← col_drop h1 rfl, List.getD_eq_getElem?_getD, List.getD_eq_getElem?_getD, List.getElem?_drop]))
  have HVL := Lib.hid hVl
  have HSN := Lib.hid (fun k (hk : k < nt) => sum_next (taps := taps) (w := V) (k := k) (by omega))
  obtain ⟨R, hR⟩ : ∃ R, R = fN taps V := ⟨_, rfl⟩
  rw [← hR] at HX ⊢
  have HB := Lib.hid (Below.refl W.heap.size W)
  clear hsh hcol hm hG hT hbits hasc hal hnt hat hmm hVb hVl hV hR hb hp hpw
  go_enter Try.func52, Try.ntmps52
  go_wp2
  go_loop [6, 8, 11] (fun s _ i => ∃ (k : Nat) (y : Int), k ≤ nt ∧ i = .int .i64 k ∧ s = .int .i64 y ∧ Hid (y = sumF taps V k)) (fun _ _ i => nt - (intOf i).toNat)
  case atStart => exact ⟨0, 0, Nat.zero_le _, rfl, rfl, (rfl : (0 : Int) = sumF taps V 0)⟩
  case round =>
    obtain ⟨k, y, hk, rfl, rfl, HY⟩ := hrel
    by_cases hlt : k < nt
    · obtain ⟨b3, o3, hA, hbb, hc3⟩ := HT.out k (by rw [HNT.out]; exact hlt)
      obtain ⟨hx1, hx2⟩ := HTR.out k hlt
      have hys := HSM.out k hk
      rw [← HY.out] at hys
      have HSX := HSN.out k hlt
      obtain ⟨x, hx⟩ : ∃ x : Nat, taps.getD k 0 = (x : Int) := ⟨(taps.getD k 0).toNat, by omega⟩
      rw [hx] at hc3 hx1 hx2 HSX
      have hxm : 1 ≤ x ∧ x ≤ m := by omega
      have hcv := HCO.out (m - x) (by omega)
      rw [show t + (m - x) = m + t - x by omega] at hcv
      have hvb := HSM.out (k + 1) hlt
      rw [HVL.out, ← HY.out, show ((x : Int)).toNat = x from rfl] at HSX
      rw [HSX] at hvb
      generalize V.getD (m - x) 0 = v at hcv HSX hvb
      have HSX2 := Lib.hid HSX.symm
      subst hA
      clear HSX hx
      go_wp2
      go_round
      case rel => exact ⟨k + 1, y + v, by omega, by go_num, rfl, HSX2⟩
      case measure => simp [intOf]; omega
    · have hkn : k = nt := by omega
      have hys := HSM.out k hk
      have HF := Lib.hid (show R = y % 2 by rw [HX.out, ← hkn, HY.out])
      rw [← HY.out] at hys
      have htm : Int.tmod y 2 = y % 2 := Int.tmod_eq_emod_of_nonneg hys.1
      clear hkn
      go_wp2
      go_ret
      exact ⟨congrArg (fun z => Ending.returned (.int .i64 z)) (by rw [HF.out]), HB.out⟩
/-- a list in a box, and an empty stack in another -/
theorem box_ls (w : World) (x : Value) : ∃ W, W = (w.alloc (.cells #[x] 23)).alloc (.cells #[.slice none 0 0, .int .i64 0] 25) ∧ W.cell? ⟨w.heap.size, 0, none⟩ = some x ∧ W.heap[w.heap.size + 1]? = some (.cells #[.slice none 0 0, .int .i64 0] 25 (0, 0)) ∧ Below w.heap.size w W ∧ w.heap.size + 1 < W.heap.size := by
  have hs : (w.alloc (.cells #[x] 23)).heap.size = w.heap.size + 1 := by simp
  have a0 := heap_alloc_new w (.cells #[x] 23)
  have a1 := heap_alloc_new (w.alloc (.cells #[x] 23)) (.cells #[.slice none 0 0, .int .i64 0] 25)
  have b1 := box_below (w.alloc (.cells #[x] 23)) (.cells #[.slice none 0 0, .int .i64 0] 25)
  rw [hs] at a1 b1
  have c0 := (b1.block w.heap.size (by omega)).trans a0
  exact ⟨_, rfl, by rw [cell_of_row _ _ _ _ _ _ c0]; rfl, a1, (box_below w _).trans (b1.mono (by omega)), by simp⟩
theorem sh_no {taps seed : List Int} (h : shB taps seed = false) : shS taps seed = [] ∧ shM taps seed = 0 := by unfold shS shM; rw [h]; exact ⟨rfl, rfl⟩
theorem sh_yes {taps seed : List Int} (h : shB taps seed = true) : shS taps seed = (colS taps seed (perT taps seed)).take (perT taps seed) ∧ shM taps seed = seed.length := by unfold shS shM; rw [h]; exact ⟨rfl, rfl⟩
theorem sh_no1 {taps seed : List Int} (h : ¬ (1 ≤ seed.length ∧ seed.length ≤ 6)) : shB taps seed = false := by unfold shB seedB; rw [decide_eq_false h]; rfl
theorem sh_no2 {taps seed : List Int} (h : seed.all isCol = false) : shB taps seed = false := by unfold shB seedB; rw [h]; simp
theorem sh_no3 {taps seed : List Int} (h : (1 : Int) ∉ seed) : shB taps seed = false := by unfold shB seedB; rw [decide_eq_false h]; simp
theorem sh_no4 {taps seed : List Int} (h : ascB seed.length 0 taps = false) : shB taps seed = false := by unfold shB; rw [h]; simp
theorem sh_is {taps seed : List Int} (h1 : 1 ≤ seed.length ∧ seed.length ≤ 6) (h2 : seed.all isCol = true) (h3 : (1 : Int) ∈ seed) (h4 : ascB seed.length 0 taps = true) : shB taps seed = true := by unfold shB seedB; rw [decide_eq_true h1, h2, decide_eq_true h3, h4]; rfl
set_option maxHeartbeats 4000000 in
theorem impl_shift (A0 : Option Addr) (n0 c0 : Nat) (taps : List Int) (A1 : Option Addr) (n1 c1 : Nat) (seed : List Int) (w : World) (hn0 : taps.length = n0) (hc0 : n0 ≤ c0) (hn0b : n0 ≤ 1048576) (hz0 : Fits taps) (ha0 : IntsAt w w.heap.size .i64 A0 taps)
    (hn1 : seed.length = n1) (hc1 : n1 ≤ c1) (hn1b : n1 ≤ 1048576) (hz1 : Fits seed) (ha1 : IntsAt w w.heap.size .i64 A1 seed) :
    Calls Try.prog 19 #[.slice A0 n0 c0, .slice A1 n1 c1] w (IsSB w.heap.size (shS taps seed) (shM taps seed) (shB taps seed) w) := by
  obtain ⟨W, hW, ba, k1, hb0, hs1⟩ := box_ls w (.slice A0 n0 c0)
  have HB0 := Lib.hid hb0
  have HC1 := Lib.hid k1
  have HS0 := Lib.hid ((ha0.below hb0).more hb0.size)
  have HS1 := Lib.hid ((ha1.below hb0).more hb0.size)
  have HN0 := Lib.hid hn0
  have HN1 := Lib.hid hn1
  clear hb0 k1 ha0 ha1
  by_cases h1 : 1 ≤ (n1 : Int) ∧ (n1 : Int) ≤ 6
  · have H1 := Lib.hid (decide_eq_true h1)
    cases hco : seed.all isCol with
    | false =>
      have HCO := Lib.hid hco
      have hno := sh_no2 (taps := taps) hco
      clear hco
      rw [(sh_no hno).1, (sh_no hno).2, hno]
      clear hno
      go_enter Try.func19, Try.ntmps19
      go_wp2_with fail
      rw [← hW]
      clear hW
      refine (is_win _ _).mono ?_
      rintro e w1 ⟨rfl, rfl⟩
      rw [H1.out]
      go_wp2_with fail
      refine (impl_colors A1 n1 c1 seed W HN1.out hn1b hz1 HS1.out).mono ?_
      rintro e w1 ⟨rfl, rfl⟩
      rw [HCO.out]
      obtain ⟨k4, k5⟩ := cell2 HC1.out
      have f4 := frz HC1.out 0
      have f5 := frz HC1.out 1
      obtain ⟨HP1, HP2, _⟩ := put_box (x := .slice none 0 0) (y := .int .i64 0) HC1.out HB0.out (by omega)
      have HP1 := Lib.hid HP1
      have HP2 := Lib.hid HP2
      go_wp2
      (try simp only [Exit.inBlock, Exit.then])
      refine bodyPost_ret (results_cs rfl _ rfl rfl HP1.out) rfl ?_
      exact ⟨none, 0, rfl, World.ownsRow_nil _ _ _ _, HP2.out⟩
    | true =>
      have HCO := Lib.hid hco
      by_cases hha : (1 : Int) ∈ seed
      · have HHA := Lib.hid (decide_eq_true hha)
        cases htp : ascB n1 0 taps with
        | false =>
          have HTP := Lib.hid htp
          have hno : shB taps seed = false := sh_no4 (by rw [hn1]; exact htp)
          clear hco hha htp
          rw [(sh_no hno).1, (sh_no hno).2, hno]
          clear hno
          go_enter Try.func19, Try.ntmps19
          go_wp2_with fail
          rw [← hW]
          clear hW
          refine (is_win _ _).mono ?_
          rintro e w1 ⟨rfl, rfl⟩
          rw [H1.out]
          go_wp2_with fail
          refine (impl_colors A1 n1 c1 seed W HN1.out hn1b hz1 HS1.out).mono ?_
          rintro e w1 ⟨rfl, rfl⟩
          rw [HCO.out]
          go_wp2_with fail
          refine (has_any A1 n1 c1 seed 1 W HN1.out hn1b HS1.out).mono ?_
          rintro e w1 ⟨rfl, rfl⟩
          rw [HHA.out]
          go_wp2_with fail
          refine (impl_taps A0 n0 c0 taps (n1 : Int) W HN0.out hn0b hz0 HS0.out).mono ?_
          rintro e w1 ⟨rfl, rfl⟩
          rw [HTP.out]
          obtain ⟨k4, k5⟩ := cell2 HC1.out
          have f4 := frz HC1.out 0
          have f5 := frz HC1.out 1
          obtain ⟨HP1, HP2, _⟩ := put_box (x := .slice none 0 0) (y := .int .i64 0) HC1.out HB0.out (by omega)
          have HP1 := Lib.hid HP1
          have HP2 := Lib.hid HP2
          go_wp2
          (try simp only [Exit.inBlock, Exit.then])
          refine bodyPost_ret (results_cs rfl _ rfl rfl HP1.out) rfl ?_
          exact ⟨none, 0, rfl, World.ownsRow_nil _ _ _ _, HP2.out⟩
        | true =>
          have HTP := Lib.hid htp
          have hyes : shB taps seed = true := sh_is (by omega) hco hha (by rw [hn1]; exact htp)
          rw [(sh_yes hyes).1, (sh_yes hyes).2, hyes]
          obtain ⟨hG, hp1, hp2, _, _⟩ := reg_all hyes
          obtain ⟨R, hR⟩ : ∃ R, R = (colS taps seed (perT taps seed)).take (perT taps seed) := ⟨_, rfl⟩
          have hRl : R.length = perT taps seed := by rw [hR, List.length_take, hG.len]; omega
          have HTK := Lib.hid (show (colS taps seed (perT taps seed)).take seed.length = seed by have := col_take (taps := taps) (seed := seed) (n := seed.length) rfl (T := perT taps seed) (t := 0) (by omega); rw [Nat.add_zero] at this; exact this)
          have HCALL := Lib.hid (show Calls Try.prog 48 #[.slice A1 n1 c1, .func (.func 52) #[] #[.pointer (some ⟨w.heap.size, 0, none⟩)]] W (IsIL W.heap.size R W) from by
            have h := grown_any 52 ⟨w.heap.size, 0, none⟩ _ seed.length (perT taps seed) c1 A1 W hG (by rw [HTK.out]; exact HS1.out) (enters_of Try.func52 (by kernel_rfl) rfl) (sh_tells w.heap.size A0 n0 c0 taps seed W hyes HN0.out ba HS0.out)
            rw [← hR, HN1.out] at h
            exact h)
          have HN1b := Lib.hid (show (seed.length : Int) = (n1 : Int) by rw [hn1])
          rw [← hR, HN1b.out]
          generalize perT taps seed = T at *
          have HRL := Lib.hid hRl
          clear hco hha htp hyes hG hR hRl
          go_enter Try.func19, Try.ntmps19
          go_wp2_with fail
          rw [← hW]
          clear hW
          refine (is_win _ _).mono ?_
          rintro e w1 ⟨rfl, rfl⟩
          rw [H1.out]
          go_wp2_with fail
          refine (impl_colors A1 n1 c1 seed W HN1.out hn1b hz1 HS1.out).mono ?_
          rintro e w1 ⟨rfl, rfl⟩
          rw [HCO.out]
          go_wp2_with fail
          refine (has_any A1 n1 c1 seed 1 W HN1.out hn1b HS1.out).mono ?_
          rintro e w1 ⟨rfl, rfl⟩
          rw [HHA.out]
          go_wp2_with fail
          refine (impl_taps A0 n0 c0 taps (n1 : Int) W HN0.out hn0b hz0 HS0.out).mono ?_
          rintro e w1 ⟨rfl, rfl⟩
          rw [HTP.out]
          go_wp2_with fail
          refine HCALL.out.mono ?_
          rintro e w3 ⟨A3, c3, rfl, ho, hb⟩
          rw [HRL.out] at ho
          rw [HRL.out]
          have HB3 := Lib.hid (HB0.out.trans (hb.mono HB0.out.size))
          have HX3 := Lib.hid ((hb.block (w.heap.size + 1) hs1).trans HC1.out)
          obtain ⟨k4, k5⟩ := cell2 HX3.out
          have f4 := frz HX3.out 0
          have f5 := frz HX3.out 1
          obtain ⟨HP1, HP2, HP3⟩ := put_box (x := .slice A3 T c3) (y := .int .i64 (n1 : Int)) HX3.out HB3.out (by omega)
          have HP1 := Lib.hid HP1
          have HP2 := Lib.hid HP2
          have HO := Lib.hid (own_mono (own_gr ho HP3 (fun j hj e => by have h1 := (own_lo ho j hj).1; injection e with e; omega)) HB0.out.size)
          clear ho hb HP3 ba
          go_wp2
          (try simp only [Exit.inBlock, Exit.then])
          refine bodyPost_ret (results_cs rfl _ rfl rfl HP1.out) rfl ?_
          exact ⟨A3, c3, by rw [HRL.out]; rfl, by rw [HRL.out]; exact HO.out, HP2.out⟩
      · have HHA := Lib.hid (decide_eq_false hha)
        have hno := sh_no3 (taps := taps) hha
        clear hco hha
        rw [(sh_no hno).1, (sh_no hno).2, hno]
        clear hno
        go_enter Try.func19, Try.ntmps19
        go_wp2_with fail
        rw [← hW]
        clear hW
        refine (is_win _ _).mono ?_
        rintro e w1 ⟨rfl, rfl⟩
        rw [H1.out]
        go_wp2_with fail
        refine (impl_colors A1 n1 c1 seed W HN1.out hn1b hz1 HS1.out).mono ?_
        rintro e w1 ⟨rfl, rfl⟩
        rw [HCO.out]
        go_wp2_with fail
        refine (has_any A1 n1 c1 seed 1 W HN1.out hn1b HS1.out).mono ?_
        rintro e w1 ⟨rfl, rfl⟩
        rw [HHA.out]
        obtain ⟨k4, k5⟩ := cell2 HC1.out
        have f4 := frz HC1.out 0
        have f5 := frz HC1.out 1
        obtain ⟨HP1, HP2, _⟩ := put_box (x := .slice none 0 0) (y := .int .i64 0) HC1.out HB0.out (by omega)
        have HP1 := Lib.hid HP1
        have HP2 := Lib.hid HP2
        go_wp2
        (try simp only [Exit.inBlock, Exit.then])
        refine bodyPost_ret (results_cs rfl _ rfl rfl HP1.out) rfl ?_
        exact ⟨none, 0, rfl, World.ownsRow_nil _ _ _ _, HP2.out⟩
  · have H1 := Lib.hid (decide_eq_false h1)
    have hno : shB taps seed = false := sh_no1 (by omega)
    rw [(sh_no hno).1, (sh_no hno).2, hno]
    clear hno
    go_enter Try.func19, Try.ntmps19
    go_wp2_with fail
    rw [← hW]
    clear hW
    refine (is_win _ _).mono ?_
    rintro e w1 ⟨rfl, rfl⟩
    rw [H1.out]
    obtain ⟨k4, k5⟩ := cell2 HC1.out
    have f4 := frz HC1.out 0
    have f5 := frz HC1.out 1
    obtain ⟨HP1, HP2, _⟩ := put_box (x := .slice none 0 0) (y := .int .i64 0) HC1.out HB0.out (by omega)
    have HP1 := Lib.hid HP1
    have HP2 := Lib.hid HP2
    go_wp2
    (try simp only [Exit.inBlock, Exit.then])
    refine bodyPost_ret (results_cs rfl _ rfl rfl HP1.out) rfl ?_
    exact ⟨none, 0, rfl, World.ownsRow_nil _ _ _ _, HP2.out⟩
end Go.Proofs.Ytkonakfbidnfhaa.Skn
