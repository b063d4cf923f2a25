/- The force with four objects: FourForce of the program and of the model. -/
import Derived.Test.YtjmfdflhplobmaaPfo
import Derived.Test.YtjmfdflhplobmaaNob
set_option linter.unusedVariables false
set_option maxRecDepth 20000
namespace Go.Proofs.Ytjmfdflhplobmaa.Pff
open Go.RowKit Fr _root_.Go.Proofs.Ytjmfdflhplobmaa.Own Pk Ins Rws Fpl Nod Nom Obc Pfo Nob

def leafR (b : Bool) (x : Int) : NR := ⟨sayF b, none, 0, [], x⟩
theorem four_nv (g : Nat) (x : Int) : (rsFour g [leafR true x, leafR false x, leafR true x, leafR false x]).map NR.nv = fourL x := rfl
def cellsT (g : Nat) : List Value := [.string sTake, .slice (some ⟨g, 0, none⟩) 2 2, .int .i64 0, .string sKeep, .slice (some ⟨g + 1, 0, none⟩) 2 2, .int .i64 0, .string sPut, .slice (some ⟨g + 1 + 1, 0, none⟩) 2 2, .int .i64 0]
def leavesV (x : Int) : List Value := [.string sYours, .slice none 0 0, .int .i64 x, .string sAway, .slice none 0 0, .int .i64 x, .string sYours, .slice none 0 0, .int .i64 x, .string sAway, .slice none 0 0, .int .i64 x]
theorem lies_four (g : Nat) (x : Int) : Lies3 (cellsT g ++ leavesV x) (rsFour g [leafR true x, leafR false x, leafR true x, leafR false x]) := by
  intro j hj
  simp only [rsFour, List.length_cons, List.length_nil] at hj
  match j, hj with
  | 0, _ => exact ⟨rfl, rfl, rfl⟩
  | 1, _ => exact ⟨rfl, rfl, rfl⟩
  | 2, _ => exact ⟨rfl, rfl, rfl⟩
  | 3, _ => exact ⟨rfl, rfl, rfl⟩
  | 4, _ => exact ⟨rfl, rfl, rfl⟩
  | 5, _ => exact ⟨rfl, rfl, rfl⟩
  | 6, _ => exact ⟨rfl, rfl, rfl⟩
theorem lies_three (g : Nat) : Lies3 (cellsT g) (rsFour g []) := by
  intro j hj
  simp only [rsFour, List.length_cons, List.length_nil] at hj
  match j, hj with
  | 0, _ => exact ⟨rfl, rfl, rfl⟩
  | 1, _ => exact ⟨rfl, rfl, rfl⟩
  | 2, _ => exact ⟨rfl, rfl, rfl⟩
set_option maxHeartbeats 1000000 in
theorem impl_four (A : Option Addr) (n c : Nat) (zs : List Int) (x : Int) (w : World) (hn : zs.length = n) (hnc : n ≤ c) (hn2 : n ≤ 1048576) (hz : Fits zs) (hss : IntsAt w w.heap.size .i64 A zs) :
    Calls Try.prog 24 #[.slice A n c, .int .i64 x] w (IsNLB w.heap.size (fourF zs x) (chB zs 4 x) w) := by
  have HC := Lib.hid (impl_ch A n c 4 zs x w hn hnc hn2 (by omega) hz hss)
  obtain ⟨R, hR⟩ : ∃ R, R = fourF zs x := ⟨_, rfl⟩
  rw [← hR]
  have HR := Lib.hid hR
  clear hR hn hss hz
  cases hch : chB zs 4 x with
  | false =>
    have HF := Lib.hid (show R = [] by rw [HR.out]; unfold fourF; rw [hch]; rfl)
    rw [hch] at HC
    clear hch
    go_enter Try.func24, Try.ntmps24
    go_wp2_with fail
    refine HC.out.mono ?_
    rintro e w' ⟨rfl, rfl⟩
    go_wp2
    go_ret2
    rw [HF.out]
    exact no_nlb w _
  | true =>
    have HF := Lib.hid (show R = fourL x by rw [HR.out]; unfold fourF; rw [hch]; rfl)
    rw [hch] at HC
    clear hch
    go_enter Try.func24, Try.ntmps24
    go_wp2_with fail
    refine HC.out.mono ?_
    rintro e w' ⟨rfl, rfl⟩
    obtain ⟨a0, a1, hb0, hs0⟩ := two_at w #[.string ⟨#[]⟩, .slice none 0 0, .int .i64 0] #[.string ⟨#[]⟩, .slice none 0 0, .int .i64 0] 37 37
    obtain ⟨W, hW⟩ : ∃ W, (w.alloc (.cells #[.string ⟨#[]⟩, .slice none 0 0, .int .i64 0] 37)).alloc (.cells #[.string ⟨#[]⟩, .slice none 0 0, .int .i64 0] 37) = W := ⟨_, rfl⟩
    rw [hW] at a0 a1 hb0 hs0
    obtain ⟨b0, g0⟩ := put3 (x := .string sYours) (y := .slice none 0 0) (z := .int .i64 x) a0
    obtain ⟨W2, hW2⟩ : ∃ W2, ((W.setCell ⟨w.heap.size, 0, none⟩ (.string sYours)).setCell ⟨w.heap.size, 1, none⟩ (.slice none 0 0)).setCell ⟨w.heap.size, 2, none⟩ (.int .i64 x) = W2 := ⟨_, rfl⟩
    rw [hW2] at b0 g0
    have b1 := (g0.block (w.heap.size + 1) (by omega) (by simp)).trans a1
    obtain ⟨c1, g1⟩ := put3 (x := .string sAway) (y := .slice none 0 0) (z := .int .i64 x) b1
    obtain ⟨W3, hW3⟩ : ∃ W3, ((W2.setCell ⟨w.heap.size + 1, 0, none⟩ (.string sAway)).setCell ⟨w.heap.size + 1, 1, none⟩ (.slice none 0 0)).setCell ⟨w.heap.size + 1, 2, none⟩ (.int .i64 x) = W3 := ⟨_, rfl⟩
    rw [hW3] at c1 g1
    have hsz2 := g0.size
    have hsz3 := g1.size
    have c0 := (g1.block w.heap.size (by omega) (by simp)).trans b0
    have hb3 := (hb0.grown g0 (by omega) (fun k hk => by simp only [Option.some.injEq] at hk; omega)).grown g1 (by omega) (fun k hk => by simp only [Option.some.injEq] at hk; omega)
    have hT := three_of w W3 hb3
    obtain ⟨p0, p1, p2⟩ := cell3 a0
    obtain ⟨q0, q1, q2⟩ := cell3 b1
    have f0 := frz a0 0
    have f1 := frz a0 1
    have f2 := frz a0 2
    have k0 := frz b1 0
    have k1 := frz b1 1
    have k2 := frz b1 2
    obtain ⟨W4, hW4⟩ : ∃ W4, ((W3.alloc (.cells #[.int .i64 1, .int .i64 2] 3)).alloc (.cells #[.int .i64 3, .int .i64 4] 3)).alloc (.cells #[.int .i64 5, .int .i64 6] 3) = W4 := ⟨_, rfl⟩
    have hb4 : Below W3.heap.size W3 W4 := by rw [← hW4]; exact (((Below.refl _ W3).alloc (Nat.le_refl _) _).alloc (by simp) _).alloc (by simp; omega) _
    rw [hW4] at hT
    have d0 := (hb4.block w.heap.size (by omega)).trans c0
    have d1 := (hb4.block (w.heap.size + 1) (by omega)).trans c1
    obtain ⟨x0, x1, x2⟩ := cell3 d0
    obtain ⟨y0, y1, y2⟩ := cell3 d1
    have HN := Lib.hid (nrow_four hT (cellsT W3.heap.size ++ leavesV x).toArray 7 [leafR true x, leafR false x, leafR true x, leafR false x] (by
      intro r hr
      simp only [List.mem_cons, List.not_mem_nil, or_false] at hr
      rcases hr with rfl | rfl | rfl | rfl <;> exact ⟨rfl, rfl, rfl⟩) rfl (by omega) rfl (lies_four W3.heap.size x))
    have HB := Lib.hid (hT.1.trans ((box_below W4 (.cells (cellsT W3.heap.size ++ leavesV x).toArray 37)).mono hT.1.size))
    clear a0 a1 b0 b1 c0 c1 d0 d1 g0 g1 hb0 hb3 hb4 hT hsz2 hsz3 hs0
    unfold sYours at hW2 x0
    unfold sAway at hW3 y0
    go_wp2
    go_ret2
    rw [HF.out]
    exact ⟨_, 7, _, rfl, four_nv _ x, HN.out, HB.out⟩
theorem four_next {k : Nat} (x : Int) (h : k < 4) : (fourL x).take (3 + (k + 1)) = (fourL x).take (3 + k) ++ [⟨sayF (decide (k % 2 = 0)), [], x⟩] := by
  match k, h with
  | 0, _ => rfl
  | 1, _ => rfl
  | 2, _ => rfl
  | 3, _ => rfl
set_option maxHeartbeats 1000000 in
theorem spec_four (A : Option Addr) (n c : Nat) (zs : List Int) (x : Int) (w : World) (hn : zs.length = n) (hnc : n ≤ c) (hn2 : n ≤ 1048576) (hz : Fits zs) (hss : IntsAt w w.heap.size .i64 A zs) :
    Calls Try.prog 42 #[.slice A n c, .int .i64 x] w (IsNLB w.heap.size (fourF zs x) (chB zs 4 x) w) := by
  have HC := Lib.hid (spec_ch A n c 4 zs x w hn hnc hn2 (by omega) hz hss)
  obtain ⟨R, hR⟩ : ∃ R, R = fourF zs x := ⟨_, rfl⟩
  rw [← hR]
  have HR := Lib.hid hR
  clear hR hn hss hz
  cases hch : chB zs 4 x with
  | false =>
    have HF := Lib.hid (show R = [] by rw [HR.out]; unfold fourF; rw [hch]; rfl)
    rw [hch] at HC
    clear hch
    go_enter Try.func42, Try.ntmps42
    go_wp2_with fail
    refine HC.out.mono ?_
    rintro e w' ⟨rfl, rfl⟩
    go_wp2
    go_ret2
    rw [HF.out]
    exact no_nlb w _
  | true =>
    have HF := Lib.hid (show R = fourL x by rw [HR.out]; unfold fourF; rw [hch]; rfl)
    rw [hch] at HC
    clear hch
    have hT := three_of w w (Below.refl _ w)
    obtain ⟨i0, hi, hz0, hz1, hz2⟩ := node_parts
    obtain ⟨W4, hW4⟩ : ∃ W4, ((w.alloc (.cells #[.int .i64 1, .int .i64 2] 3)).alloc (.cells #[.int .i64 3, .int .i64 4] 3)).alloc (.cells #[.int .i64 5, .int .i64 6] 3) = W4 := ⟨_, rfl⟩
    rw [hW4] at hT
    have hs4 : W4.heap.size = w.heap.size + 1 + 1 + 1 := by rw [← hW4]; simp
    have hN := nrow_four hT (cellsT w.heap.size).toArray 3 [] (fun r hr => by cases hr) rfl (by omega) rfl (lies_three w.heap.size)
    have hB := hT.1.trans ((box_below W4 (.cells (cellsT w.heap.size).toArray 37)).mono hT.1.size)
    obtain ⟨W5, hW5⟩ : ∃ W5, W4.alloc (.cells (cellsT w.heap.size).toArray 37) = W5 := ⟨_, rfl⟩
    rw [hW5] at hN hB
    have HP0 := Lib.hid hN
    have HB0 := Lib.hid hB
    have HV0 := Lib.hid (show (rsFour w.heap.size []).map NR.nv = (fourL x).take (3 + 0) from rfl)
    rw [hs4] at HP0
    unfold cellsT sTake sKeep sPut at hW5
    rw [← hW4] at hW5
    clear hT hN hB hW4 hs4
    go_enter Try.func42, Try.ntmps42
    go_wp2_with fail
    refine HC.out.mono ?_
    rintro e w' ⟨rfl, rfl⟩
    go_wp2
    clear hW5
    go_loopw [6, 7] (fun s i wr => ∃ (k N : Nat) (A6 : Option Addr) (c6 : Nat) (rs : List NR), k ≤ 4 ∧ N ≤ k + 3 ∧ i = .int .i64 k ∧ s = .slice A6 N c6 ∧ Hid (NRow wr w.heap.size wr.heap.size A6 N c6 rs) ∧ Hid (rs.map NR.nv = (fourL x).take (3 + k)) ∧ Hid (Below w.heap.size w wr)) (fun _ i _ => 4 - (intOf i).toNat)
    case atStart => exact ⟨0, 3, _, _, _, Nat.zero_le _, Nat.le_refl _, rfl, rfl, HP0, HV0, HB0⟩
    case round =>
      obtain ⟨k, N, A6, c6, rs, hk, hN, rfl, rfl, HP, HV, HB⟩ := hrel
      clear HP0 HB0 HV0
      by_cases hlt : k < 4
      · have HNK := Lib.hid (four_next (k := k) x hlt)
        obtain ⟨xs, own, lies⟩ := HP.out.1.1
        have hs := HB.out.size
        have happ := fun (S : ByteArray) (g c' : Nat) (w' : World) (ho : w'.ownsRow w.heap.size 37 3 (.slice (some ⟨g, 0, none⟩) (N + 1) c') (N + 1) (xs ++ [.string S, .slice none 0 0, .int .i64 x])) (hg : wr.grownBy w' (A6.map (·.block))) => NRow.app HP.out own lies ho hg
        have HAPP := Lib.hid happ
        have HOWN := Lib.hid own
        have HLO := Lib.hid HP.out.1.outlo
        clear happ own lies
        obtain ⟨b, hb⟩ : ∃ b, b = decide (k % 2 = 0) := ⟨_, rfl⟩
        have hbm : ((k : Int) % 2 == 0) = b := by
          rw [hb]
          by_cases h : k % 2 = 0
          · rw [decide_eq_true h]; simp; omega
          · rw [decide_eq_false h]; simp; omega
        rw [← hb] at HNK
        clear hb
        have hk0 : (0 : Int) ≤ (k : Int) := by omega
        go_wp2_with fail
        (try rw [Int.tmod_eq_emod_of_nonneg hk0])
        (try rw [hbm])
        refine (say_any b _).mono ?_
        rintro e w' ⟨rfl, rfl⟩
        generalize sayF b = S at *
        go_wp2_with (refine Wid.app_wide rfl (.tmp 23) (.tmp 30) 23 rfl w.heap.size 37 i0 _ 3 48 Try.underlying23 hi hz0 hz1 hz2 (by omega) rfl (by omega) A6 c6 N _ rfl HOWN.out #[.string S, .slice none 0 0, .int .i64 x] rfl (by simp [Value.oneCell']) _ rfl rfl (by omega) hs ?_)
        rintro g c' w6 ho hg
        have HQ := Lib.hid (HAPP.out S g c' w6 ho hg)
        have HB6 := Lib.hid (HB.out.grown hg hs HLO.out)
        have HV6 := Lib.hid (show (rs ++ [(⟨S, none, 0, [], x⟩ : NR)]).map NR.nv = (fourL x).take (3 + (k + 1)) by rw [List.map_append, HV.out, HNK.out]; rfl)
        clear ho hg HAPP HB HP HV
        go_wp2
        go_roundw
        case rel => exact ⟨k + 1, N + 1, _, _, _, by omega, by omega, by go_num, rfl, HQ, HV6, HB6⟩
        case measure => simp [intOf]; omega
      · have hk2 : k = 4 := by omega
        subst hk2
        have HLN := Lib.hid (nrow_nv HP.out HV.out)
        clear hlt
        go_wp2
        go_ret2
        rw [HF.out]
        refine ⟨A6, c6, rs, ?_, HV.out, ?_, HB.out⟩
        · rw [show (fourL x).length = N from HLN.out]; rfl
        · rw [show (fourL x).length = N from HLN.out]; exact HP.out
theorem pair_big (zs : List Int) (x : Int) : BigN (pairF zs x) := by
  unfold pairF
  split
  · rename_i h
    have hl := (ch_in h).1
    match zs, hl with
    | [a, b], _ => unfold BigN pairTo; simp [nsum]
  · unfold BigN; decide
theorem four_big (zs : List Int) (x : Int) : BigN (fourF zs x) := by
  unfold fourF
  split
  · unfold BigN fourL; simp [nsum]
  · unfold BigN; decide
end Go.Proofs.Ytjmfdflhplobmaa.Pff
