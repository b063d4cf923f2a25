/- The forces with two and with four objects: PairForce and FourForce of the program and of the model. -/
import Derived.Test.YtjmfdflhplobmaaObc
import Derived.Test.YtjmfdflhplobmaaNom
import Derived.Test.YtjmfdflhplobmaaWid
set_option linter.unusedVariables false
set_option maxRecDepth 20000
namespace Go.Proofs.Ytjmfdflhplobmaa.Pfo
open Go.RowKit Fr _root_.Go.Proofs.Ytjmfdflhplobmaa.Own Pk Ins Rws Fpl Nod Nom Obc

def sPoint : ByteArray := ⟨#[112, 111, 105, 110, 116, 32, 97, 116, 32, 111, 110, 101]⟩
def sYours : ByteArray := ⟨#[121, 111, 117, 114, 115]⟩
def sAway : ByteArray := ⟨#[112, 117, 116, 32, 105, 116, 32, 97, 119, 97, 121]⟩
def sTake : ByteArray := ⟨#[116, 97, 107, 101, 32, 116, 119, 111]⟩
def sKeep : ByteArray := ⟨#[107, 101, 101, 112, 32, 116, 104, 101, 109, 44, 32, 112, 111, 105, 110, 116, 32, 97, 116, 32, 111, 110, 101]⟩
def sPut : ByteArray := ⟨#[112, 117, 116, 32, 116, 104, 101, 109, 32, 97, 119, 97, 121, 44, 32, 112, 111, 105, 110, 116, 32, 97, 116, 32, 111, 110, 101]⟩
def sayF (b : Bool) : ByteArray := if b then sYours else sAway
def pairTo (zs : List Int) (x : Int) (k : Nat) : List NV := ⟨sPoint, [1, 2], 0⟩ :: (zs.take k).map fun y => ⟨sayF (decide (y = x)), [], x⟩
def pairF (zs : List Int) (x : Int) : List NV := if chB zs 2 x then pairTo zs x zs.length else []
def fourL (x : Int) : List NV := [⟨sTake, [1, 2], 0⟩, ⟨sKeep, [3, 4], 0⟩, ⟨sPut, [5, 6], 0⟩, ⟨sYours, [], x⟩, ⟨sAway, [], x⟩, ⟨sYours, [], x⟩, ⟨sAway, [], x⟩]
def fourF (zs : List Int) (x : Int) : List NV := if chB zs 4 x then fourL x else []
theorem pair_next {zs : List Int} {x : Int} {k : Nat} (h : k < zs.length) : pairTo zs x (k + 1) = pairTo zs x k ++ [⟨sayF (decide (zs.getD k 0 = x)), [], x⟩] := by
  unfold pairTo
  rw [List.take_succ_eq_append_getElem h, List.map_append, List.getD_eq_getElem?_getD, List.getElem?_eq_getElem h]
  simp
/-- a call hands back a list of nodes in memory of its own and a bool, and writes nothing old -/
def IsNLB (B : Nat) (L : List NV) (b : Bool) (w : World) (e : Ending) (w' : World) : Prop :=
  ∃ A c rs, e = .returned (.tuple #[.slice A L.length c, .bool b]) ∧ rs.map NR.nv = L ∧ NRow w' B w'.heap.size A L.length c rs ∧ Below B w w'
theorem nrow_nil (W : World) (B : Nat) : NRow W B W.heap.size none 0 0 [] :=
  ⟨⟨⟨[], World.ownsRow_nil _ _ _ _, fun j hj => absurd hj (Nat.not_lt_zero _)⟩, fun i hi => absurd hi (Nat.not_lt_zero _), fun i j hi => absurd hi (Nat.not_lt_zero _), (fun a e => by cases e), Nat.le_refl _⟩, rfl⟩
theorem no_nlb (w : World) (B : Nat) : IsNLB B [] false w (.returned (.tuple #[.slice none 0 0, .bool false])) w := ⟨none, 0, [], rfl, rfl, nrow_nil w B, Below.refl _ _⟩
theorem lies_app {xs cs : List Value} {rs : List NR} {r : NR} (h : Lies3 xs rs) (hl : xs.length = rs.length * 3) (hc : cs = [.string r.say, r.sv, .int .i64 r.fin]) : Lies3 (xs ++ cs) (rs ++ [r]) := by
  subst hc
  intro j hj
  rw [List.length_append, List.length_singleton] at hj
  by_cases e : j = rs.length
  · subst e
    rw [getD_new, List.getElem?_append_right (by omega), List.getElem?_append_right (by omega), List.getElem?_append_right (by omega), hl, Nat.sub_self, show rs.length * 3 + 1 - rs.length * 3 = 1 by omega, show rs.length * 3 + 2 - rs.length * 3 = 2 by omega]
    exact ⟨rfl, rfl, rfl⟩
  · rw [getD_app rs r j (by omega), List.getElem?_append_left (by omega), List.getElem?_append_left (by omega), List.getElem?_append_left (by omega)]
    exact h j (by omega)
/-- a leaf more -/
theorem NRow.app {W W' : World} {lo hi n c c' g : Nat} {A : Option Addr} {rs : List NR} (h : NRow W lo hi A n c rs) {s : ByteArray} {x : Int} {xs : List Value} (hx : W.ownsRow lo 37 3 (.slice A n c) n xs) (hxl : Lies3 xs rs)
    (ho : W'.ownsRow lo 37 3 (.slice (some ⟨g, 0, none⟩) (n + 1) c') (n + 1) (xs ++ [.string s, .slice none 0 0, .int .i64 x])) (hg : W.grownBy W' (A.map (·.block))) :
    NRow W' lo W'.heap.size (some ⟨g, 0, none⟩) (n + 1) c' (rs ++ [⟨s, none, 0, [], x⟩]) := by
  have hl := h.2
  have hxx := hx.1
  have hsz := hg.size
  have hh := h.1.2.2.2.2
  refine ⟨⟨⟨_, ho, lies_app hxl (by omega) rfl⟩, fun i hi' => ?_, fun i j hi' hj hne b hb => ?_, fun a e => ?_, Nat.le_refl _⟩, by rw [List.length_append, hl]; rfl⟩
  · rw [List.length_append, List.length_singleton] at hi'
    by_cases e : i = rs.length
    · rw [e, getD_new]
      exact ⟨World.ownsRow_nil _ _ _ _, (fun a e => by cases e), Nat.le_refl _⟩
    · rw [getD_app rs _ i (by omega)]
      have hr := h.1.2.1 i (by omega)
      exact ⟨own_gr hr.1 hg (fun q hq e => own_diff hx hr.1 (by decide) q e hq), fun a e => Nat.lt_of_lt_of_le (hr.2.1 a e) (by omega), Nat.le_refl _⟩
  · rw [List.length_append, List.length_singleton] at hi' hj
    by_cases e : i = rs.length
    · rw [e, getD_new] at hb
      cases hb
    · rw [getD_app rs _ i (by omega)] at hb
      by_cases e2 : j = rs.length
      · rw [e2, getD_new]
        intro h; cases h
      · rw [getD_app rs _ j (by omega)]
        exact h.1.2.2.1 i j (by omega) (by omega) hne b hb
  · have := (ho.lt g rfl).2
    simp only [Option.some.injEq] at e
    subst e
    exact this
/-- the first node, with a list of its own -/
theorem first_pair (w : World) : NRow ((w.alloc (.cells #[.int .i64 1, .int .i64 2] 3)).alloc (.cells #[.string sPoint, .slice (some ⟨w.heap.size, 0, none⟩) 2 2, .int .i64 0] 37)) w.heap.size ((w.alloc (.cells #[.int .i64 1, .int .i64 2] 3)).alloc (.cells #[.string sPoint, .slice (some ⟨w.heap.size, 0, none⟩) 2 2, .int .i64 0] 37)).heap.size
    (some ⟨w.heap.size + 1, 0, none⟩) 1 1 [⟨sPoint, some ⟨w.heap.size, 0, none⟩, 2, [1, 2], 0⟩] := by
  have hs1 : (w.alloc (.cells #[.int .i64 1, .int .i64 2] 3)).heap.size = w.heap.size + 1 := by simp
  have h1 := World.ownsRow_lit (base := w.heap.size) (e := 3) (size := 1) w #[.int .i64 1, .int .i64 2] 2 (Nat.le_refl _) (by decide) rfl
  have h2 := World.ownsRow_lit (base := w.heap.size) (e := 37) (size := 3) (w.alloc (.cells #[.int .i64 1, .int .i64 2] 3)) #[.string sPoint, .slice (some ⟨w.heap.size, 0, none⟩) 2 2, .int .i64 0] 1 (by omega) (by decide) rfl
  rw [hs1] at h2
  have hb := box_below (w.alloc (.cells #[.int .i64 1, .int .i64 2] 3)) (.cells #[.string sPoint, .slice (some ⟨w.heap.size, 0, none⟩) 2 2, .int .i64 0] 37)
  have h1' := own_below h1 hb
  refine ⟨⟨⟨_, h2, fun j hj => ?_⟩, fun i hi => ?_, fun i j hi hj hne => ?_, fun a e => ?_, Nat.le_refl _⟩, rfl⟩
  · obtain rfl : j = 0 := by simp at hj; exact hj
    exact ⟨rfl, rfl, rfl⟩
  · obtain rfl : i = 0 := by simp at hi; exact hi
    exact Row.mk h1'
  · simp at hi hj; omega
  · simp only [Option.some.injEq] at e
    subst e
    simp
theorem nrow_nv {W : World} {lo hi n c : Nat} {A : Option Addr} {rs : List NR} {L : List NV} (h : NRow W lo hi A n c rs) (hl : rs.map NR.nv = L) : L.length = n := by
  rw [← hl, List.length_map]; exact h.2
theorem say_any (b : Bool) (w : World) : Calls Try.prog 65 #[.bool b] w fun e w' => e = .returned (.string (sayF b)) ∧ w = w' := by
  cases b with
  | true =>
    go_enter Try.func65, Try.ntmps65
    go_wp2
    go_ret
    exact ⟨rfl, rfl⟩
  | false =>
    go_enter Try.func65, Try.ntmps65
    go_wp2
    go_ret
    exact ⟨rfl, rfl⟩
set_option maxHeartbeats 1000000 in
theorem impl_pair (A : Option Addr) (n c : Nat) (zs : List Int) (x : Int) (w : World) (hn : zs.length = n) (hnc : n ≤ c) (hn2 : n ≤ 1048576) (hz : Fits zs) (hss : IntsAt w w.heap.size .i64 A zs) :
    Calls Try.prog 25 #[.slice A n c, .int .i64 x] w (IsNLB w.heap.size (pairF zs x) (chB zs 2 x) w) := by
  have HC := Lib.hid (impl_ch A n c 2 zs x w hn hnc hn2 (by omega) hz hss)
  have HN := Lib.hid hn
  have HSS := Lib.hid hss
  obtain ⟨R, hR⟩ : ∃ R, R = pairF zs x := ⟨_, rfl⟩
  rw [← hR]
  have HR := Lib.hid hR
  clear hR hn hss
  cases hch : chB zs 2 x with
  | false =>
    have HF := Lib.hid (show R = [] by rw [HR.out]; unfold pairF; rw [hch]; rfl)
    rw [hch] at HC
    clear hch
    go_enter Try.func25, Try.ntmps25
    go_wp2_with fail
    refine HC.out.mono ?_
    rintro e w' ⟨rfl, rfl⟩
    go_wp2
    go_ret2
    rw [HF.out]
    exact no_nlb w _
  | true =>
    have HF := Lib.hid (show R = pairTo zs x 2 by rw [HR.out]; unfold pairF; rw [hch, (ch_in hch).1]; rfl)
    have hn2' : n = 2 := by have := (ch_in hch).1; have := HN.out; omega
    have HNX := Lib.hid (fun k => @pair_next zs x k)
    rw [hch] at HC
    have HP0 := Lib.hid (first_pair w)
    have HB0 := Lib.hid (((Below.refl _ w).alloc (Nat.le_refl _) (.cells #[.int .i64 1, .int .i64 2] 3)).alloc (by simp) (.cells #[.string sPoint, .slice (some ⟨w.heap.size, 0, none⟩) 2 2, .int .i64 0] 37))
    unfold sPoint at HP0 HB0
    obtain ⟨i0, hi, hz0, hz1, hz2⟩ := node_parts
    subst hn2'
    clear hch hz
    go_enter Try.func25, Try.ntmps25
    go_wp2_with fail
    refine HC.out.mono ?_
    rintro e w' ⟨rfl, rfl⟩
    go_wp2
    generalize (w.alloc _).alloc _ = w1 at *
    go_loopw [6, 8, 9, 19] (fun s _ _ i wr => ∃ (k N : Nat) (A6 : Option Addr) (c6 : Nat) (rs : List NR), k ≤ 2 ∧ N ≤ k + 1 ∧ i = .int .i64 k ∧ s = .slice A6 N c6 ∧ Hid (NRow wr w.heap.size wr.heap.size A6 N c6 rs) ∧ Hid (rs.map NR.nv = pairTo zs x k) ∧ Hid (Below w.heap.size w wr)) (fun _ _ _ i _ => 2 - (intOf i).toNat)
    case atStart => exact ⟨0, 1, _, _, _, Nat.zero_le _, Nat.le_refl _, rfl, rfl, HP0, Lib.hid rfl, HB0⟩
    case round =>
      obtain ⟨k, N, A6, c6, rs, hk, hN, rfl, rfl, HP, HV, HB⟩ := hrel
      clear HP0 HB0
      by_cases hlt : k < 2
      · obtain ⟨b, o, rfl, hbb, hc⟩ := (HSS.out.below HB.out) k (by rw [HN.out]; exact hlt)
        have HNK := Lib.hid (HNX.out k (by rw [HN.out]; exact hlt))
        generalize zs.getD k 0 = y at hc HNK
        obtain ⟨xs, own, lies⟩ := HP.out.1.1
        have hs := HB.out.size
        have happ := fun (S : ByteArray) (g c' : Nat) (w' : World) (ho : w'.ownsRow w.heap.size 37 3 (.slice (some ⟨g, 0, none⟩) (N + 1) c') (N + 1) (xs ++ [.string S, .slice none 0 0, .int .i64 x])) (hg : wr.grownBy w' (A6.map (·.block))) => NRow.app HP.out own lies ho hg
        have HAPP := Lib.hid happ
        have HOWN := Lib.hid own
        have HLO := Lib.hid HP.out.1.outlo
        clear happ own lies
        by_cases hyx : y = x
        · have hyx' : (y == x) = true := by simpa using hyx
          have HE := Lib.hid (show pairTo zs x (k + 1) = pairTo zs x k ++ [⟨sYours, [], x⟩] by rw [HNK.out, decide_eq_true hyx]; rfl)
          clear HNK hyx
          go_wp2_with (refine Wid.app_wide rfl (.tmp 26) (.tmp 30) 23 rfl w.heap.size 37 i0 _ 3 48 Try.underlying23 hi hz0 hz1 hz2 (by omega) rfl (by omega) A6 c6 N _ rfl HOWN.out #[.string sYours, .slice none 0 0, .int .i64 x] rfl (by simp [Value.oneCell']) _ rfl rfl (by omega) hs ?_)
          rintro g c' w6 ho hg
          have HQ := Lib.hid (HAPP.out sYours g c' w6 ho hg)
          have HB6 := Lib.hid (HB.out.grown hg hs HLO.out)
          have HV6 := Lib.hid (show (rs ++ [(⟨sYours, none, 0, [], x⟩ : NR)]).map NR.nv = pairTo zs x (k + 1) by rw [List.map_append, HV.out, HE.out]; rfl)
          clear ho hg HAPP HB HP HV
          go_wp2
          go_roundw
          case rel => exact ⟨k + 1, N + 1, _, _, _, by omega, by omega, by go_num, rfl, HQ, HV6, HB6⟩
          case measure => simp [intOf]; omega
        · have hyx' : (y == x) = false := by simpa using hyx
          have HE := Lib.hid (show pairTo zs x (k + 1) = pairTo zs x k ++ [⟨sAway, [], x⟩] by rw [HNK.out, decide_eq_false hyx]; rfl)
          clear HNK hyx
          go_wp2_with (refine Wid.app_wide rfl (.tmp 26) (.tmp 30) 23 rfl w.heap.size 37 i0 _ 3 48 Try.underlying23 hi hz0 hz1 hz2 (by omega) rfl (by omega) A6 c6 N _ rfl HOWN.out #[.string sAway, .slice none 0 0, .int .i64 x] rfl (by simp [Value.oneCell']) _ rfl rfl (by omega) hs ?_)
          rintro g c' w6 ho hg
          have HQ := Lib.hid (HAPP.out sAway g c' w6 ho hg)
          have HB6 := Lib.hid (HB.out.grown hg hs HLO.out)
          have HV6 := Lib.hid (show (rs ++ [(⟨sAway, none, 0, [], x⟩ : NR)]).map NR.nv = pairTo zs x (k + 1) by rw [List.map_append, HV.out, HE.out]; rfl)
          clear ho hg HAPP HB HP HV
          go_wp2
          go_roundw
          case rel => exact ⟨k + 1, N + 1, _, _, _, by omega, by omega, by go_num, rfl, HQ, HV6, HB6⟩
          case measure => simp [intOf]; omega
      · have hk2 : k = 2 := by omega
        subst hk2
        have HLN := Lib.hid (nrow_nv HP.out HV.out)
        clear hlt
        go_wp2
        go_ret2
        rw [HF.out]
        refine ⟨A6, c6, rs, ?_, HV.out, ?_, HB.out⟩
        · rw [HLN.out]; rfl
        · rw [HLN.out]; exact HP.out
set_option maxHeartbeats 1000000 in
theorem spec_pair (A : Option Addr) (n c : Nat) (zs : List Int) (x : Int) (w : World) (hn : zs.length = n) (hnc : n ≤ c) (hn2 : n ≤ 1048576) (hz : Fits zs) (hss : IntsAt w w.heap.size .i64 A zs) :
    Calls Try.prog 40 #[.slice A n c, .int .i64 x] w (IsNLB w.heap.size (pairF zs x) (chB zs 2 x) w) := by
  have HC := Lib.hid (spec_ch A n c 2 zs x w hn hnc hn2 (by omega) hz hss)
  have HN := Lib.hid hn
  have HSS := Lib.hid hss
  obtain ⟨R, hR⟩ : ∃ R, R = pairF zs x := ⟨_, rfl⟩
  rw [← hR]
  have HR := Lib.hid hR
  clear hR hn hss
  cases hch : chB zs 2 x with
  | false =>
    have HF := Lib.hid (show R = [] by rw [HR.out]; unfold pairF; rw [hch]; rfl)
    rw [hch] at HC
    clear hch
    go_enter Try.func40, Try.ntmps40
    go_wp2_with fail
    refine HC.out.mono ?_
    rintro e w' ⟨rfl, rfl⟩
    go_wp2
    go_ret2
    rw [HF.out]
    exact no_nlb w _
  | true =>
    have HF := Lib.hid (show R = pairTo zs x 2 by rw [HR.out]; unfold pairF; rw [hch, (ch_in hch).1]; rfl)
    have hn2' : n = 2 := by have := (ch_in hch).1; have := HN.out; omega
    have HNX := Lib.hid (fun k => @pair_next zs x k)
    rw [hch] at HC
    have HP0 := Lib.hid (first_pair w)
    have HB0 := Lib.hid (((Below.refl _ w).alloc (Nat.le_refl _) (.cells #[.int .i64 1, .int .i64 2] 3)).alloc (by simp) (.cells #[.string sPoint, .slice (some ⟨w.heap.size, 0, none⟩) 2 2, .int .i64 0] 37))
    unfold sPoint at HP0 HB0
    obtain ⟨i0, hi, hz0, hz1, hz2⟩ := node_parts
    subst hn2'
    clear hch hz
    go_enter Try.func40, Try.ntmps40
    go_wp2_with fail
    refine HC.out.mono ?_
    rintro e w' ⟨rfl, rfl⟩
    go_wp2
    generalize (w.alloc _).alloc _ = w1 at *
    go_loopw [6, 8, 18] (fun s _ i wr => ∃ (k N : Nat) (A6 : Option Addr) (c6 : Nat) (rs : List NR), k ≤ 2 ∧ N ≤ k + 1 ∧ i = .int .i64 k ∧ s = .slice A6 N c6 ∧ Hid (NRow wr w.heap.size wr.heap.size A6 N c6 rs) ∧ Hid (rs.map NR.nv = pairTo zs x k) ∧ Hid (Below w.heap.size w wr)) (fun _ _ i _ => 2 - (intOf i).toNat)
    case atStart => exact ⟨0, 1, _, _, _, Nat.zero_le _, Nat.le_refl _, rfl, rfl, HP0, Lib.hid rfl, HB0⟩
    case round =>
      obtain ⟨k, N, A6, c6, rs, hk, hN, rfl, rfl, HP, HV, HB⟩ := hrel
      clear HP0 HB0
      by_cases hlt : k < 2
      · obtain ⟨b, o, rfl, hbb, hc⟩ := (HSS.out.below HB.out) k (by rw [HN.out]; exact hlt)
        have HNK := Lib.hid (HNX.out k (by rw [HN.out]; exact hlt))
        generalize zs.getD k 0 = y at hc HNK
        obtain ⟨xs, own, lies⟩ := HP.out.1.1
        have hs := HB.out.size
        have happ := fun (S : ByteArray) (g c' : Nat) (w' : World) (ho : w'.ownsRow w.heap.size 37 3 (.slice (some ⟨g, 0, none⟩) (N + 1) c') (N + 1) (xs ++ [.string S, .slice none 0 0, .int .i64 x])) (hg : wr.grownBy w' (A6.map (·.block))) => NRow.app HP.out own lies ho hg
        have HAPP := Lib.hid happ
        have HOWN := Lib.hid own
        have HLO := Lib.hid HP.out.1.outlo
        clear happ own lies
        by_cases hyx : y = x
        · have hyx' : (y == x) = true := by simpa using hyx
          have HE := Lib.hid (show pairTo zs x (k + 1) = pairTo zs x k ++ [⟨sYours, [], x⟩] by rw [HNK.out, decide_eq_true hyx]; rfl)
          clear HNK hyx
          go_wp2_with fail
          refine (say_any true _).mono ?_
          rintro e w' ⟨rfl, rfl⟩
          go_wp2_with (refine Wid.app_wide rfl (.tmp 22) (.tmp 29) 23 rfl w.heap.size 37 i0 _ 3 48 Try.underlying23 hi hz0 hz1 hz2 (by omega) rfl (by omega) A6 c6 N _ rfl HOWN.out #[.string sYours, .slice none 0 0, .int .i64 x] rfl (by simp [Value.oneCell']) _ rfl rfl (by omega) hs ?_)
          rintro g c' w6 ho hg
          have HQ := Lib.hid (HAPP.out sYours g c' w6 ho hg)
          have HB6 := Lib.hid (HB.out.grown hg hs HLO.out)
          have HV6 := Lib.hid (show (rs ++ [(⟨sYours, none, 0, [], x⟩ : NR)]).map NR.nv = pairTo zs x (k + 1) by rw [List.map_append, HV.out, HE.out]; rfl)
          clear ho hg HAPP HB HP HV
          go_wp2
          go_roundw
          case rel => exact ⟨k + 1, N + 1, _, _, _, by omega, by omega, by go_num, rfl, HQ, HV6, HB6⟩
          case measure => simp [intOf]; omega
        · have hyx' : (y == x) = false := by simpa using hyx
          have HE := Lib.hid (show pairTo zs x (k + 1) = pairTo zs x k ++ [⟨sAway, [], x⟩] by rw [HNK.out, decide_eq_false hyx]; rfl)
          clear HNK hyx
          go_wp2_with fail
          refine (say_any false _).mono ?_
          rintro e w' ⟨rfl, rfl⟩
          go_wp2_with (refine Wid.app_wide rfl (.tmp 22) (.tmp 29) 23 rfl w.heap.size 37 i0 _ 3 48 Try.underlying23 hi hz0 hz1 hz2 (by omega) rfl (by omega) A6 c6 N _ rfl HOWN.out #[.string sAway, .slice none 0 0, .int .i64 x] rfl (by simp [Value.oneCell']) _ rfl rfl (by omega) hs ?_)
          rintro g c' w6 ho hg
          have HQ := Lib.hid (HAPP.out sAway g c' w6 ho hg)
          have HB6 := Lib.hid (HB.out.grown hg hs HLO.out)
          have HV6 := Lib.hid (show (rs ++ [(⟨sAway, none, 0, [], x⟩ : NR)]).map NR.nv = pairTo zs x (k + 1) by rw [List.map_append, HV.out, HE.out]; rfl)
          clear ho hg HAPP HB HP HV
          go_wp2
          go_roundw
          case rel => exact ⟨k + 1, N + 1, _, _, _, by omega, by omega, by go_num, rfl, HQ, HV6, HB6⟩
          case measure => simp [intOf]; omega
      · have hk2 : k = 2 := by omega
        subst hk2
        have HLN := Lib.hid (nrow_nv HP.out HV.out)
        clear hlt
        go_wp2
        go_ret2
        rw [HF.out]
        refine ⟨A6, c6, rs, ?_, HV.out, ?_, HB.out⟩
        · rw [HLN.out]; rfl
        · rw [HLN.out]; exact HP.out

theorem lit_int (w : World) (a b : Int) : (w.alloc (.cells #[.int .i64 a, .int .i64 b] 3)).ownsRow w.heap.size 3 1 (.slice (some ⟨w.heap.size, 0, none⟩) 2 2) 2 ([a, b].map (Value.int .i64)) :=
  World.ownsRow_lit w #[.int .i64 a, .int .i64 b] 2 (Nat.le_refl _) (by decide) rfl
/-- three lists of two, and a row of nodes that begins with them -/
def Three (w W : World) (g : Nat) : Prop := Below w.heap.size w W ∧ g + 3 ≤ W.heap.size ∧ w.heap.size ≤ g ∧
  W.ownsRow w.heap.size 3 1 (.slice (some ⟨g, 0, none⟩) 2 2) 2 ([(1 : Int), 2].map (Value.int .i64)) ∧
  W.ownsRow w.heap.size 3 1 (.slice (some ⟨g + 1, 0, none⟩) 2 2) 2 ([(3 : Int), 4].map (Value.int .i64)) ∧
  W.ownsRow w.heap.size 3 1 (.slice (some ⟨g + 1 + 1, 0, none⟩) 2 2) 2 ([(5 : Int), 6].map (Value.int .i64))
theorem three_of (w w0 : World) (hb0 : Below w.heap.size w w0) : Three w (((w0.alloc (.cells #[.int .i64 1, .int .i64 2] 3)).alloc (.cells #[.int .i64 3, .int .i64 4] 3)).alloc (.cells #[.int .i64 5, .int .i64 6] 3)) w0.heap.size := by
  have s1 : (w0.alloc (.cells #[.int .i64 1, .int .i64 2] 3)).heap.size = w0.heap.size + 1 := by simp
  have s2 : ((w0.alloc (.cells #[.int .i64 1, .int .i64 2] 3)).alloc (.cells #[.int .i64 3, .int .i64 4] 3)).heap.size = w0.heap.size + 1 + 1 := by simp
  have s3 : (((w0.alloc (.cells #[.int .i64 1, .int .i64 2] 3)).alloc (.cells #[.int .i64 3, .int .i64 4] 3)).alloc (.cells #[.int .i64 5, .int .i64 6] 3)).heap.size = w0.heap.size + 1 + 1 + 1 := by simp
  have l1 := lit_int w0 1 2
  have l2 := lit_int (w0.alloc (.cells #[.int .i64 1, .int .i64 2] 3)) 3 4
  have l3 := lit_int ((w0.alloc (.cells #[.int .i64 1, .int .i64 2] 3)).alloc (.cells #[.int .i64 3, .int .i64 4] 3)) 5 6
  have b1 := box_below w0 (.cells #[.int .i64 1, .int .i64 2] 3)
  have b2 := box_below (w0.alloc (.cells #[.int .i64 1, .int .i64 2] 3)) (.cells #[.int .i64 3, .int .i64 4] 3)
  have b3 := box_below ((w0.alloc (.cells #[.int .i64 1, .int .i64 2] 3)).alloc (.cells #[.int .i64 3, .int .i64 4] 3)) (.cells #[.int .i64 5, .int .i64 6] 3)
  have hs := hb0.size
  rw [s1] at l2
  rw [s2] at l3
  exact ⟨((hb0.trans (b1.mono hs)).trans (b2.mono (by omega))).trans (b3.mono (by omega)), by omega, hs, own_mono (own_below (own_below l1 b2) b3) hs, own_mono (own_below l2 b3) (by omega), own_mono l3 (by omega)⟩
def rsFour (g : Nat) (rest : List NR) : List NR := ⟨sTake, some ⟨g, 0, none⟩, 2, [1, 2], 0⟩ :: ⟨sKeep, some ⟨g + 1, 0, none⟩, 2, [3, 4], 0⟩ :: ⟨sPut, some ⟨g + 1 + 1, 0, none⟩, 2, [5, 6], 0⟩ :: rest
/-- a row of nodes with these three ahead and leaves behind -/
theorem nrow_four {w W : World} {g : Nat} (h : Three w W g) (cs : Array Value) (n : Nat) (rest : List NR) (hrest : ∀ r ∈ rest, r.A = none ∧ r.zs = [] ∧ r.c = 0) (hl : rest.length + 3 = n) (hn : n ≤ 7) (hcs : cs.size = n * 3) (hlies : Lies3 cs.toList (rsFour g rest)) :
    NRow (W.alloc (.cells cs 37)) w.heap.size (W.alloc (.cells cs 37)).heap.size (some ⟨W.heap.size, 0, none⟩) n n (rsFour g rest) := by
  obtain ⟨hb, hg1, hg2, o1, o2, o3⟩ := h
  have hs : (W.alloc (.cells cs 37)).heap.size = W.heap.size + 1 := by simp
  have hbb := box_below W (.cells cs 37)
  have hx := World.ownsRow_lit (base := w.heap.size) (e := 37) (size := 3) W cs n hb.size (by unfold maxLen; omega) hcs
  have hin : ∀ i, i < (rsFour g rest).length → (i = 0 ∧ (rsFour g rest).getD i nr0 = ⟨sTake, some ⟨g, 0, none⟩, 2, [1, 2], 0⟩) ∨ (i = 1 ∧ (rsFour g rest).getD i nr0 = ⟨sKeep, some ⟨g + 1, 0, none⟩, 2, [3, 4], 0⟩) ∨ (i = 2 ∧ (rsFour g rest).getD i nr0 = ⟨sPut, some ⟨g + 1 + 1, 0, none⟩, 2, [5, 6], 0⟩) ∨ (((rsFour g rest).getD i nr0).A = none ∧ ((rsFour g rest).getD i nr0).zs = [] ∧ ((rsFour g rest).getD i nr0).c = 0) := by
    intro i hi
    match i with
    | 0 => exact Or.inl ⟨rfl, rfl⟩
    | 1 => exact Or.inr (Or.inl ⟨rfl, rfl⟩)
    | 2 => exact Or.inr (Or.inr (Or.inl ⟨rfl, rfl⟩))
    | k + 3 =>
      simp only [rsFour, List.length_cons] at hi
      have e : (rsFour g rest).getD (k + 3) nr0 = rest[k]'(by omega) := by
        simp only [rsFour, List.getD_eq_getElem?_getD, List.getElem?_cons_succ, List.getElem?_eq_getElem (show k < rest.length by omega), Option.getD_some]
      rw [e]
      exact Or.inr (Or.inr (Or.inr (hrest _ (List.getElem_mem _))))
  refine ⟨⟨⟨_, hx, hlies⟩, fun i hi => ?_, fun i j hi hj hne b hb1 hb2 => ?_, fun a e => ?_, Nat.le_refl _⟩, by simp only [rsFour, List.length_cons]; omega⟩
  · rcases hin i hi with ⟨_, e⟩ | ⟨_, e⟩ | ⟨_, e⟩ | ⟨e1, e2, e3⟩
    · rw [e]; exact Row.mk (own_below o1 hbb)
    · rw [e]; exact Row.mk (own_below o2 hbb)
    · rw [e]; exact Row.mk (own_below o3 hbb)
    · rw [e1, e2, e3]; exact ⟨World.ownsRow_nil _ _ _ _, (fun a e => by cases e), Nat.le_refl _⟩
  · unfold NR.b at hb1 hb2
    rcases hin i hi with ⟨q, e⟩ | ⟨q, e⟩ | ⟨q, e⟩ | ⟨e, _⟩ <;> rw [e] at hb1 <;> rcases hin j hj with ⟨q2, f⟩ | ⟨q2, f⟩ | ⟨q2, f⟩ | ⟨f, _⟩ <;> rw [f] at hb2 <;> simp at hb1 hb2 <;> omega
  · simp only [Option.some.injEq] at e
    subst e
    show W.heap.size < _
    omega
end Go.Proofs.Ytjmfdflhplobmaa.Pfo
