/- The program's CutStack. -/
import Derived.Test.YtkonakfbidnfhaaSkj
set_option linter.unusedVariables false
set_option maxRecDepth 20000
namespace Go.Proofs.Ytkonakfbidnfhaa.Skk
open Go.RowKit Go.Maps Fr _root_.Go.Proofs.Ytkonakfbidnfhaa.Own Pk Ins Pfn Rws Lb Map Cat Cut Stk Skp Sks Skw Skv Ski Skj

/-- a call hands back a stack whose list lies in memory of its own, and a bool -/
def IsSB (B : Nat) (zs : List Int) (m : Int) (b : Bool) (w : World) (e : Ending) (w' : World) : Prop :=
  ∃ A c, e = .returned (.tuple #[stV A zs.length c m, .bool b]) ∧ w'.ownsRow B 3 1 (.slice A zs.length c) zs.length (zs.map (Value.int .i64)) ∧ Below B w w'
theorem results_cs {P : Program} {fn : Func} {a b : Tmp} {t : TypeId} {p : Addr} {v x : Value} {w : World} (h : fn.results = #[.cell a t, .tmp b]) (tmps : Array Value) (hp : tmps.getD a undef = .pointer (some p)) (hx : tmps.getD b undef = x) (hl : (loadVar t p).run P w = .ok v w) :
    (results fn tmps).run P w = .ok (.tuple #[v, x]) w := by
  have hp2 : tmps[a]?.getD undef = .pointer (some p) := by simpa using hp
  have hx2 : tmps[b]?.getD undef = x := by simpa using hx
  simp [results, h, hp2, hx2, asAddr, hl]
/-- two boxes -/
theorem box2 (w : World) (x y : Value) : ∃ W, W = (w.alloc (.cells #[x, y] 25)).alloc (.cells #[.slice none 0 0, .int .i64 0] 25) ∧ W.heap[w.heap.size]? = some (.cells #[x, y] 25 (0, 0)) ∧ W.heap[w.heap.size + 1]? = some (.cells #[.slice none 0 0, .int .i64 0] 25 (0, 0)) ∧ Below w.heap.size w W ∧ w.heap.size + 1 < W.heap.size := by
  have hs : (w.alloc (.cells #[x, y] 25)).heap.size = w.heap.size + 1 := by simp
  have a0 := heap_alloc_new w (.cells #[x, y] 25)
  have a1 := heap_alloc_new (w.alloc (.cells #[x, y] 25)) (.cells #[.slice none 0 0, .int .i64 0] 25)
  have b1 := box_below (w.alloc (.cells #[x, y] 25)) (.cells #[.slice none 0 0, .int .i64 0] 25)
  rw [hs] at a1 b1
  exact ⟨_, rfl, (b1.block _ (by omega)).trans a0, a1, (box_below w _).trans (b1.mono (by omega)), by simp⟩
/-- what is stored in the second box -/
theorem put_box {w W : World} {p : Nat} {a b x y : Value} (hp : W.heap[p]? = some (.cells #[a, b] 25 (0, 0))) (hB : Below w.heap.size w W) (hwp : w.heap.size ≤ p) :
    (loadVar 25 ⟨p, 0, none⟩).run Try.prog ((W.setCell ⟨p, 0, none⟩ x).setCell ⟨p, 1, none⟩ y) = .ok (.agg #[x, y]) ((W.setCell ⟨p, 0, none⟩ x).setCell ⟨p, 1, none⟩ y) ∧ Below w.heap.size w ((W.setCell ⟨p, 0, none⟩ x).setCell ⟨p, 1, none⟩ y) ∧ W.grownBy ((W.setCell ⟨p, 0, none⟩ x).setCell ⟨p, 1, none⟩ y) (some p) := by
  have hg := (set_grown W p 0 x).trans (set_grown _ p 1 y)
  exact ⟨loadS (put2 hp), hB.grown hg hB.size (fun k hk => by injection hk with hk; omega), hg⟩
theorem cut_no {zs : List Int} {m k : Int} (h : cutB zs m k = false) : cutS zs m k = [] ∧ cutM zs m k = 0 := by unfold cutS cutM; rw [h]; exact ⟨rfl, rfl⟩
theorem cut_yes {zs : List Int} {m k : Int} (h : cutB zs m k = true) : cutS zs m k = cutF zs k.toNat ∧ cutM zs m k = m := by unfold cutS cutM; rw [h]; exact ⟨rfl, rfl⟩
set_option maxHeartbeats 2000000 in
theorem impl_cut (A : Option Addr) (n c : Nat) (zs : List Int) (m k : Int) (w : World) (hn : zs.length = n) (hnc : n ≤ c) (hn2 : n ≤ 1048576) (hz : Fits zs) (hss : IntsAt w w.heap.size .i64 A zs) (h1 : -9223372036854775808 ≤ k) (h2 : k ≤ 9223372036854775807) :
    Calls Try.prog 15 #[stV A n c m, .int .i64 k] w (IsSB w.heap.size (cutS zs m k) (cutM zs m k) (cutB zs m k) w) := by
  obtain ⟨W, hW, c0, c1, hb0, hs1⟩ := box2 w (.slice A n c) (.int .i64 m)
  obtain ⟨ba, bb⟩ := cell2 c0
  have HOK := Lib.hid (Skj.impl_ok A n c zs m W hn hnc hn2 hz ((hss.below hb0).more hb0.size))
  have HB0 := Lib.hid hb0
  have HC0 := Lib.hid c0
  have HC1 := Lib.hid c1
  have HS := Lib.hid hss
  have HN := Lib.hid hn
  have hs0 : w.heap.size < W.heap.size := by omega
  clear hss hb0 c0 c1
  cases hk : stkB zs m with
  | false =>
    have hw : cutB zs m k = false := win_no1 (a := k) hk
    rw [(cut_no hw).1, (cut_no hw).2, hw]
    rw [hk] at HOK
    clear hk hw hn hz
    go_enter Try.func15, Try.ntmps15
    go_wp2_with fail
    rw [← hW]
    clear hW
    refine HOK.out.mono ?_
    rintro e w2 ⟨rfl, hb⟩
    have HB2 := Lib.hid (HB0.out.trans (hb.mono HB0.out.size))
    have HX := Lib.hid ((hb.block (w.heap.size + 1) hs1).trans HC1.out)
    obtain ⟨k4, k5⟩ := cell2 HX.out
    have f4 := frz HX.out 0
    have f5 := frz HX.out 1
    obtain ⟨HP1, HP2, _⟩ := put_box (x := .slice none 0 0) (y := .int .i64 0) HX.out HB2.out (by omega)
    have HP1 := Lib.hid HP1
    have HP2 := Lib.hid HP2
    clear hb ba bb
    go_wp2
    (try simp only [Exit.inBlock, Exit.then])
    refine bodyPost_ret (results_cs rfl _ rfl rfl HP1.out) rfl ?_
    exact ⟨none, 0, rfl, World.ownsRow_nil _ _ _ _, HP2.out⟩
  | true =>
    obtain ⟨p1, p2, p3, p4, _, _⟩ := stk_parts hk
    rw [hn] at p3 p4
    rw [hk] at HOK
    by_cases ha0 : 0 ≤ k
    · have hd1 : decide (k < 0) = false := decide_eq_false (by omega)
      by_cases ha1 : k < (n : Int)
      · have hd2 : decide ((n : Int) ≤ k) = false := decide_eq_false (by omega)
        have hw : cutB zs m k = true := win_yes hk (show 0 ≤ k ∧ k ≤ (zs.length : Int) - 1 by rw [hn]; omega)
        rw [(cut_yes hw).1, (cut_yes hw).2, hw]
        obtain ⟨kk, rfl⟩ : ∃ kk : Nat, k = (kk : Int) := ⟨k.toNat, by omega⟩
        have hd3 : decide (n ≤ kk) = false := decide_eq_false (by omega)
        have hq : kk < n ∧ n ≤ 64 ∧ 1 ≤ n := by omega
        obtain ⟨R, hR⟩ : ∃ R, R = cutF zs kk := ⟨_, rfl⟩
        have HRE := Lib.hid (show cutF zs ((kk : Int)).toNat = R by rw [hR]; rfl)
        have HRL := Lib.hid (show R.length = n by rw [hR]; unfold cutF; rw [List.length_append, List.length_drop, List.length_take]; omega)
        have HCUT := Lib.hid (fun (W : World) (hss : IntsAt W W.heap.size .i64 A zs) => cut_any A n c kk zs W hn hq.2.2 (by omega) hnc (by omega) hss)
        rw [← hR] at HCUT
        rw [HRE.out]
        clear hk hw hn hz p1 p2 p3 p4 ha0 ha1 hR
        go_enter Try.func15, Try.ntmps15
        go_wp2_with fail
        rw [← hW]
        clear hW
        refine HOK.out.mono ?_
        rintro e w2 ⟨rfl, hb⟩
        have HB2 := Lib.hid (HB0.out.trans (hb.mono HB0.out.size))
        have HX := Lib.hid ((hb.block (w.heap.size + 1) hs1).trans HC1.out)
        have ba2 := (hb.cell (p := ⟨w.heap.size, 0, none⟩) hs0).trans ba
        have bb2 := (hb.cell (p := ⟨w.heap.size, 1, none⟩) hs0).trans bb
        have hl1 : w.heap.size + 1 < w2.heap.size := Nat.lt_of_lt_of_le hs1 hb.size
        have hl0 : w.heap.size < w2.heap.size := by omega
        clear hb ba bb
        go_wp2
        have HCC := Lib.hid (HCUT.out w2.drew (((HS.out.below HB2.out).more HB2.out.size).below (Below.refl _ _).drew))
        go_region_held3 (fun w' => w'.cell? ⟨w.heap.size, 0, none⟩ = some (.slice A n c) ∧ w'.cell? ⟨w.heap.size, 1, none⟩ = some (.int .i64 m)) ((first | exact ⟨ba2, bb2⟩ | exact ⟨HP3.out.cell ba2 (fun e => by simp at e), HP3.out.cell bb2 (fun e => by simp at e)⟩)) ((first | (go_at_call 42; refine HCC.out.mono ?_; rintro e w3 ⟨A3, c3, rfl, ho, hb⟩; rw [HRL.out] at ho; rw [HRL.out]; replace ba2 := (hb.cell (p := ⟨w.heap.size, 0, none⟩) hl0).trans ba2; replace bb2 := (hb.cell (p := ⟨w.heap.size, 1, none⟩) hl0).trans bb2; have HB3 := Lib.hid (HB2.out.drew.trans (hb.mono HB2.out.size)); have HX3 := Lib.hid ((hb.block (w.heap.size + 1) hl1).trans HX.out); obtain ⟨k4, k5⟩ := cell2 HX3.out; have f4 := frz HX3.out 0; have f5 := frz HX3.out 1; obtain ⟨HP1, HP2, HP3⟩ := put_box (x := .slice A3 n c3) (y := .int .i64 m) HX3.out HB3.out (by omega); have HP1 := Lib.hid HP1; have HP2 := Lib.hid HP2; have HO := Lib.hid (own_mono (own_gr ho HP3 (fun j hj e => by have h1 := (own_lo ho j hj).1; injection e with e; have h2 : w2.heap.size ≤ j := h1; omega)) HB2.out.size); have HP3 := Lib.hid HP3; clear ho hb)))
        all_goals
          go_wp2
          (try simp only [Exit.inBlock, Exit.then])
          refine bodyPost_ret (results_cs rfl _ rfl rfl HP1.out) rfl ?_
          exact ⟨A3, c3, by rw [HRL.out]; rfl, by rw [HRL.out]; exact HO.out, HP2.out⟩
      · have hd2 : (n : Int) ≤ k := by omega
        have hw : cutB zs m k = false := win_no2 (m := m) (a := k) (show ¬ (0 ≤ k ∧ k ≤ (zs.length : Int) - 1) by rw [hn]; omega)
        rw [(cut_no hw).1, (cut_no hw).2, hw]
        clear ha1
        clear hk hw hn hz p1 p2 p3 p4
        go_enter Try.func15, Try.ntmps15
        go_wp2_with fail
        rw [← hW]
        clear hW
        refine HOK.out.mono ?_
        rintro e w2 ⟨rfl, hb⟩
        have HB2 := Lib.hid (HB0.out.trans (hb.mono HB0.out.size))
        have HX := Lib.hid ((hb.block (w.heap.size + 1) hs1).trans HC1.out)
        have ba2 := (hb.cell (p := ⟨w.heap.size, 0, none⟩) hs0).trans ba
        have bb2 := (hb.cell (p := ⟨w.heap.size, 1, none⟩) hs0).trans bb
        obtain ⟨k4, k5⟩ := cell2 HX.out
        have f4 := frz HX.out 0
        have f5 := frz HX.out 1
        obtain ⟨HP1, HP2, _⟩ := put_box (x := .slice none 0 0) (y := .int .i64 0) HX.out HB2.out (by omega)
        have HP1 := Lib.hid HP1
        have HP2 := Lib.hid HP2
        clear hb ba bb
        go_wp2
        (try simp only [Exit.inBlock, Exit.then])
        refine bodyPost_ret (results_cs rfl _ rfl rfl HP1.out) rfl ?_
        exact ⟨none, 0, rfl, World.ownsRow_nil _ _ _ _, HP2.out⟩
    · have hd1 : k < 0 := by omega
      · have hw : cutB zs m k = false := win_no2 (m := m) (a := k) (show ¬ (0 ≤ k ∧ k ≤ (zs.length : Int) - 1) by omega)
        rw [(cut_no hw).1, (cut_no hw).2, hw]
        clear ha0
        clear hk hw hn hz p1 p2 p3 p4
        go_enter Try.func15, Try.ntmps15
        go_wp2_with fail
        rw [← hW]
        clear hW
        refine HOK.out.mono ?_
        rintro e w2 ⟨rfl, hb⟩
        have HB2 := Lib.hid (HB0.out.trans (hb.mono HB0.out.size))
        have HX := Lib.hid ((hb.block (w.heap.size + 1) hs1).trans HC1.out)
        have ba2 := (hb.cell (p := ⟨w.heap.size, 0, none⟩) hs0).trans ba
        have bb2 := (hb.cell (p := ⟨w.heap.size, 1, none⟩) hs0).trans bb
        obtain ⟨k4, k5⟩ := cell2 HX.out
        have f4 := frz HX.out 0
        have f5 := frz HX.out 1
        obtain ⟨HP1, HP2, _⟩ := put_box (x := .slice none 0 0) (y := .int .i64 0) HX.out HB2.out (by omega)
        have HP1 := Lib.hid HP1
        have HP2 := Lib.hid HP2
        clear hb ba bb
        go_wp2
        (try simp only [Exit.inBlock, Exit.then])
        refine bodyPost_ret (results_cs rfl _ rfl rfl HP1.out) rfl ?_
        exact ⟨none, 0, rfl, World.ownsRow_nil _ _ _ _, HP2.out⟩
end Go.Proofs.Ytkonakfbidnfhaa.Skk
