/- How the laws draw a stack (l01Once, l11Draw, MakeStack), and what FnStacks asks of it: checked by the kernel. -/
import Derived.Test.YtkonakfbidnfhaaSkr
import Derived.Test.YtkonakfbidnfhaaCur
set_option linter.unusedVariables false
set_option maxRecDepth 20000
namespace Go.Proofs.Ytkonakfbidnfhaa.Mks
open Go.RowKit Fr Cur _root_.Go.Proofs.Ytkonakfbidnfhaa.Own Pk Ins Pfn Rws Lb Map Cat Cut Stk Skp Sks Skw Skv Ski Skj Skk Stp Skg Skq Skm

/-- what the law of stacks asks -/
def lawB (zs : List Int) (m : Nat) : Bool := stkB zs m && ((List.range zs.length).all fun k => stkB (cutF zs k) m && ((List.range zs.length).all fun a =>
  decide (findI zs m (winF zs m a) = (a : Int)) && decide (findI (cutF zs k) m (winF zs m a) = (((a + zs.length - k) % zs.length : Nat) : Int))))
theorem law1 : lawB ((cbL 1).take 2) 1 = true := by kernel_rfl
theorem law2 : lawB ((cbL 2).take 4) 2 = true := by kernel_rfl
theorem law3 : lawB ((cbL 3).take 8) 3 = true := by kernel_rfl
theorem law4 : lawB ((cbL 4).take 16) 4 = true := by kernel_rfl
theorem law5 : lawB [1, 0, 0] 2 = true := by kernel_rfl
/-- a stack that the law draws -/
def Good (zs : List Int) (m : Nat) : Prop := lawB zs m = true ∧ 1 ≤ m ∧ m ≤ 6 ∧ 2 ≤ zs.length ∧ zs.length ≤ 64 ∧ Fits zs
theorem db_good {m : Nat} (h1 : 1 ≤ m) (h4 : m ≤ 4) : Good ((cbL m).take (2 ^ m)) m := by
  obtain ⟨hG, _, _, _⟩ := cb_all h1 (by omega)
  have hp := pow_small h1 (by omega)
  refine ⟨?_, h1, by omega, by rw [List.length_take, hG.len]; omega, by rw [List.length_take]; omega, ?_⟩
  · rcases (show m = 1 ∨ m = 2 ∨ m = 3 ∨ m = 4 by omega) with rfl | rfl | rfl | rfl
    · exact law1
    · exact law2
    · exact law3
    · exact law4
  · have := fits_part hG.fits (2 ^ m) 0
    rwa [List.drop_zero] at this
theorem lit_good : Good [1, 0, 0] 2 := ⟨law5, by decide, by decide, by decide, by decide, fits_bits (by decide)⟩
theorem only_grown {c : Nat} {w w' : World} (h : Only c w w') : w.grownBy w' (some c) := ⟨h.os, h.tape, h.output, by rw [h.size]; exact Nat.le_refl _, fun k _ hne => h.block k (fun e => hne (by rw [e]))⟩
theorem below_grown {w w' : World} (row : Option Nat) (h : Below w.heap.size w w') : w.grownBy w' row := ⟨h.os, h.tape, h.output, h.size, fun k hk _ => h.block k hk⟩
def OnceDrawn (c : Nat) (A : Option Addr) (n cap : Nat) (w : World) (e : Ending) (w' : World) : Prop :=
  ∃ b : Bool, e = .returned (.bool b) ∧ IsCur w' c A n cap ∧ Only c w w'
theorem once_any (B c : Nat) (A : Option Addr) (n cap : Nat) (m : Int) (w : World) (hm0 : 1 ≤ m) (hm1 : m ≤ 256) (hn : n ≤ 1048576) (hB : B ≤ c) (hcur : IsCur w c A n cap) (hbytes : BytesAt w B A n) :
    Calls Try.prog 60 #[.pointer (some ⟨c, 0, none⟩), .int .i64 m] w (OnceDrawn c A n cap w) := by
  go_enter Try.func60, Try.ntmps60
  go_wp2_with fail
  refine (below_any B c A n cap m _ hm0 hm1 hn hB hcur hbytes).mono ?_
  rintro e w2 ⟨x, rfl, _, _, hc2, ho2⟩
  go_wp2
  go_ret
  exact ⟨_, rfl, hc2, ho2⟩
def StackDrawn (c : Nat) (w : World) (e : Ending) (w' : World) : Prop :=
  ∃ A2 P c2 zs m, e = .returned (stV A2 P c2 ((m : Nat) : Int)) ∧ zs.length = P ∧ Good zs m ∧ w'.ownsRow w.heap.size 3 1 (.slice A2 P c2) P (vals zs) ∧ w.grownBy w' (some c)
set_option maxHeartbeats 4000000 in
theorem draw_stack (B c : Nat) (A : Option Addr) (n cap : Nat) (w : World) (hn : n ≤ 1048576) (hB : B ≤ c) (hcur : IsCur w c A n cap) (hbytes : BytesAt w B A n) :
    Calls Try.prog 37 #[.pointer (some ⟨c, 0, none⟩)] w (StackDrawn c w) := by
  have hcw := hcur.lt
  have k1 := heap_alloc_new w (.cells #[.slice none 0 0, .int .i64 0] 25)
  have hb0 := box_below w (.cells #[.slice none 0 0, .int .i64 0] 25)
  have hs1 : w.heap.size < (w.alloc (.cells #[.slice none 0 0, .int .i64 0] 25)).heap.size := by simp
  obtain ⟨W, hW⟩ : ∃ W, W = w.alloc (.cells #[.slice none 0 0, .int .i64 0] 25) := ⟨_, rfl⟩
  rw [← hW] at k1 hb0 hs1
  have hcur0 := hcur.below hb0 hcw
  have hby0 := hbytes.below (hb0.mono (by omega))
  go_enter Try.func37, Try.ntmps37
  go_wp2_with fail
  rw [← hW]
  clear hW
  refine (below_any B c A n cap 4 _ (by omega) (by omega) hn hB hcur0 hby0).mono ?_
  rintro e w2 ⟨x, rfl, hx0, hx1, hcur2, hon2⟩
  obtain ⟨m, hm⟩ : ∃ m : Nat, 1 + x = (m : Int) := ⟨(1 + x).toNat, by omega⟩
  have hm14 : 1 ≤ m ∧ m ≤ 4 := by omega
  have hd : dbB (m : Int) = true := decide_eq_true ⟨by omega, by omega⟩
  obtain ⟨C, hC⟩ : ∃ C, C = (cbL m).take (2 ^ m) := ⟨_, rfl⟩
  have hgood : Good C m := by rw [hC]; exact db_good hm14.1 hm14.2
  have HDB := Lib.hid (show dbS (m : Int) = C ∧ dbM (m : Int) = m ∧ dbB (m : Int) = true from ⟨by rw [(db_yes hd).1, hC]; rfl, (db_yes hd).2, hd⟩)
  have HGD := Lib.hid hgood
  obtain ⟨P, hP⟩ : ∃ P, P = C.length := ⟨_, rfl⟩
  have HCL := Lib.hid hP.symm
  have hg2 := (below_grown (some c) hb0).trans (only_grown hon2)
  have hk2 := (hon2.block w.heap.size (by omega)).trans k1
  have hby2 := hby0.below (hon2.below hB)
  have hsz2 : W.heap.size ≤ w2.heap.size := by rw [hon2.size]; exact Nat.le_refl _
  have HG2 := Lib.hid hg2
  have HK2 := Lib.hid hk2
  clear hd hC hgood hP hcur0 hby0 hcur hbytes hb0 k1 hon2 hg2 hk2
  go_wp2_with fail
  (try rw [hm])
  clear hm
  refine (Skr.spec_db (m : Int) _ (by omega) (by omega)).mono ?_
  rintro e w3 ⟨A3, c3, rfl, ho, hb3⟩
  rw [HDB.out.1, HCL.out] at ho
  rw [HDB.out.1, HDB.out.2.1, HDB.out.2.2, HCL.out]
  have hcur3 := hcur2.below hb3 hcur2.lt
  have hby3 := hby2.below (hb3.mono (by omega))
  have HG3 := Lib.hid (HG2.out.trans (below_grown (some c) hb3))
  have HK3 := Lib.hid ((hb3.block w.heap.size (by omega)).trans HK2.out)
  have hsz3 := hb3.size
  have HO3 := Lib.hid ho
  clear HDB ho hb3 hcur2 hby2 HG2 HK2
  have k4 := heap_alloc_new w3 (.cells #[.slice A3 P c3, .int .i64 (m : Int)] 25)
  have hb4 := box_below w3 (.cells #[.slice A3 P c3, .int .i64 (m : Int)] 25)
  have hs4 : w3.heap.size < (w3.alloc (.cells #[.slice A3 P c3, .int .i64 (m : Int)] 25)).heap.size := by simp
  obtain ⟨W4, hW4⟩ : ∃ W4, W4 = w3.alloc (.cells #[.slice A3 P c3, .int .i64 (m : Int)] 25) := ⟨_, rfl⟩
  rw [← hW4] at k4 hb4 hs4
  have hcur4 := hcur3.below hb4 hcur3.lt
  have hby4 := hby3.below (hb4.mono (by omega))
  go_wp2_with fail
  rw [← hW4]
  clear hW4
  refine (once_any B c A n cap 4 _ (by omega) (by omega) hn hB hcur4 hby4).mono ?_
  rintro e w5 ⟨b, rfl, hcur5, hon5⟩
  have HG5 := Lib.hid ((HG3.out.trans (below_grown (some c) hb4)).trans (only_grown hon5))
  have hc3 := hcur3.lt
  have HK5 := Lib.hid ((hon5.block w.heap.size (by omega)).trans ((hb4.block w.heap.size (by omega)).trans HK3.out))
  have HX5 := Lib.hid ((hon5.block w3.heap.size (by omega)).trans k4)
  have HO5 := Lib.hid (own_gr (own_below HO3.out hb4) (only_grown hon5) (fun k hk e => by have h1 := (own_lo HO3.out k hk).1; injection e with e; omega))
  have hsz5 : W4.heap.size ≤ w5.heap.size := by rw [hon5.size]; exact Nat.le_refl _
  clear hcur3 hby3 hcur4 hby4 hcur5 hon5 k4 hb4 HG3 HK3 HO3
  cases b with
  | false =>
    obtain ⟨a1, a2⟩ := cell2 HX5.out
    obtain ⟨a3, a4⟩ := cell2 HK5.out
    have f3 := frz HK5.out 0
    have f4 := frz HK5.out 1
    have HP := Lib.hid (loadS (put2 (x := .slice A3 P c3) (y := .int .i64 (m : Int)) HK5.out))
    have hg := (set_grown w5 w.heap.size 0 (.slice A3 P c3)).trans (set_grown _ w.heap.size 1 (.int .i64 (m : Int)))
    have HO6 := Lib.hid (own_mono (own_gr HO5.out hg (fun k hk e => by have h1 := (own_lo HO5.out k hk).1; injection e with e; omega)) (show w.heap.size ≤ w2.heap.size by omega))
    have HG6 := Lib.hid (grown_new_write HG5.out hg (Nat.le_refl _))
    clear hg
    go_wp2
    (try simp only [Exit.inBlock, Exit.then])
    refine bodyPost_ret (results_cell rfl _ rfl HP.out) rfl ?_
    exact ⟨A3, P, c3, C, m, rfl, HCL.out, HGD.out, HO6.out, HG6.out⟩
  | true =>
    have hb6 := box_below w5 (.cells #[.int .i64 1, .int .i64 0, .int .i64 0] 3)
    have hl6 := World.ownsRow_lit (base := w.heap.size) (e := 3) (size := 1) w5 #[.int .i64 1, .int .i64 0, .int .i64 0] 3 (by omega) (by decide) rfl
    obtain ⟨w6, hw6⟩ : ∃ w6, w6 = w5.alloc (.cells #[.int .i64 1, .int .i64 0, .int .i64 0] 3) := ⟨_, rfl⟩
    rw [← hw6] at hb6 hl6
    have HX6 := Lib.hid ((hb6.block w3.heap.size (by omega)).trans HX5.out)
    have HK6 := Lib.hid ((hb6.block w.heap.size (by omega)).trans HK5.out)
    have HG6 := Lib.hid (HG5.out.trans (below_grown (some c) hb6))
    have HL6 := Lib.hid hl6
    have hsz6 := hb6.size
    clear hb6 hl6 HX5 HK5 HG5 HO5
    obtain ⟨a1, a2⟩ := cell2 HX6.out
    obtain ⟨a3, a4⟩ := cell2 HK6.out
    have f1 := frz HX6.out 0
    have f2 := frz HX6.out 1
    have f3 := frz HK6.out 0
    have f4 := frz HK6.out 1
    obtain ⟨w7, hw7⟩ : ∃ w7, w7 = (w6.setCell ⟨w3.heap.size, 0, none⟩ (.slice (some ⟨w5.heap.size, 0, none⟩) 3 3)).setCell ⟨w3.heap.size, 1, none⟩ (.int .i64 2) := ⟨_, rfl⟩
    have hg7 := (set_grown w6 w3.heap.size 0 (.slice (some ⟨w5.heap.size, 0, none⟩) 3 3)).trans (set_grown _ w3.heap.size 1 (.int .i64 2))
    rw [← hw7] at hg7
    have HX7 := Lib.hid (show w7.heap[w3.heap.size]? = some (.cells #[.slice (some ⟨w5.heap.size, 0, none⟩) 3 3, .int .i64 2] 25 (0, 0)) by rw [hw7]; exact put2 HX6.out)
    have HK7 := Lib.hid ((hg7.block w.heap.size (by omega) (fun e => by injection e with e; omega)).trans HK6.out)
    have HL7 := Lib.hid (own_gr HL6.out hg7 (fun k hk e => by simp only [Option.map_some, Option.some.injEq] at hk e; omega))
    have HG7 := Lib.hid (grown_new_write HG6.out hg7 (by omega))
    obtain ⟨b1, b2⟩ := cell2 HX7.out
    obtain ⟨b3, b4⟩ := cell2 HK7.out
    have f5 := frz HK7.out 0
    have f6 := frz HK7.out 1
    have HP := Lib.hid (loadS (put2 (x := .slice (some ⟨w5.heap.size, 0, none⟩) 3 3) (y := .int .i64 2) HK7.out))
    have hg := (set_grown w7 w.heap.size 0 (.slice (some ⟨w5.heap.size, 0, none⟩) 3 3)).trans (set_grown _ w.heap.size 1 (.int .i64 2))
    have HO8 := Lib.hid (own_gr HL7.out hg (fun k hk e => by simp only [Option.map_some, Option.some.injEq] at hk e; omega))
    have HG8 := Lib.hid (grown_new_write HG7.out hg (Nat.le_refl _))
    have hsz7 := hg7.size
    clear hg hg7
    replace hw6 := hw6.symm
    replace hw7 := hw7.symm
    go_wp2
    (try simp only [Exit.inBlock, Exit.then])
    refine bodyPost_ret (results_cell rfl _ rfl HP.out) rfl ?_
    exact ⟨_, 3, 3, [1, 0, 0], 2, rfl, rfl, lit_good, HO8.out, HG8.out⟩
def StackMade (w : World) (e : Ending) (w' : World) : Prop :=
  ∃ A2 P c2 zs m, e = .returned (stV A2 P c2 ((m : Nat) : Int)) ∧ zs.length = P ∧ Good zs m ∧ w'.ownsRow w.heap.size 3 1 (.slice A2 P c2) P (vals zs) ∧ Below w.heap.size w w'
set_option maxHeartbeats 1000000 in
theorem make_stack (A : Option Addr) (n cap : Nat) (w : World) (hn : n ≤ 1048576) (hbytes : BytesAt w w.heap.size A n) :
    Calls Try.prog 12 #[.slice A n cap] w (StackMade w) := by
  have k1 := heap_alloc_new w (.cells #[.slice none 0 0, .int .i64 0] 25)
  have hb0 := box_below w (.cells #[.slice none 0 0, .int .i64 0] 25)
  have hs1 : w.heap.size < (w.alloc (.cells #[.slice none 0 0, .int .i64 0] 25)).heap.size := by simp
  obtain ⟨W, hW⟩ : ∃ W, W = w.alloc (.cells #[.slice none 0 0, .int .i64 0] 25) := ⟨_, rfl⟩
  rw [← hW] at k1 hb0 hs1
  have hby0 : BytesAt W W.heap.size A n := fun i hi => by
    obtain ⟨b, o, k, h1, h2, r⟩ := (hbytes.below hb0) i hi
    exact ⟨b, o, k, h1, by omega, r⟩
  have HK := Lib.hid k1
  have HB0 := Lib.hid hb0
  clear k1 hb0 hbytes
  go_enter Try.func12, Try.ntmps12
  go_wp2_with fail
  rw [← hW]
  clear hW
  refine (new_any A n cap W hn hby0).mono ?_
  rintro e w1 ⟨c, rfl, hwc, hcur, hb1⟩
  have hby1 := hby0.below hb1
  have HK1 := Lib.hid ((hb1.block w.heap.size (by omega)).trans HK.out)
  have HB1 := Lib.hid (HB0.out.trans (hb1.mono HB0.out.size))
  have hsz1 := hb1.size
  clear hb1 hby0
  go_wp2_with fail
  refine (draw_stack W.heap.size c A n cap w1 hn hwc hcur hby1).mono ?_
  rintro e w2 ⟨A2, P, c2, zs, m, rfl, hl, hgd, hown, hg⟩
  have HK2 := Lib.hid ((hg.block w.heap.size (by omega) (fun e => by injection e with e; omega)).trans HK1.out)
  have HB2 := Lib.hid (HB1.out.grown hg HB1.out.size (fun k hk => by injection hk with hk; omega))
  obtain ⟨a3, a4⟩ := cell2 HK2.out
  have f3 := frz HK2.out 0
  have f4 := frz HK2.out 1
  obtain ⟨HP1, HP2, HP3⟩ := put_box (x := .slice A2 P c2) (y := .int .i64 (m : Int)) HK2.out HB2.out (Nat.le_refl _)
  have HP1 := Lib.hid HP1
  have HP2 := Lib.hid HP2
  have HO := Lib.hid (own_mono (own_gr hown HP3 (fun k hk e => by have h1 := (own_lo hown k hk).1; injection e with e; omega)) HB1.out.size)
  have HL := Lib.hid hl
  have HGD := Lib.hid hgd
  clear hown hg hl hgd HP3 hcur hby1
  go_wp2
  (try simp only [Exit.inBlock, Exit.then])
  refine bodyPost_ret (results_cell rfl _ rfl HP1.out) rfl ?_
  exact ⟨A2, P, c2, zs, m, rfl, HL.out, HGD.out, HO.out, HP2.out⟩
end Go.Proofs.Ytkonakfbidnfhaa.Mks
