/- How the laws draw a move (l04Draw, MakeMove). -/
import Derived.Test.YthcggkhpamjjbaaGreatMkq
import Derived.Test.YthcggkhpamjjbaaGreatFr2
set_option linter.unusedVariables false
set_option maxRecDepth 20000
namespace Go.Proofs.YthcggkhpamjjbaaGreat.Mkm
open Go.RowKit Fr Own Pk Pok Ins Prm Pfn Rws Grp Cur Mkp Mvp Mkq Mk

theorem set_grown (w : World) (g j : Nat) (v : Value) : w.grownBy (w.setCell ⟨g, j, none⟩ v) (some g) :=
  ⟨rfl, rfl, rfl, by simp, fun k _ hk => heap_setCell_other w ⟨g, j, none⟩ k v (fun e => hk (by simp [e]))⟩
/-- the result's cells behind the last stores -/
theorem put2 {W : World} {p : Nat} {a b x y : Value} {t : TypeId} (hp : W.heap[p]? = some (.cells #[a, b] t (0, 0))) : ((W.setCell ⟨p, 0, none⟩ x).setCell ⟨p, 1, none⟩ y).heap[p]? = some (.cells #[x, y] t (0, 0)) := by
  have h1 := heap_setCell_same W p 0 #[a, b] t x hp
  have h2 := heap_setCell_same _ p 1 _ t y h1
  exact h2
theorem frz {W : World} {p : Nat} {cs : Array Value} {t : TypeId} (hp : W.heap[p]? = some (.cells cs t (0, 0))) (j : Nat) : W.frozen? ⟨p, j, none⟩ = false := frozen_of_row W p j cs t hp
theorem put2_grown {w W : World} {c p : Nat} {x y : Value} (h : w.grownBy W (some c)) (hp : w.heap.size ≤ p) : w.grownBy ((W.setCell ⟨p, 0, none⟩ x).setCell ⟨p, 1, none⟩ y) (some c) :=
  keep_more (keep_more h (set_grown W p 0 x) (fun k hk => by simp only [Option.some.injEq] at hk; omega)) (set_grown _ p 1 y) (fun k hk => by simp only [Option.some.injEq] at hk; omega)
theorem put2_cur {W : World} {c p n cap : Nat} {A : Option Addr} {x y : Value} (h : IsCur W c A n cap) (hp : p ≠ c) : IsCur ((W.setCell ⟨p, 0, none⟩ x).setCell ⟨p, 1, none⟩ y) c A n cap :=
  cur_grown (cur_grown h (set_grown W p 0 x) (fun e => hp (by simpa using e))) (set_grown _ p 1 y) (fun e => hp (by simpa using e))
theorem load2' {W : World} {g : Nat} {x y : Value} {e : TypeId} (h : W.heap[g]? = some (.cells #[x, y] e (0, 0))) : (loadVar 26 ⟨g, 0, none⟩).run Tryz.prog W = .ok (.agg #[x, y]) W :=
  run_loadVar_mid (P := Tryz.prog) W g 0 26 [x, y] _ (Fr2.range2 h) Tryz.underlying26 rfl (by kernel_rfl)
def MoveDrawn (c : Nat) (A : Option Addr) (n cap m : Nat) (w : World) (e : Ending) (w' : World) : Prop :=
  ∃ kd k : Nat, e = .returned (.agg #[.int .i64 (kd : Int), .int .i64 (k : Int)]) ∧ kOk kd k m = true ∧ IsCur w' c A n cap ∧ w.grownBy w' (some c)
set_option maxHeartbeats 2000000 in
theorem draw_move (B c : Nat) (A : Option Addr) (n cap m : Nat) (w : World) (hm : 1 ≤ m) (hm2 : m ≤ 12) (hn : n ≤ 1048576) (hB : B ≤ c) (hcur : IsCur w c A n cap) (hbytes : BytesAt w B A n) :
    Calls Tryz.prog 22 #[.pointer (some ⟨c, 0, none⟩), .int .i64 (m : Int)] w (MoveDrawn c A n cap m w) := by
  have hcw := hcur.lt
  have hal := (Below.refl w.heap.size w).alloc (Nat.le_refl _) (.cells #[.int .i64 0, .int .i64 0] 26)
  have HC0 := Lib.hid (hcur.below hal hcw)
  have HBY := Lib.hid (hbytes.below (hal.mono (by omega)))
  have HG0 := Lib.hid (show w.grownBy (w.alloc (.cells #[.int .i64 0, .int .i64 0] 26)) (some c) from ⟨hal.os, hal.tape, hal.output, hal.size, fun k hk _ => hal.block k hk⟩)
  have HR0 := Lib.hid (heap_alloc_new w (.cells #[.int .i64 0, .int .i64 0] 26))
  have hsz : (w.alloc (.cells #[.int .i64 0, .int .i64 0] 26)).heap.size = w.heap.size + 1 := by simp
  have HSZ := Lib.hid hsz
  clear hcur hal hbytes hsz
  go_enter Tryz.func22, Tryz.ntmps22
  go_wp2_with fail
  refine (below_any B c A n cap 9 _ (by decide) (by decide) hn hB HC0.out HBY.out).mono ?_
  rintro e w1 ⟨x, rfl, hx0, hx1, hcur1, hon1⟩
  have hsz1 : w1.heap.size = w.heap.size + 1 := hon1.size.trans HSZ.out
  have HR1 := Lib.hid ((hon1.block w.heap.size (by omega)).trans HR0.out)
  have HG1 := Lib.hid (keep_more HG0.out (only_grown hon1) (fun k hk => by simp only [Option.some.injEq] at hk; exact Or.inr hk.symm))
  have HBY1 := Lib.hid (HBY.out.below (hon1.below hB))
  have HC1 := Lib.hid hcur1
  clear hcur1 hon1 HC0 HBY HG0 HR0 HSZ
  have hxs : x = 0 ∨ x = 1 ∨ x = 2 ∨ x = 3 ∨ x = 4 ∨ x = 5 ∨ x = 6 ∨ x = 7 ∨ x = 8 := by omega
  clear hx0 hx1
  rcases hxs with rfl | rfl | rfl | rfl | rfl | rfl | rfl | rfl | rfl
  · have hal := (Below.refl w1.heap.size w1).alloc (Nat.le_refl _) (.cells #[.int .i64 1, .int .i64 0] 26)
    have HC2 := Lib.hid (HC1.out.below hal (by omega))
    have HBY2 := Lib.hid (HBY1.out.below (hal.mono (by omega)))
    have HG2 := Lib.hid (keep_more HG1.out (show w1.grownBy (w1.alloc (.cells #[.int .i64 1, .int .i64 0] 26)) none from ⟨hal.os, hal.tape, hal.output, hal.size, fun k hk _ => hal.block k hk⟩) (fun k hk => by cases hk))
    have hm1 := heap_alloc_new w1 (.cells #[.int .i64 1, .int .i64 0] 26)
    rw [hsz1] at hm1
    have HM2 := Lib.hid hm1
    have HR2 := Lib.hid ((hal.block w.heap.size (by omega)).trans HR1.out)
    have HSZ2 := Lib.hid (show (w1.alloc (.cells #[.int .i64 1, .int .i64 0] 26)).heap.size = w.heap.size + 2 by simp [hsz1])
    clear hal hm1 HC1 HBY1 HG1 HR1
    go_wp2_with fail
    refine (below_any B c A n cap ((m : Int) + 1) _ (by omega) (by omega) hn hB HC2.out HBY2.out).mono ?_
    rintro e w3 ⟨x, rfl, hx0, hx1, hcur3, hon3⟩
    obtain ⟨k, rfl⟩ : ∃ k : Nat, x = (k : Int) := ⟨x.toNat, by omega⟩
    have hk : kOk 1 k m = true := by unfold kOk; simp; omega
    have hr3 := (hon3.block w.heap.size (by omega)).trans HR2.out
    have hm3 := (hon3.block (w.heap.size + 1) (by omega)).trans HM2.out
    have HG3 := Lib.hid (keep_more HG2.out (only_grown hon3) (fun k hk => by simp only [Option.some.injEq] at hk; exact Or.inr hk.symm))
    have HS3 := Lib.hid (heap_setCell_same w3 (w.heap.size + 1) 1 #[.int .i64 1, .int .i64 0] 26 (.int .i64 (k : Int)) hm3)
    have HR3 := Lib.hid ((heap_setCell_other w3 ⟨w.heap.size + 1, 1, none⟩ w.heap.size (.int .i64 (k : Int)) (by simp)).trans hr3)
    have HG4 := Lib.hid (keep_more HG3.out (set_grown w3 (w.heap.size + 1) 1 (.int .i64 (k : Int))) (fun k hk => by simp only [Option.some.injEq] at hk; omega))
    have HC4 := Lib.hid (cur_grown hcur3 (set_grown w3 (w.heap.size + 1) 1 (.int .i64 (k : Int))) (fun e => by simp only [Option.some.injEq] at e; omega))
    have hc0 := Fr2.range2 hm3 1 _ rfl
    have hf0 := frz hm3 1
    have hr0 := Fr2.range2 hr3 0 _ rfl
    have hr1 := Fr2.range2 hr3 1 _ rfl
    have hf1 := frz hr3 0
    have hf2 := frz hr3 1
    have hc3 := Fr2.range2 hm3 0 _ rfl
    clear hm3 hr3 hon3 hcur3 HG2 HG3 HM2 HR2 HSZ2 HC2 HBY2
    have HK := Lib.hid hk
    have HFG := Lib.hid (put2_grown (x := .int .i64 1) (y := .int .i64 (k : Int)) HG4.out (Nat.le_refl _))
    have HFC := Lib.hid (put2_cur (x := .int .i64 1) (y := .int .i64 (k : Int)) HC4.out (Nat.ne_of_gt hcw))
    have HFR := Lib.hid (put2 (x := .int .i64 1) (y := .int .i64 (k : Int)) HR3.out)
    clear hk HG4 HC4 HR3
    go_wp2
    (try simp only [Exit.inBlock, Exit.then])
    refine bodyPost_ret (results_cell rfl _ rfl (load2' HFR.out)) rfl ?_
    exact ⟨1, k, rfl, HK.out, HFC.out, HFG.out⟩
  · have hal := (Below.refl w1.heap.size w1).alloc (Nat.le_refl _) (.cells #[.int .i64 2, .int .i64 0] 26)
    have HC2 := Lib.hid (HC1.out.below hal (by omega))
    have HBY2 := Lib.hid (HBY1.out.below (hal.mono (by omega)))
    have HG2 := Lib.hid (keep_more HG1.out (show w1.grownBy (w1.alloc (.cells #[.int .i64 2, .int .i64 0] 26)) none from ⟨hal.os, hal.tape, hal.output, hal.size, fun k hk _ => hal.block k hk⟩) (fun k hk => by cases hk))
    have hm1 := heap_alloc_new w1 (.cells #[.int .i64 2, .int .i64 0] 26)
    rw [hsz1] at hm1
    have HM2 := Lib.hid hm1
    have HR2 := Lib.hid ((hal.block w.heap.size (by omega)).trans HR1.out)
    have HSZ2 := Lib.hid (show (w1.alloc (.cells #[.int .i64 2, .int .i64 0] 26)).heap.size = w.heap.size + 2 by simp [hsz1])
    clear hal hm1 HC1 HBY1 HG1 HR1
    go_wp2_with fail
    refine (below_any B c A n cap ((m : Int) + 1) _ (by omega) (by omega) hn hB HC2.out HBY2.out).mono ?_
    rintro e w3 ⟨x, rfl, hx0, hx1, hcur3, hon3⟩
    obtain ⟨k, rfl⟩ : ∃ k : Nat, x = (k : Int) := ⟨x.toNat, by omega⟩
    have hk : kOk 2 k m = true := by unfold kOk; simp; omega
    have hr3 := (hon3.block w.heap.size (by omega)).trans HR2.out
    have hm3 := (hon3.block (w.heap.size + 1) (by omega)).trans HM2.out
    have HG3 := Lib.hid (keep_more HG2.out (only_grown hon3) (fun k hk => by simp only [Option.some.injEq] at hk; exact Or.inr hk.symm))
    have HS3 := Lib.hid (heap_setCell_same w3 (w.heap.size + 1) 1 #[.int .i64 2, .int .i64 0] 26 (.int .i64 (k : Int)) hm3)
    have HR3 := Lib.hid ((heap_setCell_other w3 ⟨w.heap.size + 1, 1, none⟩ w.heap.size (.int .i64 (k : Int)) (by simp)).trans hr3)
    have HG4 := Lib.hid (keep_more HG3.out (set_grown w3 (w.heap.size + 1) 1 (.int .i64 (k : Int))) (fun k hk => by simp only [Option.some.injEq] at hk; omega))
    have HC4 := Lib.hid (cur_grown hcur3 (set_grown w3 (w.heap.size + 1) 1 (.int .i64 (k : Int))) (fun e => by simp only [Option.some.injEq] at e; omega))
    have hc0 := Fr2.range2 hm3 1 _ rfl
    have hf0 := frz hm3 1
    have hr0 := Fr2.range2 hr3 0 _ rfl
    have hr1 := Fr2.range2 hr3 1 _ rfl
    have hf1 := frz hr3 0
    have hf2 := frz hr3 1
    have hc3 := Fr2.range2 hm3 0 _ rfl
    clear hm3 hr3 hon3 hcur3 HG2 HG3 HM2 HR2 HSZ2 HC2 HBY2
    have HK := Lib.hid hk
    have HFG := Lib.hid (put2_grown (x := .int .i64 2) (y := .int .i64 (k : Int)) HG4.out (Nat.le_refl _))
    have HFC := Lib.hid (put2_cur (x := .int .i64 2) (y := .int .i64 (k : Int)) HC4.out (Nat.ne_of_gt hcw))
    have HFR := Lib.hid (put2 (x := .int .i64 2) (y := .int .i64 (k : Int)) HR3.out)
    clear hk HG4 HC4 HR3
    go_wp2
    (try simp only [Exit.inBlock, Exit.then])
    refine bodyPost_ret (results_cell rfl _ rfl (load2' HFR.out)) rfl ?_
    exact ⟨2, k, rfl, HK.out, HFC.out, HFG.out⟩
  · have hal := (Below.refl w1.heap.size w1).alloc (Nat.le_refl _) (.cells #[.int .i64 3, .int .i64 0] 26)
    have HC2 := Lib.hid (HC1.out.below hal (by omega))
    have HBY2 := Lib.hid (HBY1.out.below (hal.mono (by omega)))
    have HG2 := Lib.hid (keep_more HG1.out (show w1.grownBy (w1.alloc (.cells #[.int .i64 3, .int .i64 0] 26)) none from ⟨hal.os, hal.tape, hal.output, hal.size, fun k hk _ => hal.block k hk⟩) (fun k hk => by cases hk))
    have hm1 := heap_alloc_new w1 (.cells #[.int .i64 3, .int .i64 0] 26)
    rw [hsz1] at hm1
    have HM2 := Lib.hid hm1
    have HR2 := Lib.hid ((hal.block w.heap.size (by omega)).trans HR1.out)
    have HSZ2 := Lib.hid (show (w1.alloc (.cells #[.int .i64 3, .int .i64 0] 26)).heap.size = w.heap.size + 2 by simp [hsz1])
    clear hal hm1 HC1 HBY1 HG1 HR1
    go_wp2_with fail
    refine (below_any B c A n cap ((m : Int) + 1) _ (by omega) (by omega) hn hB HC2.out HBY2.out).mono ?_
    rintro e w3 ⟨x, rfl, hx0, hx1, hcur3, hon3⟩
    obtain ⟨k, rfl⟩ : ∃ k : Nat, x = (k : Int) := ⟨x.toNat, by omega⟩
    have hk : kOk 3 k m = true := by unfold kOk; simp; omega
    have hr3 := (hon3.block w.heap.size (by omega)).trans HR2.out
    have hm3 := (hon3.block (w.heap.size + 1) (by omega)).trans HM2.out
    have HG3 := Lib.hid (keep_more HG2.out (only_grown hon3) (fun k hk => by simp only [Option.some.injEq] at hk; exact Or.inr hk.symm))
    have HS3 := Lib.hid (heap_setCell_same w3 (w.heap.size + 1) 1 #[.int .i64 3, .int .i64 0] 26 (.int .i64 (k : Int)) hm3)
    have HR3 := Lib.hid ((heap_setCell_other w3 ⟨w.heap.size + 1, 1, none⟩ w.heap.size (.int .i64 (k : Int)) (by simp)).trans hr3)
    have HG4 := Lib.hid (keep_more HG3.out (set_grown w3 (w.heap.size + 1) 1 (.int .i64 (k : Int))) (fun k hk => by simp only [Option.some.injEq] at hk; omega))
    have HC4 := Lib.hid (cur_grown hcur3 (set_grown w3 (w.heap.size + 1) 1 (.int .i64 (k : Int))) (fun e => by simp only [Option.some.injEq] at e; omega))
    have hc0 := Fr2.range2 hm3 1 _ rfl
    have hf0 := frz hm3 1
    have hr0 := Fr2.range2 hr3 0 _ rfl
    have hr1 := Fr2.range2 hr3 1 _ rfl
    have hf1 := frz hr3 0
    have hf2 := frz hr3 1
    have hc3 := Fr2.range2 hm3 0 _ rfl
    clear hm3 hr3 hon3 hcur3 HG2 HG3 HM2 HR2 HSZ2 HC2 HBY2
    have HK := Lib.hid hk
    have HFG := Lib.hid (put2_grown (x := .int .i64 3) (y := .int .i64 (k : Int)) HG4.out (Nat.le_refl _))
    have HFC := Lib.hid (put2_cur (x := .int .i64 3) (y := .int .i64 (k : Int)) HC4.out (Nat.ne_of_gt hcw))
    have HFR := Lib.hid (put2 (x := .int .i64 3) (y := .int .i64 (k : Int)) HR3.out)
    clear hk HG4 HC4 HR3
    go_wp2
    (try simp only [Exit.inBlock, Exit.then])
    refine bodyPost_ret (results_cell rfl _ rfl (load2' HFR.out)) rfl ?_
    exact ⟨3, k, rfl, HK.out, HFC.out, HFG.out⟩
  · have hal := (Below.refl w1.heap.size w1).alloc (Nat.le_refl _) (.cells #[.int .i64 4, .int .i64 0] 26)
    have HC2 := Lib.hid (HC1.out.below hal (by omega))
    have HBY2 := Lib.hid (HBY1.out.below (hal.mono (by omega)))
    have HG2 := Lib.hid (keep_more HG1.out (show w1.grownBy (w1.alloc (.cells #[.int .i64 4, .int .i64 0] 26)) none from ⟨hal.os, hal.tape, hal.output, hal.size, fun k hk _ => hal.block k hk⟩) (fun k hk => by cases hk))
    have hm1 := heap_alloc_new w1 (.cells #[.int .i64 4, .int .i64 0] 26)
    rw [hsz1] at hm1
    have HM2 := Lib.hid hm1
    have HR2 := Lib.hid ((hal.block w.heap.size (by omega)).trans HR1.out)
    have HSZ2 := Lib.hid (show (w1.alloc (.cells #[.int .i64 4, .int .i64 0] 26)).heap.size = w.heap.size + 2 by simp [hsz1])
    clear hal hm1 HC1 HBY1 HG1 HR1
    go_wp2_with fail
    refine (below_any B c A n cap 2 _ (by omega) (by omega) hn hB HC2.out HBY2.out).mono ?_
    rintro e w3 ⟨x, rfl, hx0, hx1, hcur3, hon3⟩
    obtain ⟨k, rfl⟩ : ∃ k : Nat, x = (k : Int) := ⟨x.toNat, by omega⟩
    have hk : kOk 4 k m = true := by unfold kOk; simp; omega
    have hr3 := (hon3.block w.heap.size (by omega)).trans HR2.out
    have hm3 := (hon3.block (w.heap.size + 1) (by omega)).trans HM2.out
    have HG3 := Lib.hid (keep_more HG2.out (only_grown hon3) (fun k hk => by simp only [Option.some.injEq] at hk; exact Or.inr hk.symm))
    have HS3 := Lib.hid (heap_setCell_same w3 (w.heap.size + 1) 1 #[.int .i64 4, .int .i64 0] 26 (.int .i64 (k : Int)) hm3)
    have HR3 := Lib.hid ((heap_setCell_other w3 ⟨w.heap.size + 1, 1, none⟩ w.heap.size (.int .i64 (k : Int)) (by simp)).trans hr3)
    have HG4 := Lib.hid (keep_more HG3.out (set_grown w3 (w.heap.size + 1) 1 (.int .i64 (k : Int))) (fun k hk => by simp only [Option.some.injEq] at hk; omega))
    have HC4 := Lib.hid (cur_grown hcur3 (set_grown w3 (w.heap.size + 1) 1 (.int .i64 (k : Int))) (fun e => by simp only [Option.some.injEq] at e; omega))
    have hc0 := Fr2.range2 hm3 1 _ rfl
    have hf0 := frz hm3 1
    have hr0 := Fr2.range2 hr3 0 _ rfl
    have hr1 := Fr2.range2 hr3 1 _ rfl
    have hf1 := frz hr3 0
    have hf2 := frz hr3 1
    have hc3 := Fr2.range2 hm3 0 _ rfl
    clear hm3 hr3 hon3 hcur3 HG2 HG3 HM2 HR2 HSZ2 HC2 HBY2
    have HK := Lib.hid hk
    have HFG := Lib.hid (put2_grown (x := .int .i64 4) (y := .int .i64 (k : Int)) HG4.out (Nat.le_refl _))
    have HFC := Lib.hid (put2_cur (x := .int .i64 4) (y := .int .i64 (k : Int)) HC4.out (Nat.ne_of_gt hcw))
    have HFR := Lib.hid (put2 (x := .int .i64 4) (y := .int .i64 (k : Int)) HR3.out)
    clear hk HG4 HC4 HR3
    go_wp2
    (try simp only [Exit.inBlock, Exit.then])
    refine bodyPost_ret (results_cell rfl _ rfl (load2' HFR.out)) rfl ?_
    exact ⟨4, k, rfl, HK.out, HFC.out, HFG.out⟩
  · have hal := (Below.refl w1.heap.size w1).alloc (Nat.le_refl _) (.cells #[.int .i64 5, .int .i64 0] 26)
    have HC2 := Lib.hid (HC1.out.below hal (by omega))
    have HBY2 := Lib.hid (HBY1.out.below (hal.mono (by omega)))
    have HG2 := Lib.hid (keep_more HG1.out (show w1.grownBy (w1.alloc (.cells #[.int .i64 5, .int .i64 0] 26)) none from ⟨hal.os, hal.tape, hal.output, hal.size, fun k hk _ => hal.block k hk⟩) (fun k hk => by cases hk))
    have hm1 := heap_alloc_new w1 (.cells #[.int .i64 5, .int .i64 0] 26)
    rw [hsz1] at hm1
    have HM2 := Lib.hid hm1
    have HR2 := Lib.hid ((hal.block w.heap.size (by omega)).trans HR1.out)
    have HSZ2 := Lib.hid (show (w1.alloc (.cells #[.int .i64 5, .int .i64 0] 26)).heap.size = w.heap.size + 2 by simp [hsz1])
    clear hal hm1 HC1 HBY1 HG1 HR1
    go_wp2_with fail
    refine (below_any B c A n cap 2 _ (by omega) (by omega) hn hB HC2.out HBY2.out).mono ?_
    rintro e w3 ⟨x, rfl, hx0, hx1, hcur3, hon3⟩
    obtain ⟨k, rfl⟩ : ∃ k : Nat, x = (k : Int) := ⟨x.toNat, by omega⟩
    have hk : kOk 5 k m = true := by unfold kOk; simp; omega
    have hr3 := (hon3.block w.heap.size (by omega)).trans HR2.out
    have hm3 := (hon3.block (w.heap.size + 1) (by omega)).trans HM2.out
    have HG3 := Lib.hid (keep_more HG2.out (only_grown hon3) (fun k hk => by simp only [Option.some.injEq] at hk; exact Or.inr hk.symm))
    have HS3 := Lib.hid (heap_setCell_same w3 (w.heap.size + 1) 1 #[.int .i64 5, .int .i64 0] 26 (.int .i64 (k : Int)) hm3)
    have HR3 := Lib.hid ((heap_setCell_other w3 ⟨w.heap.size + 1, 1, none⟩ w.heap.size (.int .i64 (k : Int)) (by simp)).trans hr3)
    have HG4 := Lib.hid (keep_more HG3.out (set_grown w3 (w.heap.size + 1) 1 (.int .i64 (k : Int))) (fun k hk => by simp only [Option.some.injEq] at hk; omega))
    have HC4 := Lib.hid (cur_grown hcur3 (set_grown w3 (w.heap.size + 1) 1 (.int .i64 (k : Int))) (fun e => by simp only [Option.some.injEq] at e; omega))
    have hc0 := Fr2.range2 hm3 1 _ rfl
    have hf0 := frz hm3 1
    have hr0 := Fr2.range2 hr3 0 _ rfl
    have hr1 := Fr2.range2 hr3 1 _ rfl
    have hf1 := frz hr3 0
    have hf2 := frz hr3 1
    have hc3 := Fr2.range2 hm3 0 _ rfl
    clear hm3 hr3 hon3 hcur3 HG2 HG3 HM2 HR2 HSZ2 HC2 HBY2
    have HK := Lib.hid hk
    have HFG := Lib.hid (put2_grown (x := .int .i64 5) (y := .int .i64 (k : Int)) HG4.out (Nat.le_refl _))
    have HFC := Lib.hid (put2_cur (x := .int .i64 5) (y := .int .i64 (k : Int)) HC4.out (Nat.ne_of_gt hcw))
    have HFR := Lib.hid (put2 (x := .int .i64 5) (y := .int .i64 (k : Int)) HR3.out)
    clear hk HG4 HC4 HR3
    go_wp2
    (try simp only [Exit.inBlock, Exit.then])
    refine bodyPost_ret (results_cell rfl _ rfl (load2' HFR.out)) rfl ?_
    exact ⟨5, k, rfl, HK.out, HFC.out, HFG.out⟩
  · have hr0 := Fr2.range2 HR1.out 0 _ rfl
    have hr1 := Fr2.range2 HR1.out 1 _ rfl
    have hf1 := frz HR1.out 0
    have hf2 := frz HR1.out 1
    obtain ⟨W, hW⟩ : ∃ W, W = (w1.setCell ⟨w.heap.size, 0, none⟩ (.int .i64 6)).setCell ⟨w.heap.size, 1, none⟩ (.int .i64 0) := ⟨_, rfl⟩
    have hWs : W.heap.size = w.heap.size + 1 := by rw [hW]; simp [hsz1]
    have hal := (Below.refl W.heap.size W).alloc (Nat.le_refl _) (.cells #[.int .i64 6, .int .i64 0] 26)
    have hg9 : w.grownBy W (some c) := by rw [hW]; exact put2_grown (x := .int .i64 6) (y := .int .i64 0) HG1.out (Nat.le_refl _)
    have hc9 : IsCur W c A n cap := by rw [hW]; exact put2_cur (x := .int .i64 6) (y := .int .i64 0) HC1.out (Nat.ne_of_gt hcw)
    have HFG := Lib.hid (keep_more hg9 (show W.grownBy (W.alloc (.cells #[.int .i64 6, .int .i64 0] 26)) none from ⟨hal.os, hal.tape, hal.output, hal.size, fun k hk _ => hal.block k hk⟩) (fun k hk => by cases hk))
    have HFC := Lib.hid (hc9.below hal (by omega))
    have hr9 : W.heap[w.heap.size]? = some (.cells #[.int .i64 6, .int .i64 0] 26 (0, 0)) := by rw [hW]; exact put2 (x := .int .i64 6) (y := .int .i64 0) HR1.out
    have HFR := Lib.hid ((hal.block w.heap.size (by omega)).trans hr9)
    rw [hW] at HFG HFR HFC
    clear HG1 HC1 HR1 HBY1 hal hWs hg9 hc9 hr9 hW
    go_wp2
    (try simp only [Exit.inBlock, Exit.then])
    refine bodyPost_ret (results_cell rfl _ rfl (load2' HFR.out)) rfl ?_
    exact ⟨6, 0, rfl, by unfold kOk; simp, HFC.out, HFG.out⟩
  · have hal := (Below.refl w1.heap.size w1).alloc (Nat.le_refl _) (.cells #[.int .i64 7, .int .i64 0] 26)
    have HC2 := Lib.hid (HC1.out.below hal (by omega))
    have HBY2 := Lib.hid (HBY1.out.below (hal.mono (by omega)))
    have HG2 := Lib.hid (keep_more HG1.out (show w1.grownBy (w1.alloc (.cells #[.int .i64 7, .int .i64 0] 26)) none from ⟨hal.os, hal.tape, hal.output, hal.size, fun k hk _ => hal.block k hk⟩) (fun k hk => by cases hk))
    have hm1 := heap_alloc_new w1 (.cells #[.int .i64 7, .int .i64 0] 26)
    rw [hsz1] at hm1
    have HM2 := Lib.hid hm1
    have HR2 := Lib.hid ((hal.block w.heap.size (by omega)).trans HR1.out)
    have HSZ2 := Lib.hid (show (w1.alloc (.cells #[.int .i64 7, .int .i64 0] 26)).heap.size = w.heap.size + 2 by simp [hsz1])
    clear hal hm1 HC1 HBY1 HG1 HR1
    go_wp2_with fail
    refine (below_any B c A n cap 2 _ (by omega) (by omega) hn hB HC2.out HBY2.out).mono ?_
    rintro e w3 ⟨x, rfl, hx0, hx1, hcur3, hon3⟩
    obtain ⟨k, rfl⟩ : ∃ k : Nat, x = (k : Int) := ⟨x.toNat, by omega⟩
    have hk : kOk 7 k m = true := by unfold kOk; simp; omega
    have hr3 := (hon3.block w.heap.size (by omega)).trans HR2.out
    have hm3 := (hon3.block (w.heap.size + 1) (by omega)).trans HM2.out
    have HG3 := Lib.hid (keep_more HG2.out (only_grown hon3) (fun k hk => by simp only [Option.some.injEq] at hk; exact Or.inr hk.symm))
    have HS3 := Lib.hid (heap_setCell_same w3 (w.heap.size + 1) 1 #[.int .i64 7, .int .i64 0] 26 (.int .i64 (k : Int)) hm3)
    have HR3 := Lib.hid ((heap_setCell_other w3 ⟨w.heap.size + 1, 1, none⟩ w.heap.size (.int .i64 (k : Int)) (by simp)).trans hr3)
    have HG4 := Lib.hid (keep_more HG3.out (set_grown w3 (w.heap.size + 1) 1 (.int .i64 (k : Int))) (fun k hk => by simp only [Option.some.injEq] at hk; omega))
    have HC4 := Lib.hid (cur_grown hcur3 (set_grown w3 (w.heap.size + 1) 1 (.int .i64 (k : Int))) (fun e => by simp only [Option.some.injEq] at e; omega))
    have hc0 := Fr2.range2 hm3 1 _ rfl
    have hf0 := frz hm3 1
    have hr0 := Fr2.range2 hr3 0 _ rfl
    have hr1 := Fr2.range2 hr3 1 _ rfl
    have hf1 := frz hr3 0
    have hf2 := frz hr3 1
    have hc3 := Fr2.range2 hm3 0 _ rfl
    clear hm3 hr3 hon3 hcur3 HG2 HG3 HM2 HR2 HSZ2 HC2 HBY2
    have HK := Lib.hid hk
    have HFG := Lib.hid (put2_grown (x := .int .i64 7) (y := .int .i64 (k : Int)) HG4.out (Nat.le_refl _))
    have HFC := Lib.hid (put2_cur (x := .int .i64 7) (y := .int .i64 (k : Int)) HC4.out (Nat.ne_of_gt hcw))
    have HFR := Lib.hid (put2 (x := .int .i64 7) (y := .int .i64 (k : Int)) HR3.out)
    clear hk HG4 HC4 HR3
    go_wp2
    (try simp only [Exit.inBlock, Exit.then])
    refine bodyPost_ret (results_cell rfl _ rfl (load2' HFR.out)) rfl ?_
    exact ⟨7, k, rfl, HK.out, HFC.out, HFG.out⟩
  · have hal := (Below.refl w1.heap.size w1).alloc (Nat.le_refl _) (.cells #[.int .i64 8, .int .i64 0] 26)
    have HC2 := Lib.hid (HC1.out.below hal (by omega))
    have HBY2 := Lib.hid (HBY1.out.below (hal.mono (by omega)))
    have HG2 := Lib.hid (keep_more HG1.out (show w1.grownBy (w1.alloc (.cells #[.int .i64 8, .int .i64 0] 26)) none from ⟨hal.os, hal.tape, hal.output, hal.size, fun k hk _ => hal.block k hk⟩) (fun k hk => by cases hk))
    have hm1 := heap_alloc_new w1 (.cells #[.int .i64 8, .int .i64 0] 26)
    rw [hsz1] at hm1
    have HM2 := Lib.hid hm1
    have HR2 := Lib.hid ((hal.block w.heap.size (by omega)).trans HR1.out)
    have HSZ2 := Lib.hid (show (w1.alloc (.cells #[.int .i64 8, .int .i64 0] 26)).heap.size = w.heap.size + 2 by simp [hsz1])
    clear hal hm1 HC1 HBY1 HG1 HR1
    go_wp2_with fail
    refine (below_any B c A n cap (m : Int) _ (by omega) (by omega) hn hB HC2.out HBY2.out).mono ?_
    rintro e w3 ⟨x, rfl, hx0, hx1, hcur3, hon3⟩
    obtain ⟨k, rfl⟩ : ∃ k : Nat, x = (k : Int) := ⟨x.toNat, by omega⟩
    have hk : kOk 8 k m = true := by unfold kOk; simp; omega
    have hr3 := (hon3.block w.heap.size (by omega)).trans HR2.out
    have hm3 := (hon3.block (w.heap.size + 1) (by omega)).trans HM2.out
    have HG3 := Lib.hid (keep_more HG2.out (only_grown hon3) (fun k hk => by simp only [Option.some.injEq] at hk; exact Or.inr hk.symm))
    have HS3 := Lib.hid (heap_setCell_same w3 (w.heap.size + 1) 1 #[.int .i64 8, .int .i64 0] 26 (.int .i64 (k : Int)) hm3)
    have HR3 := Lib.hid ((heap_setCell_other w3 ⟨w.heap.size + 1, 1, none⟩ w.heap.size (.int .i64 (k : Int)) (by simp)).trans hr3)
    have HG4 := Lib.hid (keep_more HG3.out (set_grown w3 (w.heap.size + 1) 1 (.int .i64 (k : Int))) (fun k hk => by simp only [Option.some.injEq] at hk; omega))
    have HC4 := Lib.hid (cur_grown hcur3 (set_grown w3 (w.heap.size + 1) 1 (.int .i64 (k : Int))) (fun e => by simp only [Option.some.injEq] at e; omega))
    have hc0 := Fr2.range2 hm3 1 _ rfl
    have hf0 := frz hm3 1
    have hr0 := Fr2.range2 hr3 0 _ rfl
    have hr1 := Fr2.range2 hr3 1 _ rfl
    have hf1 := frz hr3 0
    have hf2 := frz hr3 1
    have hc3 := Fr2.range2 hm3 0 _ rfl
    clear hm3 hr3 hon3 hcur3 HG2 HG3 HM2 HR2 HSZ2 HC2 HBY2
    have HK := Lib.hid hk
    have HFG := Lib.hid (put2_grown (x := .int .i64 8) (y := .int .i64 (k : Int)) HG4.out (Nat.le_refl _))
    have HFC := Lib.hid (put2_cur (x := .int .i64 8) (y := .int .i64 (k : Int)) HC4.out (Nat.ne_of_gt hcw))
    have HFR := Lib.hid (put2 (x := .int .i64 8) (y := .int .i64 (k : Int)) HR3.out)
    clear hk HG4 HC4 HR3
    go_wp2
    (try simp only [Exit.inBlock, Exit.then])
    refine bodyPost_ret (results_cell rfl _ rfl (load2' HFR.out)) rfl ?_
    exact ⟨8, k, rfl, HK.out, HFC.out, HFG.out⟩
  · have hal := (Below.refl w1.heap.size w1).alloc (Nat.le_refl _) (.cells #[.int .i64 9, .int .i64 0] 26)
    have HC2 := Lib.hid (HC1.out.below hal (by omega))
    have HBY2 := Lib.hid (HBY1.out.below (hal.mono (by omega)))
    have HG2 := Lib.hid (keep_more HG1.out (show w1.grownBy (w1.alloc (.cells #[.int .i64 9, .int .i64 0] 26)) none from ⟨hal.os, hal.tape, hal.output, hal.size, fun k hk _ => hal.block k hk⟩) (fun k hk => by cases hk))
    have hm1 := heap_alloc_new w1 (.cells #[.int .i64 9, .int .i64 0] 26)
    rw [hsz1] at hm1
    have HM2 := Lib.hid hm1
    have HR2 := Lib.hid ((hal.block w.heap.size (by omega)).trans HR1.out)
    have HSZ2 := Lib.hid (show (w1.alloc (.cells #[.int .i64 9, .int .i64 0] 26)).heap.size = w.heap.size + 2 by simp [hsz1])
    clear hal hm1 HC1 HBY1 HG1 HR1
    go_wp2_with fail
    refine (below_any B c A n cap (m : Int) _ (by omega) (by omega) hn hB HC2.out HBY2.out).mono ?_
    rintro e w3 ⟨x, rfl, hx0, hx1, hcur3, hon3⟩
    obtain ⟨k, rfl⟩ : ∃ k : Nat, x = (k : Int) := ⟨x.toNat, by omega⟩
    have hk : kOk 9 k m = true := by unfold kOk; simp; omega
    have hr3 := (hon3.block w.heap.size (by omega)).trans HR2.out
    have hm3 := (hon3.block (w.heap.size + 1) (by omega)).trans HM2.out
    have HG3 := Lib.hid (keep_more HG2.out (only_grown hon3) (fun k hk => by simp only [Option.some.injEq] at hk; exact Or.inr hk.symm))
    have HS3 := Lib.hid (heap_setCell_same w3 (w.heap.size + 1) 1 #[.int .i64 9, .int .i64 0] 26 (.int .i64 (k : Int)) hm3)
    have HR3 := Lib.hid ((heap_setCell_other w3 ⟨w.heap.size + 1, 1, none⟩ w.heap.size (.int .i64 (k : Int)) (by simp)).trans hr3)
    have HG4 := Lib.hid (keep_more HG3.out (set_grown w3 (w.heap.size + 1) 1 (.int .i64 (k : Int))) (fun k hk => by simp only [Option.some.injEq] at hk; omega))
    have HC4 := Lib.hid (cur_grown hcur3 (set_grown w3 (w.heap.size + 1) 1 (.int .i64 (k : Int))) (fun e => by simp only [Option.some.injEq] at e; omega))
    have hc0 := Fr2.range2 hm3 1 _ rfl
    have hf0 := frz hm3 1
    have hr0 := Fr2.range2 hr3 0 _ rfl
    have hr1 := Fr2.range2 hr3 1 _ rfl
    have hf1 := frz hr3 0
    have hf2 := frz hr3 1
    have hc3 := Fr2.range2 hm3 0 _ rfl
    clear hm3 hr3 hon3 hcur3 HG2 HG3 HM2 HR2 HSZ2 HC2 HBY2
    have HK := Lib.hid hk
    have HFG := Lib.hid (put2_grown (x := .int .i64 9) (y := .int .i64 (k : Int)) HG4.out (Nat.le_refl _))
    have HFC := Lib.hid (put2_cur (x := .int .i64 9) (y := .int .i64 (k : Int)) HC4.out (Nat.ne_of_gt hcw))
    have HFR := Lib.hid (put2 (x := .int .i64 9) (y := .int .i64 (k : Int)) HR3.out)
    clear hk HG4 HC4 HR3
    go_wp2
    (try simp only [Exit.inBlock, Exit.then])
    refine bodyPost_ret (results_cell rfl _ rfl (load2' HFR.out)) rfl ?_
    exact ⟨9, k, rfl, HK.out, HFC.out, HFG.out⟩
theorem more_bytes {w : World} {B B' : Nat} {A : Option Addr} {n : Nat} (h : Cur.BytesAt w B A n) (hB : B ≤ B') : Cur.BytesAt w B' A n := by
  intro k hk
  obtain ⟨b, o, x, hA, hlt, r⟩ := h k hk
  exact ⟨b, o, x, hA, by omega, r⟩
def MoveMade (m : Nat) (w : World) (e : Ending) (w' : World) : Prop :=
  ∃ kd k : Nat, e = .returned (.agg #[.int .i64 (kd : Int), .int .i64 (k : Int)]) ∧ kOk kd k m = true ∧ Below w.heap.size w w'
set_option maxHeartbeats 1000000 in
theorem make_move (A : Option Addr) (n cap s m : Nat) (w : World) (hm : 1 ≤ m) (hm2 : m ≤ 9) (hn : n ≤ 1048576) (hs : s ≤ 1000) (hbytes : BytesAt w w.heap.size A n) :
    Calls Tryz.prog 6 #[.slice A n cap, .int .i64 (s : Int), .int .i64 (m : Int)] w (MoveMade m w) := by
  have hal := (Below.refl w.heap.size w).alloc (Nat.le_refl _) (.cells #[.int .i64 0, .int .i64 0] 26)
  have HAL := Lib.hid hal
  have HBY := Lib.hid (more_bytes (B' := w.heap.size + 1) (hbytes.below hal) (by omega))
  have HR0 := Lib.hid (heap_alloc_new w (.cells #[.int .i64 0, .int .i64 0] 26))
  have hsz : (w.alloc (.cells #[.int .i64 0, .int .i64 0] 26)).heap.size = w.heap.size + 1 := by simp
  have HSZ := Lib.hid hsz
  have hmn : min (m : Int) 12 = (m : Int) := by omega
  have hmx : max (1 : Int) (m : Int) = (m : Int) := by omega
  clear hal hbytes
  go_enter Tryz.func6, Tryz.ntmps6
  go_wp2_with fail
  refine (new23_any A n cap s _ hn hs (by rw [HSZ.out]; exact HBY.out)).mono ?_
  rintro e w1 ⟨c, rfl, hwc, hcur, hb1⟩
  have hsz1 : w.heap.size + 1 ≤ w1.heap.size := by rw [← HSZ.out]; exact hb1.size
  rw [HSZ.out] at hwc
  have HR1 := Lib.hid ((hb1.block w.heap.size (by rw [HSZ.out]; omega)).trans HR0.out)
  have HB1 := Lib.hid (HAL.out.trans (hb1.mono (by rw [HSZ.out]; omega)))
  have HBY1 := Lib.hid (HBY.out.below (hb1.mono (by rw [HSZ.out]; omega)))
  have HC1 := Lib.hid hcur
  clear hcur hb1 HBY HR0 HAL
  go_wp2_with fail
  refine (draw_move (w.heap.size + 1) c A n cap m _ hm (by omega) hn hwc HC1.out HBY1.out).mono ?_
  rintro e w2 ⟨kd, k, rfl, hk, hcur2, hg2⟩
  have hr2 := (hg2.block w.heap.size (by omega) (fun e => by simp only [Option.some.injEq] at e; omega)).trans HR1.out
  have hr0 := Fr2.range2 hr2 0 _ rfl
  have hr1 := Fr2.range2 hr2 1 _ rfl
  have hf1 := frz hr2 0
  have hf2 := frz hr2 1
  have HK := Lib.hid hk
  have HB2 := Lib.hid ((HB1.out.grown hg2 (by omega) (fun k hk => by simp only [Option.some.injEq] at hk; omega)).grown (set_grown w2 w.heap.size 0 (.int .i64 (kd : Int))) (by have := hg2.size; omega) (fun k hk => by simp only [Option.some.injEq] at hk; omega))
  have HB3 := Lib.hid (HB2.out.grown (set_grown _ w.heap.size 1 (.int .i64 (k : Int))) (by have := hg2.size; simp; omega) (fun k hk => by simp only [Option.some.injEq] at hk; omega))
  have HFR := Lib.hid (put2 (x := .int .i64 (kd : Int)) (y := .int .i64 (k : Int)) hr2)
  clear hr2 hcur2 hg2 hk HB1 HB2 HC1 HBY1 HR1 HSZ
  go_wp2
  (try simp only [Exit.inBlock, Exit.then])
  refine bodyPost_ret (results_cell rfl _ rfl (load2' HFR.out)) rfl ?_
  exact ⟨kd, k, rfl, HK.out, HB3.out⟩
end Go.Proofs.YthcggkhpamjjbaaGreat.Mkm
