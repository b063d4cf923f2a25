/- What the program's table says of a kind of move: its name, its greatest K, what performs it. -/
import Derived.Test.YtibephoepkofnaaMk
set_option linter.unusedVariables false
set_option maxRecDepth 20000
namespace Go.Proofs.Ytibephoepkofnaa.Mo
open Go.RowKit Fr Own Pk Ins Pfn Rws Lb Cat Mvp Mv1 Mv2 Mv3 Mv4 Mk

/-- a struct of the table in a variable of its own -/
theorem struct_there (w : World) (a b c : Value) (e : TypeId) : (w.alloc (.cells #[a, b, c] e)).heap[w.heap.size]? = some (.cells #[a, b, c] e (0, 0)) := heap_alloc_new w _
theorem cells3 {W : World} {g : Nat} {a b c : Value} {e : TypeId} (h : W.heap[g]? = some (.cells #[a, b, c] e (0, 0))) : W.cell? ⟨g, 0, none⟩ = some a ∧ W.cell? ⟨g, 1, none⟩ = some b ∧ W.cell? ⟨g, 2, none⟩ = some c ∧ (∀ j, W.frozen? ⟨g, j, none⟩ = false) := by
  unfold World.cell? World.frozen?
  simp [h]
theorem agg63 (w : World) : (isAgg 111).run Try.prog w = .ok true w := by kernel_rfl
theorem size63 (w : World) : (Go.sizeOf 111).run Try.prog w = .ok 3 w := by kernel_rfl
theorem run_index_kinds (cs : Array Value) (i : Nat) (hi : i < 10) (w : World) : (Instr.index 114 (.agg cs) (.int .i64 (i : Int))).run Try.prog w = .ok (.agg (cs.extract (i * 3) (i * 3 + 3))) w := by
  have h1 : (0 : Int) ≤ (i : Int) ∧ (i : Int) < (10 : Nat) := by omega
  have ht : (underlying 114).run Try.prog w = .ok (.array 10 111) w := run_underlying Try.underlying114 w
  unfold Instr.index
  simp only [asIntOf, Sem.run_bind, Sem.run_pure, Result.andThen_ok, ht]
  rw [if_pos h1]
  simp [part, size63 w]
theorem wpList_index_kinds {w : World} {ops : Array Oper} {rest : List Oper} {o : Oper} {a : Act} {Q : Exit → Act → World → Prop} (hgd : o.guard = none) (x ix : Operand) (ho : o.op = .index 114 x ix)
    (cs : Array Value) (i : Nat) (hx : a.eval x = .agg cs) (hix : a.eval ix = .int .i64 (i : Int)) (hi : i < 10) (h : wpList Try.prog ops Q rest (a.put o.dst (.agg (cs.extract (i * 3) (i * 3 + 3)))) w) : wpList Try.prog ops Q (o :: rest) a w := by
  refine wpList_plain hgd fun K hK => ?_
  have hrun := run_index_kinds cs i hi w
  unfold Oper.wp
  simp [execOp, ho, hx, hix, hrun, Result.andThen]
  exact hK _ _ h
/-- three cells of a block written -/
theorem put3 {W : World} {g : Nat} {a b c : Value} {e : TypeId} (h : W.heap[g]? = some (.cells #[a, b, c] e (0, 0))) (x y z : Value) :
    (((W.setCell ⟨g, 0, none⟩ x).setCell ⟨g, 1, none⟩ y).setCell ⟨g, 2, none⟩ z).heap[g]? = some (.cells #[x, y, z] e (0, 0)) := by
  have hlt := (Array.getElem?_eq_some_iff.1 h).1
  simp [World.setCell, h, Array.getElem?_modify]
theorem put3_other {W : World} {g : Nat} (x y z : Value) (p : Addr) (hp : p.block ≠ g) (v : Value) (h : W.cell? p = some v) : (((W.setCell ⟨g, 0, none⟩ x).setCell ⟨g, 1, none⟩ y).setCell ⟨g, 2, none⟩ z).cell? p = some v := by
  have e : ∀ (W1 : World) (j : Nat) (u : Value), (W1.setCell ⟨g, j, none⟩ u).cell? p = W1.cell? p := fun W1 j u => World.cell?_setCells_out g [u] j W1 p (fun h => absurd h hp)
  rw [e, e, e, h]
/-- what is left behind when a kind has been looked up -/
structure KindIn (w W : World) : Prop where
  below : Below w.heap.size w W
  deal : W.cell? ⟨w.heap.size + 1 + 1, 0, none⟩ = some (.func (.func 93) #[] #[])
  k4 : W.cell? ⟨w.heap.size + 1 + 1 + 1, 0, none⟩ = some (.int .i64 1)
  k5 : W.cell? ⟨w.heap.size + 1 + 1 + 1 + 1, 0, none⟩ = some (.int .i64 1)
  k6 : W.cell? ⟨w.heap.size + 1 + 1 + 1 + 1 + 1, 0, none⟩ = some (.int .i64 0)
  k7 : W.cell? ⟨w.heap.size + 1 + 1 + 1 + 1 + 1 + 1, 0, none⟩ = some (.int .i64 1)
theorem kind_in {w W : World} {a b c : Value} {e : TypeId} (hK : KindsAt (w.alloc (.cells #[a, b, c] e)) W) (x y z : Value) : KindIn w (((W.setCell ⟨w.heap.size, 0, none⟩ x).setCell ⟨w.heap.size, 1, none⟩ y).setCell ⟨w.heap.size, 2, none⟩ z) := by
  have hs : (w.alloc (.cells #[a, b, c] e)).heap.size = w.heap.size + 1 := by simp
  obtain ⟨h1, _, h2, h3, h4, h5, h6⟩ := hK
  rw [hs] at h1 h2 h3 h4 h5 h6
  have hb : Below w.heap.size w W := ((Below.refl w.heap.size w).alloc (Nat.le_refl _) (.cells #[a, b, c] e)).trans (h1.mono (by omega))
  exact ⟨((hb.setCell (p := ⟨w.heap.size, 0, none⟩) (Nat.le_refl _) x).setCell (p := ⟨w.heap.size, 1, none⟩) (Nat.le_refl _) y).setCell (p := ⟨w.heap.size, 2, none⟩) (Nat.le_refl _) z,
    put3_other x y z _ (by simp only [ne_eq]; omega) _ h2, put3_other x y z _ (by simp only [ne_eq]; omega) _ h3, put3_other x y z _ (by simp only [ne_eq]; omega) _ h4, put3_other x y z _ (by simp only [ne_eq]; omega) _ h5, put3_other x y z _ (by simp only [ne_eq]; omega) _ h6⟩
theorem range3 {W : World} {g : Nat} {x y z : Value} {e : TypeId} (h : W.heap[g]? = some (.cells #[x, y, z] e (0, 0))) : W.rangeAt g 0 [x, y, z] := by
  obtain ⟨h0, h1, h2, _⟩ := cells3 h
  intro j v hv
  match j, hv with
  | 0, hv => simp at hv; subst hv; exact h0
  | 1, hv => simp at hv; subst hv; exact h1
  | 2, hv => simp at hv; subst hv; exact h2
theorem load3 {W : World} {g : Nat} {x y z : Value} {e : TypeId} (h : W.heap[g]? = some (.cells #[x, y, z] e (0, 0))) : (loadVar 111 ⟨g, 0, none⟩).run Try.prog W = .ok (.agg #[x, y, z]) W :=
  run_loadVar_mid (P := Try.prog) W g 0 111 [x, y, z] _ (range3 h) Try.underlying111 rfl (by kernel_rfl)
set_option maxHeartbeats 4000000 in
set_option maxRecDepth 100000 in
theorem kind_1 (w : World) (N : Nat) (hN : N = w.heap.size) : Calls Try.prog 87 #[.int .i64 1] w fun e w' => e = .returned (.tuple #[.agg #[.string ⟨#[99, 117, 116]⟩, .func (.func 89) #[] #[], .func (.func 102) #[] #[]], .bool true]) ∧ KindIn w w' := by
  subst hN
  go_enter Try.func87, Try.ntmps87
  go_wp2_with fail
  refine (kinds_any _).mono ?_
  rintro e W ⟨rfl, hK⟩
  have hblk := (hK.below.block w.heap.size (by simp)).trans (heap_alloc_new w _)
  obtain ⟨hc0, hc1, hc2, hfz⟩ := cells3 hblk
  have hf0 := hfz 0
  have hf1 := hfz 1
  have hf2 := hfz 2
  have HK := Lib.hid hK
  have HB := Lib.hid hblk
  clear hK hblk hfz
  go_wp2_with (refine wpList_index_kinds rfl (.tmp 11) (.tmp 12) rfl _ 1 rfl rfl (by decide) ?_; simp only [kCells, List.extract_toArray])
  (try simp only [Exit.inBlock, Exit.then])
  refine bodyPost_ret (Mk.results_cell_tmp rfl _ rfl (load3 (put3 HB.out _ _ _))) rfl ?_
  exact ⟨rfl, kind_in HK.out _ _ _⟩
set_option maxHeartbeats 4000000 in
set_option maxRecDepth 100000 in
theorem kind_2 (w : World) (N : Nat) (hN : N = w.heap.size) : Calls Try.prog 87 #[.int .i64 2] w fun e w' => e = .returned (.tuple #[.agg #[.string ⟨#[100, 101, 97, 108]⟩, .func (.func 89) #[] #[], .func (.func 93) #[] #[]], .bool true]) ∧ KindIn w w' := by
  subst hN
  go_enter Try.func87, Try.ntmps87
  go_wp2_with fail
  refine (kinds_any _).mono ?_
  rintro e W ⟨rfl, hK⟩
  have hblk := (hK.below.block w.heap.size (by simp)).trans (heap_alloc_new w _)
  obtain ⟨hc0, hc1, hc2, hfz⟩ := cells3 hblk
  have hf0 := hfz 0
  have hf1 := hfz 1
  have hf2 := hfz 2
  have HK := Lib.hid hK
  have HB := Lib.hid hblk
  clear hK hblk hfz
  go_wp2_with (refine wpList_index_kinds rfl (.tmp 11) (.tmp 12) rfl _ 2 rfl rfl (by decide) ?_; simp only [kCells, List.extract_toArray])
  (try simp only [Exit.inBlock, Exit.then])
  refine bodyPost_ret (Mk.results_cell_tmp rfl _ rfl (load3 (put3 HB.out _ _ _))) rfl ?_
  exact ⟨rfl, kind_in HK.out _ _ _⟩
set_option maxHeartbeats 4000000 in
set_option maxRecDepth 100000 in
theorem kind_3 (w : World) (N : Nat) (hN : N = w.heap.size) : Calls Try.prog 87 #[.int .i64 3] w fun e w' => e = .returned (.tuple #[.agg #[.string ⟨#[102, 108, 105, 112]⟩, .func (.func 89) #[] #[], .func (.func 97) #[] #[.pointer (some ⟨N + 1 + 1, 0, none⟩)]], .bool true]) ∧ KindIn w w' := by
  subst hN
  go_enter Try.func87, Try.ntmps87
  go_wp2_with fail
  refine (kinds_any _).mono ?_
  rintro e W ⟨rfl, hK⟩
  have hblk := (hK.below.block w.heap.size (by simp)).trans (heap_alloc_new w _)
  obtain ⟨hc0, hc1, hc2, hfz⟩ := cells3 hblk
  have hf0 := hfz 0
  have hf1 := hfz 1
  have hf2 := hfz 2
  have HK := Lib.hid hK
  have HB := Lib.hid hblk
  clear hK hblk hfz
  go_wp2_with (refine wpList_index_kinds rfl (.tmp 11) (.tmp 12) rfl _ 3 rfl rfl (by decide) ?_; simp only [kCells, List.extract_toArray])
  (try simp only [Exit.inBlock, Exit.then])
  refine bodyPost_ret (Mk.results_cell_tmp rfl _ rfl (load3 (put3 HB.out _ _ _))) rfl ?_
  exact ⟨rfl, kind_in HK.out _ _ _⟩
set_option maxHeartbeats 4000000 in
set_option maxRecDepth 100000 in
theorem kind_4 (w : World) (N : Nat) (hN : N = w.heap.size) : Calls Try.prog 87 #[.int .i64 4] w fun e w' => e = .returned (.tuple #[.agg #[.string ⟨#[102, 97, 114, 111]⟩, .func (.func 92) #[] #[.pointer (some ⟨N + 1 + 1 + 1, 0, none⟩)], .func (.func 103) #[] #[]], .bool true]) ∧ KindIn w w' := by
  subst hN
  go_enter Try.func87, Try.ntmps87
  go_wp2_with fail
  refine (kinds_any _).mono ?_
  rintro e W ⟨rfl, hK⟩
  have hblk := (hK.below.block w.heap.size (by simp)).trans (heap_alloc_new w _)
  obtain ⟨hc0, hc1, hc2, hfz⟩ := cells3 hblk
  have hf0 := hfz 0
  have hf1 := hfz 1
  have hf2 := hfz 2
  have HK := Lib.hid hK
  have HB := Lib.hid hblk
  clear hK hblk hfz
  go_wp2_with (refine wpList_index_kinds rfl (.tmp 11) (.tmp 12) rfl _ 4 rfl rfl (by decide) ?_; simp only [kCells, List.extract_toArray])
  (try simp only [Exit.inBlock, Exit.then])
  refine bodyPost_ret (Mk.results_cell_tmp rfl _ rfl (load3 (put3 HB.out _ _ _))) rfl ?_
  exact ⟨rfl, kind_in HK.out _ _ _⟩
set_option maxHeartbeats 4000000 in
set_option maxRecDepth 100000 in
theorem kind_5 (w : World) (N : Nat) (hN : N = w.heap.size) : Calls Try.prog 87 #[.int .i64 5] w fun e w' => e = .returned (.tuple #[.agg #[.string ⟨#[109, 111, 110, 103, 101]⟩, .func (.func 92) #[] #[.pointer (some ⟨N + 1 + 1 + 1 + 1, 0, none⟩)], .func (.func 104) #[] #[]], .bool true]) ∧ KindIn w w' := by
  subst hN
  go_enter Try.func87, Try.ntmps87
  go_wp2_with fail
  refine (kinds_any _).mono ?_
  rintro e W ⟨rfl, hK⟩
  have hblk := (hK.below.block w.heap.size (by simp)).trans (heap_alloc_new w _)
  obtain ⟨hc0, hc1, hc2, hfz⟩ := cells3 hblk
  have hf0 := hfz 0
  have hf1 := hfz 1
  have hf2 := hfz 2
  have HK := Lib.hid hK
  have HB := Lib.hid hblk
  clear hK hblk hfz
  go_wp2_with (refine wpList_index_kinds rfl (.tmp 11) (.tmp 12) rfl _ 5 rfl rfl (by decide) ?_; simp only [kCells, List.extract_toArray])
  (try simp only [Exit.inBlock, Exit.then])
  refine bodyPost_ret (Mk.results_cell_tmp rfl _ rfl (load3 (put3 HB.out _ _ _))) rfl ?_
  exact ⟨rfl, kind_in HK.out _ _ _⟩
set_option maxHeartbeats 4000000 in
set_option maxRecDepth 100000 in
theorem kind_6 (w : World) (N : Nat) (hN : N = w.heap.size) : Calls Try.prog 87 #[.int .i64 6] w fun e w' => e = .returned (.tuple #[.agg #[.string ⟨#[109, 105, 108, 107]⟩, .func (.func 92) #[] #[.pointer (some ⟨N + 1 + 1 + 1 + 1 + 1, 0, none⟩)], .func (.func 98) #[] #[]], .bool true]) ∧ KindIn w w' := by
  subst hN
  go_enter Try.func87, Try.ntmps87
  go_wp2_with fail
  refine (kinds_any _).mono ?_
  rintro e W ⟨rfl, hK⟩
  have hblk := (hK.below.block w.heap.size (by simp)).trans (heap_alloc_new w _)
  obtain ⟨hc0, hc1, hc2, hfz⟩ := cells3 hblk
  have hf0 := hfz 0
  have hf1 := hfz 1
  have hf2 := hfz 2
  have HK := Lib.hid hK
  have HB := Lib.hid hblk
  clear hK hblk hfz
  go_wp2_with (refine wpList_index_kinds rfl (.tmp 11) (.tmp 12) rfl _ 6 rfl rfl (by decide) ?_; simp only [kCells, List.extract_toArray])
  (try simp only [Exit.inBlock, Exit.then])
  refine bodyPost_ret (Mk.results_cell_tmp rfl _ rfl (load3 (put3 HB.out _ _ _))) rfl ?_
  exact ⟨rfl, kind_in HK.out _ _ _⟩
set_option maxHeartbeats 4000000 in
set_option maxRecDepth 100000 in
theorem kind_7 (w : World) (N : Nat) (hN : N = w.heap.size) : Calls Try.prog 87 #[.int .i64 7] w fun e w' => e = .returned (.tuple #[.agg #[.string ⟨#[100, 117, 99, 107]⟩, .func (.func 92) #[] #[.pointer (some ⟨N + 1 + 1 + 1 + 1 + 1 + 1, 0, none⟩)], .func (.func 105) #[] #[]], .bool true]) ∧ KindIn w w' := by
  subst hN
  go_enter Try.func87, Try.ntmps87
  go_wp2_with fail
  refine (kinds_any _).mono ?_
  rintro e W ⟨rfl, hK⟩
  have hblk := (hK.below.block w.heap.size (by simp)).trans (heap_alloc_new w _)
  obtain ⟨hc0, hc1, hc2, hfz⟩ := cells3 hblk
  have hf0 := hfz 0
  have hf1 := hfz 1
  have hf2 := hfz 2
  have HK := Lib.hid hK
  have HB := Lib.hid hblk
  clear hK hblk hfz
  go_wp2_with (refine wpList_index_kinds rfl (.tmp 11) (.tmp 12) rfl _ 7 rfl rfl (by decide) ?_; simp only [kCells, List.extract_toArray])
  (try simp only [Exit.inBlock, Exit.then])
  refine bodyPost_ret (Mk.results_cell_tmp rfl _ rfl (load3 (put3 HB.out _ _ _))) rfl ?_
  exact ⟨rfl, kind_in HK.out _ _ _⟩
set_option maxHeartbeats 4000000 in
set_option maxRecDepth 100000 in
theorem kind_8 (w : World) (N : Nat) (hN : N = w.heap.size) : Calls Try.prog 87 #[.int .i64 8] w fun e w' => e = .returned (.tuple #[.agg #[.string ⟨#[116, 117, 114, 110]⟩, .func (.func 90) #[] #[], .func (.func 95) #[] #[]], .bool true]) ∧ KindIn w w' := by
  subst hN
  go_enter Try.func87, Try.ntmps87
  go_wp2_with fail
  refine (kinds_any _).mono ?_
  rintro e W ⟨rfl, hK⟩
  have hblk := (hK.below.block w.heap.size (by simp)).trans (heap_alloc_new w _)
  obtain ⟨hc0, hc1, hc2, hfz⟩ := cells3 hblk
  have hf0 := hfz 0
  have hf1 := hfz 1
  have hf2 := hfz 2
  have HK := Lib.hid hK
  have HB := Lib.hid hblk
  clear hK hblk hfz
  go_wp2_with (refine wpList_index_kinds rfl (.tmp 11) (.tmp 12) rfl _ 8 rfl rfl (by decide) ?_; simp only [kCells, List.extract_toArray])
  (try simp only [Exit.inBlock, Exit.then])
  refine bodyPost_ret (Mk.results_cell_tmp rfl _ rfl (load3 (put3 HB.out _ _ _))) rfl ?_
  exact ⟨rfl, kind_in HK.out _ _ _⟩
set_option maxHeartbeats 4000000 in
set_option maxRecDepth 100000 in
theorem kind_9 (w : World) (N : Nat) (hN : N = w.heap.size) : Calls Try.prog 87 #[.int .i64 9] w fun e w' => e = .returned (.tuple #[.agg #[.string ⟨#[117, 110, 100, 101, 114]⟩, .func (.func 90) #[] #[], .func (.func 100) #[] #[]], .bool true]) ∧ KindIn w w' := by
  subst hN
  go_enter Try.func87, Try.ntmps87
  go_wp2_with fail
  refine (kinds_any _).mono ?_
  rintro e W ⟨rfl, hK⟩
  have hblk := (hK.below.block w.heap.size (by simp)).trans (heap_alloc_new w _)
  obtain ⟨hc0, hc1, hc2, hfz⟩ := cells3 hblk
  have hf0 := hfz 0
  have hf1 := hfz 1
  have hf2 := hfz 2
  have HK := Lib.hid hK
  have HB := Lib.hid hblk
  clear hK hblk hfz
  go_wp2_with (refine wpList_index_kinds rfl (.tmp 11) (.tmp 12) rfl _ 9 rfl rfl (by decide) ?_; simp only [kCells, List.extract_toArray])
  (try simp only [Exit.inBlock, Exit.then])
  refine bodyPost_ret (Mk.results_cell_tmp rfl _ rfl (load3 (put3 HB.out _ _ _))) rfl ?_
  exact ⟨rfl, kind_in HK.out _ _ _⟩
theorem kind_no (kv : Int) (w : World) (h : ¬ (1 ≤ kv ∧ kv ≤ 9)) : Calls Try.prog 87 #[.int .i64 kv] w fun e w' => e = .returned (.tuple #[.agg #[.string ⟨#[]⟩, .nilFunc, .nilFunc], .bool false]) ∧ Below w.heap.size w w' := by
  by_cases h1 : kv < 1
  · clear h
    go_enter Try.func87, Try.ntmps87
    go_wp2
    (try simp only [Exit.inBlock, Exit.then])
    refine bodyPost_ret (Mk.results_cell_tmp rfl _ rfl (load3 (heap_alloc_new w _))) rfl ?_
    exact ⟨rfl, (Below.refl w.heap.size w).alloc (Nat.le_refl _) _⟩
  · have h2 : decide (kv < 1) = false := decide_eq_false h1
    have h3 : 9 < kv := by omega
    clear h h1
    go_enter Try.func87, Try.ntmps87
    go_wp2
    (try simp only [Exit.inBlock, Exit.then])
    refine bodyPost_ret (Mk.results_cell_tmp rfl _ rfl (load3 (heap_alloc_new w _))) rfl ?_
    exact ⟨rfl, (Below.refl w.heap.size w).alloc (Nat.le_refl _) _⟩
/-- a kind that there is -/
theorem kind_some (kv : Int) (w : World) (h : 1 ≤ kv ∧ kv ≤ 9) : Calls Try.prog 87 #[.int .i64 kv] w fun e w' => ∃ s f1 c1 f2 c2, e = .returned (.tuple #[.agg #[.string s, .func (.func f1) #[] c1, .func (.func f2) #[] c2], .bool true]) ∧ Below w.heap.size w w' := by
  rcases (show kv = 1 ∨ kv = 2 ∨ kv = 3 ∨ kv = 4 ∨ kv = 5 ∨ kv = 6 ∨ kv = 7 ∨ kv = 8 ∨ kv = 9 by omega) with rfl | rfl | rfl | rfl | rfl | rfl | rfl | rfl | rfl
  · exact (kind_1 w _ rfl).mono (by rintro e w' ⟨rfl, h⟩; exact ⟨_, _, _, _, _, rfl, h.below⟩)
  · exact (kind_2 w _ rfl).mono (by rintro e w' ⟨rfl, h⟩; exact ⟨_, _, _, _, _, rfl, h.below⟩)
  · exact (kind_3 w _ rfl).mono (by rintro e w' ⟨rfl, h⟩; exact ⟨_, _, _, _, _, rfl, h.below⟩)
  · exact (kind_4 w _ rfl).mono (by rintro e w' ⟨rfl, h⟩; exact ⟨_, _, _, _, _, rfl, h.below⟩)
  · exact (kind_5 w _ rfl).mono (by rintro e w' ⟨rfl, h⟩; exact ⟨_, _, _, _, _, rfl, h.below⟩)
  · exact (kind_6 w _ rfl).mono (by rintro e w' ⟨rfl, h⟩; exact ⟨_, _, _, _, _, rfl, h.below⟩)
  · exact (kind_7 w _ rfl).mono (by rintro e w' ⟨rfl, h⟩; exact ⟨_, _, _, _, _, rfl, h.below⟩)
  · exact (kind_8 w _ rfl).mono (by rintro e w' ⟨rfl, h⟩; exact ⟨_, _, _, _, _, rfl, h.below⟩)
  · exact (kind_9 w _ rfl).mono (by rintro e w' ⟨rfl, h⟩; exact ⟨_, _, _, _, _, rfl, h.below⟩)
end Go.Proofs.Ytibephoepkofnaa.Mo
