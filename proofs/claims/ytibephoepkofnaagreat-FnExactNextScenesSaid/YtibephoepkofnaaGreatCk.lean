/- MoveName and MoveNamed of the program and of the model. The program's table of choices, and the names of choices on both sides. -/
import Derived.Test.YtibephoepkofnaaGreatMok
set_option linter.unusedVariables false
set_option maxRecDepth 20000
namespace Go.Proofs.YtibephoepkofnaaGreat.Nm
open Go.RowKit Fr Own Pk Ins Pfn Rws Lb Cat Mvp Mv1 Mk Mo Mok

def names : List ByteArray := [⟨#[]⟩, ⟨#[99, 117, 116]⟩, ⟨#[100, 101, 97, 108]⟩, ⟨#[102, 108, 105, 112]⟩, ⟨#[102, 97, 114, 111]⟩, ⟨#[109, 111, 110, 103, 101]⟩, ⟨#[109, 105, 108, 107]⟩, ⟨#[100, 117, 99, 107]⟩, ⟨#[116, 117, 114, 110]⟩, ⟨#[117, 110, 100, 101, 114]⟩]
def nmN (i : Nat) : ByteArray := names.getD i ⟨#[]⟩
/-- the name of a kind -/
def nmF (kd : Int) : ByteArray := if 1 ≤ kd ∧ kd ≤ 9 then nmN kd.toNat else ⟨#[]⟩
def namedFrom (s : ByteArray) : Nat → Nat → Nat
  | 0, _ => 0
  | f + 1, i => if nmN i = s then i else namedFrom s f (i + 1)
def namedF (s : ByteArray) : Nat := namedFrom s 9 1
theorem named_hit {s : ByteArray} {f i : Nat} (h : nmN i = s) : namedFrom s (f + 1) i = i := by rw [namedFrom, if_pos h]
theorem named_miss {s : ByteArray} {f i : Nat} (h : ¬ nmN i = s) : namedFrom s (f + 1) i = namedFrom s f (i + 1) := by rw [namedFrom, if_neg h]
theorem named_empty : namedF ⟨#[]⟩ = 0 := by decide
theorem nmF_at (j : Nat) (h1 : 1 ≤ j) (h2 : j ≤ 9) : nmF (j : Int) = nmN j := by unfold nmF; rw [if_pos (by omega)]; rfl
theorem nmF_no {kd : Int} (h : ¬ (1 ≤ kd ∧ kd ≤ 9)) : nmF kd = ⟨#[]⟩ := by unfold nmF; rw [if_neg h]
theorem bytes_eq {a b : ByteArray} (h : a = b) : (a.toList == b.toList) = true := by rw [h]; exact beq_self_eq_true _
theorem bytes_ne {a b : ByteArray} (h : ¬ a = b) : (a.toList == b.toList) = false := by
  rw [beq_eq_false_iff_ne]
  intro e
  rw [ByteArray.toList_eq, ByteArray.toList_eq] at e
  apply h
  cases a; cases b
  simp only at e
  rw [Array.toList_inj.1 e]
theorem ret_s {a b : ByteArray} (h : a = b) : Ending.returned (.string a) = .returned (.string b) := by rw [h]
end Go.Proofs.YtibephoepkofnaaGreat.Nm

namespace Go.Proofs.YtibephoepkofnaaGreat.Ck
open Go.RowKit Fr Own Pk Ins Pfn Rws Lb Cat Mvp Mv1 Mk Mo Mok _root_.Go.Proofs.YtibephoepkofnaaGreat.Nm

def cNames : List ByteArray := [⟨#[102, 105, 120, 101, 100]⟩, ⟨#[97, 110, 121, 99, 117, 116]⟩, ⟨#[114, 105, 102, 102, 108, 101]⟩, ⟨#[97, 110, 121, 112, 97, 105, 114]⟩, ⟨#[112, 105, 99, 107]⟩]
/-- the name of a choice -/
def cnF (k : Int) : ByteArray := if 0 ≤ k ∧ k ≤ 4 then cNames.getD k.toNat ⟨#[]⟩ else ⟨#[]⟩
/-- how many cards it needs -/
def leastN (k : Int) : Int := if k = 3 then 2 else 1
theorem cnF_no {k : Int} (h : ¬ (0 ≤ k ∧ k ≤ 4)) : cnF k = ⟨#[]⟩ := by unfold cnF; rw [if_neg h]
def cCells : List Value := [.string ⟨#[102, 105, 120, 101, 100]⟩, .int .i64 1, .func (.func 114) #[] #[], .string ⟨#[97, 110, 121, 99, 117, 116]⟩, .int .i64 1, .func (.func 115) #[] #[], .string ⟨#[114, 105, 102, 102, 108, 101]⟩, .int .i64 1, .func (.func 116) #[] #[], .string ⟨#[97, 110, 121, 112, 97, 105, 114]⟩, .int .i64 2, .func (.func 117) #[] #[], .string ⟨#[112, 105, 99, 107]⟩, .int .i64 1, .func (.func 118) #[] #[]]
/-- what performs the choice -/
def cFn (k : Int) : Nat := [114, 115, 116, 117, 118].getD k.toNat 0
theorem range_new (w : World) (L : List Value) (e : TypeId) : (w.alloc (.cells L.toArray e)).rangeAt w.heap.size 0 L := by
  intro j v hv
  have hh := heap_alloc_new w (.cells L.toArray e)
  unfold World.cell?
  rw [hh]
  simpa using hv
set_option maxHeartbeats 400000 in
set_option maxRecDepth 100000 in
theorem table_any (w : World) : Calls Tryz.prog 101 #[] w fun e w' => e = .returned (.agg cCells.toArray) ∧ Below w.heap.size w w' := by
  have hrow : (Tryz.prog.info? 127).map (·.size) = some 15 := by kernel_rfl
  go_enter Tryz.func101, Tryz.ntmps101
  go_wp2
  have HLD := Lib.hid (run_loadVar_mid (P := Tryz.prog) _ w.heap.size 0 127 cCells _ (range_new w cCells 127) Tryz.underlying127 rfl hrow)
  clear hrow
  refine bodyPost_ret (results_cell rfl _ rfl HLD.out) rfl ?_
  exact ⟨rfl, (Below.refl w.heap.size w).alloc (Nat.le_refl _) _⟩
theorem sizeC (w : World) : (Go.sizeOf 112).run Tryz.prog w = .ok 3 w := by kernel_rfl
theorem run_index_c (cs : Array Value) (i : Nat) (hi : i < 5) (w : World) : (Instr.index 127 (.agg cs) (.int .i64 (i : Int))).run Tryz.prog w = .ok (.agg (cs.extract (i * 3) (i * 3 + 3))) w := by
  have h1 : (0 : Int) ≤ (i : Int) ∧ (i : Int) < (5 : Nat) := by omega
  have ht : (underlying 127).run Tryz.prog w = .ok (.array 5 112) w := run_underlying Tryz.underlying127 w
  unfold Instr.index
  simp only [asIntOf, Sem.run_bind, Sem.run_pure, Result.andThen_ok, ht]
  rw [if_pos h1]
  simp [part, sizeC w]
theorem wpList_index_c {w : World} {ops : Array Oper} {rest : List Oper} {o : Oper} {a : Act} {Q : Exit → Act → World → Prop} (hgd : o.guard = none) (x ix : Operand) (ho : o.op = .index 127 x ix)
    (cs : Array Value) (i : Nat) (hx : a.eval x = .agg cs) (hix : a.eval ix = .int .i64 (i : Int)) (hi : i < 5) (h : wpList Tryz.prog ops Q rest (a.put o.dst (.agg (cs.extract (i * 3) (i * 3 + 3)))) w) : wpList Tryz.prog ops Q (o :: rest) a w := by
  refine wpList_plain hgd fun K hK => ?_
  have hrun := run_index_c cs i hi w
  unfold Oper.wp
  simp [execOp, ho, hx, hix, hrun, Result.andThen]
  exact hK _ _ h
theorem load3c {W : World} {g : Nat} {x y z : Value} {e : TypeId} (h : W.heap[g]? = some (.cells #[x, y, z] e (0, 0))) : (loadVar 112 ⟨g, 0, none⟩).run Tryz.prog W = .ok (.agg #[x, y, z]) W :=
  run_loadVar_mid (P := Tryz.prog) W g 0 112 [x, y, z] _ (range3 h) Tryz.underlying112 rfl (by kernel_rfl)
set_option maxHeartbeats 4000000 in
set_option maxRecDepth 100000 in
theorem at_0 (w : World) (N : Nat) (hN : N = w.heap.size) : Calls Tryz.prog 73 #[.int .i64 0] w fun e w' => e = .returned (.tuple #[.agg #[.string ⟨#[102, 105, 120, 101, 100]⟩, .int .i64 1, .func (.func 114) #[] #[]], .bool true]) ∧ Below w.heap.size w w' := by
  subst hN
  go_enter Tryz.func73, Tryz.ntmps73
  go_wp2_with fail
  refine (table_any _).mono ?_
  rintro e W ⟨rfl, hK⟩
  have hblk := (hK.block w.heap.size (by simp)).trans (heap_alloc_new w _)
  obtain ⟨hc0, hc1, hc2, hfz⟩ := cells3 hblk
  have hf0 := hfz 0
  have hf1 := hfz 1
  have hf2 := hfz 2
  have HK := Lib.hid (((Below.refl w.heap.size w).alloc (Nat.le_refl _) _).trans (hK.mono (by simp)))
  have HB := Lib.hid hblk
  clear hK hblk hfz
  go_wp2_with (refine wpList_index_c rfl (.tmp 11) (.tmp 12) rfl _ 0 rfl rfl (by decide) ?_; simp only [cCells, List.extract_toArray])
  (try simp only [Exit.inBlock, Exit.then])
  refine bodyPost_ret (Mk.results_cell_tmp rfl _ rfl (load3c (put3 HB.out _ _ _))) rfl ?_
  exact ⟨rfl, ((HK.out.setCell (p := ⟨w.heap.size, 0, none⟩) (Nat.le_refl _) _).setCell (p := ⟨w.heap.size, 1, none⟩) (Nat.le_refl _) _).setCell (p := ⟨w.heap.size, 2, none⟩) (Nat.le_refl _) _⟩
set_option maxHeartbeats 4000000 in
set_option maxRecDepth 100000 in
theorem at_1 (w : World) (N : Nat) (hN : N = w.heap.size) : Calls Tryz.prog 73 #[.int .i64 1] w fun e w' => e = .returned (.tuple #[.agg #[.string ⟨#[97, 110, 121, 99, 117, 116]⟩, .int .i64 1, .func (.func 115) #[] #[]], .bool true]) ∧ Below w.heap.size w w' := by
  subst hN
  go_enter Tryz.func73, Tryz.ntmps73
  go_wp2_with fail
  refine (table_any _).mono ?_
  rintro e W ⟨rfl, hK⟩
  have hblk := (hK.block w.heap.size (by simp)).trans (heap_alloc_new w _)
  obtain ⟨hc0, hc1, hc2, hfz⟩ := cells3 hblk
  have hf0 := hfz 0
  have hf1 := hfz 1
  have hf2 := hfz 2
  have HK := Lib.hid (((Below.refl w.heap.size w).alloc (Nat.le_refl _) _).trans (hK.mono (by simp)))
  have HB := Lib.hid hblk
  clear hK hblk hfz
  go_wp2_with (refine wpList_index_c rfl (.tmp 11) (.tmp 12) rfl _ 1 rfl rfl (by decide) ?_; simp only [cCells, List.extract_toArray])
  (try simp only [Exit.inBlock, Exit.then])
  refine bodyPost_ret (Mk.results_cell_tmp rfl _ rfl (load3c (put3 HB.out _ _ _))) rfl ?_
  exact ⟨rfl, ((HK.out.setCell (p := ⟨w.heap.size, 0, none⟩) (Nat.le_refl _) _).setCell (p := ⟨w.heap.size, 1, none⟩) (Nat.le_refl _) _).setCell (p := ⟨w.heap.size, 2, none⟩) (Nat.le_refl _) _⟩
set_option maxHeartbeats 4000000 in
set_option maxRecDepth 100000 in
theorem at_2 (w : World) (N : Nat) (hN : N = w.heap.size) : Calls Tryz.prog 73 #[.int .i64 2] w fun e w' => e = .returned (.tuple #[.agg #[.string ⟨#[114, 105, 102, 102, 108, 101]⟩, .int .i64 1, .func (.func 116) #[] #[]], .bool true]) ∧ Below w.heap.size w w' := by
  subst hN
  go_enter Tryz.func73, Tryz.ntmps73
  go_wp2_with fail
  refine (table_any _).mono ?_
  rintro e W ⟨rfl, hK⟩
  have hblk := (hK.block w.heap.size (by simp)).trans (heap_alloc_new w _)
  obtain ⟨hc0, hc1, hc2, hfz⟩ := cells3 hblk
  have hf0 := hfz 0
  have hf1 := hfz 1
  have hf2 := hfz 2
  have HK := Lib.hid (((Below.refl w.heap.size w).alloc (Nat.le_refl _) _).trans (hK.mono (by simp)))
  have HB := Lib.hid hblk
  clear hK hblk hfz
  go_wp2_with (refine wpList_index_c rfl (.tmp 11) (.tmp 12) rfl _ 2 rfl rfl (by decide) ?_; simp only [cCells, List.extract_toArray])
  (try simp only [Exit.inBlock, Exit.then])
  refine bodyPost_ret (Mk.results_cell_tmp rfl _ rfl (load3c (put3 HB.out _ _ _))) rfl ?_
  exact ⟨rfl, ((HK.out.setCell (p := ⟨w.heap.size, 0, none⟩) (Nat.le_refl _) _).setCell (p := ⟨w.heap.size, 1, none⟩) (Nat.le_refl _) _).setCell (p := ⟨w.heap.size, 2, none⟩) (Nat.le_refl _) _⟩
set_option maxHeartbeats 4000000 in
set_option maxRecDepth 100000 in
theorem at_3 (w : World) (N : Nat) (hN : N = w.heap.size) : Calls Tryz.prog 73 #[.int .i64 3] w fun e w' => e = .returned (.tuple #[.agg #[.string ⟨#[97, 110, 121, 112, 97, 105, 114]⟩, .int .i64 2, .func (.func 117) #[] #[]], .bool true]) ∧ Below w.heap.size w w' := by
  subst hN
  go_enter Tryz.func73, Tryz.ntmps73
  go_wp2_with fail
  refine (table_any _).mono ?_
  rintro e W ⟨rfl, hK⟩
  have hblk := (hK.block w.heap.size (by simp)).trans (heap_alloc_new w _)
  obtain ⟨hc0, hc1, hc2, hfz⟩ := cells3 hblk
  have hf0 := hfz 0
  have hf1 := hfz 1
  have hf2 := hfz 2
  have HK := Lib.hid (((Below.refl w.heap.size w).alloc (Nat.le_refl _) _).trans (hK.mono (by simp)))
  have HB := Lib.hid hblk
  clear hK hblk hfz
  go_wp2_with (refine wpList_index_c rfl (.tmp 11) (.tmp 12) rfl _ 3 rfl rfl (by decide) ?_; simp only [cCells, List.extract_toArray])
  (try simp only [Exit.inBlock, Exit.then])
  refine bodyPost_ret (Mk.results_cell_tmp rfl _ rfl (load3c (put3 HB.out _ _ _))) rfl ?_
  exact ⟨rfl, ((HK.out.setCell (p := ⟨w.heap.size, 0, none⟩) (Nat.le_refl _) _).setCell (p := ⟨w.heap.size, 1, none⟩) (Nat.le_refl _) _).setCell (p := ⟨w.heap.size, 2, none⟩) (Nat.le_refl _) _⟩
set_option maxHeartbeats 4000000 in
set_option maxRecDepth 100000 in
theorem at_4 (w : World) (N : Nat) (hN : N = w.heap.size) : Calls Tryz.prog 73 #[.int .i64 4] w fun e w' => e = .returned (.tuple #[.agg #[.string ⟨#[112, 105, 99, 107]⟩, .int .i64 1, .func (.func 118) #[] #[]], .bool true]) ∧ Below w.heap.size w w' := by
  subst hN
  go_enter Tryz.func73, Tryz.ntmps73
  go_wp2_with fail
  refine (table_any _).mono ?_
  rintro e W ⟨rfl, hK⟩
  have hblk := (hK.block w.heap.size (by simp)).trans (heap_alloc_new w _)
  obtain ⟨hc0, hc1, hc2, hfz⟩ := cells3 hblk
  have hf0 := hfz 0
  have hf1 := hfz 1
  have hf2 := hfz 2
  have HK := Lib.hid (((Below.refl w.heap.size w).alloc (Nat.le_refl _) _).trans (hK.mono (by simp)))
  have HB := Lib.hid hblk
  clear hK hblk hfz
  go_wp2_with (refine wpList_index_c rfl (.tmp 11) (.tmp 12) rfl _ 4 rfl rfl (by decide) ?_; simp only [cCells, List.extract_toArray])
  (try simp only [Exit.inBlock, Exit.then])
  refine bodyPost_ret (Mk.results_cell_tmp rfl _ rfl (load3c (put3 HB.out _ _ _))) rfl ?_
  exact ⟨rfl, ((HK.out.setCell (p := ⟨w.heap.size, 0, none⟩) (Nat.le_refl _) _).setCell (p := ⟨w.heap.size, 1, none⟩) (Nat.le_refl _) _).setCell (p := ⟨w.heap.size, 2, none⟩) (Nat.le_refl _) _⟩
/-- a choice that there is -/
theorem kind_yes (k : Int) (w : World) (h : 0 ≤ k ∧ k ≤ 4) : Calls Tryz.prog 73 #[.int .i64 k] w fun e w' => e = .returned (.tuple #[.agg #[.string (cnF k), .int .i64 (leastN k), .func (.func (cFn k)) #[] #[]], .bool true]) ∧ Below w.heap.size w w' := by
  rcases (show k = 0 ∨ k = 1 ∨ k = 2 ∨ k = 3 ∨ k = 4 by omega) with rfl | rfl | rfl | rfl | rfl
  · exact at_0 w _ rfl
  · exact at_1 w _ rfl
  · exact at_2 w _ rfl
  · exact at_3 w _ rfl
  · exact at_4 w _ rfl
theorem kind_not (k : Int) (w : World) (h : ¬ (0 ≤ k ∧ k ≤ 4)) : Calls Tryz.prog 73 #[.int .i64 k] w fun e w' => e = .returned (.tuple #[.agg #[.string ⟨#[]⟩, .int .i64 0, .nilFunc], .bool false]) ∧ Below w.heap.size w w' := by
  by_cases h1 : k < 0
  · clear h
    go_enter Tryz.func73, Tryz.ntmps73
    go_wp2
    (try simp only [Exit.inBlock, Exit.then])
    refine bodyPost_ret (Mk.results_cell_tmp rfl _ rfl (load3c (heap_alloc_new w _))) rfl ?_
    exact ⟨rfl, (Below.refl w.heap.size w).alloc (Nat.le_refl _) _⟩
  · have h2 : decide (k < 0) = false := decide_eq_false h1
    have h3 : 4 < k := by omega
    clear h h1
    go_enter Tryz.func73, Tryz.ntmps73
    go_wp2
    (try simp only [Exit.inBlock, Exit.then])
    refine bodyPost_ret (Mk.results_cell_tmp rfl _ rfl (load3c (heap_alloc_new w _))) rfl ?_
    exact ⟨rfl, (Below.refl w.heap.size w).alloc (Nat.le_refl _) _⟩
end Go.Proofs.YtibephoepkofnaaGreat.Ck
