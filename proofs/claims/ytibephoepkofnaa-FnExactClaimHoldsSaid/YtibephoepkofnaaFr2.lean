/- A struct of two integers as an argument, and the laws' copy of it. -/
import Derived.Test.YtibephoepkofnaaMk
import Derived.Deep.RegionHeld3
import Derived.Lib.SmallJoins
set_option linter.unusedVariables false
set_option maxRecDepth 20000
namespace Go.Proofs.Ytibephoepkofnaa.Fr2
open Go.Deep Go.RowKit Go.Joins Go.ChangeShapes Go.WideShapes Fr Own Ins Mk

section
variable {H : Type} {enc : TypeId × Value → H} {P : Program}
theorem view_pair {W : World} {base : Nat} {t : TypeId} {f0 f1 : Field} {v : Value} {d : DataW H} {ps : List MemPlace} (hs : P.underlying t = some (.struct #[f0, f1])) (hone : oneCellFields P #[f0, f1] = true) (hC : P.cellsOf t = 2)
    (h0 : P.underlying f0.type = some (.int .i64)) (h1 : P.underlying f1.type = some (.int .i64)) (hval : Value.okWide P W .any base t v) (hd : DataW.Trod enc P W 0 (fun _ => true) true t v d ps) :
    ∃ x y : Int, v = .agg #[.int .i64 x, .int .i64 y] ∧ (Lit.int .i64 x).wf = true ∧ (Lit.int .i64 y).wf = true := by
  obtain ⟨v0, v1, y0, y1, n, rfl, _, _, e0, e1⟩ := open_agg2 hs hone hC hval hd
  obtain ⟨a, ha, _, hwa⟩ := DataW.trod_int h0 e0
  obtain ⟨b, hb, _, hwb⟩ := DataW.trod_int h1 e1
  simp only [List.cons.injEq, and_true] at ha hb
  subst ha hb
  exact ⟨a, b, rfl, hwa, hwb⟩
end
theorem range2 {W : World} {g : Nat} {x y : Value} {e : TypeId} (h : W.heap[g]? = some (.cells #[x, y] e (0, 0))) : W.rangeAt g 0 [x, y] := by
  intro j v hv
  unfold World.cell?
  match j, hv with
  | 0, hv => simp at hv; subst hv; simp [h]
  | 1, hv => simp at hv; subst hv; simp [h]
theorem load2 {W : World} {g : Nat} {x y : Value} {e : TypeId} (h : W.heap[g]? = some (.cells #[x, y] e (0, 0))) : (loadVar 27 ⟨g, 0, none⟩).run Try.prog W = .ok (.agg #[x, y]) W :=
  run_loadVar_mid (P := Try.prog) W g 0 27 [x, y] _ (range2 h) Try.underlying27 rfl (by kernel_rfl)
theorem to_move (a b : Int) (w : World) : Calls Try.prog 31 #[.agg #[.int .i64 a, .int .i64 b]] w fun e w' => e = .returned (.agg #[.int .i64 a, .int .i64 b]) ∧ Below w.heap.size w w' := by
  have hb := (((Below.refl w.heap.size w).alloc (Nat.le_refl _) (.cells #[.int .i64 a, .int .i64 b] 23)).alloc (by simp) (.cells #[.int .i64 a, .int .i64 b] 27)).alloc (by simp; omega) (.cells #[.int .i64 a, .int .i64 b] 27)
  go_enter Try.func31, Try.ntmps31
  have hm : (((w.alloc (.cells #[.int .i64 a, .int .i64 b] 23)).alloc (.cells #[.int .i64 a, .int .i64 b] 27)).alloc (.cells #[.int .i64 a, .int .i64 b] 27)).heap[w.heap.size + 1]? = some (.cells #[.int .i64 a, .int .i64 b] 27 (0, 0)) := by
    have h := heap_alloc_new (w.alloc (.cells #[.int .i64 a, .int .i64 b] 23)) (.cells #[.int .i64 a, .int .i64 b] 27)
    have hs : (w.alloc (.cells #[.int .i64 a, .int .i64 b] 23)).heap.size = w.heap.size + 1 := by simp
    rw [hs] at h
    have h2 := (Below.refl (w.heap.size + 2) ((w.alloc (.cells #[.int .i64 a, .int .i64 b] 23)).alloc (.cells #[.int .i64 a, .int .i64 b] 27))).alloc (by simp) (.cells #[.int .i64 a, .int .i64 b] 27)
    exact (h2.block (w.heap.size + 1) (by omega)).trans h
  have HM := Lib.hid hm
  have HB := Lib.hid hb
  clear hm hb
  go_wp2
  (try simp only [Exit.inBlock, Exit.then])
  refine bodyPost_ret (results_cell rfl _ rfl (load2 HM.out)) rfl ?_
  exact ⟨rfl, HB.out⟩
end Go.Proofs.Ytibephoepkofnaa.Fr2
