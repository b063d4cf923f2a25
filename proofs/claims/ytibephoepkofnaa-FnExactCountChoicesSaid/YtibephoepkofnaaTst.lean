/- Steps of tricks and rows of them: as an argument, the laws' copy, comparison, marks. -/
import Derived.Test.YtibephoepkofnaaFr2
import Derived.Deep.Slices
import Derived.Deep.SlicePairs
import Derived.Deep.Strs
import Derived.Deep.RegionHeld3
import Derived.Deep.CutRange
set_option linter.unusedVariables false
set_option maxRecDepth 20000
namespace Go.Proofs.Ytibephoepkofnaa.Tst
open Go.Deep Go.RowKit Go.ChangeShapes Go.WideShapes Fr Own Ins

/-- a step: its kind, its move, its number -/
structure SR where
  k : Int
  d : Int
  q : Int
  a : Int
def sr0 : SR := ⟨0, 0, 0, 0⟩
abbrev SR.v (s : SR) : Value := .agg #[.int .i64 s.k, .int .i64 s.d, .int .i64 s.q, .int .i64 s.a]
def SR.wf (s : SR) : Prop := (Lit.int .i64 s.k).wf = true ∧ (Lit.int .i64 s.d).wf = true ∧ (Lit.int .i64 s.q).wf = true ∧ (Lit.int .i64 s.a).wf = true
def WfS (ss : List SR) : Prop := ∀ j, j < ss.length → (ss.getD j sr0).wf
def StepsAt (w : World) (B : Nat) (A : Option Addr) (ss : List SR) : Prop :=
  ∀ j, j < ss.length → ∃ b o, A = some ⟨b, o, none⟩ ∧ b < B ∧ w.cell? ⟨b, o + j * 4, none⟩ = some (.int .i64 (ss.getD j sr0).k) ∧ w.cell? ⟨b, o + j * 4 + 1, none⟩ = some (.int .i64 (ss.getD j sr0).d) ∧
    w.cell? ⟨b, o + j * 4 + 2, none⟩ = some (.int .i64 (ss.getD j sr0).q) ∧ w.cell? ⟨b, o + j * 4 + 3, none⟩ = some (.int .i64 (ss.getD j sr0).a)
theorem StepsAt.below {w w' : World} {B : Nat} {A : Option Addr} {ss : List SR} (h : StepsAt w B A ss) (hb : Below B w w') : StepsAt w' B A ss := by
  intro j hj
  obtain ⟨b, o, hA, hlt, h0, h1, h2, h3⟩ := h j hj
  exact ⟨b, o, hA, hlt, (hb.cell (p := ⟨b, _, none⟩) hlt).trans h0, (hb.cell (p := ⟨b, _, none⟩) hlt).trans h1, (hb.cell (p := ⟨b, _, none⟩) hlt).trans h2, (hb.cell (p := ⟨b, _, none⟩) hlt).trans h3⟩
theorem StepsAt.more {w : World} {B B' : Nat} {A : Option Addr} {ss : List SR} (h : StepsAt w B A ss) (hB : B ≤ B') : StepsAt w B' A ss := by
  intro j hj
  obtain ⟨b, o, hA, hlt, r⟩ := h j hj
  exact ⟨b, o, hA, by omega, r⟩
section
variable {H : Type} {enc : TypeId × Value → H} {P : Program}
/-- the types of a step -/
structure StepTy (P : Program) (t : TypeId) (f0 f1 f2 g0 g1 : Field) : Prop where
  s : P.underlying t = some (.struct #[f0, f1, f2])
  m : P.underlying f1.type = some (.struct #[g0, g1])
  c : P.cellsOf t = 4
  c0 : P.cellsOf f0.type = 1
  c1 : P.cellsOf f1.type = 2
  c2 : P.cellsOf f2.type = 1
  d0 : P.cellsOf g0.type = 1
  d1 : P.cellsOf g1.type = 1
  o0 : f0.offset = 0
  o1 : f1.offset = 1
  o2 : f2.offset = 3
  p0 : g0.offset = 0
  p1 : g1.offset = 1
  i0 : P.underlying f0.type = some (.int .i64)
  i2 : P.underlying f2.type = some (.int .i64)
  j0 : P.underlying g0.type = some (.int .i64)
  j1 : P.underlying g1.type = some (.int .i64)
theorem trod_step {W : World} {base : Nat} {spare : Nat → Bool} {held : Bool} {t : TypeId} {f0 f1 f2 g0 g1 : Field} {fuel : Nat} {cs : List Value} {x : DataW H × List MemPlace} (T : StepTy P t f0 f1 f2 g0 g1)
    (h : DataW.trod enc P W base spare held fuel t cs = some x) : ∃ s : SR, s.wf ∧ cs = [.int .i64 s.k, .int .i64 s.d, .int .i64 s.q, .int .i64 s.a] := by
  obtain ⟨y0, y1, y2, n, _, hl, h0, h1, h2⟩ := trod_struct3 T.s h
  rw [T.c] at hl
  match cs, hl with
  | [v0, v1, v2, v3], _ =>
    rw [T.o0, T.c0] at h0
    rw [T.o1, T.c1] at h1
    rw [T.o2, T.c2] at h2
    have h0' : DataW.trod enc P W base spare held n f0.type [v0] = some y0 := h0
    have h1' : DataW.trod enc P W base spare held n f1.type [v1, v2] = some y1 := h1
    have h2' : DataW.trod enc P W base spare held n f2.type [v3] = some y2 := h2
    obtain ⟨z0, z1, m, _, _, k0, k1⟩ := trod_struct2 T.m h1'
    rw [T.p0, T.d0] at k0
    rw [T.p1, T.d1] at k1
    have k0' : DataW.trod enc P W base spare held m g0.type [v1] = some z0 := k0
    have k1' : DataW.trod enc P W base spare held m g1.type [v2] = some z1 := k1
    obtain ⟨a0, e0, _, w0⟩ := DataW.trod_int T.i0 h0'
    obtain ⟨a1, e1, _, w1⟩ := DataW.trod_int T.j0 k0'
    obtain ⟨a2, e2, _, w2⟩ := DataW.trod_int T.j1 k1'
    obtain ⟨a3, e3, _, w3⟩ := DataW.trod_int T.i2 h2'
    simp only [List.cons.injEq, and_true] at e0 e1 e2 e3
    subst e0 e1 e2 e3
    exact ⟨⟨a0, a1, a2, a3⟩, ⟨w0, w1, w2, w3⟩, rfl⟩
/-- an argument that is a step -/
theorem view_step {W : World} {base : Nat} {t : TypeId} {f0 f1 f2 g0 g1 : Field} {v : Value} {d : DataW H} {ps : List MemPlace} (T : StepTy P t f0 f1 f2 g0 g1)
    (hval : Value.okWide P W .any base t v) (hd : DataW.Trod enc P W 0 (fun _ => true) true t v d ps) : ∃ s : SR, v = s.v ∧ s.wf := by
  obtain ⟨cs, rfl, hsz⟩ := okWide_struct T.s hval
  obtain ⟨fuel, hf⟩ := hd
  obtain ⟨s, hw, e⟩ := trod_step T hf
  refine ⟨s, ?_, hw⟩
  have e2 : cs.toList = [.int .i64 s.k, .int .i64 s.d, .int .i64 s.q, .int .i64 s.a] := e
  have : cs = #[.int .i64 s.k, .int .i64 s.d, .int .i64 s.q, .int .i64 s.a] := by
    rw [← Array.toArray_toList (xs := cs), e2]
  rw [this]
/-- a row of steps that a slice reads -/
theorem trod_steps {W : World} {t e : TypeId} {f0 f1 f2 g0 g1 : Field} {fuel : Nat} {cs : List Value} {x : DataW H × List MemPlace} (hs : P.underlying t = some (.slice e)) (T : StepTy P e f0 f1 f2 g0 g1)
    (h : DataW.trod enc P W 0 (fun _ => true) true fuel t cs = some x) (hlt : ∀ y ∈ x.2, y.block < W.heap.size) :
    ∃ (A : Option Addr) (n c : Nat) (ss : List SR), cs = [.slice A n c] ∧ ss.length = n ∧ n ≤ maxLen ∧ WfS ss ∧ StepsAt W W.heap.size A ss := by
  rcases open_slice hs h with ⟨rfl, _⟩ | ⟨a, len, cap, m, n, D, Pl, rfl, _, hl, hm, hmm, rfl, hx⟩
  · exact ⟨none, 0, 0, [], rfl, rfl, Nat.zero_le _, fun j hj => absurd hj (Nat.not_lt_zero _), fun k hk => absurd hk (Nat.not_lt_zero _)⟩
  · have hlm : len ≤ m := by rw [hmm]; split <;> omega
    have each : ∀ i, i < m → ∃ s : SR, s.wf ∧ W.cell? (a.add (i * 4)) = some (.int .i64 s.k) ∧ W.cell? (a.add (i * 4 + 1)) = some (.int .i64 s.d) ∧ W.cell? (a.add (i * 4 + 2)) = some (.int .i64 s.q) ∧ W.cell? (a.add (i * 4 + 3)) = some (.int .i64 s.a) := by
      intro i hi
      obtain ⟨cs', h1, h2⟩ := hx i hi
      rw [T.c] at h1
      obtain ⟨_, hlen, hcell⟩ := World.cells?_some h1
      obtain ⟨s, hw, rfl⟩ := trod_step T h2
      have e0 := hcell 0 (by omega)
      have e1 := hcell 1 (by omega)
      have e2 := hcell 2 (by omega)
      have e3 := hcell 3 (by omega)
      rw [add_add] at e0 e1 e2 e3
      exact ⟨s, hw, by simpa using e0, by simpa using e1, by simpa using e2, by simpa using e3⟩
    obtain ⟨b, o, sp⟩ := a
    have hspot : 0 < m → sp = none := fun h0 => by simpa [Addr.add] using World.cell?_spot (each 0 h0).choose_spec.2.1
    have hblk : 0 < m → b < W.heap.size := fun h0 => by
      have := World.block_lt_of_cell? W _ (each 0 h0).choose_spec.2.1
      simpa [Addr.add] using this
    refine ⟨some ⟨b, o, sp⟩, len, cap, (List.range len).map fun i => if hi' : i < m then (each i hi').choose else sr0, rfl, by simp, by omega, ?_, ?_⟩
    · intro j hj
      simp only [List.length_map, List.length_range] at hj
      have hjm : j < m := by omega
      simp only [List.getD_eq_getElem?_getD, List.getElem?_map, List.getElem?_range hj, Option.map_some, Option.getD_some, dif_pos hjm]
      exact (each j hjm).choose_spec.1
    · intro k hk
      simp only [List.length_map, List.length_range] at hk
      have hkm : k < m := by omega
      have hb := hblk (by omega)
      have hsp := hspot (by omega)
      subst hsp
      obtain ⟨_, q0, q1, q2, q3⟩ := (each k hkm).choose_spec
      simp only [List.getD_eq_getElem?_getD, List.getElem?_map, List.getElem?_range hk, Option.map_some, Option.getD_some, dif_pos hkm]
      exact ⟨b, o, rfl, hb, (congrArg W.cell? (by rw [add_plain])).trans q0, (congrArg W.cell? (by rw [add_plain, Nat.add_assoc])).trans q1, (congrArg W.cell? (by rw [add_plain, Nat.add_assoc])).trans q2, (congrArg W.cell? (by rw [add_plain, Nat.add_assoc])).trans q3⟩
end

theorem infoStep : (Try.prog.info? 29).map (fun i => (i.zero, i.size, i.bytes)) = some (some (.agg #[.int .i64 0, .int .i64 0, .int .i64 0, .int .i64 0]), 4, 32) := by kernel_rfl

/-- the cells hold the first k steps -/
def Lies (xs : List Value) (ss : List SR) (k : Nat) : Prop := ∀ j, j < k → xs[j * 4]? = some (.int .i64 (ss.getD j sr0).k) ∧ xs[j * 4 + 1]? = some (.int .i64 (ss.getD j sr0).d) ∧ xs[j * 4 + 2]? = some (.int .i64 (ss.getD j sr0).q) ∧ xs[j * 4 + 3]? = some (.int .i64 (ss.getD j sr0).a)
theorem get_four {xs : List Value} {i j : Nat} {a b c d : Value} (h : i * 4 + 3 < xs.length) :
    (j ≠ i → ∀ r, r < 4 → ((((xs.set (i * 4) a).set (i * 4 + 1) b).set (i * 4 + 2) c).set (i * 4 + 3) d)[j * 4 + r]? = xs[j * 4 + r]?) ∧
    ((((xs.set (i * 4) a).set (i * 4 + 1) b).set (i * 4 + 2) c).set (i * 4 + 3) d)[i * 4]? = some a ∧ ((((xs.set (i * 4) a).set (i * 4 + 1) b).set (i * 4 + 2) c).set (i * 4 + 3) d)[i * 4 + 1]? = some b ∧
    ((((xs.set (i * 4) a).set (i * 4 + 1) b).set (i * 4 + 2) c).set (i * 4 + 3) d)[i * 4 + 2]? = some c ∧ ((((xs.set (i * 4) a).set (i * 4 + 1) b).set (i * 4 + 2) c).set (i * 4 + 3) d)[i * 4 + 3]? = some d := by
  refine ⟨fun hj r hr => ?_, ?_, ?_, ?_, ?_⟩
  · rw [List.getElem?_set_ne (by omega), List.getElem?_set_ne (by omega), List.getElem?_set_ne (by omega), List.getElem?_set_ne (by omega)]
  · rw [List.getElem?_set_ne (by omega), List.getElem?_set_ne (by omega), List.getElem?_set_ne (by omega), List.getElem?_set_self (by omega)]
  · rw [List.getElem?_set_ne (by omega), List.getElem?_set_ne (by omega), List.getElem?_set_self (by rw [List.length_set]; omega)]
  · rw [List.getElem?_set_ne (by omega), List.getElem?_set_self (by simp only [List.length_set]; omega)]
  · rw [List.getElem?_set_self (by simp only [List.length_set]; omega)]
theorem Lies.next {xs : List Value} {ss : List SR} {k : Nat} (h : Lies xs ss k) (hk : k * 4 + 3 < xs.length) :
    Lies ((((xs.set (k * 4) (.int .i64 (ss.getD k sr0).k)).set (k * 4 + 1) (.int .i64 (ss.getD k sr0).d)).set (k * 4 + 2) (.int .i64 (ss.getD k sr0).q)).set (k * 4 + 3) (.int .i64 (ss.getD k sr0).a)) ss (k + 1) := by
  intro j hj
  obtain ⟨g, g0, g1, g2, g3⟩ := get_four (xs := xs) (i := k) (j := j) (a := .int .i64 (ss.getD k sr0).k) (b := .int .i64 (ss.getD k sr0).d) (c := .int .i64 (ss.getD k sr0).q) (d := .int .i64 (ss.getD k sr0).a) hk
  by_cases hjk : j = k
  · subst hjk
    exact ⟨g0, g1, g2, g3⟩
  · obtain ⟨h0, h1, h2, h3⟩ := h j (by omega)
    have q0 := g hjk 0 (by decide)
    rw [Nat.add_zero] at q0
    exact ⟨q0.trans h0, (g hjk 1 (by decide)).trans h1, (g hjk 2 (by decide)).trans h2, (g hjk 3 (by decide)).trans h3⟩
/-- a row of steps of the call's own -/
def SRow (W : World) (lo hi : Nat) (A : Option Addr) (n c : Nat) (ss : List SR) : Prop :=
  (∃ xs, W.ownsRow lo 29 4 (.slice A n c) n xs ∧ Lies xs ss n) ∧ ss.length = n ∧ (∀ a, A = some a → a.block < hi) ∧ hi ≤ W.heap.size
section
variable {W W' : World} {B0 B1 : Nat} {A : Option Addr} {n c : Nat} {ss : List SR}
theorem SRow.len (h : SRow W B0 B1 A n c ss) : ss.length = n := h.2.1
theorem SRow.below (h : SRow W B0 B1 A n c ss) (hb : Below W.heap.size W W') : SRow W' B0 B1 A n c ss := by
  obtain ⟨⟨xs, h1, h2⟩, h3, h4, h5⟩ := h
  exact ⟨⟨xs, own_below h1 hb, h2⟩, h3, h4, Nat.le_trans h5 hb.size⟩
theorem SRow.lo (h : SRow W B0 B1 A n c ss) : ∀ k, A.map (·.block) = some k → B0 ≤ k := by
  obtain ⟨⟨xs, h1, h2⟩, h3, h4, h5⟩ := h
  intro k hk
  cases A with
  | none => cases hk
  | some a =>
    simp only [Option.map_some, Option.some.injEq] at hk
    subst hk
    exact (h1.lt a.block rfl).1
theorem SRow.hi (h : SRow W B0 B1 A n c ss) : ∀ k, A.map (·.block) = some k → k < B1 := by
  intro k hk
  cases A with
  | none => cases hk
  | some a =>
    simp only [Option.map_some, Option.some.injEq] at hk
    subst hk
    exact h.2.2.1 a rfl
theorem SRow.grown {row : Option Nat} (h : SRow W B0 B1 A n c ss) (hg : W.grownBy W' row) (hr : ∀ k, row = some k → k < B0 ∨ B1 ≤ k) : SRow W' B0 B1 A n c ss := by
  have hlo := h.lo
  have hhi := h.hi
  obtain ⟨⟨xs, h1, h2⟩, h3, h4, h5⟩ := h
  refine ⟨⟨xs, h1.kept hg ?_, h2⟩, h3, h4, Nat.le_trans h5 hg.size⟩
  cases A with
  | none => exact Or.inl rfl
  | some a =>
    refine Or.inr fun e => ?_
    have k1 := hlo a.block rfl
    have k2 := hhi a.block rfl
    have := hr a.block e.symm
    omega
theorem SRow.higher {B2 : Nat} (h : SRow W B0 B1 A n c ss) (h1 : B1 ≤ B2) (h2 : B2 ≤ W.heap.size) : SRow W B0 B2 A n c ss :=
  ⟨h.1, h.2.1, fun a e => Nat.lt_of_lt_of_le (h.2.2.1 a e) h1, h2⟩
theorem own4_shape {w : World} {B : Nat} {e : TypeId} {xs : List Value} (h : w.ownsRow B e 4 (.slice A n c) n xs) (hn : 0 < n) : ∃ g, A = some ⟨g, 0, none⟩ := by
  rcases h.2 with ⟨_, h0⟩ | ⟨g, cap, cur, hv, _⟩
  · omega
  · simp only [Value.slice.injEq] at hv
    exact ⟨g, hv.1⟩
theorem SRow.at_ (h : SRow W B0 B1 A n c ss) : StepsAt W W.heap.size A ss := by
  obtain ⟨⟨xs, h1, h2⟩, h3, h4, h5⟩ := h
  intro j hj
  obtain ⟨g, rfl⟩ := own4_shape h1 (by omega)
  obtain ⟨e0, e1, e2, e3⟩ := h2 j (by omega)
  have hlen := h1.1
  refine ⟨g, 0, rfl, by have := h4 _ rfl; simp only at this; omega, ?_, ?_, ?_, ?_⟩
  · rw [Nat.zero_add, h1.cellAt _ (by omega)]; exact e0
  · rw [Nat.zero_add, h1.cellAt _ (by omega)]; exact e1
  · rw [Nat.zero_add, h1.cellAt _ (by omega)]; exact e2
  · rw [Nat.zero_add, h1.cellAt _ (by omega)]; exact e3
theorem SRow.mk {xs : List Value} (h1 : W.ownsRow B0 29 4 (.slice A n c) n xs) (h2 : Lies xs ss n) (h3 : ss.length = n) : SRow W B0 W.heap.size A n c ss :=
  ⟨⟨xs, h1, h2⟩, h3, fun a e => (h1.lt a.block (by subst e; rfl)).2, Nat.le_refl _⟩
end

theorem cell_at {W : World} {p : Nat} {cs : Array Value} {t : TypeId} (h : W.heap[p]? = some (.cells cs t (0, 0))) (j : Nat) : W.cell? ⟨p, j, none⟩ = cs[j]? := by
  unfold World.cell?
  rw [h]
  rfl
theorem range_at {W : World} {p : Nat} {cs : Array Value} {t : TypeId} (h : W.heap[p]? = some (.cells cs t (0, 0))) : W.rangeAt p 0 cs.toList := by
  intro j v hv
  rw [Nat.zero_add, cell_at h]
  simpa using hv
theorem put1 {W : World} {p j : Nat} {cs : Array Value} {t : TypeId} (v : Value) (h : W.heap[p]? = some (.cells cs t (0, 0))) : (W.setCell ⟨p, j, none⟩ v).heap[p]? = some (.cells (cs.setIfInBounds j v) t (0, 0)) := by
  exact heap_setCell_same W p j cs t v h
theorem frz {W : World} {p : Nat} {cs : Array Value} {t : TypeId} (hp : W.heap[p]? = some (.cells cs t (0, 0))) (j : Nat) : W.frozen? ⟨p, j, none⟩ = false := frozen_of_row W p j cs t hp
theorem set_grown (w : World) (g j : Nat) (v : Value) : w.grownBy (w.setCell ⟨g, j, none⟩ v) (some g) :=
  ⟨rfl, rfl, rfl, by simp, fun k _ hk => heap_setCell_other w ⟨g, j, none⟩ k v (fun e => hk (by simp [e]))⟩
theorem put_other {W : World} {p g j : Nat} {o : Obj} (v : Value) (h : W.heap[p]? = some o) (hg : p ≠ g) : (W.setCell ⟨g, j, none⟩ v).heap[p]? = some o :=
  ((set_grown W g j v).block p (Array.getElem?_eq_some_iff.1 h).1 (fun e => hg (by simpa using e))).trans h
theorem box_below (w : World) (o : Obj) : Below w.heap.size w (w.alloc o) := (Below.refl _ w).alloc (Nat.le_refl _) o
theorem three_at (w : World) (c0 c1 c2 : Array Value) (t0 t1 t2 : TypeId) :
    (((w.alloc (.cells c0 t0)).alloc (.cells c1 t1)).alloc (.cells c2 t2)).heap.size = w.heap.size + 1 + 1 + 1 ∧ Below w.heap.size w (((w.alloc (.cells c0 t0)).alloc (.cells c1 t1)).alloc (.cells c2 t2)) ∧
    (((w.alloc (.cells c0 t0)).alloc (.cells c1 t1)).alloc (.cells c2 t2)).heap[w.heap.size]? = some (.cells c0 t0 (0, 0)) ∧
    (((w.alloc (.cells c0 t0)).alloc (.cells c1 t1)).alloc (.cells c2 t2)).heap[w.heap.size + 1]? = some (.cells c1 t1 (0, 0)) ∧
    (((w.alloc (.cells c0 t0)).alloc (.cells c1 t1)).alloc (.cells c2 t2)).heap[w.heap.size + 1 + 1]? = some (.cells c2 t2 (0, 0)) := by
  have s1 : (w.alloc (.cells c0 t0)).heap.size = w.heap.size + 1 := by simp
  have s2 : ((w.alloc (.cells c0 t0)).alloc (.cells c1 t1)).heap.size = w.heap.size + 1 + 1 := by simp
  have a0 := heap_alloc_new w (.cells c0 t0)
  have a1 := heap_alloc_new (w.alloc (.cells c0 t0)) (.cells c1 t1)
  have a2 := heap_alloc_new ((w.alloc (.cells c0 t0)).alloc (.cells c1 t1)) (.cells c2 t2)
  rw [s1] at a1
  rw [s2] at a2
  have b1 := (box_below (w.alloc (.cells c0 t0)) (.cells c1 t1))
  have b2 := (box_below ((w.alloc (.cells c0 t0)).alloc (.cells c1 t1)) (.cells c2 t2))
  rw [s1] at b1
  rw [s2] at b2
  exact ⟨by simp, (((Below.refl _ w).alloc (Nat.le_refl _) _).alloc (by simp) _).alloc (by simp; omega) _, (b2.block _ (by omega)).trans ((b1.block _ (by omega)).trans a0), (b2.block _ (by omega)).trans a1, a2⟩
theorem results_cell {P : Program} {fn : Func} {a : Tmp} {t : TypeId} {p : Addr} {v : Value} {w : World} (h : fn.results = #[.cell a t]) (tmps : Array Value) (hp : tmps.getD a undef = .pointer (some p)) (hl : (loadVar t p).run P w = .ok v w) :
    (results fn tmps).run P w = .ok v w := by
  have hp2 : tmps[a]?.getD undef = .pointer (some p) := by simpa using hp
  simp [results, h, hp2, asAddr, hl]
theorem load_step {W : World} {g : Nat} {k d q a : Value} {e : TypeId} (h : W.heap[g]? = some (.cells #[k, d, q, a] e (0, 0))) : (loadVar 29 ⟨g, 0, none⟩).run Try.prog W = .ok (.agg #[k, d, q, a]) W :=
  run_loadVar_mid (P := Try.prog) W g 0 29 [k, d, q, a] _ (range_at h) Try.underlying29 rfl (by kernel_rfl)
set_option maxHeartbeats 1000000 in
theorem to_step (s : SR) (w : World) : Calls Try.prog 9 #[s.v] w fun e w' => e = .returned s.v ∧ Below w.heap.size w w' := by
  obtain ⟨k, d, q, a⟩ := s
  obtain ⟨hs0, hb0, a0, a1, a2⟩ := three_at w #[.int .i64 k, .int .i64 d, .int .i64 q, .int .i64 a] #[.int .i64 0, .int .i64 0, .int .i64 0, .int .i64 0] #[.int .i64 k, .int .i64 0, .int .i64 0, .int .i64 0] 25 29 29
  have HS0 := Lib.hid hs0
  have HB0 := Lib.hid hb0
  have A0 := Lib.hid a0
  have A1 := Lib.hid a1
  have A2 := Lib.hid a2
  clear hs0 hb0 a0 a1 a2
  have m0 := (cell_at A0.out 1).trans rfl
  have m1 := (cell_at A0.out 2).trans rfl
  go_enter Try.func9, Try.ntmps9
  go_wp2_with fail
  refine (Fr2.to_move d q _).mono ?_
  rintro e w3 ⟨rfl, hb⟩
  have hsz := hb.size
  rw [HS0.out] at hb hsz
  have c0 := (hb.block w.heap.size (by omega)).trans A0.out
  have c1 := (hb.block (w.heap.size + 1) (by omega)).trans A1.out
  have c2 := (hb.block (w.heap.size + 1 + 1) (by omega)).trans A2.out
  have u0 := (cell_at c0 3).trans rfl
  have v0 := (cell_at c1 0).trans rfl
  have v1 := (cell_at c1 1).trans rfl
  have v2 := (cell_at c1 2).trans rfl
  have v3 := (cell_at c1 3).trans rfl
  have x0 := (cell_at c2 0).trans rfl
  have x1 := (cell_at c2 1).trans rfl
  have x2 := (cell_at c2 2).trans rfl
  have x3 := (cell_at c2 3).trans rfl
  have f0 := frz c1 0
  have f1 := frz c1 1
  have f2 := frz c1 2
  have f3 := frz c1 3
  have g0 := frz c2 0
  have g1 := frz c2 1
  have g2 := frz c2 2
  have g3 := frz c2 3
  have HB3 := Lib.hid (HB0.out.trans (hb.mono (by omega)))
  have n1 := put_other (g := w.heap.size + 1 + 1) (j := 1) (.int .i64 d) c1 (by omega)
  have n2 := put_other (g := w.heap.size + 1 + 1) (j := 2) (.int .i64 q) n1 (by omega)
  have n3 := put_other (g := w.heap.size + 1 + 1) (j := 3) (.int .i64 a) n2 (by omega)
  have n4 := put1 (j := 0) (.int .i64 k) n3
  have n5 := put1 (j := 1) (.int .i64 d) n4
  have n6 := put1 (j := 2) (.int .i64 q) n5
  have HF := Lib.hid (put1 (j := 3) (.int .i64 a) n6)
  have hq (W : World) (p : Addr) (hp : w.heap.size ≤ p.block) (x : Value) (hw : Below w.heap.size w W) : Below w.heap.size w (W.setCell p x) := hw.setCell hp x
  have HB4 := Lib.hid (hq _ ⟨w.heap.size + 1, 3, none⟩ (by show w.heap.size ≤ w.heap.size + 1; omega) (.int .i64 a) (hq _ ⟨w.heap.size + 1, 2, none⟩ (by show w.heap.size ≤ w.heap.size + 1; omega) (.int .i64 q) (hq _ ⟨w.heap.size + 1, 1, none⟩ (by show w.heap.size ≤ w.heap.size + 1; omega) (.int .i64 d) (hq _ ⟨w.heap.size + 1, 0, none⟩ (by show w.heap.size ≤ w.heap.size + 1; omega) (.int .i64 k)
    (hq _ ⟨w.heap.size + 1 + 1, 3, none⟩ (by show w.heap.size ≤ w.heap.size + 1 + 1; omega) (.int .i64 a) (hq _ ⟨w.heap.size + 1 + 1, 2, none⟩ (by show w.heap.size ≤ w.heap.size + 1 + 1; omega) (.int .i64 q) (hq _ ⟨w.heap.size + 1 + 1, 1, none⟩ (by show w.heap.size ≤ w.heap.size + 1 + 1; omega) (.int .i64 d) HB3.out)))))))
  clear hb c0 m0 m1 n1 n2 n3 n4 n5 n6 hq
  go_wp2
  (try simp only [Exit.inBlock, Exit.then])
  refine bodyPost_ret (results_cell rfl _ rfl (load_step HF.out)) rfl ?_
  exact ⟨rfl, HB4.out⟩
def IsSCopy (B : Nat) (n : Nat) (ss : List SR) (w : World) (e : Ending) (w' : World) : Prop :=
  ∃ g, e = .returned (.slice (some ⟨g, 0, none⟩) n n) ∧ SRow w' B w'.heap.size (some ⟨g, 0, none⟩) n n ss ∧ Below B w w'
set_option maxHeartbeats 1000000 in
theorem to_steps (A : Option Addr) (n c : Nat) (ss : List SR) (w : World) (hn : ss.length = n) (hn2 : n ≤ 1048576) (hss : StepsAt w w.heap.size A ss) :
    Calls Try.prog 38 #[.slice A n c] w (IsSCopy w.heap.size n ss w) := by
  have HN := Lib.hid hn
  clear hn
  obtain ⟨i0, hi, hz0, hz1, hz2⟩ := info_parts infoStep
  go_enter Try.func38, Try.ntmps38
  go_wp2_with (refine wpList_make_full _ rfl (.tmp 6) (.tmp 6) 38 rfl w.heap.size 29 i0 (.agg #[.int .i64 0, .int .i64 0, .int .i64 0, .int .i64 0]) 4 Try.underlying38 hi hz0 hz1 .i64 .i64 n n n rfl rfl rfl rfl (by rw [hz2]; omega) (by unfold maxLen; omega) (Nat.le_refl _) ?_)
  intro w1 hown hgrow
  have hb0 : Below w.heap.size w w1 := (Below.refl _ w).grown hgrow (Nat.le_refl _) (fun k hk => by cases hk)
  obtain ⟨xs0, hx0⟩ : ∃ xs, xs = (madeCells #[Value.int .i64 0, .int .i64 0, .int .i64 0, .int .i64 0] (n * 4)).toList := ⟨_, rfl⟩
  rw [← hx0] at hown
  have HOWN := Lib.hid hown
  clear hown hgrow hx0
  go_wp2
  go_loopw [4] (fun i wr => ∃ k : Nat, k ≤ n ∧ i = .int .i64 k ∧ ∃ xs, Hid (wr.ownsRow w.heap.size 29 4 (.slice (some ⟨w.heap.size, 0, none⟩) n n) n xs) ∧ Hid (Lies xs ss k) ∧ Below w.heap.size w wr) (fun i _ => n - (intOf i).toNat)
  case atStart => exact ⟨0, Nat.zero_le _, rfl, xs0, HOWN, Lib.hid (fun j hj => absurd hj (Nat.not_lt_zero _)), hb0⟩
  case round =>
    obtain ⟨k, hk, rfl, xs, HO, HL, hbk⟩ := hrel
    clear HOWN hb0
    by_cases hlt : k < n
    · obtain ⟨b, o, rfl, hbb, hc0, hc1, hc2, hc3⟩ := (hss.below hbk) k (by rw [HN.out]; exact hlt)
      have hxl : xs.length = n * 4 := HO.out.1
      have HNX := Lib.hid (HL.out.next (k := k) (by omega))
      generalize (ss.getD k sr0).k = x0 at *
      generalize (ss.getD k sr0).d = x1 at *
      generalize (ss.getD k sr0).q = x2 at *
      generalize (ss.getD k sr0).a = x3 at *
      clear HL hss
      go_wp2_with fail
      refine (to_step ⟨x0, x1, x2, x3⟩ _).mono ?_
      rintro e w5 ⟨rfl, hb5⟩
      have hown5 := own_below HO.out hb5
      have HB5 := Lib.hid (hbk.trans (hb5.mono hbk.size))
      have hg0 : w5.cell? ⟨w.heap.size, k * 4, none⟩ = some (xs[k * 4]'(by omega)) := by rw [hown5.cellAt _ (by omega)]; exact List.getElem?_eq_getElem (by omega)
      have hg1 : w5.cell? ⟨w.heap.size, k * 4 + 1, none⟩ = some (xs[k * 4 + 1]'(by omega)) := by rw [hown5.cellAt _ (by omega)]; exact List.getElem?_eq_getElem (by omega)
      have hg2 : w5.cell? ⟨w.heap.size, k * 4 + 2, none⟩ = some (xs[k * 4 + 2]'(by omega)) := by rw [hown5.cellAt _ (by omega)]; exact List.getElem?_eq_getElem (by omega)
      have hg3 : w5.cell? ⟨w.heap.size, k * 4 + 3, none⟩ = some (xs[k * 4 + 3]'(by omega)) := by rw [hown5.cellAt _ (by omega)]; exact List.getElem?_eq_getElem (by omega)
      have hf0 := hown5.frozenAt (k * 4)
      have hf1 := hown5.frozenAt (k * 4 + 1)
      have hf2 := hown5.frozenAt (k * 4 + 2)
      have hf3 := hown5.frozenAt (k * 4 + 3)
      generalize xs[k * 4]'(by omega) = old0 at hg0
      generalize xs[k * 4 + 1]'(by omega) = old1 at hg1
      generalize xs[k * 4 + 2]'(by omega) = old2 at hg2
      generalize xs[k * 4 + 3]'(by omega) = old3 at hg3
      have st := (((hown5.stored (k * 4) (.int .i64 x0)).1.stored (k * 4 + 1) (.int .i64 x1)).1.stored (k * 4 + 2) (.int .i64 x2)).1.stored (k * 4 + 3) (.int .i64 x3)
      have HST := Lib.hid st.1
      have HB6 := Lib.hid ((((HB5.out.setCell (p := ⟨w.heap.size, k * 4, none⟩) (Nat.le_refl _) (.int .i64 x0)).setCell (p := ⟨w.heap.size, k * 4 + 1, none⟩) (Nat.le_refl _) (.int .i64 x1)).setCell (p := ⟨w.heap.size, k * 4 + 2, none⟩) (Nat.le_refl _) (.int .i64 x2)).setCell (p := ⟨w.heap.size, k * 4 + 3, none⟩) (Nat.le_refl _) (.int .i64 x3))
      clear st hown5 hb5 HO hbk HB5 hxl hc0 hc1 hc2 hc3
      go_wp2
      go_roundw
      case rel => exact ⟨k + 1, by omega, by go_num, _, HST, HNX, HB6.out⟩
      case measure => simp [intOf]; omega
    · have hkn : k = n := by omega
      subst hkn
      clear hss hlt
      go_wp2
      go_ret
      exact ⟨w.heap.size, rfl, SRow.mk HO.out HL.out HN.out, hbk⟩
theorem eq_move (x y : Int) (w : World) : Calls Try.prog 68 #[.agg #[.int .i64 x, .int .i64 y], .agg #[.int .i64 x, .int .i64 y]] w fun e w' => e = .returned (.bool true) ∧ Below w.heap.size w w' := by
  have hb := ((Below.refl w.heap.size w).alloc (Nat.le_refl _) (.cells #[.int .i64 x, .int .i64 y] 27)).alloc (by simp) (.cells #[.int .i64 x, .int .i64 y] 27)
  go_enter Try.func68, Try.ntmps68
  have h0 := heap_alloc_new w (.cells #[.int .i64 x, .int .i64 y] 27)
  have h1 := heap_alloc_new (w.alloc (.cells #[.int .i64 x, .int .i64 y] 27)) (.cells #[.int .i64 x, .int .i64 y] 27)
  have hs : (w.alloc (.cells #[.int .i64 x, .int .i64 y] 27)).heap.size = w.heap.size + 1 := by simp
  rw [hs] at h1
  have hkp := (Below.refl (w.heap.size + 1) (w.alloc (.cells #[.int .i64 x, .int .i64 y] 27))).alloc (by simp) (.cells #[.int .i64 x, .int .i64 y] 27)
  have h0' := (hkp.block w.heap.size (by omega)).trans h0
  have a0 := Fr2.range2 h0' 0 _ rfl
  have a1 := Fr2.range2 h0' 1 _ rfl
  have b0 := Fr2.range2 h1 0 _ rfl
  have b1 := Fr2.range2 h1 1 _ rfl
  have HB := Lib.hid hb
  clear hb h0 h1 h0' hkp
  go_wp2
  go_ret
  exact ⟨rfl, HB.out⟩
theorem two_at (w : World) (c0 c1 : Array Value) (t0 t1 : TypeId) :
    ((w.alloc (.cells c0 t0)).alloc (.cells c1 t1)).heap.size = w.heap.size + 1 + 1 ∧ Below w.heap.size w ((w.alloc (.cells c0 t0)).alloc (.cells c1 t1)) ∧
    ((w.alloc (.cells c0 t0)).alloc (.cells c1 t1)).heap[w.heap.size]? = some (.cells c0 t0 (0, 0)) ∧ ((w.alloc (.cells c0 t0)).alloc (.cells c1 t1)).heap[w.heap.size + 1]? = some (.cells c1 t1 (0, 0)) := by
  have s1 : (w.alloc (.cells c0 t0)).heap.size = w.heap.size + 1 := by simp
  have a0 := heap_alloc_new w (.cells c0 t0)
  have a1 := heap_alloc_new (w.alloc (.cells c0 t0)) (.cells c1 t1)
  rw [s1] at a1
  have b1 := (box_below (w.alloc (.cells c0 t0)) (.cells c1 t1))
  rw [s1] at b1
  exact ⟨by simp, ((Below.refl _ w).alloc (Nat.le_refl _) _).alloc (by simp) _, (b1.block _ (by omega)).trans a0, a1⟩
set_option maxHeartbeats 1000000 in
theorem eq_step (s : SR) (w : World) : Calls Try.prog 62 #[s.v, s.v] w fun e w' => e = .returned (.bool true) ∧ Below w.heap.size w w' := by
  obtain ⟨k, d, q, a⟩ := s
  obtain ⟨hs0, hb0, a0, a1⟩ := two_at w #[.int .i64 k, .int .i64 d, .int .i64 q, .int .i64 a] #[.int .i64 k, .int .i64 d, .int .i64 q, .int .i64 a] 29 29
  have HS0 := Lib.hid hs0
  have HB0 := Lib.hid hb0
  have A0 := Lib.hid a0
  have A1 := Lib.hid a1
  clear hs0 hb0 a0 a1
  have u0 := (cell_at A0.out 0).trans rfl
  have u1 := (cell_at A0.out 1).trans rfl
  have u2 := (cell_at A0.out 2).trans rfl
  have v0 := (cell_at A1.out 0).trans rfl
  have v1 := (cell_at A1.out 1).trans rfl
  have v2 := (cell_at A1.out 2).trans rfl
  have hkk : (k != k) = false := by simp
  have haa : (a != a) = false := by simp
  go_enter Try.func62, Try.ntmps62
  go_wp2_with fail
  refine (eq_move d q _).mono ?_
  rintro e w3 ⟨rfl, hb⟩
  have HB3 := Lib.hid (HB0.out.trans (hb.mono HB0.out.size))
  have hsz := hb.size
  rw [HS0.out] at hb hsz
  have c0 := (hb.block w.heap.size (by omega)).trans A0.out
  have c1 := (hb.block (w.heap.size + 1) (by omega)).trans A1.out
  have y0 := (cell_at c0 3).trans rfl
  have y1 := (cell_at c1 3).trans rfl
  clear hb c0 c1 u0 u1 u2 v0 v1 v2 hsz
  go_wp2
  go_ret
  exact ⟨rfl, HB3.out⟩
set_option maxHeartbeats 2000000 in
theorem eq_steps (A1 A2 : Option Addr) (n c1 c2 : Nat) (ss : List SR) (w : World) (hn : ss.length = n) (hn2 : n ≤ 2097152) (h1 : StepsAt w w.heap.size A1 ss) (h2 : StepsAt w w.heap.size A2 ss) :
    Calls Try.prog 42 #[.slice A1 n c1, .slice A2 n c2] w fun e w' => e = .returned (.bool true) ∧ Below w.heap.size w w' := by
  have HN := Lib.hid hn
  clear hn
  go_enter Try.func42, Try.ntmps42
  go_wp2
  go_loopw [5] (fun i wr => ∃ k : Nat, k ≤ n ∧ i = .int .i64 k ∧ Below w.heap.size w wr) (fun i _ => n - (intOf i).toNat)
  case atStart => exact ⟨0, Nat.zero_le _, rfl, Below.refl _ _⟩
  case round =>
    obtain ⟨k, hk, rfl, hb⟩ := hrel
    by_cases hlt : k < n
    · obtain ⟨b1, o1, rfl, hbb1, p0, p1, p2, p3⟩ := (h1.below hb) k (by rw [HN.out]; exact hlt)
      obtain ⟨b2, o2, rfl, hbb2, q0, q1, q2, q3⟩ := (h2.below hb) k (by rw [HN.out]; exact hlt)
      generalize (ss.getD k sr0).k = x0 at *
      generalize (ss.getD k sr0).d = x1 at *
      generalize (ss.getD k sr0).q = x2 at *
      generalize (ss.getD k sr0).a = x3 at *
      have hk0 : (0 : Int) ≤ (k : Int) := by omega
      have hk1 : (k : Int) < (n : Int) := by omega
      clear h1 h2
      have HE := Lib.hid (fun V : World => eq_step ⟨x0, x1, x2, x3⟩ V)
      have HB1 := Lib.hid (hb.drew)
      go_wp2_with fail
      go_cut [26] from 17 to 26 (fun s wx => s = .bool false ∧ Below w.heap.size w wx)
      case first =>
        go_region_held3 (fun w' => w'.cell? ⟨b1, o1 + k * 4, none⟩ = some (.int .i64 x0) ∧ w'.cell? ⟨b1, o1 + k * 4 + 1, none⟩ = some (.int .i64 x1) ∧ w'.cell? ⟨b1, o1 + k * 4 + 2, none⟩ = some (.int .i64 x2) ∧ w'.cell? ⟨b1, o1 + k * 4 + 3, none⟩ = some (.int .i64 x3) ∧ w'.cell? ⟨b2, o2 + k * 4, none⟩ = some (.int .i64 x0) ∧ w'.cell? ⟨b2, o2 + k * 4 + 1, none⟩ = some (.int .i64 x1) ∧ w'.cell? ⟨b2, o2 + k * 4 + 2, none⟩ = some (.int .i64 x2) ∧ w'.cell? ⟨b2, o2 + k * 4 + 3, none⟩ = some (.int .i64 x3)) ((first | exact ⟨p0, p1, p2, p3, q0, q1, q2, q3⟩ | exact hSS5)) ((go_at_call 62; refine (HE.out _).mono ?_; rintro e w5 ⟨rfl, hb5⟩; have hs5 := HB1.out.size; have hSS5 : w5.cell? ⟨b1, o1 + k * 4, none⟩ = some (.int .i64 x0) ∧ w5.cell? ⟨b1, o1 + k * 4 + 1, none⟩ = some (.int .i64 x1) ∧ w5.cell? ⟨b1, o1 + k * 4 + 2, none⟩ = some (.int .i64 x2) ∧ w5.cell? ⟨b1, o1 + k * 4 + 3, none⟩ = some (.int .i64 x3) ∧ w5.cell? ⟨b2, o2 + k * 4, none⟩ = some (.int .i64 x0) ∧ w5.cell? ⟨b2, o2 + k * 4 + 1, none⟩ = some (.int .i64 x1) ∧ w5.cell? ⟨b2, o2 + k * 4 + 2, none⟩ = some (.int .i64 x2) ∧ w5.cell? ⟨b2, o2 + k * 4 + 3, none⟩ = some (.int .i64 x3) := ⟨(hb5.cell (p := ⟨b1, _, none⟩) (Nat.lt_of_lt_of_le hbb1 hs5)).trans p0, (hb5.cell (p := ⟨b1, _, none⟩) (Nat.lt_of_lt_of_le hbb1 hs5)).trans p1, (hb5.cell (p := ⟨b1, _, none⟩) (Nat.lt_of_lt_of_le hbb1 hs5)).trans p2, (hb5.cell (p := ⟨b1, _, none⟩) (Nat.lt_of_lt_of_le hbb1 hs5)).trans p3, (hb5.cell (p := ⟨b2, _, none⟩) (Nat.lt_of_lt_of_le hbb2 hs5)).trans q0, (hb5.cell (p := ⟨b2, _, none⟩) (Nat.lt_of_lt_of_le hbb2 hs5)).trans q1, (hb5.cell (p := ⟨b2, _, none⟩) (Nat.lt_of_lt_of_le hbb2 hs5)).trans q2, (hb5.cell (p := ⟨b2, _, none⟩) (Nat.lt_of_lt_of_le hbb2 hs5)).trans q3⟩; have HB5 := Lib.hid (HB1.out.trans (hb5.mono HB1.out.size)); clear hb5))
        all_goals (go_wp2_with fail; go_meet; exact ⟨rfl, HB5.out⟩)
      case rest =>
      obtain ⟨rfl, hbc⟩ := hcut
      go_wp2
      go_roundw
      case rel => exact ⟨k + 1, by omega, by go_num, hbc⟩
      case measure => simp [intOf]; omega
    · go_wp2
      go_ret
      exact ⟨rfl, hb⟩
theorem sz_steps (A : Option Addr) (n c : Nat) (k : Int) (w : World) (hn2 : n ≤ 9223372036854775807) (h0 : 0 ≤ k) (h1 : k ≤ 1073741824) :
    Calls Try.prog 34 #[.slice A n c, .int .i64 k] w fun e w' => e = .returned (.int .i64 (if (n : Int) ≤ k then k - (n : Int) else -1)) ∧ w = w' := by
  by_cases h : (n : Int) ≤ k
  · rw [if_pos h]
    have h2 : decide (k - (n : Int) < 0) = false := decide_eq_false (by omega)
    go_enter Try.func34, Try.ntmps34
    go_wp2
    go_ret
    exact ⟨rfl, rfl⟩
  · rw [if_neg h]
    have hneg : k - (n : Int) < 0 := by omega
    go_enter Try.func34, Try.ntmps34
    go_wp2
    go_ret
    exact ⟨rfl, rfl⟩
set_option maxHeartbeats 2000000 in
theorem mark_steps (B : Nat) (k : Int) (n : Nat) (A : Option Addr) (c : Nat) (xs : List Value) (w : World) (hk0 : 0 ≤ k) (hkn : k + 4 * n ≤ 1073741824) (hown : w.ownsRow B 29 4 (.slice A n c) n xs) :
    Calls Try.prog 45 #[.slice A n c, .int .i64 k] w fun e w' => e = .returned (.int .i64 (k + 4 * (n : Int))) ∧ w.grownBy w' (A.map (·.block)) := by
  have HO0 := Lib.hid hown
  clear hown
  go_enter Try.func45, Try.ntmps45
  go_wp2
  go_loopw [1, 5] (fun q i wr => ∃ j : Nat, j ≤ n ∧ i = .int .i64 j ∧ q = .int .i64 (k + 4 * (j : Int)) ∧ (∃ ys, Hid (wr.ownsRow B 29 4 (.slice A n c) n ys)) ∧ w.grownBy wr (A.map (·.block))) (fun _ i _ => n - (intOf i).toNat)
  case atStart => exact ⟨0, Nat.zero_le _, rfl, by simp, ⟨xs, HO0⟩, World.grownBy.refl w _⟩
  case round =>
    obtain ⟨j, hj, rfl, rfl, ⟨ys, HO⟩, hbj⟩ := hrel
    clear HO0
    by_cases hlt : j < n
    · obtain ⟨g, rfl⟩ := own4_shape HO.out (by omega)
      have hyl : ys.length = n * 4 := HO.out.1
      obtain ⟨o0, hg0⟩ : ∃ o, wr.cell? ⟨g, j * 4, none⟩ = some o := ⟨_, (HO.out.cellAt (j * 4) (by omega)).trans (List.getElem?_eq_getElem (by omega))⟩
      have st0 := HO.out.stored (j * 4) (.int .i64 (k + 4 * (j : Int)))
      have l0 : (ys.set (j * 4) (.int .i64 (k + 4 * (j : Int)))).length = n * 4 := by rw [List.length_set]; exact hyl
      obtain ⟨o1, hg1⟩ : ∃ o, (wr.setCell ⟨g, j * 4, none⟩ (.int .i64 (k + 4 * (j : Int)))).cell? ⟨g, j * 4 + 1, none⟩ = some o := ⟨_, (st0.1.cellAt (j * 4 + 1) (by omega)).trans (List.getElem?_eq_getElem (by omega))⟩
      have st1 := st0.1.stored (j * 4 + 1) (.int .i64 (k + 4 * (j : Int) + 1))
      have l1 : ((ys.set (j * 4) (.int .i64 (k + 4 * (j : Int)))).set (j * 4 + 1) (.int .i64 (k + 4 * (j : Int) + 1))).length = n * 4 := by rw [List.length_set]; exact l0
      obtain ⟨o2, hg2⟩ : ∃ o, ((wr.setCell ⟨g, j * 4, none⟩ (.int .i64 (k + 4 * (j : Int)))).setCell ⟨g, j * 4 + 1, none⟩ (.int .i64 (k + 4 * (j : Int) + 1))).cell? ⟨g, j * 4 + 2, none⟩ = some o := ⟨_, (st1.1.cellAt (j * 4 + 2) (by omega)).trans (List.getElem?_eq_getElem (by omega))⟩
      have st2 := st1.1.stored (j * 4 + 2) (.int .i64 (k + 4 * (j : Int) + 1 + 1))
      have l2 : (((ys.set (j * 4) (.int .i64 (k + 4 * (j : Int)))).set (j * 4 + 1) (.int .i64 (k + 4 * (j : Int) + 1))).set (j * 4 + 2) (.int .i64 (k + 4 * (j : Int) + 1 + 1))).length = n * 4 := by rw [List.length_set]; exact l1
      obtain ⟨o3, hg3⟩ : ∃ o, (((wr.setCell ⟨g, j * 4, none⟩ (.int .i64 (k + 4 * (j : Int)))).setCell ⟨g, j * 4 + 1, none⟩ (.int .i64 (k + 4 * (j : Int) + 1))).setCell ⟨g, j * 4 + 2, none⟩ (.int .i64 (k + 4 * (j : Int) + 1 + 1))).cell? ⟨g, j * 4 + 3, none⟩ = some o := ⟨_, (st2.1.cellAt (j * 4 + 3) (by omega)).trans (List.getElem?_eq_getElem (by omega))⟩
      have hf0 := HO.out.frozenAt (j * 4)
      have hf1 := st0.1.frozenAt (j * 4 + 1)
      have hf2 := st1.1.frozenAt (j * 4 + 2)
      have hf3 := st2.1.frozenAt (j * 4 + 3)
      have st3 := st2.1.stored (j * 4 + 3) (.int .i64 (k + 4 * (j : Int) + 1 + 1 + 1))
      have HST := Lib.hid st3.1
      have HB2 : Hid (w.grownBy _ ((some (⟨g, 0, none⟩ : Addr)).map (·.block))) := Lib.hid (grown_trans (grown_trans (grown_trans (grown_trans hbj st0.2) st1.2) st2.2) st3.2)
      clear st0 st1 st2 st3 HO hbj hyl l0 l1 l2

      go_wp2
      go_roundw
      case rel => exact ⟨j + 1, by omega, by go_num, by go_num, ⟨_, HST⟩, HB2.out⟩
      case measure => simp [intOf]; omega
    · have hjn : j = n := by omega
      have HJ := Lib.hid hjn
      have HBJ := Lib.hid hbj
      clear hjn hbj HO
      go_wp2
      go_ret
      exact ⟨congrArg (fun z : Nat => Ending.returned (.int .i64 (k + 4 * (z : Int)))) HJ.out, HBJ.out⟩
end Go.Proofs.Ytibephoepkofnaa.Tst
