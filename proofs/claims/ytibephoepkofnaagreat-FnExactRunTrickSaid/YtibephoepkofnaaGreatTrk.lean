/- Steps of tricks and rows of them: as an argument, the laws' copy, comparison, marks. Scenes: a struct of a list of ints and an int. What the laws' helpers do with one: toScene copies, szScene counts, eqScene compares, markScene writes marks and heldScene looks whether they are still there. Tricks: a struct of a packet, steps and three ints. As an argument of a law; what the laws' helpers do with one. -/
import Derived.Test.YtibephoepkofnaaGreatFr2
import Derived.Deep.Slices
import Derived.Deep.SlicePairs
import Derived.Deep.Strs
import Derived.Deep.RegionHeld3
import Derived.Deep.CutRange
import Derived.Test.YtibephoepkofnaaGreatRws
import Derived.WideShapes
import Derived.Lib.SmallJoins
set_option linter.unusedVariables false
set_option maxRecDepth 20000
namespace Go.Proofs.YtibephoepkofnaaGreat.Tst
open Go.Deep Go.RowKit Go.ChangeShapes Go.WideShapes Fr Own Ins

/-- a step: its kind, its move, its number -/
structure SR where
  k : Int
  d : Int
  q : Int
  a : Int
def sr0 : SR := ⟨0, 0, 0, 0⟩
abbrev SR.v (s : SR) : Value := .agg #[.int .i64 s.k, .int .i64 s.d, .int .i64 s.q, .int .i64 s.a]
def SR.wf (s : SR) : Prop := (Lit.int .i64 s.k).wf = true ∧ (Lit.int .i64 s.d).wf = true ∧ (Lit.int .i64 s.q).wf = true ∧ (Lit.int .i64 s.a).wf = true
def WfS (ss : List SR) : Prop := ∀ j, j < ss.length → (ss.getD j sr0).wf
def StepsAt (w : World) (B : Nat) (A : Option Addr) (ss : List SR) : Prop :=
  ∀ j, j < ss.length → ∃ b o, A = some ⟨b, o, none⟩ ∧ b < B ∧ w.cell? ⟨b, o + j * 4, none⟩ = some (.int .i64 (ss.getD j sr0).k) ∧ w.cell? ⟨b, o + j * 4 + 1, none⟩ = some (.int .i64 (ss.getD j sr0).d) ∧
    w.cell? ⟨b, o + j * 4 + 2, none⟩ = some (.int .i64 (ss.getD j sr0).q) ∧ w.cell? ⟨b, o + j * 4 + 3, none⟩ = some (.int .i64 (ss.getD j sr0).a)
theorem StepsAt.below {w w' : World} {B : Nat} {A : Option Addr} {ss : List SR} (h : StepsAt w B A ss) (hb : Below B w w') : StepsAt w' B A ss := by
  intro j hj
  obtain ⟨b, o, hA, hlt, h0, h1, h2, h3⟩ := h j hj
  exact ⟨b, o, hA, hlt, (hb.cell (p := ⟨b, _, none⟩) hlt).trans h0, (hb.cell (p := ⟨b, _, none⟩) hlt).trans h1, (hb.cell (p := ⟨b, _, none⟩) hlt).trans h2, (hb.cell (p := ⟨b, _, none⟩) hlt).trans h3⟩
theorem StepsAt.more {w : World} {B B' : Nat} {A : Option Addr} {ss : List SR} (h : StepsAt w B A ss) (hB : B ≤ B') : StepsAt w B' A ss := by
  intro j hj
  obtain ⟨b, o, hA, hlt, r⟩ := h j hj
  exact ⟨b, o, hA, by omega, r⟩
section
variable {H : Type} {enc : TypeId × Value → H} {P : Program}
/-- the types of a step -/
structure StepTy (P : Program) (t : TypeId) (f0 f1 f2 g0 g1 : Field) : Prop where
  s : P.underlying t = some (.struct #[f0, f1, f2])
  m : P.underlying f1.type = some (.struct #[g0, g1])
  c : P.cellsOf t = 4
  c0 : P.cellsOf f0.type = 1
  c1 : P.cellsOf f1.type = 2
  c2 : P.cellsOf f2.type = 1
  d0 : P.cellsOf g0.type = 1
  d1 : P.cellsOf g1.type = 1
  o0 : f0.offset = 0
  o1 : f1.offset = 1
  o2 : f2.offset = 3
  p0 : g0.offset = 0
  p1 : g1.offset = 1
  i0 : P.underlying f0.type = some (.int .i64)
  i2 : P.underlying f2.type = some (.int .i64)
  j0 : P.underlying g0.type = some (.int .i64)
  j1 : P.underlying g1.type = some (.int .i64)
theorem trod_step {W : World} {base : Nat} {spare : Nat → Bool} {held : Bool} {t : TypeId} {f0 f1 f2 g0 g1 : Field} {fuel : Nat} {cs : List Value} {x : DataW H × List MemPlace} (T : StepTy P t f0 f1 f2 g0 g1)
    (h : DataW.trod enc P W base spare held fuel t cs = some x) : ∃ s : SR, s.wf ∧ cs = [.int .i64 s.k, .int .i64 s.d, .int .i64 s.q, .int .i64 s.a] := by
  obtain ⟨y0, y1, y2, n, _, hl, h0, h1, h2⟩ := trod_struct3 T.s h
  rw [T.c] at hl
  match cs, hl with
  | [v0, v1, v2, v3], _ =>
    rw [T.o0, T.c0] at h0
    rw [T.o1, T.c1] at h1
    rw [T.o2, T.c2] at h2
    have h0' : DataW.trod enc P W base spare held n f0.type [v0] = some y0 := h0
    have h1' : DataW.trod enc P W base spare held n f1.type [v1, v2] = some y1 := h1
    have h2' : DataW.trod enc P W base spare held n f2.type [v3] = some y2 := h2
    obtain ⟨z0, z1, m, _, _, k0, k1⟩ := trod_struct2 T.m h1'
    rw [T.p0, T.d0] at k0
    rw [T.p1, T.d1] at k1
    have k0' : DataW.trod enc P W base spare held m g0.type [v1] = some z0 := k0
    have k1' : DataW.trod enc P W base spare held m g1.type [v2] = some z1 := k1
    obtain ⟨a0, e0, _, w0⟩ := DataW.trod_int T.i0 h0'
    obtain ⟨a1, e1, _, w1⟩ := DataW.trod_int T.j0 k0'
    obtain ⟨a2, e2, _, w2⟩ := DataW.trod_int T.j1 k1'
    obtain ⟨a3, e3, _, w3⟩ := DataW.trod_int T.i2 h2'
    simp only [List.cons.injEq, and_true] at e0 e1 e2 e3
    subst e0 e1 e2 e3
    exact ⟨⟨a0, a1, a2, a3⟩, ⟨w0, w1, w2, w3⟩, rfl⟩
/-- an argument that is a step -/
theorem view_step {W : World} {base : Nat} {t : TypeId} {f0 f1 f2 g0 g1 : Field} {v : Value} {d : DataW H} {ps : List MemPlace} (T : StepTy P t f0 f1 f2 g0 g1)
    (hval : Value.okWide P W .any base t v) (hd : DataW.Trod enc P W 0 (fun _ => true) true t v d ps) : ∃ s : SR, v = s.v ∧ s.wf := by
  obtain ⟨cs, rfl, hsz⟩ := okWide_struct T.s hval
  obtain ⟨fuel, hf⟩ := hd
  obtain ⟨s, hw, e⟩ := trod_step T hf
  refine ⟨s, ?_, hw⟩
  have e2 : cs.toList = [.int .i64 s.k, .int .i64 s.d, .int .i64 s.q, .int .i64 s.a] := e
  have : cs = #[.int .i64 s.k, .int .i64 s.d, .int .i64 s.q, .int .i64 s.a] := by
    rw [← Array.toArray_toList (xs := cs), e2]
  rw [this]
/-- a row of steps that a slice reads -/
theorem trod_steps {W : World} {t e : TypeId} {f0 f1 f2 g0 g1 : Field} {fuel : Nat} {cs : List Value} {x : DataW H × List MemPlace} (hs : P.underlying t = some (.slice e)) (T : StepTy P e f0 f1 f2 g0 g1)
    (h : DataW.trod enc P W 0 (fun _ => true) true fuel t cs = some x) (hlt : ∀ y ∈ x.2, y.block < W.heap.size) :
    ∃ (A : Option Addr) (n c : Nat) (ss : List SR), cs = [.slice A n c] ∧ ss.length = n ∧ n ≤ maxLen ∧ WfS ss ∧ StepsAt W W.heap.size A ss := by
  rcases open_slice hs h with ⟨rfl, _⟩ | ⟨a, len, cap, m, n, D, Pl, rfl, _, hl, hm, hmm, rfl, hx⟩
  · exact ⟨none, 0, 0, [], rfl, rfl, Nat.zero_le _, fun j hj => absurd hj (Nat.not_lt_zero _), fun k hk => absurd hk (Nat.not_lt_zero _)⟩
  · have hlm : len ≤ m := by rw [hmm]; split <;> omega
    have each : ∀ i, i < m → ∃ s : SR, s.wf ∧ W.cell? (a.add (i * 4)) = some (.int .i64 s.k) ∧ W.cell? (a.add (i * 4 + 1)) = some (.int .i64 s.d) ∧ W.cell? (a.add (i * 4 + 2)) = some (.int .i64 s.q) ∧ W.cell? (a.add (i * 4 + 3)) = some (.int .i64 s.a) := by
      intro i hi
      obtain ⟨cs', h1, h2⟩ := hx i hi
      rw [T.c] at h1
      obtain ⟨_, hlen, hcell⟩ := World.cells?_some h1
      obtain ⟨s, hw, rfl⟩ := trod_step T h2
      have e0 := hcell 0 (by omega)
      have e1 := hcell 1 (by omega)
      have e2 := hcell 2 (by omega)
      have e3 := hcell 3 (by omega)
      rw [add_add] at e0 e1 e2 e3
      exact ⟨s, hw, by simpa using e0, by simpa using e1, by simpa using e2, by simpa using e3⟩
    obtain ⟨b, o, sp⟩ := a
    have hspot : 0 < m → sp = none := fun h0 => by simpa [Addr.add] using World.cell?_spot (each 0 h0).choose_spec.2.1
    have hblk : 0 < m → b < W.heap.size := fun h0 => by
      have := World.block_lt_of_cell? W _ (each 0 h0).choose_spec.2.1
      simpa [Addr.add] using this
    refine ⟨some ⟨b, o, sp⟩, len, cap, (List.range len).map fun i => if hi' : i < m then (each i hi').choose else sr0, rfl, by simp, by omega, ?_, ?_⟩
    · intro j hj
      simp only [List.length_map, List.length_range] at hj
      have hjm : j < m := by omega
      simp only [List.getD_eq_getElem?_getD, List.getElem?_map, List.getElem?_range hj, Option.map_some, Option.getD_some, dif_pos hjm]
      exact (each j hjm).choose_spec.1
    · intro k hk
      simp only [List.length_map, List.length_range] at hk
      have hkm : k < m := by omega
      have hb := hblk (by omega)
      have hsp := hspot (by omega)
      subst hsp
      obtain ⟨_, q0, q1, q2, q3⟩ := (each k hkm).choose_spec
      simp only [List.getD_eq_getElem?_getD, List.getElem?_map, List.getElem?_range hk, Option.map_some, Option.getD_some, dif_pos hkm]
      exact ⟨b, o, rfl, hb, (congrArg W.cell? (by rw [add_plain])).trans q0, (congrArg W.cell? (by rw [add_plain, Nat.add_assoc])).trans q1, (congrArg W.cell? (by rw [add_plain, Nat.add_assoc])).trans q2, (congrArg W.cell? (by rw [add_plain, Nat.add_assoc])).trans q3⟩
end

theorem infoStep : (Tryz.prog.info? 36).map (fun i => (i.zero, i.size, i.bytes)) = some (some (.agg #[.int .i64 0, .int .i64 0, .int .i64 0, .int .i64 0]), 4, 32) := by kernel_rfl

/-- the cells hold the first k steps -/
def Lies (xs : List Value) (ss : List SR) (k : Nat) : Prop := ∀ j, j < k → xs[j * 4]? = some (.int .i64 (ss.getD j sr0).k) ∧ xs[j * 4 + 1]? = some (.int .i64 (ss.getD j sr0).d) ∧ xs[j * 4 + 2]? = some (.int .i64 (ss.getD j sr0).q) ∧ xs[j * 4 + 3]? = some (.int .i64 (ss.getD j sr0).a)
theorem get_four {xs : List Value} {i j : Nat} {a b c d : Value} (h : i * 4 + 3 < xs.length) :
    (j ≠ i → ∀ r, r < 4 → ((((xs.set (i * 4) a).set (i * 4 + 1) b).set (i * 4 + 2) c).set (i * 4 + 3) d)[j * 4 + r]? = xs[j * 4 + r]?) ∧
    ((((xs.set (i * 4) a).set (i * 4 + 1) b).set (i * 4 + 2) c).set (i * 4 + 3) d)[i * 4]? = some a ∧ ((((xs.set (i * 4) a).set (i * 4 + 1) b).set (i * 4 + 2) c).set (i * 4 + 3) d)[i * 4 + 1]? = some b ∧
    ((((xs.set (i * 4) a).set (i * 4 + 1) b).set (i * 4 + 2) c).set (i * 4 + 3) d)[i * 4 + 2]? = some c ∧ ((((xs.set (i * 4) a).set (i * 4 + 1) b).set (i * 4 + 2) c).set (i * 4 + 3) d)[i * 4 + 3]? = some d := by
  refine ⟨fun hj r hr => ?_, ?_, ?_, ?_, ?_⟩
  · rw [List.getElem?_set_ne (by omega), List.getElem?_set_ne (by omega), List.getElem?_set_ne (by omega), List.getElem?_set_ne (by omega)]
  · rw [List.getElem?_set_ne (by omega), List.getElem?_set_ne (by omega), List.getElem?_set_ne (by omega), List.getElem?_set_self (by omega)]
  · rw [List.getElem?_set_ne (by omega), List.getElem?_set_ne (by omega), List.getElem?_set_self (by rw [List.length_set]; omega)]
  · rw [List.getElem?_set_ne (by omega), List.getElem?_set_self (by simp only [List.length_set]; omega)]
  · rw [List.getElem?_set_self (by simp only [List.length_set]; omega)]
theorem Lies.next {xs : List Value} {ss : List SR} {k : Nat} (h : Lies xs ss k) (hk : k * 4 + 3 < xs.length) :
    Lies ((((xs.set (k * 4) (.int .i64 (ss.getD k sr0).k)).set (k * 4 + 1) (.int .i64 (ss.getD k sr0).d)).set (k * 4 + 2) (.int .i64 (ss.getD k sr0).q)).set (k * 4 + 3) (.int .i64 (ss.getD k sr0).a)) ss (k + 1) := by
  intro j hj
  obtain ⟨g, g0, g1, g2, g3⟩ := get_four (xs := xs) (i := k) (j := j) (a := .int .i64 (ss.getD k sr0).k) (b := .int .i64 (ss.getD k sr0).d) (c := .int .i64 (ss.getD k sr0).q) (d := .int .i64 (ss.getD k sr0).a) hk
  by_cases hjk : j = k
  · subst hjk
    exact ⟨g0, g1, g2, g3⟩
  · obtain ⟨h0, h1, h2, h3⟩ := h j (by omega)
    have q0 := g hjk 0 (by decide)
    rw [Nat.add_zero] at q0
    exact ⟨q0.trans h0, (g hjk 1 (by decide)).trans h1, (g hjk 2 (by decide)).trans h2, (g hjk 3 (by decide)).trans h3⟩
/-- a row of steps of the call's own -/
def SRow (W : World) (lo hi : Nat) (A : Option Addr) (n c : Nat) (ss : List SR) : Prop :=
  (∃ xs, W.ownsRow lo 36 4 (.slice A n c) n xs ∧ Lies xs ss n) ∧ ss.length = n ∧ (∀ a, A = some a → a.block < hi) ∧ hi ≤ W.heap.size
section
variable {W W' : World} {B0 B1 : Nat} {A : Option Addr} {n c : Nat} {ss : List SR}
theorem SRow.len (h : SRow W B0 B1 A n c ss) : ss.length = n := h.2.1
theorem SRow.below (h : SRow W B0 B1 A n c ss) (hb : Below W.heap.size W W') : SRow W' B0 B1 A n c ss := by
  obtain ⟨⟨xs, h1, h2⟩, h3, h4, h5⟩ := h
  exact ⟨⟨xs, own_below h1 hb, h2⟩, h3, h4, Nat.le_trans h5 hb.size⟩
theorem SRow.lo (h : SRow W B0 B1 A n c ss) : ∀ k, A.map (·.block) = some k → B0 ≤ k := by
  obtain ⟨⟨xs, h1, h2⟩, h3, h4, h5⟩ := h
  intro k hk
  cases A with
  | none => cases hk
  | some a =>
    simp only [Option.map_some, Option.some.injEq] at hk
    subst hk
    exact (h1.lt a.block rfl).1
theorem SRow.hi (h : SRow W B0 B1 A n c ss) : ∀ k, A.map (·.block) = some k → k < B1 := by
  intro k hk
  cases A with
  | none => cases hk
  | some a =>
    simp only [Option.map_some, Option.some.injEq] at hk
    subst hk
    exact h.2.2.1 a rfl
theorem SRow.grown {row : Option Nat} (h : SRow W B0 B1 A n c ss) (hg : W.grownBy W' row) (hr : ∀ k, row = some k → k < B0 ∨ B1 ≤ k) : SRow W' B0 B1 A n c ss := by
  have hlo := h.lo
  have hhi := h.hi
  obtain ⟨⟨xs, h1, h2⟩, h3, h4, h5⟩ := h
  refine ⟨⟨xs, h1.kept hg ?_, h2⟩, h3, h4, Nat.le_trans h5 hg.size⟩
  cases A with
  | none => exact Or.inl rfl
  | some a =>
    refine Or.inr fun e => ?_
    have k1 := hlo a.block rfl
    have k2 := hhi a.block rfl
    have := hr a.block e.symm
    omega
theorem SRow.higher {B2 : Nat} (h : SRow W B0 B1 A n c ss) (h1 : B1 ≤ B2) (h2 : B2 ≤ W.heap.size) : SRow W B0 B2 A n c ss :=
  ⟨h.1, h.2.1, fun a e => Nat.lt_of_lt_of_le (h.2.2.1 a e) h1, h2⟩
theorem own4_shape {w : World} {B : Nat} {e : TypeId} {xs : List Value} (h : w.ownsRow B e 4 (.slice A n c) n xs) (hn : 0 < n) : ∃ g, A = some ⟨g, 0, none⟩ := by
  rcases h.2 with ⟨_, h0⟩ | ⟨g, cap, cur, hv, _⟩
  · omega
  · simp only [Value.slice.injEq] at hv
    exact ⟨g, hv.1⟩
theorem SRow.at_ (h : SRow W B0 B1 A n c ss) : StepsAt W W.heap.size A ss := by
  obtain ⟨⟨xs, h1, h2⟩, h3, h4, h5⟩ := h
  intro j hj
  obtain ⟨g, rfl⟩ := own4_shape h1 (by omega)
  obtain ⟨e0, e1, e2, e3⟩ := h2 j (by omega)
  have hlen := h1.1
  refine ⟨g, 0, rfl, by have := h4 _ rfl; simp only at this; omega, ?_, ?_, ?_, ?_⟩
  · rw [Nat.zero_add, h1.cellAt _ (by omega)]; exact e0
  · rw [Nat.zero_add, h1.cellAt _ (by omega)]; exact e1
  · rw [Nat.zero_add, h1.cellAt _ (by omega)]; exact e2
  · rw [Nat.zero_add, h1.cellAt _ (by omega)]; exact e3
theorem SRow.mk {xs : List Value} (h1 : W.ownsRow B0 36 4 (.slice A n c) n xs) (h2 : Lies xs ss n) (h3 : ss.length = n) : SRow W B0 W.heap.size A n c ss :=
  ⟨⟨xs, h1, h2⟩, h3, fun a e => (h1.lt a.block (by subst e; rfl)).2, Nat.le_refl _⟩
end

theorem cell_at {W : World} {p : Nat} {cs : Array Value} {t : TypeId} (h : W.heap[p]? = some (.cells cs t (0, 0))) (j : Nat) : W.cell? ⟨p, j, none⟩ = cs[j]? := by
  unfold World.cell?
  rw [h]
  rfl
theorem range_at {W : World} {p : Nat} {cs : Array Value} {t : TypeId} (h : W.heap[p]? = some (.cells cs t (0, 0))) : W.rangeAt p 0 cs.toList := by
  intro j v hv
  rw [Nat.zero_add, cell_at h]
  simpa using hv
theorem put1 {W : World} {p j : Nat} {cs : Array Value} {t : TypeId} (v : Value) (h : W.heap[p]? = some (.cells cs t (0, 0))) : (W.setCell ⟨p, j, none⟩ v).heap[p]? = some (.cells (cs.setIfInBounds j v) t (0, 0)) := by
  exact heap_setCell_same W p j cs t v h
theorem frz {W : World} {p : Nat} {cs : Array Value} {t : TypeId} (hp : W.heap[p]? = some (.cells cs t (0, 0))) (j : Nat) : W.frozen? ⟨p, j, none⟩ = false := frozen_of_row W p j cs t hp
theorem set_grown (w : World) (g j : Nat) (v : Value) : w.grownBy (w.setCell ⟨g, j, none⟩ v) (some g) :=
  ⟨rfl, rfl, rfl, by simp, fun k _ hk => heap_setCell_other w ⟨g, j, none⟩ k v (fun e => hk (by simp [e]))⟩
theorem put_other {W : World} {p g j : Nat} {o : Obj} (v : Value) (h : W.heap[p]? = some o) (hg : p ≠ g) : (W.setCell ⟨g, j, none⟩ v).heap[p]? = some o :=
  ((set_grown W g j v).block p (Array.getElem?_eq_some_iff.1 h).1 (fun e => hg (by simpa using e))).trans h
theorem box_below (w : World) (o : Obj) : Below w.heap.size w (w.alloc o) := (Below.refl _ w).alloc (Nat.le_refl _) o
theorem three_at (w : World) (c0 c1 c2 : Array Value) (t0 t1 t2 : TypeId) :
    (((w.alloc (.cells c0 t0)).alloc (.cells c1 t1)).alloc (.cells c2 t2)).heap.size = w.heap.size + 1 + 1 + 1 ∧ Below w.heap.size w (((w.alloc (.cells c0 t0)).alloc (.cells c1 t1)).alloc (.cells c2 t2)) ∧
    (((w.alloc (.cells c0 t0)).alloc (.cells c1 t1)).alloc (.cells c2 t2)).heap[w.heap.size]? = some (.cells c0 t0 (0, 0)) ∧
    (((w.alloc (.cells c0 t0)).alloc (.cells c1 t1)).alloc (.cells c2 t2)).heap[w.heap.size + 1]? = some (.cells c1 t1 (0, 0)) ∧
    (((w.alloc (.cells c0 t0)).alloc (.cells c1 t1)).alloc (.cells c2 t2)).heap[w.heap.size + 1 + 1]? = some (.cells c2 t2 (0, 0)) := by
  have s1 : (w.alloc (.cells c0 t0)).heap.size = w.heap.size + 1 := by simp
  have s2 : ((w.alloc (.cells c0 t0)).alloc (.cells c1 t1)).heap.size = w.heap.size + 1 + 1 := by simp
  have a0 := heap_alloc_new w (.cells c0 t0)
  have a1 := heap_alloc_new (w.alloc (.cells c0 t0)) (.cells c1 t1)
  have a2 := heap_alloc_new ((w.alloc (.cells c0 t0)).alloc (.cells c1 t1)) (.cells c2 t2)
  rw [s1] at a1
  rw [s2] at a2
  have b1 := (box_below (w.alloc (.cells c0 t0)) (.cells c1 t1))
  have b2 := (box_below ((w.alloc (.cells c0 t0)).alloc (.cells c1 t1)) (.cells c2 t2))
  rw [s1] at b1
  rw [s2] at b2
  exact ⟨by simp, (((Below.refl _ w).alloc (Nat.le_refl _) _).alloc (by simp) _).alloc (by simp; omega) _, (b2.block _ (by omega)).trans ((b1.block _ (by omega)).trans a0), (b2.block _ (by omega)).trans a1, a2⟩
theorem results_cell {P : Program} {fn : Func} {a : Tmp} {t : TypeId} {p : Addr} {v : Value} {w : World} (h : fn.results = #[.cell a t]) (tmps : Array Value) (hp : tmps.getD a undef = .pointer (some p)) (hl : (loadVar t p).run P w = .ok v w) :
    (results fn tmps).run P w = .ok v w := by
  have hp2 : tmps[a]?.getD undef = .pointer (some p) := by simpa using hp
  simp [results, h, hp2, asAddr, hl]
theorem load_step {W : World} {g : Nat} {k d q a : Value} {e : TypeId} (h : W.heap[g]? = some (.cells #[k, d, q, a] e (0, 0))) : (loadVar 36 ⟨g, 0, none⟩).run Tryz.prog W = .ok (.agg #[k, d, q, a]) W :=
  run_loadVar_mid (P := Tryz.prog) W g 0 36 [k, d, q, a] _ (range_at h) Tryz.underlying36 rfl (by kernel_rfl)
set_option maxHeartbeats 1000000 in
theorem to_step (s : SR) (w : World) : Calls Tryz.prog 8 #[s.v] w fun e w' => e = .returned s.v ∧ Below w.heap.size w w' := by
  obtain ⟨k, d, q, a⟩ := s
  obtain ⟨hs0, hb0, a0, a1, a2⟩ := three_at w #[.int .i64 k, .int .i64 d, .int .i64 q, .int .i64 a] #[.int .i64 0, .int .i64 0, .int .i64 0, .int .i64 0] #[.int .i64 k, .int .i64 0, .int .i64 0, .int .i64 0] 28 36 36
  have HS0 := Lib.hid hs0
  have HB0 := Lib.hid hb0
  have A0 := Lib.hid a0
  have A1 := Lib.hid a1
  have A2 := Lib.hid a2
  clear hs0 hb0 a0 a1 a2
  have m0 := (cell_at A0.out 1).trans rfl
  have m1 := (cell_at A0.out 2).trans rfl
  go_enter Tryz.func8, Tryz.ntmps8
  go_wp2_with fail
  refine (Fr2.to_move d q _).mono ?_
  rintro e w3 ⟨rfl, hb⟩
  have hsz := hb.size
  rw [HS0.out] at hb hsz
  have c0 := (hb.block w.heap.size (by omega)).trans A0.out
  have c1 := (hb.block (w.heap.size + 1) (by omega)).trans A1.out
  have c2 := (hb.block (w.heap.size + 1 + 1) (by omega)).trans A2.out
  have u0 := (cell_at c0 3).trans rfl
  have v0 := (cell_at c1 0).trans rfl
  have v1 := (cell_at c1 1).trans rfl
  have v2 := (cell_at c1 2).trans rfl
  have v3 := (cell_at c1 3).trans rfl
  have x0 := (cell_at c2 0).trans rfl
  have x1 := (cell_at c2 1).trans rfl
  have x2 := (cell_at c2 2).trans rfl
  have x3 := (cell_at c2 3).trans rfl
  have f0 := frz c1 0
  have f1 := frz c1 1
  have f2 := frz c1 2
  have f3 := frz c1 3
  have g0 := frz c2 0
  have g1 := frz c2 1
  have g2 := frz c2 2
  have g3 := frz c2 3
  have HB3 := Lib.hid (HB0.out.trans (hb.mono (by omega)))
  have n1 := put_other (g := w.heap.size + 1 + 1) (j := 1) (.int .i64 d) c1 (by omega)
  have n2 := put_other (g := w.heap.size + 1 + 1) (j := 2) (.int .i64 q) n1 (by omega)
  have n3 := put_other (g := w.heap.size + 1 + 1) (j := 3) (.int .i64 a) n2 (by omega)
  have n4 := put1 (j := 0) (.int .i64 k) n3
  have n5 := put1 (j := 1) (.int .i64 d) n4
  have n6 := put1 (j := 2) (.int .i64 q) n5
  have HF := Lib.hid (put1 (j := 3) (.int .i64 a) n6)
  have hq (W : World) (p : Addr) (hp : w.heap.size ≤ p.block) (x : Value) (hw : Below w.heap.size w W) : Below w.heap.size w (W.setCell p x) := hw.setCell hp x
  have HB4 := Lib.hid (hq _ ⟨w.heap.size + 1, 3, none⟩ (by show w.heap.size ≤ w.heap.size + 1; omega) (.int .i64 a) (hq _ ⟨w.heap.size + 1, 2, none⟩ (by show w.heap.size ≤ w.heap.size + 1; omega) (.int .i64 q) (hq _ ⟨w.heap.size + 1, 1, none⟩ (by show w.heap.size ≤ w.heap.size + 1; omega) (.int .i64 d) (hq _ ⟨w.heap.size + 1, 0, none⟩ (by show w.heap.size ≤ w.heap.size + 1; omega) (.int .i64 k)
    (hq _ ⟨w.heap.size + 1 + 1, 3, none⟩ (by show w.heap.size ≤ w.heap.size + 1 + 1; omega) (.int .i64 a) (hq _ ⟨w.heap.size + 1 + 1, 2, none⟩ (by show w.heap.size ≤ w.heap.size + 1 + 1; omega) (.int .i64 q) (hq _ ⟨w.heap.size + 1 + 1, 1, none⟩ (by show w.heap.size ≤ w.heap.size + 1 + 1; omega) (.int .i64 d) HB3.out)))))))
  clear hb c0 m0 m1 n1 n2 n3 n4 n5 n6 hq
  go_wp2
  (try simp only [Exit.inBlock, Exit.then])
  refine bodyPost_ret (results_cell rfl _ rfl (load_step HF.out)) rfl ?_
  exact ⟨rfl, HB4.out⟩
def IsSCopy (B : Nat) (n : Nat) (ss : List SR) (w : World) (e : Ending) (w' : World) : Prop :=
  ∃ g, e = .returned (.slice (some ⟨g, 0, none⟩) n n) ∧ SRow w' B w'.heap.size (some ⟨g, 0, none⟩) n n ss ∧ Below B w w'
set_option maxHeartbeats 1000000 in
theorem to_steps (A : Option Addr) (n c : Nat) (ss : List SR) (w : World) (hn : ss.length = n) (hn2 : n ≤ 1048576) (hss : StepsAt w w.heap.size A ss) :
    Calls Tryz.prog 42 #[.slice A n c] w (IsSCopy w.heap.size n ss w) := by
  have HN := Lib.hid hn
  clear hn
  obtain ⟨i0, hi, hz0, hz1, hz2⟩ := info_parts infoStep
  go_enter Tryz.func42, Tryz.ntmps42
  go_wp2_with (refine wpList_make_full _ rfl (.tmp 6) (.tmp 6) 49 rfl w.heap.size 36 i0 (.agg #[.int .i64 0, .int .i64 0, .int .i64 0, .int .i64 0]) 4 Tryz.underlying49 hi hz0 hz1 .i64 .i64 n n n rfl rfl rfl rfl (by rw [hz2]; omega) (by unfold maxLen; omega) (Nat.le_refl _) ?_)
  intro w1 hown hgrow
  have hb0 : Below w.heap.size w w1 := (Below.refl _ w).grown hgrow (Nat.le_refl _) (fun k hk => by cases hk)
  obtain ⟨xs0, hx0⟩ : ∃ xs, xs = (madeCells #[Value.int .i64 0, .int .i64 0, .int .i64 0, .int .i64 0] (n * 4)).toList := ⟨_, rfl⟩
  rw [← hx0] at hown
  have HOWN := Lib.hid hown
  clear hown hgrow hx0
  go_wp2
  go_loopw [4] (fun i wr => ∃ k : Nat, k ≤ n ∧ i = .int .i64 k ∧ ∃ xs, Hid (wr.ownsRow w.heap.size 36 4 (.slice (some ⟨w.heap.size, 0, none⟩) n n) n xs) ∧ Hid (Lies xs ss k) ∧ Below w.heap.size w wr) (fun i _ => n - (intOf i).toNat)
  case atStart => exact ⟨0, Nat.zero_le _, rfl, xs0, HOWN, Lib.hid (fun j hj => absurd hj (Nat.not_lt_zero _)), hb0⟩
  case round =>
    obtain ⟨k, hk, rfl, xs, HO, HL, hbk⟩ := hrel
    clear HOWN hb0
    by_cases hlt : k < n
    · obtain ⟨b, o, rfl, hbb, hc0, hc1, hc2, hc3⟩ := (hss.below hbk) k (by rw [HN.out]; exact hlt)
      have hxl : xs.length = n * 4 := HO.out.1
      have HNX := Lib.hid (HL.out.next (k := k) (by omega))
      generalize (ss.getD k sr0).k = x0 at *
      generalize (ss.getD k sr0).d = x1 at *
      generalize (ss.getD k sr0).q = x2 at *
      generalize (ss.getD k sr0).a = x3 at *
      clear HL hss
      go_wp2_with fail
      refine (to_step ⟨x0, x1, x2, x3⟩ _).mono ?_
      rintro e w5 ⟨rfl, hb5⟩
      have hown5 := own_below HO.out hb5
      have HB5 := Lib.hid (hbk.trans (hb5.mono hbk.size))
      have hg0 : w5.cell? ⟨w.heap.size, k * 4, none⟩ = some (xs[k * 4]'(by omega)) := by rw [hown5.cellAt _ (by omega)]; exact List.getElem?_eq_getElem (by omega)
      have hg1 : w5.cell? ⟨w.heap.size, k * 4 + 1, none⟩ = some (xs[k * 4 + 1]'(by omega)) := by rw [hown5.cellAt _ (by omega)]; exact List.getElem?_eq_getElem (by omega)
      have hg2 : w5.cell? ⟨w.heap.size, k * 4 + 2, none⟩ = some (xs[k * 4 + 2]'(by omega)) := by rw [hown5.cellAt _ (by omega)]; exact List.getElem?_eq_getElem (by omega)
      have hg3 : w5.cell? ⟨w.heap.size, k * 4 + 3, none⟩ = some (xs[k * 4 + 3]'(by omega)) := by rw [hown5.cellAt _ (by omega)]; exact List.getElem?_eq_getElem (by omega)
      have hf0 := hown5.frozenAt (k * 4)
      have hf1 := hown5.frozenAt (k * 4 + 1)
      have hf2 := hown5.frozenAt (k * 4 + 2)
      have hf3 := hown5.frozenAt (k * 4 + 3)
      generalize xs[k * 4]'(by omega) = old0 at hg0
      generalize xs[k * 4 + 1]'(by omega) = old1 at hg1
      generalize xs[k * 4 + 2]'(by omega) = old2 at hg2
      generalize xs[k * 4 + 3]'(by omega) = old3 at hg3
      have st := (((hown5.stored (k * 4) (.int .i64 x0)).1.stored (k * 4 + 1) (.int .i64 x1)).1.stored (k * 4 + 2) (.int .i64 x2)).1.stored (k * 4 + 3) (.int .i64 x3)
      have HST := Lib.hid st.1
      have HB6 := Lib.hid ((((HB5.out.setCell (p := ⟨w.heap.size, k * 4, none⟩) (Nat.le_refl _) (.int .i64 x0)).setCell (p := ⟨w.heap.size, k * 4 + 1, none⟩) (Nat.le_refl _) (.int .i64 x1)).setCell (p := ⟨w.heap.size, k * 4 + 2, none⟩) (Nat.le_refl _) (.int .i64 x2)).setCell (p := ⟨w.heap.size, k * 4 + 3, none⟩) (Nat.le_refl _) (.int .i64 x3))
      clear st hown5 hb5 HO hbk HB5 hxl hc0 hc1 hc2 hc3
      go_wp2
      go_roundw
      case rel => exact ⟨k + 1, by omega, by go_num, _, HST, HNX, HB6.out⟩
      case measure => simp [intOf]; omega
    · have hkn : k = n := by omega
      subst hkn
      clear hss hlt
      go_wp2
      go_ret
      exact ⟨w.heap.size, rfl, SRow.mk HO.out HL.out HN.out, hbk⟩
theorem eq_move (x y : Int) (w : World) : Calls Tryz.prog 81 #[.agg #[.int .i64 x, .int .i64 y], .agg #[.int .i64 x, .int .i64 y]] w fun e w' => e = .returned (.bool true) ∧ Below w.heap.size w w' := by
  have hb := ((Below.refl w.heap.size w).alloc (Nat.le_refl _) (.cells #[.int .i64 x, .int .i64 y] 34)).alloc (by simp) (.cells #[.int .i64 x, .int .i64 y] 34)
  go_enter Tryz.func81, Tryz.ntmps81
  have h0 := heap_alloc_new w (.cells #[.int .i64 x, .int .i64 y] 34)
  have h1 := heap_alloc_new (w.alloc (.cells #[.int .i64 x, .int .i64 y] 34)) (.cells #[.int .i64 x, .int .i64 y] 34)
  have hs : (w.alloc (.cells #[.int .i64 x, .int .i64 y] 34)).heap.size = w.heap.size + 1 := by simp
  rw [hs] at h1
  have hkp := (Below.refl (w.heap.size + 1) (w.alloc (.cells #[.int .i64 x, .int .i64 y] 34))).alloc (by simp) (.cells #[.int .i64 x, .int .i64 y] 34)
  have h0' := (hkp.block w.heap.size (by omega)).trans h0
  have a0 := Fr2.range2 h0' 0 _ rfl
  have a1 := Fr2.range2 h0' 1 _ rfl
  have b0 := Fr2.range2 h1 0 _ rfl
  have b1 := Fr2.range2 h1 1 _ rfl
  have HB := Lib.hid hb
  clear hb h0 h1 h0' hkp
  go_wp2
  go_ret
  exact ⟨rfl, HB.out⟩
theorem two_at (w : World) (c0 c1 : Array Value) (t0 t1 : TypeId) :
    ((w.alloc (.cells c0 t0)).alloc (.cells c1 t1)).heap.size = w.heap.size + 1 + 1 ∧ Below w.heap.size w ((w.alloc (.cells c0 t0)).alloc (.cells c1 t1)) ∧
    ((w.alloc (.cells c0 t0)).alloc (.cells c1 t1)).heap[w.heap.size]? = some (.cells c0 t0 (0, 0)) ∧ ((w.alloc (.cells c0 t0)).alloc (.cells c1 t1)).heap[w.heap.size + 1]? = some (.cells c1 t1 (0, 0)) := by
  have s1 : (w.alloc (.cells c0 t0)).heap.size = w.heap.size + 1 := by simp
  have a0 := heap_alloc_new w (.cells c0 t0)
  have a1 := heap_alloc_new (w.alloc (.cells c0 t0)) (.cells c1 t1)
  rw [s1] at a1
  have b1 := (box_below (w.alloc (.cells c0 t0)) (.cells c1 t1))
  rw [s1] at b1
  exact ⟨by simp, ((Below.refl _ w).alloc (Nat.le_refl _) _).alloc (by simp) _, (b1.block _ (by omega)).trans a0, a1⟩
set_option maxHeartbeats 1000000 in
theorem eq_step (s : SR) (w : World) : Calls Tryz.prog 62 #[s.v, s.v] w fun e w' => e = .returned (.bool true) ∧ Below w.heap.size w w' := by
  obtain ⟨k, d, q, a⟩ := s
  obtain ⟨hs0, hb0, a0, a1⟩ := two_at w #[.int .i64 k, .int .i64 d, .int .i64 q, .int .i64 a] #[.int .i64 k, .int .i64 d, .int .i64 q, .int .i64 a] 36 36
  have HS0 := Lib.hid hs0
  have HB0 := Lib.hid hb0
  have A0 := Lib.hid a0
  have A1 := Lib.hid a1
  clear hs0 hb0 a0 a1
  have u0 := (cell_at A0.out 0).trans rfl
  have u1 := (cell_at A0.out 1).trans rfl
  have u2 := (cell_at A0.out 2).trans rfl
  have v0 := (cell_at A1.out 0).trans rfl
  have v1 := (cell_at A1.out 1).trans rfl
  have v2 := (cell_at A1.out 2).trans rfl
  have hkk : (k != k) = false := by simp
  have haa : (a != a) = false := by simp
  go_enter Tryz.func62, Tryz.ntmps62
  go_wp2_with fail
  refine (eq_move d q _).mono ?_
  rintro e w3 ⟨rfl, hb⟩
  have HB3 := Lib.hid (HB0.out.trans (hb.mono HB0.out.size))
  have hsz := hb.size
  rw [HS0.out] at hb hsz
  have c0 := (hb.block w.heap.size (by omega)).trans A0.out
  have c1 := (hb.block (w.heap.size + 1) (by omega)).trans A1.out
  have y0 := (cell_at c0 3).trans rfl
  have y1 := (cell_at c1 3).trans rfl
  clear hb c0 c1 u0 u1 u2 v0 v1 v2 hsz
  go_wp2
  go_ret
  exact ⟨rfl, HB3.out⟩
set_option maxHeartbeats 2000000 in
theorem eq_steps (A1 A2 : Option Addr) (n c1 c2 : Nat) (ss : List SR) (w : World) (hn : ss.length = n) (hn2 : n ≤ 2097152) (h1 : StepsAt w w.heap.size A1 ss) (h2 : StepsAt w w.heap.size A2 ss) :
    Calls Tryz.prog 47 #[.slice A1 n c1, .slice A2 n c2] w fun e w' => e = .returned (.bool true) ∧ Below w.heap.size w w' := by
  have HN := Lib.hid hn
  clear hn
  go_enter Tryz.func47, Tryz.ntmps47
  go_wp2
  go_loopw [5] (fun i wr => ∃ k : Nat, k ≤ n ∧ i = .int .i64 k ∧ Below w.heap.size w wr) (fun i _ => n - (intOf i).toNat)
  case atStart => exact ⟨0, Nat.zero_le _, rfl, Below.refl _ _⟩
  case round =>
    obtain ⟨k, hk, rfl, hb⟩ := hrel
    by_cases hlt : k < n
    · obtain ⟨b1, o1, rfl, hbb1, p0, p1, p2, p3⟩ := (h1.below hb) k (by rw [HN.out]; exact hlt)
      obtain ⟨b2, o2, rfl, hbb2, q0, q1, q2, q3⟩ := (h2.below hb) k (by rw [HN.out]; exact hlt)
      generalize (ss.getD k sr0).k = x0 at *
      generalize (ss.getD k sr0).d = x1 at *
      generalize (ss.getD k sr0).q = x2 at *
      generalize (ss.getD k sr0).a = x3 at *
      have hk0 : (0 : Int) ≤ (k : Int) := by omega
      have hk1 : (k : Int) < (n : Int) := by omega
      clear h1 h2
      have HE := Lib.hid (fun V : World => eq_step ⟨x0, x1, x2, x3⟩ V)
      have HB1 := Lib.hid (hb.drew)
      go_wp2_with fail
      go_cut [26] from 17 to 26 (fun s wx => s = .bool false ∧ Below w.heap.size w wx)
      case first =>
        go_region_held3 (fun w' => w'.cell? ⟨b1, o1 + k * 4, none⟩ = some (.int .i64 x0) ∧ w'.cell? ⟨b1, o1 + k * 4 + 1, none⟩ = some (.int .i64 x1) ∧ w'.cell? ⟨b1, o1 + k * 4 + 2, none⟩ = some (.int .i64 x2) ∧ w'.cell? ⟨b1, o1 + k * 4 + 3, none⟩ = some (.int .i64 x3) ∧ w'.cell? ⟨b2, o2 + k * 4, none⟩ = some (.int .i64 x0) ∧ w'.cell? ⟨b2, o2 + k * 4 + 1, none⟩ = some (.int .i64 x1) ∧ w'.cell? ⟨b2, o2 + k * 4 + 2, none⟩ = some (.int .i64 x2) ∧ w'.cell? ⟨b2, o2 + k * 4 + 3, none⟩ = some (.int .i64 x3)) ((first | exact ⟨p0, p1, p2, p3, q0, q1, q2, q3⟩ | exact hSS5)) ((go_at_call 62; refine (HE.out _).mono ?_; rintro e w5 ⟨rfl, hb5⟩; have hs5 := HB1.out.size; have hSS5 : w5.cell? ⟨b1, o1 + k * 4, none⟩ = some (.int .i64 x0) ∧ w5.cell? ⟨b1, o1 + k * 4 + 1, none⟩ = some (.int .i64 x1) ∧ w5.cell? ⟨b1, o1 + k * 4 + 2, none⟩ = some (.int .i64 x2) ∧ w5.cell? ⟨b1, o1 + k * 4 + 3, none⟩ = some (.int .i64 x3) ∧ w5.cell? ⟨b2, o2 + k * 4, none⟩ = some (.int .i64 x0) ∧ w5.cell? ⟨b2, o2 + k * 4 + 1, none⟩ = some (.int .i64 x1) ∧ w5.cell? ⟨b2, o2 + k * 4 + 2, none⟩ = some (.int .i64 x2) ∧ w5.cell? ⟨b2, o2 + k * 4 + 3, none⟩ = some (.int .i64 x3) := ⟨(hb5.cell (p := ⟨b1, _, none⟩) (Nat.lt_of_lt_of_le hbb1 hs5)).trans p0, (hb5.cell (p := ⟨b1, _, none⟩) (Nat.lt_of_lt_of_le hbb1 hs5)).trans p1, (hb5.cell (p := ⟨b1, _, none⟩) (Nat.lt_of_lt_of_le hbb1 hs5)).trans p2, (hb5.cell (p := ⟨b1, _, none⟩) (Nat.lt_of_lt_of_le hbb1 hs5)).trans p3, (hb5.cell (p := ⟨b2, _, none⟩) (Nat.lt_of_lt_of_le hbb2 hs5)).trans q0, (hb5.cell (p := ⟨b2, _, none⟩) (Nat.lt_of_lt_of_le hbb2 hs5)).trans q1, (hb5.cell (p := ⟨b2, _, none⟩) (Nat.lt_of_lt_of_le hbb2 hs5)).trans q2, (hb5.cell (p := ⟨b2, _, none⟩) (Nat.lt_of_lt_of_le hbb2 hs5)).trans q3⟩; have HB5 := Lib.hid (HB1.out.trans (hb5.mono HB1.out.size)); clear hb5))
        all_goals (go_wp2_with fail; go_meet; exact ⟨rfl, HB5.out⟩)
      case rest =>
      obtain ⟨rfl, hbc⟩ := hcut
      go_wp2
      go_roundw
      case rel => exact ⟨k + 1, by omega, by go_num, hbc⟩
      case measure => simp [intOf]; omega
    · go_wp2
      go_ret
      exact ⟨rfl, hb⟩
theorem sz_steps (A : Option Addr) (n c : Nat) (k : Int) (w : World) (hn2 : n ≤ 9223372036854775807) (h0 : 0 ≤ k) (h1 : k ≤ 1073741824) :
    Calls Tryz.prog 39 #[.slice A n c, .int .i64 k] w fun e w' => e = .returned (.int .i64 (if (n : Int) ≤ k then k - (n : Int) else -1)) ∧ w = w' := by
  by_cases h : (n : Int) ≤ k
  · rw [if_pos h]
    have h2 : decide (k - (n : Int) < 0) = false := decide_eq_false (by omega)
    go_enter Tryz.func39, Tryz.ntmps39
    go_wp2
    go_ret
    exact ⟨rfl, rfl⟩
  · rw [if_neg h]
    have hneg : k - (n : Int) < 0 := by omega
    go_enter Tryz.func39, Tryz.ntmps39
    go_wp2
    go_ret
    exact ⟨rfl, rfl⟩
set_option maxHeartbeats 2000000 in
theorem mark_steps (B : Nat) (k : Int) (n : Nat) (A : Option Addr) (c : Nat) (xs : List Value) (w : World) (hk0 : 0 ≤ k) (hkn : k + 4 * n ≤ 1073741824) (hown : w.ownsRow B 36 4 (.slice A n c) n xs) :
    Calls Tryz.prog 48 #[.slice A n c, .int .i64 k] w fun e w' => e = .returned (.int .i64 (k + 4 * (n : Int))) ∧ w.grownBy w' (A.map (·.block)) := by
  have HO0 := Lib.hid hown
  clear hown
  go_enter Tryz.func48, Tryz.ntmps48
  go_wp2
  go_loopw [1, 5] (fun q i wr => ∃ j : Nat, j ≤ n ∧ i = .int .i64 j ∧ q = .int .i64 (k + 4 * (j : Int)) ∧ (∃ ys, Hid (wr.ownsRow B 36 4 (.slice A n c) n ys)) ∧ w.grownBy wr (A.map (·.block))) (fun _ i _ => n - (intOf i).toNat)
  case atStart => exact ⟨0, Nat.zero_le _, rfl, by simp, ⟨xs, HO0⟩, World.grownBy.refl w _⟩
  case round =>
    obtain ⟨j, hj, rfl, rfl, ⟨ys, HO⟩, hbj⟩ := hrel
    clear HO0
    by_cases hlt : j < n
    · obtain ⟨g, rfl⟩ := own4_shape HO.out (by omega)
      have hyl : ys.length = n * 4 := HO.out.1
      obtain ⟨o0, hg0⟩ : ∃ o, wr.cell? ⟨g, j * 4, none⟩ = some o := ⟨_, (HO.out.cellAt (j * 4) (by omega)).trans (List.getElem?_eq_getElem (by omega))⟩
      have st0 := HO.out.stored (j * 4) (.int .i64 (k + 4 * (j : Int)))
      have l0 : (ys.set (j * 4) (.int .i64 (k + 4 * (j : Int)))).length = n * 4 := by rw [List.length_set]; exact hyl
      obtain ⟨o1, hg1⟩ : ∃ o, (wr.setCell ⟨g, j * 4, none⟩ (.int .i64 (k + 4 * (j : Int)))).cell? ⟨g, j * 4 + 1, none⟩ = some o := ⟨_, (st0.1.cellAt (j * 4 + 1) (by omega)).trans (List.getElem?_eq_getElem (by omega))⟩
      have st1 := st0.1.stored (j * 4 + 1) (.int .i64 (k + 4 * (j : Int) + 1))
      have l1 : ((ys.set (j * 4) (.int .i64 (k + 4 * (j : Int)))).set (j * 4 + 1) (.int .i64 (k + 4 * (j : Int) + 1))).length = n * 4 := by rw [List.length_set]; exact l0
      obtain ⟨o2, hg2⟩ : ∃ o, ((wr.setCell ⟨g, j * 4, none⟩ (.int .i64 (k + 4 * (j : Int)))).setCell ⟨g, j * 4 + 1, none⟩ (.int .i64 (k + 4 * (j : Int) + 1))).cell? ⟨g, j * 4 + 2, none⟩ = some o := ⟨_, (st1.1.cellAt (j * 4 + 2) (by omega)).trans (List.getElem?_eq_getElem (by omega))⟩
      have st2 := st1.1.stored (j * 4 + 2) (.int .i64 (k + 4 * (j : Int) + 1 + 1))
      have l2 : (((ys.set (j * 4) (.int .i64 (k + 4 * (j : Int)))).set (j * 4 + 1) (.int .i64 (k + 4 * (j : Int) + 1))).set (j * 4 + 2) (.int .i64 (k + 4 * (j : Int) + 1 + 1))).length = n * 4 := by rw [List.length_set]; exact l1
      obtain ⟨o3, hg3⟩ : ∃ o, (((wr.setCell ⟨g, j * 4, none⟩ (.int .i64 (k + 4 * (j : Int)))).setCell ⟨g, j * 4 + 1, none⟩ (.int .i64 (k + 4 * (j : Int) + 1))).setCell ⟨g, j * 4 + 2, none⟩ (.int .i64 (k + 4 * (j : Int) + 1 + 1))).cell? ⟨g, j * 4 + 3, none⟩ = some o := ⟨_, (st2.1.cellAt (j * 4 + 3) (by omega)).trans (List.getElem?_eq_getElem (by omega))⟩
      have hf0 := HO.out.frozenAt (j * 4)
      have hf1 := st0.1.frozenAt (j * 4 + 1)
      have hf2 := st1.1.frozenAt (j * 4 + 2)
      have hf3 := st2.1.frozenAt (j * 4 + 3)
      have st3 := st2.1.stored (j * 4 + 3) (.int .i64 (k + 4 * (j : Int) + 1 + 1 + 1))
      have HST := Lib.hid st3.1
      have HB2 : Hid (w.grownBy _ ((some (⟨g, 0, none⟩ : Addr)).map (·.block))) := Lib.hid (grown_trans (grown_trans (grown_trans (grown_trans hbj st0.2) st1.2) st2.2) st3.2)
      clear st0 st1 st2 st3 HO hbj hyl l0 l1 l2

      go_wp2
      go_roundw
      case rel => exact ⟨j + 1, by omega, by go_num, by go_num, ⟨_, HST⟩, HB2.out⟩
      case measure => simp [intOf]; omega
    · have hjn : j = n := by omega
      have HJ := Lib.hid hjn
      have HBJ := Lib.hid hbj
      clear hjn hbj HO
      go_wp2
      go_ret
      exact ⟨congrArg (fun z : Nat => Ending.returned (.int .i64 (k + 4 * (z : Int)))) HJ.out, HBJ.out⟩
end Go.Proofs.YtibephoepkofnaaGreat.Tst

namespace Go.Proofs.YtibephoepkofnaaGreat.Scn
open Go.Deep Go.RowKit Go.Joins Fr _root_.Go.Proofs.YtibephoepkofnaaGreat.Own Pk Ins Rws

/-- a scene as a value -/
abbrev scV (A : Option Addr) (n c : Nat) (m : Int) : Value := .agg #[.slice A n c, .int .i64 m]
theorem range2 {W : World} {g : Nat} {x y : Value} {e : TypeId} (h : W.heap[g]? = some (.cells #[x, y] e (0, 0))) : W.rangeAt g 0 [x, y] := by
  intro j v hv
  unfold World.cell?
  match j, hv with
  | 0, hv => simp at hv; subst hv; simp [h]
  | 1, hv => simp at hv; subst hv; simp [h]
theorem cell2 {W : World} {p : Nat} {x y : Value} {e : TypeId} (h : W.heap[p]? = some (.cells #[x, y] e (0, 0))) : W.cell? ⟨p, 0, none⟩ = some x ∧ W.cell? ⟨p, 1, none⟩ = some y :=
  ⟨range2 h 0 x rfl, range2 h 1 y rfl⟩
theorem put2 {W : World} {p : Nat} {a b x y : Value} {t : TypeId} (hp : W.heap[p]? = some (.cells #[a, b] t (0, 0))) : ((W.setCell ⟨p, 0, none⟩ x).setCell ⟨p, 1, none⟩ y).heap[p]? = some (.cells #[x, y] t (0, 0)) := by
  have h1 := heap_setCell_same W p 0 #[a, b] t x hp
  have h2 := heap_setCell_same _ p 1 _ t y h1
  exact h2
theorem frz {W : World} {p : Nat} {cs : Array Value} {t : TypeId} (hp : W.heap[p]? = some (.cells cs t (0, 0))) (j : Nat) : W.frozen? ⟨p, j, none⟩ = false := frozen_of_row W p j cs t hp
theorem set_grown (w : World) (g j : Nat) (v : Value) : w.grownBy (w.setCell ⟨g, j, none⟩ v) (some g) :=
  ⟨rfl, rfl, rfl, by simp, fun k _ hk => heap_setCell_other w ⟨g, j, none⟩ k v (fun e => hk (by simp [e]))⟩
/-- what a call that first lays its stack in a box leaves -/
theorem box_below (w : World) (o : Obj) : Below w.heap.size w (w.alloc o) := (Below.refl _ w).alloc (Nat.le_refl _) o

theorem sz_ints (A : Option Addr) (n c : Nat) (left : Int) (w : World) (hn : n ≤ 9223372036854775807) (h0 : 0 ≤ left) (h1 : left ≤ 1048576) :
    Calls Tryz.prog 25 #[.slice A n c, .int .i64 left] w fun e w' => e = .returned (.int .i64 (if (n : Int) ≤ left then left - n else -1)) ∧ w = w' := by
  by_cases h : (n : Int) ≤ left
  · rw [if_pos h]
    have h3 : decide (left - (n : Int) < 0) = false := decide_eq_false (by omega)
    go_enter Tryz.func25, Tryz.ntmps25
    go_wp2
    go_ret
    exact ⟨rfl, rfl⟩
  · rw [if_neg h]
    have h3 : left - (n : Int) < 0 := by omega
    go_enter Tryz.func25, Tryz.ntmps25
    go_wp2
    go_ret
    exact ⟨rfl, rfl⟩
theorem sz_scene (A : Option Addr) (n c : Nat) (m left : Int) (w : World) (hn : n ≤ 9223372036854775807) (h0 : 0 ≤ left) (h1 : left ≤ 1048576) :
    Calls Tryz.prog 5 #[scV A n c m, .int .i64 left] w fun e w' => e = .returned (.int .i64 (if (n : Int) ≤ left then left - n else -1)) ∧ Below w.heap.size w w' := by
  have HB := Lib.hid (box_below w (.cells #[.slice A n c, .int .i64 m] 24))
  by_cases h : (n : Int) ≤ left
  · rw [if_pos h]
    have h3 : decide (left - (n : Int) < 0) = false := decide_eq_false (by omega)
    go_enter Tryz.func5, Tryz.ntmps5
    go_wp2_with (go_at_call 25; refine (sz_ints A n c left _ hn h0 h1).mono ?_; rintro e w' ⟨rfl, rfl⟩; rw [if_pos h])
    go_ret
    exact ⟨rfl, HB.out⟩
  · rw [if_neg h]
    go_enter Tryz.func5, Tryz.ntmps5
    go_wp2_with (go_at_call 25; refine (sz_ints A n c left _ hn h0 h1).mono ?_; rintro e w' ⟨rfl, rfl⟩; rw [if_neg h])
    go_ret
    exact ⟨rfl, HB.out⟩
/-- a call hands back a scene whose list lies in a row of its own, and writes nothing old -/
def IsSc (B : Nat) (zs : List Int) (m : Int) (w : World) (e : Ending) (w' : World) : Prop :=
  ∃ g, e = .returned (scV (some ⟨g, 0, none⟩) zs.length zs.length m) ∧ w'.ownsRow B 3 1 (.slice (some ⟨g, 0, none⟩) zs.length zs.length) zs.length (zs.map (Value.int .i64)) ∧ Below B w w'
theorem loadS {W : World} {g : Nat} {x y : Value} {e : TypeId} (h : W.heap[g]? = some (.cells #[x, y] e (0, 0))) : (loadVar 32 ⟨g, 0, none⟩).run Tryz.prog W = .ok (.agg #[x, y]) W :=
  run_loadVar_mid (P := Tryz.prog) W g 0 32 [x, y] _ (range2 h) Tryz.underlying32 rfl (by kernel_rfl)
theorem results_cell {P : Program} {fn : Func} {a : Tmp} {t : TypeId} {p : Addr} {v : Value} {w : World} (h : fn.results = #[.cell a t]) (tmps : Array Value) (hp : tmps.getD a undef = .pointer (some p)) (hl : (loadVar t p).run P w = .ok v w) :
    (results fn tmps).run P w = .ok v w := by
  have hp2 : tmps[a]?.getD undef = .pointer (some p) := by simpa using hp
  simp [results, h, hp2, asAddr, hl]
theorem three (w : World) (o0 o1 o2 : Obj) : (((w.alloc o0).alloc o1).alloc o2).heap.size = w.heap.size + 1 + 1 + 1 ∧ Below w.heap.size w (((w.alloc o0).alloc o1).alloc o2) :=
  ⟨by simp, (((Below.refl _ w).alloc (Nat.le_refl _) o0).alloc (by simp) o1).alloc (by simp; omega) o2⟩
theorem three_at (w : World) (c0 c1 c2 : Array Value) (t0 t1 t2 : TypeId) :
    (((w.alloc (.cells c0 t0)).alloc (.cells c1 t1)).alloc (.cells c2 t2)).heap[w.heap.size]? = some (.cells c0 t0 (0, 0)) ∧
    (((w.alloc (.cells c0 t0)).alloc (.cells c1 t1)).alloc (.cells c2 t2)).heap[w.heap.size + 1]? = some (.cells c1 t1 (0, 0)) ∧
    (((w.alloc (.cells c0 t0)).alloc (.cells c1 t1)).alloc (.cells c2 t2)).heap[w.heap.size + 1 + 1]? = some (.cells c2 t2 (0, 0)) := by
  have s1 : (w.alloc (.cells c0 t0)).heap.size = w.heap.size + 1 := by simp
  have s2 : ((w.alloc (.cells c0 t0)).alloc (.cells c1 t1)).heap.size = w.heap.size + 1 + 1 := by simp
  have a0 := heap_alloc_new w (.cells c0 t0)
  have a1 := heap_alloc_new (w.alloc (.cells c0 t0)) (.cells c1 t1)
  have a2 := heap_alloc_new ((w.alloc (.cells c0 t0)).alloc (.cells c1 t1)) (.cells c2 t2)
  rw [s1] at a1
  rw [s2] at a2
  have b1 := (box_below (w.alloc (.cells c0 t0)) (.cells c1 t1))
  have b2 := (box_below ((w.alloc (.cells c0 t0)).alloc (.cells c1 t1)) (.cells c2 t2))
  rw [s1] at b1
  rw [s2] at b2
  exact ⟨(b2.block _ (by omega)).trans ((b1.block _ (by omega)).trans a0), (b2.block _ (by omega)).trans a1, a2⟩
set_option maxHeartbeats 1000000 in
theorem to_scene (A : Option Addr) (n c : Nat) (zs : List Int) (m : Int) (w : World) (hn : zs.length = n) (hn2 : n ≤ 1048576) (hss : IntsAt w w.heap.size .i64 A zs) :
    Calls Tryz.prog 7 #[scV A n c m] w (IsSc w.heap.size zs m w) := by
  have HN := Lib.hid hn
  obtain ⟨hs0, hb0⟩ := three w (.cells #[.slice A n c, .int .i64 m] 24) (.cells #[.slice none 0 0, .int .i64 0] 32) (.cells #[.slice none 0 0, .int .i64 0] 32)
  obtain ⟨a0, a1, a2⟩ := three_at w #[.slice A n c, .int .i64 m] #[.slice none 0 0, .int .i64 0] #[.slice none 0 0, .int .i64 0] 24 32 32
  have HS0 := Lib.hid hs0
  have HB0 := Lib.hid hb0
  have A0 := Lib.hid a0
  have A1 := Lib.hid a1
  have A2 := Lib.hid a2
  clear hs0 hb0 a0 a1 a2 hn
  go_enter Tryz.func7, Tryz.ntmps7
  go_wp2_with fail
  refine (Ins.to_any A n c zs _ HN.out hn2 ((hss.below HB0.out).more HB0.out.size)).mono ?_
  rintro e w3 ⟨g, rfl, hgg, hown, hb⟩
  have hsz := hb.size
  rw [HS0.out] at hgg hb hown hsz
  have c0 := (hb.block _ (by omega)).trans A0.out
  have c1 := (hb.block _ (by omega)).trans A1.out
  have c2 := (hb.block _ (by omega)).trans A2.out
  have k1 := (cell2 c0).2
  obtain ⟨k2, k3⟩ := cell2 c1
  obtain ⟨k4, k5⟩ := cell2 c2
  have f2 := frz c1 0
  have f3 := frz c1 1
  have f4 := frz c2 0
  have f5 := frz c2 1
  have HW := Lib.hid (put2 (x := .slice (some ⟨g, 0, none⟩) n n) (y := .int .i64 m) c2)
  have hb3 := HB0.out.trans (hb.mono (by omega))
  have hg1 := ((set_grown w3 (w.heap.size + 1 + 1) 0 (.slice (some ⟨g, 0, none⟩) n n)).trans (set_grown _ (w.heap.size + 1 + 1) 1 (.int .i64 m)))
  have hb4 := hb3.grown hg1 (by omega) (fun k hk => by simp only [Option.some.injEq] at hk; omega)
  have ho4 := own_gr hown hg1 (fun k hk e => by simp only [Option.map_some, Option.some.injEq] at hk e; omega)
  have c3 := (hg1.block (w.heap.size + 1) (by omega) (by simp)).trans c1
  have HV := Lib.hid (put2 (x := .slice (some ⟨g, 0, none⟩) n n) (y := .int .i64 m) c3)
  have hg2 := ((set_grown ((w3.setCell ⟨w.heap.size + 1 + 1, 0, none⟩ (.slice (some ⟨g, 0, none⟩) n n)).setCell ⟨w.heap.size + 1 + 1, 1, none⟩ (.int .i64 m)) (w.heap.size + 1) 0 (.slice (some ⟨g, 0, none⟩) n n)).trans (set_grown _ (w.heap.size + 1) 1 (.int .i64 m)))
  have HB5 := Lib.hid (hb4.grown hg2 hb4.size (fun k hk => by simp only [Option.some.injEq] at hk; omega))
  have HO5 := Lib.hid (own_mono (base' := w.heap.size) (own_gr ho4 hg2 (fun k hk e => by simp only [Option.map_some, Option.some.injEq] at hk e; omega)) (by omega))
  clear hb hown hgg hb3 hg1 hb4 ho4 c3 hg2 c0 c1 c2 hsz hss
  go_wp2
  (try simp only [Exit.inBlock, Exit.then])
  refine bodyPost_ret (results_cell rfl _ rfl (loadS HV.out)) rfl ?_
  exact ⟨g, by rw [HN.out], by rw [HN.out]; exact HO5.out, HB5.out⟩
set_option maxHeartbeats 1000000 in
theorem eq_scene (A A2 : Option Addr) (n c c2 : Nat) (zs : List Int) (m : Int) (w : World) (hn : zs.length = n) (hn2 : n ≤ 4194304) (h1 : IntsAt w w.heap.size .i64 A zs) (h2 : IntsAt w w.heap.size .i64 A2 zs) :
    Calls Tryz.prog 11 #[scV A n c m, scV A2 n c2 m] w fun e w' => e = .returned (.bool true) ∧ Below w.heap.size w w' := by
  have HN := Lib.hid hn
  have hmm : (m != m) = false := by simp
  have hb0 : Below w.heap.size w ((w.alloc (.cells #[.slice A n c, .int .i64 m] 32)).alloc (.cells #[.slice A2 n c2, .int .i64 m] 32)) := ((Below.refl _ w).alloc (Nat.le_refl _) _).alloc (by simp) _
  have hs1 : (w.alloc (.cells #[.slice A n c, .int .i64 m] 32)).heap.size = w.heap.size + 1 := by simp
  have a0 := heap_alloc_new w (.cells #[.slice A n c, .int .i64 m] 32)
  have a1 := heap_alloc_new (w.alloc (.cells #[.slice A n c, .int .i64 m] 32)) (.cells #[.slice A2 n c2, .int .i64 m] 32)
  have b1 := box_below (w.alloc (.cells #[.slice A n c, .int .i64 m] 32)) (.cells #[.slice A2 n c2, .int .i64 m] 32)
  rw [hs1] at a1 b1
  have k0 := (cell2 ((b1.block _ (by omega)).trans a0)).2
  have k1 := (cell2 a1).2
  have HI1 := Lib.hid ((h1.below hb0).more hb0.size)
  have HI2 := Lib.hid ((h2.below hb0).more hb0.size)
  have HB0 := Lib.hid hb0
  have hs2 : ((w.alloc (.cells #[.slice A n c, .int .i64 m] 32)).alloc (.cells #[.slice A2 n c2, .int .i64 m] 32)).heap.size = w.heap.size + 1 + 1 := by simp
  have HS2 := Lib.hid hs2
  clear hn h1 h2 hb0 a0 a1 b1 hs1 hs2
  go_enter Tryz.func11, Tryz.ntmps11
  go_wp2_with fail
  refine (Ins.eq_same A A2 n c c2 zs _ HN.out hn2 HI1.out HI2.out).mono ?_
  rintro e w3 ⟨rfl, hb⟩
  have hb2 := hb
  rw [HS2.out] at hb2
  replace k0 := (hb2.cell (p := ⟨w.heap.size, 1, none⟩) (by show w.heap.size < _; omega)).trans k0
  replace k1 := (hb2.cell (p := ⟨w.heap.size + 1, 1, none⟩) (by show w.heap.size + 1 < _; omega)).trans k1
  have HB3 := Lib.hid (HB0.out.trans (hb.mono HB0.out.size))
  clear hb hb2
  go_wp2
  go_ret
  exact ⟨rfl, HB3.out⟩
/-- the ints of a scene's list become marks -/
def MarkedSc (B : Nat) (k : Int) (n : Nat) (A : Option Addr) (c : Nat) (w : World) (e : Ending) (w' : World) : Prop :=
  e = .returned (.int .i64 (k + (n : Int))) ∧ w'.ownsRow B 3 1 (.slice A n c) n ((imarks k n).map (Value.int .i64)) ∧ w.grownBy w' (A.map (·.block))
theorem grown_box {w W : World} {o : Obj} {row : Option Nat} (h : (w.alloc o).grownBy W row) : w.grownBy W row := (World.grownBy_alloc w o row).trans h
theorem mark_scene (B : Nat) (k : Int) (n : Nat) (A : Option Addr) (c : Nat) (m : Int) (xs : List Value) (w : World) (hk0 : 0 ≤ k) (hkn : k + n ≤ 1073741824) (hown : w.ownsRow B 3 1 (.slice A n c) n xs) :
    Calls Tryz.prog 12 #[scV A n c m, .int .i64 k] w (MarkedSc B k n A c w) := by
  have HO := Lib.hid (hown.alloc (.cells #[.slice A n c, .int .i64 m] 32))
  clear hown
  go_enter Tryz.func12, Tryz.ntmps12
  go_wp2_with fail
  refine (Ins.mark_any B k n A c xs _ hk0 hkn HO.out).mono ?_
  rintro e w3 ⟨rfl, ho, hgr⟩
  have HO2 := Lib.hid ho
  have HG := Lib.hid (grown_box hgr)
  clear ho hgr
  go_wp2
  go_ret
  exact ⟨rfl, HO2.out, HG.out⟩
theorem held_scene (k : Int) (n c : Nat) (A : Option Addr) (m : Int) (w : World) (hk0 : 0 ≤ k) (hkn : k + n ≤ 1073741824) (h : IntsAt w w.heap.size .i64 A (imarks k n)) :
    Calls Tryz.prog 24 #[scV A n c m, .int .i64 k] w fun e w' => e = .returned (.int .i64 (k + (n : Int))) ∧ Below w.heap.size w w' := by
  have hb := box_below w (.cells #[.slice A n c, .int .i64 m] 32)
  have HI := Lib.hid ((h.below hb).more hb.size)
  have HB := Lib.hid hb
  have hlt : decide (k + (n : Int) < 0) = false := decide_eq_false (by omega)
  clear h hb
  go_enter Tryz.func24, Tryz.ntmps24
  go_wp2_with fail
  refine (Ins.held_any k n c A _ hk0 hkn HI.out).mono ?_
  rintro e w3 ⟨rfl, rfl⟩
  go_wp2
  go_ret
  exact ⟨rfl, HB.out⟩

section
open Go.ChangeShapes Go.WideShapes
variable {H : Type} {enc : TypeId × Value → H} {P : Program}
/-- an argument that is a struct of a list of ints and an int -/
theorem view_scene {W : World} {base : Nat} {t e : TypeId} {f0 f1 : Field} {v : Value} {d : DataW H} {ps : List MemPlace} (hs : P.underlying t = some (.struct #[f0, f1])) (hone : oneCellFields P #[f0, f1] = true) (hC : P.cellsOf t = 2)
    (h0 : P.underlying f0.type = some (.slice e)) (he : P.underlying e = some (.int .i64)) (hc : P.cellsOf e = 1) (h1 : P.underlying f1.type = some (.int .i64)) (hval : Value.okWide P W .any base t v) (hd : DataW.Trod enc P W 0 (fun _ => true) true t v d ps)
    (hlt : ∀ x ∈ ps, x.block < W.heap.size) :
    ∃ (A : Option Addr) (n c : Nat) (zs : List Int) (m : Int), v = scV A n c m ∧ zs.length = n ∧ n ≤ maxLen ∧ (∀ z ∈ zs, (Lit.int .i64 z).wf = true) ∧ (Lit.int .i64 m).wf = true ∧ IntsAt W W.heap.size .i64 A zs := by
  obtain ⟨v0, v1, y0, y1, n, rfl, _, hp, e0, e1⟩ := open_agg2 hs hone hC hval hd
  obtain ⟨m, hm, _, hwm⟩ := DataW.trod_int h1 e1
  simp only [List.cons.injEq, and_true] at hm
  subst hm
  have hlt0 : ∀ x ∈ y0.2, x.block < W.heap.size := fun x hx => hlt x (by rw [hp]; exact List.mem_append_left _ hx)
  rcases open_ints h0 he hc e0 with ⟨hcs, hx⟩ | ⟨a, len, cap, zs, hcs, _, hl, hm2, hz, hx, hcell, hws⟩
  · simp only [List.cons.injEq, and_true] at hcs
    subst hcs
    exact ⟨none, 0, 0, [], m, rfl, rfl, Nat.zero_le _, (fun s h => by cases h), hwm, IntsAt.none_ _ _ _ _⟩
  · simp only [List.cons.injEq, and_true] at hcs
    subst hcs
    simp only [if_true] at hz
    refine ⟨some a, len, cap, zs.take len, m, rfl, by rw [List.length_take]; omega, by omega, fun s h => hws s (List.mem_of_mem_take h), hwm, ?_⟩
    intro j hj
    have hj2 : j < len := by rw [List.length_take] at hj; omega
    obtain ⟨b, off, spot⟩ := a
    have hspot : spot = none := by simpa [Addr.add] using World.cell?_spot (hcell 0 (by omega))
    subst hspot
    have hbW : b < W.heap.size := hlt0 (.cell b off) (by rw [hx]; exact MemPlace.mem_row.2 ⟨0, by omega, by simp⟩)
    refine ⟨b, off, rfl, hbW, ?_⟩
    rw [← add_plain, hcell j (by omega)]
    simp [List.getD_eq_getElem?_getD, hj2]
end
end Go.Proofs.YtibephoepkofnaaGreat.Scn

namespace Go.Proofs.YtibephoepkofnaaGreat.Trk
open Go.Deep Go.RowKit Go.Joins Fr _root_.Go.Proofs.YtibephoepkofnaaGreat.Own Pk Ins Rws Tst

/-- a trick as a value -/
abbrev trV (A : Option Addr) (n c : Nat) (S : Option Addr) (m d : Nat) (x a b : Int) : Value := .agg #[.slice A n c, .slice S m d, .int .i64 x, .int .i64 a, .int .i64 b]
section
open Go.ChangeShapes Go.WideShapes
variable {H : Type} {enc : TypeId × Value → H} {P : Program}
/-- a list of ints that a slice reads -/
theorem trod_ints {W : World} {t e : TypeId} {fuel : Nat} {cs : List Value} {x : DataW H × List MemPlace} (ht : P.underlying t = some (.slice e)) (he : P.underlying e = some (.int .i64)) (hc : P.cellsOf e = 1)
    (h : DataW.trod enc P W 0 (fun _ => true) true fuel t cs = some x) (hlt : ∀ y ∈ x.2, y.block < W.heap.size) :
    ∃ (A : Option Addr) (n c : Nat) (zs : List Int), cs = [.slice A n c] ∧ zs.length = n ∧ n ≤ maxLen ∧ (∀ z ∈ zs, (Lit.int .i64 z).wf = true) ∧ IntsAt W W.heap.size .i64 A zs := by
  rcases open_ints ht he hc h with ⟨hcs, hx⟩ | ⟨a, len, cap, zs, hcs, _, hl, hm2, hz, hx, hcell, hws⟩
  · exact ⟨none, 0, 0, [], hcs, rfl, Nat.zero_le _, (fun s h => by cases h), IntsAt.none_ _ _ _ _⟩
  · simp only [if_true] at hz
    refine ⟨some a, len, cap, zs.take len, hcs, by rw [List.length_take]; omega, by omega, fun s h => hws s (List.mem_of_mem_take h), ?_⟩
    intro j hj
    have hj2 : j < len := by rw [List.length_take] at hj; omega
    obtain ⟨b, off, spot⟩ := a
    have hspot : spot = none := by simpa [Addr.add] using World.cell?_spot (hcell 0 (by omega))
    subst hspot
    have hbW : b < W.heap.size := hlt (.cell b off) (by rw [hx]; exact MemPlace.mem_row.2 ⟨0, by omega, by simp⟩)
    refine ⟨b, off, rfl, hbW, ?_⟩
    rw [← add_plain, hcell j (by omega)]
    simp [List.getD_eq_getElem?_getD, hj2]
/-- an argument that is a trick -/
theorem view_trick {W : World} {base : Nat} {t e u : TypeId} {f0 f1 f2 f3 f4 g0 g1 g2 h0 h1 : Field} {v : Value} {d : DataW H} {ps : List MemPlace} (hs : P.underlying t = some (.struct #[f0, f1, f2, f3, f4])) (hone : oneCellFields P #[f0, f1, f2, f3, f4] = true) (hC : P.cellsOf t = 5)
    (k0 : P.underlying f0.type = some (.slice e)) (he : P.underlying e = some (.int .i64)) (hc : P.cellsOf e = 1) (k1 : P.underlying f1.type = some (.slice u)) (T : StepTy P u g0 g1 g2 h0 h1)
    (k2 : P.underlying f2.type = some (.int .i64)) (k3 : P.underlying f3.type = some (.int .i64)) (k4 : P.underlying f4.type = some (.int .i64))
    (hval : Value.okWide P W .any base t v) (hd : DataW.Trod enc P W 0 (fun _ => true) true t v d ps) (hlt : ∀ x ∈ ps, x.block < W.heap.size) :
    ∃ (A : Option Addr) (n c : Nat) (zs : List Int) (S : Option Addr) (m d : Nat) (ss : List SR) (x a b : Int), v = trV A n c S m d x a b ∧ zs.length = n ∧ n ≤ maxLen ∧ (∀ z ∈ zs, (Lit.int .i64 z).wf = true) ∧ IntsAt W W.heap.size .i64 A zs ∧
      ss.length = m ∧ m ≤ maxLen ∧ WfS ss ∧ StepsAt W W.heap.size S ss ∧ (Lit.int .i64 x).wf = true ∧ (Lit.int .i64 a).wf = true ∧ (Lit.int .i64 b).wf = true := by
  obtain ⟨cs, rfl, hsz⟩ := okWide_struct hs hval
  obtain ⟨fuel, hf⟩ := hd
  obtain ⟨xs, q, _, hx, _, hxl, hfl⟩ := DataW.trod_struct hs hf
  have hcl : cs.toList.length = 5 := by rw [Array.length_toList, hsz, hC]
  obtain ⟨o0, w0⟩ := hone_of hone 0 f0 rfl
  obtain ⟨o1, w1⟩ := hone_of hone 1 f1 rfl
  obtain ⟨o2, w2⟩ := hone_of hone 2 f2 rfl
  obtain ⟨o3, w3⟩ := hone_of hone 3 f3 rfl
  obtain ⟨o4, w4⟩ := hone_of hone 4 f4 rfl
  obtain ⟨l, hl⟩ : ∃ l, l = cs.toList := ⟨_, rfl⟩
  have hcs : cs = l.toArray := by rw [hl]
  have hvl : Value.cells (.agg cs) = l.toArray := hcs
  have hx2 : ps = xs.flatMap (·.2) := by simp only [Prod.mk.injEq] at hx; exact hx.2
  rw [← hl] at hcl
  subst hcs
  obtain ⟨v0, v1, v2, v3, v4, rfl⟩ : ∃ v0 v1 v2 v3 v4, l = [v0, v1, v2, v3, v4] := by
    match l, hcl with
    | [v0, v1, v2, v3, v4], _ => exact ⟨v0, v1, v2, v3, v4, rfl⟩
  obtain ⟨y0, y1, y2, y3, y4, rfl⟩ : ∃ y0 y1 y2 y3 y4, xs = [y0, y1, y2, y3, y4] := by
    match xs, hxl with
    | [y0, y1, y2, y3, y4], _ => exact ⟨y0, y1, y2, y3, y4, rfl⟩
  have e0 := hfl 0 f0 rfl
  have e1 := hfl 1 f1 rfl
  have e2 := hfl 2 f2 rfl
  have e3 := hfl 3 f3 rfl
  have e4 := hfl 4 f4 rfl
  rw [o0, w0] at e0
  rw [o1, w1] at e1
  rw [o2, w2] at e2
  rw [o3, w3] at e3
  rw [o4, w4] at e4
  have e0' : DataW.trod enc P W 0 (fun _ => true) true q f0.type [v0] = some y0 := e0
  have e1' : DataW.trod enc P W 0 (fun _ => true) true q f1.type [v1] = some y1 := e1
  have e2' : DataW.trod enc P W 0 (fun _ => true) true q f2.type [v2] = some y2 := e2
  have e3' : DataW.trod enc P W 0 (fun _ => true) true q f3.type [v3] = some y3 := e3
  have e4' : DataW.trod enc P W 0 (fun _ => true) true q f4.type [v4] = some y4 := e4
  obtain ⟨A, n, c, zs, r0, a1, a2, a3, a4⟩ := trod_ints k0 he hc e0' (fun z hz => hlt z (by rw [hx2]; simp [hz]))
  obtain ⟨S, m, dd, ss, r1, b1, b2, b3, b4⟩ := trod_steps k1 T e1' (fun z hz => hlt z (by rw [hx2]; simp [hz]))
  obtain ⟨i2, r2, _, c2⟩ := DataW.trod_int k2 e2'
  obtain ⟨i3, r3, _, c3⟩ := DataW.trod_int k3 e3'
  obtain ⟨i4, r4, _, c4⟩ := DataW.trod_int k4 e4'
  simp only [List.cons.injEq, and_true] at r0 r1 r2 r3 r4
  subst r0 r1 r2 r3 r4
  exact ⟨A, n, c, zs, S, m, dd, ss, i2, i3, i4, rfl, a1, a2, a3, a4, b1, b2, b3, b4, c2, c3, c4⟩
end

theorem load_trick {W : World} {g : Nat} {v0 v1 v2 v3 v4 : Value} {e : TypeId} (h : W.heap[g]? = some (.cells #[v0, v1, v2, v3, v4] e (0, 0))) : (loadVar 51 ⟨g, 0, none⟩).run Tryz.prog W = .ok (.agg #[v0, v1, v2, v3, v4]) W :=
  run_loadVar_mid (P := Tryz.prog) W g 0 51 [v0, v1, v2, v3, v4] _ (range_at h) Tryz.underlying51 rfl (by kernel_rfl)
/-- a call hands back a trick whose lists lie in rows of its own, and writes nothing old -/
def IsTr (B : Nat) (zs : List Int) (ss : List SR) (x a b : Int) (w : World) (e : Ending) (w' : World) : Prop :=
  ∃ g h, e = .returned (trV (some ⟨g, 0, none⟩) zs.length zs.length (some ⟨h, 0, none⟩) ss.length ss.length x a b) ∧ w'.ownsRow B 3 1 (.slice (some ⟨g, 0, none⟩) zs.length zs.length) zs.length (zs.map (Value.int .i64)) ∧
    SRow w' B w'.heap.size (some ⟨h, 0, none⟩) ss.length ss.length ss ∧ g ≠ h ∧ Below B w w'
theorem srow_lower {W : World} {B B' hi : Nat} {A : Option Addr} {n c : Nat} {ss : List SR} (h : SRow W B hi A n c ss) (hB : B' ≤ B) : SRow W B' hi A n c ss := by
  obtain ⟨⟨xs, h1, h2⟩, r⟩ := h
  exact ⟨⟨xs, own_mono h1 hB, h2⟩, r⟩
theorem srow_wi {W W' : World} {B0 B1 lo2 hi2 : Nat} {A : Option Addr} {n c : Nat} {ss : List SR} (h : SRow W B0 B1 A n c ss) (hw : Wi lo2 hi2 W W') (hd : B1 ≤ lo2 ∨ hi2 ≤ B0) : SRow W' B0 B1 A n c ss := by
  have hlo := h.lo
  have hhi := h.hi
  obtain ⟨⟨xs, h1, h2⟩, h3, h4, h5⟩ := h
  refine ⟨⟨xs, own_wi h1 hw fun k hk => ?_, h2⟩, h3, h4, Nat.le_trans h5 hw.size⟩
  have k1 := hlo k hk
  have k2 := hhi k hk
  omega
set_option maxHeartbeats 2000000 in
theorem to_trick (A : Option Addr) (n c : Nat) (zs : List Int) (S : Option Addr) (m d : Nat) (ss : List SR) (x a b : Int) (w : World) (hn : zs.length = n) (hn2 : n ≤ 1048576) (hss : IntsAt w w.heap.size .i64 A zs)
    (hm : ss.length = m) (hm2 : m ≤ 1048576) (hst : StepsAt w w.heap.size S ss) :
    Calls Tryz.prog 17 #[trV A n c S m d x a b] w (IsTr w.heap.size zs ss x a b w) := by
  subst hn hm
  obtain ⟨hs0, hb0, a0, a1, a2⟩ := three_at w #[.slice A zs.length c, .slice S ss.length d, .int .i64 x, .int .i64 a, .int .i64 b] #[.slice none 0 0, .slice none 0 0, .int .i64 0, .int .i64 0, .int .i64 0] #[.slice none 0 0, .slice none 0 0, .int .i64 0, .int .i64 0, .int .i64 0] 45 51 51
  have HS0 := Lib.hid hs0
  have HB0 := Lib.hid hb0
  have A0 := Lib.hid a0
  have A1 := Lib.hid a1
  have A2 := Lib.hid a2
  clear hs0 hb0 a0 a1 a2
  have t0 := (cell_at A0.out 0).trans rfl
  obtain ⟨n, hn⟩ : ∃ n, n = zs.length := ⟨_, rfl⟩
  obtain ⟨m, hm⟩ : ∃ m, m = ss.length := ⟨_, rfl⟩
  have HN := Lib.hid hn
  have HM := Lib.hid hm
  unfold IsTr
  rw [← hn, ← hm]
  rw [← hn, ← hm] at HS0 HB0 A0 A1 A2 t0
  rw [← hn] at hn2
  rw [← hm] at hm2
  clear hn hm
  go_enter Tryz.func17, Tryz.ntmps17
  go_wp2_with fail
  refine (Ins.to_any A n c zs _ HN.out.symm hn2 ((hss.below HB0.out).more HB0.out.size)).mono ?_
  rintro e w3 ⟨g, rfl, hgg, hown, hb⟩
  have hsz := hb.size
  rw [HS0.out] at hgg hb hown hsz
  have c0 := (hb.block w.heap.size (by omega)).trans A0.out
  have c1 := (hb.block (w.heap.size + 1) (by omega)).trans A1.out
  have c2 := (hb.block (w.heap.size + 1 + 1) (by omega)).trans A2.out
  have p2 := put1 (j := 0) (.slice (some ⟨g, 0, none⟩) n n) c2
  have p0 := put_other (g := w.heap.size + 1 + 1) (j := 0) (.slice (some ⟨g, 0, none⟩) n n) c0 (by omega)
  have p1 := put_other (g := w.heap.size + 1 + 1) (j := 0) (.slice (some ⟨g, 0, none⟩) n n) c1 (by omega)
  have u1 := (cell_at c0 1).trans rfl
  have u2 := (cell_at p0 1).trans rfl
  have x0 := (cell_at c2 0).trans rfl
  have y0 := frz c2 0
  obtain ⟨W4, hW4⟩ : ∃ W, W = w3.setCell ⟨w.heap.size + 1 + 1, 0, none⟩ (.slice (some ⟨g, 0, none⟩) n n) := ⟨_, rfl⟩
  have gr4 : w3.grownBy W4 (some (w.heap.size + 1 + 1)) := by rw [hW4]; exact set_grown _ _ _ _
  rw [← hW4] at p0 p1 p2
  have ho4 := own_gr hown gr4 (fun k hk e => by simp only [Option.map_some, Option.some.injEq] at hk e; omega)
  have hb4 : Below w.heap.size w W4 := (HB0.out.trans (hb.mono (by omega))).grown gr4 (by omega) (fun k hk => by simp only [Option.some.injEq] at hk; omega)
  have HW4 := Lib.hid hW4
  have HO4 := Lib.hid ho4
  have HB4 := Lib.hid hb4
  have P0 := Lib.hid p0
  have P1 := Lib.hid p1
  have P2 := Lib.hid p2
  have hs4 : W4.heap.size = w3.heap.size := by rw [hW4]; simp
  clear hb hown c0 c1 c2 p0 p1 p2 ho4 hb4 gr4 hW4 t0
  go_wp2_with fail
  rw [← HW4.out]
  refine (to_steps S m d ss W4 HM.out.symm hm2 ((hst.below HB4.out).more HB4.out.size)).mono ?_
  rintro e w5 ⟨h, rfl, hr, hb⟩
  have hsz5 := hb.size
  have hgl : g < w3.heap.size := by have := (own_lo HO4.out g rfl).2; omega
  have hgh : g ≠ h := fun e => by have h1 := hr.lo h rfl; have h2 := (own_lo HO4.out g rfl).2; omega
  have c0 := (hb.block w.heap.size (by omega)).trans P0.out
  have c1 := (hb.block (w.heap.size + 1) (by omega)).trans P1.out
  have c2 := (hb.block (w.heap.size + 1 + 1) (by omega)).trans P2.out
  have u3 := (cell_at c0 2).trans rfl
  have u4 := (cell_at c0 3).trans rfl
  have u5 := (cell_at c0 4).trans rfl
  have v0 := (cell_at c1 0).trans rfl
  have f0 := frz c1 0
  have v1 := (cell_at c1 1).trans rfl
  have f1 := frz c1 1
  have v2 := (cell_at c1 2).trans rfl
  have f2 := frz c1 2
  have v3 := (cell_at c1 3).trans rfl
  have f3 := frz c1 3
  have v4 := (cell_at c1 4).trans rfl
  have f4 := frz c1 4
  have z0 := (cell_at c2 0).trans rfl
  have q0 := frz c2 0
  have z1 := (cell_at c2 1).trans rfl
  have q1 := frz c2 1
  have z2 := (cell_at c2 2).trans rfl
  have q2 := frz c2 2
  have z3 := (cell_at c2 3).trans rfl
  have q3 := frz c2 3
  have z4 := (cell_at c2 4).trans rfl
  have q4 := frz c2 4
  have gr2 := (((set_grown w5 (w.heap.size + 1 + 1) 1 (.slice (some ⟨h, 0, none⟩) m m)).trans (set_grown _ (w.heap.size + 1 + 1) 2 (.int .i64 x))).trans (set_grown _ (w.heap.size + 1 + 1) 3 (.int .i64 a))).trans (set_grown _ (w.heap.size + 1 + 1) 4 (.int .i64 b))
  have ho5 := own_gr (own_below HO4.out hb) gr2 (fun k hk e => by simp only [Option.map_some, Option.some.injEq] at hk e; omega)
  have hr5 := hr.grown gr2 (fun k hk => Or.inl (by simp only [Option.some.injEq] at hk; omega))
  have hb5 := (HB4.out.trans (hb.mono HB4.out.size)).grown gr2 (by have := HB4.out.size; omega) (fun k hk => by simp only [Option.some.injEq] at hk; omega)
  obtain ⟨W6, hW6⟩ : ∃ W, W = (((w5.setCell ⟨w.heap.size + 1 + 1, 1, none⟩ (.slice (some ⟨h, 0, none⟩) m m)).setCell ⟨w.heap.size + 1 + 1, 2, none⟩ (.int .i64 x)).setCell ⟨w.heap.size + 1 + 1, 3, none⟩ (.int .i64 a)).setCell ⟨w.heap.size + 1 + 1, 4, none⟩ (.int .i64 b) := ⟨_, rfl⟩
  have d1 := put_other (g := w.heap.size + 1 + 1) (j := 4) (.int .i64 b) (put_other (g := w.heap.size + 1 + 1) (j := 3) (.int .i64 a) (put_other (g := w.heap.size + 1 + 1) (j := 2) (.int .i64 x) (put_other (g := w.heap.size + 1 + 1) (j := 1) (.slice (some ⟨h, 0, none⟩) m m) c1 (by omega)) (by omega)) (by omega)) (by omega)
  rw [← hW6] at gr2 ho5 hr5 hb5 d1
  have gr1 := ((((set_grown W6 (w.heap.size + 1) 0 (.slice (some ⟨g, 0, none⟩) n n)).trans (set_grown _ (w.heap.size + 1) 1 (.slice (some ⟨h, 0, none⟩) m m))).trans (set_grown _ (w.heap.size + 1) 2 (.int .i64 x))).trans (set_grown _ (w.heap.size + 1) 3 (.int .i64 a))).trans (set_grown _ (w.heap.size + 1) 4 (.int .i64 b))
  have HO6 := Lib.hid (own_mono (base' := w.heap.size) (own_gr ho5 gr1 (fun k hk e => by simp only [Option.map_some, Option.some.injEq] at hk e; omega)) (by omega))
  have hr6 := hr5.grown gr1 (fun k hk => Or.inl (by simp only [Option.some.injEq] at hk; omega))
  have HB6 := Lib.hid (hb5.grown gr1 hb5.size (fun k hk => by simp only [Option.some.injEq] at hk; omega))
  have HR6 := Lib.hid (srow_lower (hr6.higher (Nat.le_trans gr2.size gr1.size) (Nat.le_refl _)) HB4.out.size)
  have HF := Lib.hid (put1 (j := 4) (.int .i64 b) (put1 (j := 3) (.int .i64 a) (put1 (j := 2) (.int .i64 x) (put1 (j := 1) (.slice (some ⟨h, 0, none⟩) m m) (put1 (j := 0) (.slice (some ⟨g, 0, none⟩) n n) d1)))))
  have HW6 := Lib.hid hW6
  clear hb hr c0 c1 c2 gr2 ho5 hr5 hb5 d1 gr1 hr6 hW6 hsz hsz5 u1 u2 x0 y0 hgg hgl
  go_wp2
  (try simp only [Exit.inBlock, Exit.then])
  rw [← HW6.out]
  refine bodyPost_ret (results_cell rfl _ rfl (load_trick HF.out)) rfl ?_
  exact ⟨g, h, rfl, HO6.out, HR6.out, hgh, HB6.out⟩
set_option maxHeartbeats 1000000 in
theorem sz_trick (A : Option Addr) (n c : Nat) (S : Option Addr) (m d : Nat) (x a b left : Int) (w : World) (hn : n ≤ 9223372036854775807) (hm : m ≤ 9223372036854775807) (h0 : 0 ≤ left) (h1 : left ≤ 1048576) :
    Calls Tryz.prog 15 #[trV A n c S m d x a b, .int .i64 left] w fun e w' => e = .returned (.int .i64 (if (n : Int) + m ≤ left then left - n - m else -1)) ∧ Below w.heap.size w w' := by
  have HB := Lib.hid (box_below w (.cells #[.slice A n c, .slice S m d, .int .i64 x, .int .i64 a, .int .i64 b] 45))
  have c0 := heap_alloc_new w (.cells #[.slice A n c, .slice S m d, .int .i64 x, .int .i64 a, .int .i64 b] 45)
  have u1 := (cell_at c0 1).trans rfl
  clear c0
  by_cases h : (n : Int) ≤ left
  · have h3 : decide (left - (n : Int) < 0) = false := decide_eq_false (by omega)
    by_cases h2 : (n : Int) + m ≤ left
    · rw [if_pos h2]
      have h2' : (m : Int) ≤ left - n := by omega
      have h4 : decide (left - (n : Int) - (m : Int) < 0) = false := decide_eq_false (by omega)
      go_enter Tryz.func15, Tryz.ntmps15
      go_wp2_with fail
      refine (Scn.sz_ints A n c left _ hn h0 h1).mono ?_
      rintro e w' ⟨rfl, rfl⟩
      rw [if_pos h]
      go_wp2_with fail
      refine (sz_steps S m d (left - n) _ hm (by omega) (by omega)).mono ?_
      rintro e w' ⟨rfl, rfl⟩
      rw [if_pos h2']
      go_wp2
      go_ret
      exact ⟨rfl, HB.out⟩
    · rw [if_neg h2]
      have h2' : ¬ (m : Int) ≤ left - n := by omega
      go_enter Tryz.func15, Tryz.ntmps15
      go_wp2_with fail
      refine (Scn.sz_ints A n c left _ hn h0 h1).mono ?_
      rintro e w' ⟨rfl, rfl⟩
      rw [if_pos h]
      go_wp2_with fail
      refine (sz_steps S m d (left - n) _ hm (by omega) (by omega)).mono ?_
      rintro e w' ⟨rfl, rfl⟩
      rw [if_neg (show ¬ (m : Int) ≤ left - n by omega)]
      go_wp2
      go_ret
      exact ⟨rfl, HB.out⟩
  · rw [if_neg (show ¬ (n : Int) + m ≤ left by omega)]
    go_enter Tryz.func15, Tryz.ntmps15
    go_wp2_with fail
    refine (Scn.sz_ints A n c left _ hn h0 h1).mono ?_
    rintro e w' ⟨rfl, rfl⟩
    rw [if_neg (show ¬ (n : Int) ≤ left by omega)]
    go_wp2
    go_ret
    exact ⟨rfl, HB.out⟩
set_option maxHeartbeats 1000000 in
theorem eq_trick (A A2 : Option Addr) (n c c2 : Nat) (zs : List Int) (S S2 : Option Addr) (m d d2 : Nat) (ss : List SR) (x a b : Int) (w : World) (hn : zs.length = n) (hn2 : n ≤ 2097152) (h1 : IntsAt w w.heap.size .i64 A zs) (h2 : IntsAt w w.heap.size .i64 A2 zs)
    (hm : ss.length = m) (hm2 : m ≤ 2097152) (k1 : StepsAt w w.heap.size S ss) (k2 : StepsAt w w.heap.size S2 ss) :
    Calls Tryz.prog 20 #[trV A n c S m d x a b, trV A2 n c2 S2 m d2 x a b] w fun e w' => e = .returned (.bool true) ∧ Below w.heap.size w w' := by
  have HN := Lib.hid hn
  have HM := Lib.hid hm
  obtain ⟨hs0, hb0, a0, a1⟩ := two_at w #[.slice A n c, .slice S m d, .int .i64 x, .int .i64 a, .int .i64 b] #[.slice A2 n c2, .slice S2 m d2, .int .i64 x, .int .i64 a, .int .i64 b] 51 51
  have HS0 := Lib.hid hs0
  have HB0 := Lib.hid hb0
  have A0 := Lib.hid a0
  have A1 := Lib.hid a1
  have H1 := Lib.hid ((h1.below hb0).more hb0.size)
  have H2 := Lib.hid ((h2.below hb0).more hb0.size)
  have K1 := Lib.hid ((k1.below hb0).more hb0.size)
  have K2 := Lib.hid ((k2.below hb0).more hb0.size)
  have hxx : (x != x) = false := by simp
  have haa : (a != a) = false := by simp
  have hbb : (b != b) = false := by simp
  have u0 := (cell_at a0 0).trans rfl
  have v0 := (cell_at a1 0).trans rfl
  clear hn hm h1 h2 k1 k2 hs0 hb0 a0 a1
  go_enter Tryz.func20, Tryz.ntmps20
  go_wp2_with fail
  refine (Ins.eq_same A A2 n c c2 zs _ HN.out (by omega) H1.out H2.out).mono ?_
  rintro e w3 ⟨rfl, hb⟩
  have HB3 := Lib.hid (HB0.out.trans (hb.mono HB0.out.size))
  have K3 := Lib.hid ((K1.out.below hb).more hb.size)
  have K4 := Lib.hid ((K2.out.below hb).more hb.size)
  have hsz := hb.size
  rw [HS0.out] at hb hsz
  have C0 := Lib.hid ((hb.block w.heap.size (by omega)).trans A0.out)
  have C1 := Lib.hid ((hb.block (w.heap.size + 1) (by omega)).trans A1.out)
  have u1 := (cell_at C0.out 1).trans rfl
  have v1 := (cell_at C1.out 1).trans rfl
  clear hb u0 v0 H1 H2 K1 K2
  go_wp2_with fail
  refine (eq_steps S S2 m d d2 ss w3 HM.out hm2 K3.out K4.out).mono ?_
  rintro e w4 ⟨rfl, hb⟩
  have HB4 := Lib.hid (HB3.out.trans (hb.mono HB3.out.size))
  have c0 := (hb.block w.heap.size (by omega)).trans C0.out
  have c1 := (hb.block (w.heap.size + 1) (by omega)).trans C1.out
  have y2 := (cell_at c0 2).trans rfl
  have y3 := (cell_at c0 3).trans rfl
  have y4 := (cell_at c0 4).trans rfl
  have z2 := (cell_at c1 2).trans rfl
  have z3 := (cell_at c1 3).trans rfl
  have z4 := (cell_at c1 4).trans rfl
  clear hb c0 c1 u1 v1 K3 K4 hsz
  go_wp2
  go_ret
  exact ⟨rfl, HB4.out⟩
set_option maxHeartbeats 1000000 in
theorem mark_trick (lo hi : Nat) (A : Option Addr) (n c : Nat) (S : Option Addr) (m d : Nat) (x a b k : Int) (xs ys : List Value) (w : World) (hk0 : 0 ≤ k) (hkn : k + n + 4 * m ≤ 1073741824) (ho : w.ownsRow lo 3 1 (.slice A n c) n xs) (hr : w.ownsRow lo 36 4 (.slice S m d) m ys)
    (hA : ∀ q, A.map (·.block) = some q → q < hi) (hS : ∀ q, S.map (·.block) = some q → q < hi) (hne : ∀ q, A.map (·.block) = some q → S.map (·.block) ≠ some q) :
    Calls Tryz.prog 22 #[trV A n c S m d x a b, .int .i64 k] w fun e w' => e = .returned (.int .i64 (k + (n : Int) + 4 * (m : Int))) ∧ Wi lo hi w w' := by
  have hbx := box_below w (.cells #[.slice A n c, .slice S m d, .int .i64 x, .int .i64 a, .int .i64 b] 51)
  have hgx := World.grownBy_alloc w (.cells #[.slice A n c, .slice S m d, .int .i64 x, .int .i64 a, .int .i64 b] 51) none
  have c0 := heap_alloc_new w (.cells #[.slice A n c, .slice S m d, .int .i64 x, .int .i64 a, .int .i64 b] 51)
  have u0 := (cell_at c0 0).trans rfl
  have HO := Lib.hid (own_below ho hbx)
  have HR := Lib.hid (own_below hr hbx)
  have HLO := Lib.hid (own_lo ho)
  have HLR := Lib.hid (own_lo hr)
  have HW := Lib.hid ((Wi.refl lo hi w).grown hgx (fun q hq => by cases hq))
  have HC := Lib.hid c0
  clear ho hr hbx hgx c0
  go_enter Tryz.func22, Tryz.ntmps22
  go_wp2_with fail
  refine (Ins.mark_any lo k n A c xs _ hk0 (by omega) HO.out).mono ?_
  rintro e w3 ⟨rfl, ho3, hg3⟩
  have HW3 := Lib.hid (HW.out.grown hg3 (fun q hq => ⟨(HLO.out q hq).1, hA q hq⟩))
  have HR3 := Lib.hid (own_gr HR.out hg3 (fun q hq e => hne q e hq))
  have c1 := (hg3.block w.heap.size (by simp) (fun e => by have := (HLO.out _ e.symm).2; omega)).trans HC.out
  have u1 := (cell_at c1 1).trans rfl
  clear ho3 hg3 c1 HO HR u0
  go_wp2_with fail
  refine (mark_steps lo (k + n) m S d ys w3 (by omega) (by omega) HR3.out).mono ?_
  rintro e w4 ⟨rfl, hg4⟩
  have HW4 := Lib.hid (HW3.out.grown hg4 (fun q hq => ⟨(HLR.out q hq).1, hS q hq⟩))
  clear hg4 HR3 u1
  go_wp2
  go_ret
  exact ⟨rfl, HW4.out⟩
end Go.Proofs.YtibephoepkofnaaGreat.Trk
