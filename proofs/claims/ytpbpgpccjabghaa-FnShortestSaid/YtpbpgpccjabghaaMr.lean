/- Rows of moves: as an argument, the laws' copy of one, comparison, marks. -/
import Derived.Test.YtpbpgpccjabghaaFr2
import Derived.Test.YtpbpgpccjabghaaPal
import Derived.Deep.SlicePairs
import Derived.Deep.RegionHeld3
set_option linter.unusedVariables false
set_option maxRecDepth 20000
namespace Go.Proofs.Ytpbpgpccjabghaa.Mr
open Go.Deep Go.RowKit Go.ChangeShapes Go.WideShapes Fr Own Ins Pal

def WfPairs (ms : List (Int × Int)) : Prop := ∀ j, j < ms.length → (Lit.int .i64 (ms.getD j (0, 0)).1).wf = true ∧ (Lit.int .i64 (ms.getD j (0, 0)).2).wf = true
section
variable {H : Type} {enc : TypeId × Value → H} {P : Program}
/-- an argument of type []struct{int; int} -/
theorem view_pairs {W : World} {base : Nat} {t e : TypeId} {f0 f1 : Field} {v : Value} {d : DataW H} {ps : List MemPlace} (hs : P.underlying t = some (.slice e)) (he : P.underlying e = some (.struct #[f0, f1]))
    (ce : P.cellsOf e = 2) (o0 : f0.offset = 0) (o1 : f1.offset = 1) (c0 : P.cellsOf f0.type = 1) (c1 : P.cellsOf f1.type = 1) (h0 : P.underlying f0.type = some (.int .i64)) (h1 : P.underlying f1.type = some (.int .i64))
    (hv : Value.okWide P W .any base t v) (h : DataW.Trod enc P W 0 (fun _ => true) true t v d ps) (hlt : ∀ x ∈ ps, x.block < W.heap.size) :
    ∃ (A : Option Addr) (n c : Nat) (ms : List (Int × Int)), v = .slice A n c ∧ ms.length = n ∧ n ≤ maxLen ∧ WfPairs ms ∧ PairsAt W W.heap.size A ms := by
  obtain ⟨fuel, hf⟩ := h
  obtain ⟨a0, l0, c0', rfl, _⟩ := okWide_slice hs hv
  rcases open_slice_pairs hs he ce o0 o1 c0 c1 hf with ⟨hcs, _⟩ | ⟨a, len, cap, m, n, V0, V1, D0, D1, P0, P1, hcs, _, hlc, hm, hmm, hx, hi⟩
  · simp only [Value.cells, List.cons.injEq, and_true] at hcs
    rw [hcs]
    exact ⟨none, 0, 0, [], rfl, rfl, Nat.zero_le _, fun j hj => absurd hj (Nat.not_lt_zero _), fun k hk => absurd hk (Nat.not_lt_zero _)⟩
  · simp only [Value.cells, List.cons.injEq, and_true] at hcs
    have hml : len ≤ m := by rw [hmm]; split <;> omega
    have each : ∀ i, i < m → ∃ x y : Int, (Lit.int .i64 x).wf = true ∧ (Lit.int .i64 y).wf = true ∧ W.cell? (a.add (i * 2)) = some (.int .i64 x) ∧ W.cell? (a.add (i * 2 + 1)) = some (.int .i64 y) := by
      intro i him
      obtain ⟨k0, k1, t0, t1⟩ := hi i him
      obtain ⟨x, hx, _, hwx⟩ := DataW.trod_int h0 t0
      obtain ⟨y, hy, _, hwy⟩ := DataW.trod_int h1 t1
      simp only [List.cons.injEq, and_true] at hx hy
      exact ⟨x, y, hwx, hwy, by rw [← hx]; exact k0, by rw [← hy]; exact k1⟩
    obtain ⟨b, o, sp⟩ := a
    have hspot : 0 < m → sp = none := fun h0 => by simpa [Addr.add] using World.cell?_spot (each 0 h0).choose_spec.choose_spec.2.2.1
    have hblk : 0 < m → b < W.heap.size := by
      intro h0'
      have e := hspot h0'
      subst e
      simp only [Prod.mk.injEq] at hx
      exact hlt (.cell b o) (by rw [hx.2]; exact List.mem_append_left _ (MemPlace.mem_row.2 ⟨0, by omega, by simp⟩))
    refine ⟨some ⟨b, o, sp⟩, len, cap, (List.range len).map fun i => if hi' : i < m then ((each i hi').choose, (each i hi').choose_spec.choose) else (0, 0), hcs, by simp, by omega, ?_, ?_⟩
    · intro j hj
      simp only [List.length_map, List.length_range] at hj
      have hjm : j < m := by omega
      simp only [List.getD_eq_getElem?_getD, List.getElem?_map, List.getElem?_range hj, Option.map_some, Option.getD_some, dif_pos hjm]
      exact ⟨(each j hjm).choose_spec.choose_spec.1, (each j hjm).choose_spec.choose_spec.2.1⟩
    · intro k hk
      simp only [List.length_map, List.length_range] at hk
      have hkm : k < m := by omega
      have hb := hblk (by omega)
      have hsp := hspot (by omega)
      subst hsp
      have e := (each k hkm).choose_spec.choose_spec.2.2
      simp only [List.getD_eq_getElem?_getD, List.getElem?_map, List.getElem?_range hk, Option.map_some, Option.getD_some, dif_pos hkm]
      exact ⟨b, o, rfl, hb, (congrArg W.cell? (by rw [add_plain])).trans e.1, (congrArg W.cell? (by rw [add_plain, Nat.add_assoc])).trans e.2⟩
end

theorem infoMove : (Try.prog.info? 39).map (fun i => (i.zero, i.size, i.bytes)) = some (some (.agg #[.int .i64 0, .int .i64 0]), 2, 16) := by kernel_rfl

/-- the cells hold the first k moves -/
def Lies (xs : List Value) (ms : List (Int × Int)) (k : Nat) : Prop := ∀ j, j < k → xs[j * 2]? = some (.int .i64 (ms.getD j (0, 0)).1) ∧ xs[j * 2 + 1]? = some (.int .i64 (ms.getD j (0, 0)).2)
theorem Lies.next {xs : List Value} {ms : List (Int × Int)} {k : Nat} (h : Lies xs ms k) (hk : k * 2 + 1 < xs.length) : Lies ((xs.set (k * 2) (.int .i64 (ms.getD k (0, 0)).1)).set (k * 2 + 1) (.int .i64 (ms.getD k (0, 0)).2)) ms (k + 1) := by
  intro j hj
  rw [List.getElem?_set_ne (by omega)]
  by_cases hjk : j = k
  · subst hjk
    rw [List.getElem?_set_self (by omega), List.getElem?_set_self (by rw [List.length_set]; omega)]
    exact ⟨rfl, rfl⟩
  · rw [List.getElem?_set_ne (by omega), List.getElem?_set_ne (by omega), List.getElem?_set_ne (by omega)]
    exact h j (by omega)
/-- a row of moves of the call's own -/
def MRow (W : World) (lo hi : Nat) (A : Option Addr) (n c : Nat) (ms : List (Int × Int)) : Prop :=
  (∃ xs, W.ownsRow lo 39 2 (.slice A n c) n xs ∧ Lies xs ms n) ∧ ms.length = n ∧ (∀ a, A = some a → a.block < hi) ∧ hi ≤ W.heap.size
theorem MRow.len {W : World} {lo hi : Nat} {A : Option Addr} {n c : Nat} {ms : List (Int × Int)} (h : MRow W lo hi A n c ms) : ms.length = n := h.2.1
theorem MRow.below {W W' : World} {lo hi : Nat} {A : Option Addr} {n c : Nat} {ms : List (Int × Int)} (h : MRow W lo hi A n c ms) (hb : Below W.heap.size W W') : MRow W' lo hi A n c ms := by
  obtain ⟨⟨xs, h1, h2⟩, h3, h4, h5⟩ := h
  exact ⟨⟨xs, own_below h1 hb, h2⟩, h3, h4, Nat.le_trans h5 hb.size⟩
theorem MRow.lo {W : World} {lo hi : Nat} {A : Option Addr} {n c : Nat} {ms : List (Int × Int)} (h : MRow W lo hi A n c ms) : ∀ k, A.map (·.block) = some k → lo ≤ k := by
  obtain ⟨⟨xs, h1, h2⟩, h3, h4, h5⟩ := h
  intro k hk
  cases A with
  | none => cases hk
  | some a =>
    simp only [Option.map_some, Option.some.injEq] at hk
    subst hk
    exact (h1.lt a.block rfl).1
theorem MRow.hi {W : World} {lo hi : Nat} {A : Option Addr} {n c : Nat} {ms : List (Int × Int)} (h : MRow W lo hi A n c ms) : ∀ k, A.map (·.block) = some k → k < hi := by
  intro k hk
  cases A with
  | none => cases hk
  | some a =>
    simp only [Option.map_some, Option.some.injEq] at hk
    subst hk
    exact h.2.2.1 a rfl
theorem MRow.grown {W W' : World} {lo hi : Nat} {A : Option Addr} {n c : Nat} {ms : List (Int × Int)} {row : Option Nat} (h : MRow W lo hi A n c ms) (hg : W.grownBy W' row) (hr : ∀ k, row = some k → k < lo ∨ hi ≤ k) : MRow W' lo hi A n c ms := by
  have hlo := h.lo
  have hhi := h.hi
  obtain ⟨⟨xs, h1, h2⟩, h3, h4, h5⟩ := h
  refine ⟨⟨xs, h1.kept hg ?_, h2⟩, h3, h4, Nat.le_trans h5 hg.size⟩
  cases A with
  | none => exact Or.inl rfl
  | some a =>
    refine Or.inr fun e => ?_
    have k1 := hlo a.block rfl
    have k2 := hhi a.block rfl
    have := hr a.block e.symm
    omega
theorem own2_shape {w : World} {B : Nat} {e : TypeId} {A : Option Addr} {n c : Nat} {xs : List Value} (h : w.ownsRow B e 2 (.slice A n c) n xs) (hn : 0 < n) : ∃ g, A = some ⟨g, 0, none⟩ := by
  rcases h.2 with ⟨_, h0⟩ | ⟨g, cap, cur, hv, _⟩
  · omega
  · simp only [Value.slice.injEq] at hv
    exact ⟨g, hv.1⟩
theorem MRow.at_ {W : World} {lo hi : Nat} {A : Option Addr} {n c : Nat} {ms : List (Int × Int)} (h : MRow W lo hi A n c ms) : PairsAt W W.heap.size A ms := by
  obtain ⟨⟨xs, h1, h2⟩, h3, h4, h5⟩ := h
  intro j hj
  obtain ⟨g, rfl⟩ := own2_shape h1 (by omega)
  obtain ⟨e0, e1⟩ := h2 j (by omega)
  have hlen := h1.1
  refine ⟨g, 0, rfl, by have := h4 _ rfl; simp only at this; omega, ?_, ?_⟩
  · rw [Nat.zero_add, h1.cellAt _ (by omega)]; exact e0
  · rw [Nat.zero_add, h1.cellAt _ (by omega)]; exact e1
theorem MRow.mk {W : World} {lo : Nat} {A : Option Addr} {n c : Nat} {ms : List (Int × Int)} {xs : List Value} (h1 : W.ownsRow lo 39 2 (.slice A n c) n xs) (h2 : Lies xs ms n) (h3 : ms.length = n) : MRow W lo W.heap.size A n c ms :=
  ⟨⟨xs, h1, h2⟩, h3, fun a e => (h1.lt a.block (by subst e; rfl)).2, Nat.le_refl _⟩
theorem getD_pair (ms : List (Int × Int)) (k : Nat) : ms.getD k (0, 0) = ((ms.getD k (0, 0)).1, (ms.getD k (0, 0)).2) := rfl

def IsMCopy (B : Nat) (n : Nat) (ms : List (Int × Int)) (w : World) (e : Ending) (w' : World) : Prop :=
  ∃ g, e = .returned (.slice (some ⟨g, 0, none⟩) n n) ∧ MRow w' B w'.heap.size (some ⟨g, 0, none⟩) n n ms ∧ Below B w w'


end Go.Proofs.Ytpbpgpccjabghaa.Mr
