/- A queue: elements of s cells each in a block of the call's own, of which the first ones are gone. -/
import Derived.Test.YtpfbjbakcfmngaaWid
import Derived.ArgAppend
import Derived.Deep.MidRow
set_option linter.unusedVariables false
set_option maxRecDepth 20000
namespace Go.Proofs.Ytpfbjbakcfmngaa.Que
open Go.RowKit Fr Own

def QW (w : World) (B s g off n c : Nat) (xs : List Value) : Prop :=
  (B ≤ g ∧ g < w.heap.size) ∧ xs.length = n * s ∧ n ≤ c ∧ (∀ j, j < c * s → (w.cell? ⟨g, off + j, none⟩).isSome = true ∧ w.frozen? ⟨g, off + j, none⟩ = false) ∧ ∀ j u, xs[j]? = some u → w.cell? ⟨g, off + j, none⟩ = some u
variable {w w' : World} {B s g off n c : Nat} {xs : List Value}
theorem q_of_own {e : TypeId} (h : w.ownsRow B e s (.slice (some ⟨g, 0, none⟩) n c) n xs) : QW w B s g 0 n c xs := by
  rcases h.2 with ⟨h2, _⟩ | ⟨g', cap, cur, hv, hB, hg, hnc, _, hcs, ht⟩
  · cases h2
  · simp only [Value.slice.injEq, Option.some.injEq, Addr.mk.injEq, and_true, true_and] at hv
    obtain ⟨rfl, rfl⟩ := hv
    refine ⟨⟨hB, (Array.getElem?_eq_some_iff.1 hg).1⟩, h.1, hnc, fun j hj => ⟨?_, ?_⟩, fun j u hu => ?_⟩
    · rw [cell_of_row w g _ cur e (0, 0) hg, Nat.zero_add, Array.getElem?_eq_getElem (by omega)]; rfl
    · rw [Nat.zero_add]; exact frozen_of_row w g j cur e hg
    · have hj : j < n * s := by have := (List.getElem?_eq_some_iff.1 hu).1; rw [h.1] at this; exact this
      rw [Nat.zero_add, h.cellAt j hj, hu]
theorem q_pop (h : QW w B s g off (n + 1) c xs) : QW w B s g (off + s) n (c - 1) (xs.drop s) := by
  obtain ⟨h1, h2, h3, h4, h5⟩ := h
  rw [Nat.succ_mul] at h2
  obtain ⟨c', rfl⟩ : ∃ c', c = c' + 1 := ⟨c - 1, by omega⟩
  refine ⟨h1, by rw [List.length_drop]; omega, by omega, fun j hj => ?_, fun j u hu => ?_⟩
  · rw [Nat.add_sub_cancel] at hj
    have := h4 (s + j) (by rw [Nat.succ_mul]; omega)
    rw [← Nat.add_assoc] at this
    exact this
  · rw [List.getElem?_drop] at hu
    have := h5 _ _ hu
    rw [← Nat.add_assoc] at this
    exact this
theorem q_end (h : QW w B s g off n c xs) : QW w B s g off 0 0 [] := by
  obtain ⟨h1, h2, h3, h4, h5⟩ := h
  exact ⟨h1, by simp, Nat.le_refl _, fun j hj => absurd hj (by omega), fun j u hu => by simp at hu⟩
theorem q_kept {row : Option Nat} (h : QW w B s g off n c xs) (hg : w.grownBy w' row) (hr : row ≠ some g) : QW w' B s g off n c xs := by
  obtain ⟨h1, h2, h3, h4, h5⟩ := h
  have hb := hg.block g h1.2 (fun e => hr e.symm)
  refine ⟨⟨h1.1, Nat.lt_of_lt_of_le h1.2 hg.size⟩, h2, h3, fun j hj => ?_, fun j u hu => ?_⟩
  · rw [World.cell?_of_block (a := ⟨g, off + j, none⟩) hb, World.frozen?_of_block (a := ⟨g, off + j, none⟩) hb]
    exact h4 j hj
  · rw [World.cell?_of_block (a := ⟨g, off + j, none⟩) hb]
    exact h5 j u hu
theorem q_below (h : QW w B s g off n c xs) (hb : Below w.heap.size w w') : QW w' B s g off n c xs :=
  q_kept (row := none) h ⟨hb.os, hb.tape, hb.output, hb.size, fun k hk _ => hb.block k hk⟩ (fun e => by cases e)
theorem put_grown (w : World) (g o : Nat) (vs : List Value) : w.grownBy (w.setCells g o vs) (some g) := by
  have : ∀ (vs : List Value) (o : Nat) (w : World), w.grownBy (w.setCells g o vs) (some g) := by
    intro vs
    induction vs with
    | nil => intro o w; exact ⟨rfl, rfl, rfl, Nat.le_refl _, fun _ _ _ => rfl⟩
    | cons v r ih =>
      intro o w
      have h1 : w.grownBy (w.setCell ⟨g, o, none⟩ v) (some g) := ⟨rfl, rfl, rfl, by simp, fun k _ hk => heap_setCell_other w ⟨g, o, none⟩ k v (fun e => hk (by simp [e]))⟩
      exact World.grownBy.trans h1 (ih _ _)
  exact this vs o w
theorem q_put (h : QW w B s g off n c xs) (hc : n + 1 ≤ c) (vs : List Value) (hv : vs.length = s) : QW (w.setCells g (off + n * s) vs) B s g off (n + 1) c (xs ++ vs) ∧ w.grownBy (w.setCells g (off + n * s) vs) (some g) := by
  have hgr := put_grown w g (off + n * s) vs
  obtain ⟨h1, h2, h3, h4, h5⟩ := h
  have hm : (n + 1) * s ≤ c * s := Nat.mul_le_mul_right s hc
  rw [Nat.succ_mul] at hm
  refine ⟨⟨⟨h1.1, Nat.lt_of_lt_of_le h1.2 hgr.size⟩, by rw [List.length_append, h2, hv, Nat.succ_mul], hc, fun j hj => ⟨?_, ?_⟩, fun j u hu => ?_⟩, hgr⟩
  · exact World.isSome_setCells g vs _ w _ (h4 j hj).1
  · rw [World.frozen?_setCells]; exact (h4 j hj).2
  · by_cases e : j < n * s
    · rw [List.getElem?_append_left (by omega)] at hu
      rw [World.cell?_setCells_out g vs _ w _ (fun _ _ => Or.inl (by show off + j < off + n * s; omega))]
      exact h5 j u hu
    · rw [List.getElem?_append_right (by omega)] at hu
      obtain ⟨hj2, he⟩ := List.getElem?_eq_some_iff.1 hu
      have := World.cell?_setCells_in g vs (off + n * s) w (fun i hi => by rw [Nat.add_assoc]; exact (h4 (n * s + i) (by omega)).1) (j - xs.length) hj2
      rw [show off + n * s + (j - xs.length) = off + j by omega] at this
      rw [this, he]
theorem app_q {P : Program} {ops : Array Oper} {rest : List Oper} {o : Oper} {a : Act} {Q : Exit → Act → World → Prop} (hgd : o.guard = none) (sl x : Operand) (t : TypeId)
    (ho : o.op = .call { callee := .builtin .append, args := #[sl, x], argTypes := #[t, t] })
    (B : Nat) (e : TypeId) (i : TypeInfo) (z : Value) (s bytes : Nat) (ht : P.underlying t = some (.slice e)) (hi : P.info? e = some i) (hz : i.zero = some z) (hsize : i.size = s) (hby : i.bytes = bytes) (hby2 : bytes ≤ 64) (hzs : z.cells.size = s) (hs0 : 0 < s)
    (g off n c : Nat) (xs : List Value) (hs : a.eval sl = .slice (some ⟨g, off, none⟩) n c) (hq : QW w B s g off n c xs) (cs : Array Value) (hcs : cs.size = s) (h1 : ∀ u ∈ cs.toList, u.oneCell' = true) (N : Nat) (hx : a.eval x = .slice (some ⟨N, 0, none⟩) 1 1) (hN : N = w.heap.size) (hn : n ≤ 1048576) (hB : B ≤ w.heap.size)
    (h : ∀ g' off' c' w', QW w' B s g' off' (n + 1) c' (xs ++ cs.toList) → w.grownBy w' (some g) → (g' = g ∨ w.heap.size ≤ g') → wpList P ops Q rest (a.put o.dst (.slice (some ⟨g', off', none⟩) (n + 1) c')) w') :
    wpList P ops Q (o :: rest) a (w.alloc (.cells cs e)) := by
  subst hN
  have hg0 : w.grownBy (w.alloc (.cells cs e)) (some g) := World.grownBy_alloc w _ _
  have hq2 : QW (w.alloc (.cells cs e)) B s g off n c xs := q_kept hq (World.grownBy_alloc w _ none) (fun e => by cases e)
  have hcl : cs.toList.length = s := by simp [hcs]
  have hm : (n + 1) * bytes ≤ (1048576 + 1) * 64 := Nat.mul_le_mul (by omega) hby2
  refine wpList_append_arg _ hgd sl x t ho e i z s bytes ht hi hz hsize hby hzs hs0 g off n c xs hs hq2.2.1 hq2.2.2.2.2 ⟨w.heap.size, 0, none⟩ 1 1 cs.toList hx (by rw [hcl, Nat.one_mul]) (Wid.wide_cell w cs e) h1 ?_ (by unfold maxLen; omega) (by omega) ?_ ?_
  · intro hr j hj
    have hm2 : (n + 1) * s ≤ c * s := Nat.mul_le_mul_right s hr
    rw [Nat.succ_mul] at hm2
    have := hq2.2.2.2.1 (n * s + j) (by omega)
    rw [← Nat.add_assoc] at this
    exact this
  · intro hr
    have hp := q_put hq2 hr cs.toList hcl
    exact h g off c _ hp.1 (hg0.trans hp.2) (Or.inl rfl)
  · intro hr v' w2 how hgw
    rcases how.2 with ⟨_, h0⟩ | ⟨g', cap, cur, hv, hB2, _⟩
    · omega
    · subst hv
      have hsz := hg0.size
      have how2 : w2.ownsRow B e s (.slice (some ⟨g', 0, none⟩) (n + 1) cap) (n + 1) (xs ++ cs.toList) := own_mono how (by omega)
      exact h g' 0 cap w2 (q_of_own how2) (hg0.trans ⟨hgw.os, hgw.tape, hgw.output, hgw.size, fun k hk _ => hgw.block k hk (fun e => by cases e)⟩) (Or.inr (by omega))
end Go.Proofs.Ytpfbjbakcfmngaa.Que
