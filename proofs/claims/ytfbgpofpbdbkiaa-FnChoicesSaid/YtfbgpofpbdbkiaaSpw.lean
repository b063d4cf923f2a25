/- How the model interleaves two lists in all ways (l05Weave). -/
import Derived.Test.YtfbgpofpbdbkiaaSps
import Derived.Test.YtfbgpofpbdbkiaaWv
import Derived.Test.YtfbgpofpbdbkiaaDo
import Derived.Deep.CutRange
set_option linter.unusedVariables false
namespace Go.Proofs.Ytfbgpofpbdbkiaa.Spw
open Go.RowKit Fr Own Ins Pfn Rws Sam Srt Sst Spl Cat Spm Sps Mv1 Sv Sv2 Do Lb Wv

/-- blocks that are no rows of lists stay xs they are -/
structure Kept (W W' : World) : Prop where
  size : W.heap.size ≤ W'.heap.size
  block : ∀ k, k < W.heap.size → (∀ cs fz, W.heap[k]? ≠ some (.cells cs 23 fz)) → W'.heap[k]? = W.heap[k]?
theorem Kept.refl (W : World) : Kept W W := ⟨Nat.le_refl _, fun _ _ _ => rfl⟩
theorem Kept.trans {a b c : World} (h : Kept a b) (k : Kept b c) : Kept a c :=
  ⟨Nat.le_trans h.size k.size, fun i hi hn => (k.block i (Nat.lt_of_lt_of_le hi h.size) (fun cs fz => by rw [h.block i hi hn]; exact hn cs fz)).trans (h.block i hi hn)⟩
theorem Kept.below {W W' : World} (h : Below W.heap.size W W') : Kept W W' := ⟨h.size, fun k hk _ => h.block k hk⟩
theorem Kept.grown {W W' : World} {B n c m : Nat} {A : Option Addr} {xs : List Value} (h : W.ownsRow B 23 1 (.slice A n c) m xs) (hg : W.grownBy W' (A.map (·.block))) : Kept W W' := by
  refine ⟨hg.size, fun k hk hn => hg.block k hk fun e => ?_⟩
  rcases h.2 with ⟨hv, _⟩ | ⟨g, cap, cur, hv, _, hh, _⟩
  · simp only [Value.slice.injEq] at hv; rw [hv.1] at e; cases e
  · simp only [Value.slice.injEq] at hv; rw [hv.1] at e; simp only [Option.map_some, Option.some.injEq] at e; subst e; exact hn _ _ hh
theorem own_kept {W W' : World} {B n c m : Nat} {A : Option Addr} {xs : List Value} (h : W.ownsRow B 3 1 (.slice A n c) m xs) (hk : Kept W W') : W'.ownsRow B 3 1 (.slice A n c) m xs := by
  refine ⟨h.1, ?_⟩
  rcases h.2 with h2 | ⟨g, cap, cur, hv, hg, hh, r⟩
  · exact Or.inl h2
  · refine Or.inr ⟨g, cap, cur, hv, hg, ?_, r⟩
    rw [hk.block g (Array.getElem?_eq_some_iff.1 hh).1 (fun cs fz e => by rw [hh] at e; simp only [Option.some.injEq, Obj.cells.injEq] at e; exact absurd e.2.1 (by decide))]
    exact hh
def WeaveRes (lo no : Nat) (ro : List RD) (L : List (List Int)) (w : World) (e : Ending) (w' : World) : Prop :=
  ∃ A' c' rs', e = .returned (.slice A' (no + L.length) c') ∧ rs'.map RD.zs = ro.map RD.zs ++ L ∧ SSRow w' lo w'.heap.size A' (no + L.length) c' rs' ∧ Below lo w w' ∧ Kept w w'
theorem keep1 {V w' : World} {p : Addr} {v : Value} (h1 : Hid (V.cell? p = some v)) (l1 : Hid (p.block < V.heap.size)) (hb : Hid (Below V.heap.size V w')) : w'.cell? p = some v := (hb.out.cell l1.out).trans h1.out
theorem keepL {V w' : World} {p : Addr} {v : Value} {lo : Nat} (h1 : Hid (V.cell? p = some v)) (l1 : Hid (p.block < lo)) (hb : Hid (Below lo V w')) : w'.cell? p = some v := (hb.out.cell l1.out).trans h1.out
theorem drew_size (w : World) : w.drew.heap.size = w.heap.size := rfl
end Go.Proofs.Ytfbgpofpbdbkiaa.Spw
