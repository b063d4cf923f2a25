/- How the model compares two lists (l05Less), and what the model's merging needs of memory. How the model merges two sorted lists of lists (l05Merge). How the model sorts lists of lists (SortPackets). -/
import Derived.Test.YtefgcnjbiaileaaSrt
import Derived.Test.YtefgcnjbiaileaaSame
import Derived.Test.YtefgcnjbiaileaaCat
import Derived.BigQuiet
import Derived.Deep.QuietTactic
import Derived.Deep.CutRange
import Derived.Deep.LoopGhost
import Derived.Deep.RegionHeldLaw
import Derived.Deep.RegionHeld3
set_option linter.unusedVariables false
set_option maxRecDepth 20000
namespace Go.Proofs.Ytefgcnjbiaileaa.Spl
open Go.RowKit Fr Own Ins Rws Sam Srt Sst Cat

theorem less_step {us vs : List Int} {k : Nat} (h1 : k < us.length) (h2 : k < vs.length) :
    lessL (us.drop k) (vs.drop k) = if us.getD k 0 = vs.getD k 0 then lessL (us.drop (k + 1)) (vs.drop (k + 1)) else decide (us.getD k 0 < vs.getD k 0) := by
  rw [List.drop_eq_getElem_cons h1, List.drop_eq_getElem_cons h2, lessL]
  simp only [List.getD_eq_getElem?_getD, List.getElem?_eq_getElem h1, List.getElem?_eq_getElem h2, Option.getD_some]
theorem less_out {us vs : List Int} {k : Nat} (h1 : k < us.length) (h2 : vs.length ≤ k) : lessL (us.drop k) (vs.drop k) = false := by
  rw [List.drop_eq_getElem_cons h1, List.drop_eq_nil_of_le h2, lessL]
theorem less_end {us vs : List Int} : lessL (us.drop us.length) (vs.drop us.length) = decide (us.length < vs.length) := by
  rw [List.drop_eq_nil_of_le (Nat.le_refl _)]
  by_cases h : us.length < vs.length
  · rw [List.drop_eq_getElem_cons h, lessL, decide_eq_true h]
  · rw [List.drop_eq_nil_of_le (by omega), lessL, decide_eq_false h]
/-- every row is not too long, and is no part of a cell -/
def RowsOk (rs : List RD) : Prop := ∀ i, i < rs.length → (rs.getD i rd0).zs.length ≤ 1048576 ∧ ((rs.getD i rd0).A = none → (rs.getD i rd0).c = 0) ∧ (∀ a, (rs.getD i rd0).A = some a → a.spot = none)
theorem RowsOk.tail {r : RD} {rs : List RD} (h : RowsOk (r :: rs)) : RowsOk rs := fun i hi => by
  have := h (i + 1) (by simp; omega)
  simpa using this
theorem RowsOk.nil : RowsOk [] := fun i hi => absurd hi (Nat.not_lt_zero _)
theorem SSAt.tail {w : World} {B b o : Nat} {r : RD} {rs : List RD} (h : SSAt w B (some ⟨b, o, none⟩) (r :: rs)) : SSAt w B (some ⟨b, o + 1, none⟩) rs := by
  intro j hj
  obtain ⟨b', o', hA, hlt, hc, hi⟩ := h (j + 1) (by simp; omega)
  simp only [Option.some.injEq, Addr.mk.injEq, and_true] at hA
  obtain ⟨rfl, rfl⟩ := hA
  refine ⟨b, o + 1, rfl, hlt, ?_, ?_⟩
  · rw [show o + 1 + j = o + (j + 1) by omega]
    simpa using hc
  · simpa using hi
theorem SSAt.drop {w : World} {B b o : Nat} {rs : List RD} (k : Nat) (h : SSAt w B (some ⟨b, o, none⟩) rs) : SSAt w B (some ⟨b, o + k, none⟩) (rs.drop k) := by
  intro j hj
  rw [List.length_drop] at hj
  obtain ⟨b', o', hA, hlt, hc, hi⟩ := h (k + j) (by omega)
  simp only [Option.some.injEq, Addr.mk.injEq, and_true] at hA
  obtain ⟨rfl, rfl⟩ := hA
  have e : (rs.drop k).getD j rd0 = rs.getD (k + j) rd0 := by simp [List.getD_eq_getElem?_getD]
  rw [e]
  exact ⟨b, o + k, rfl, hlt, by rw [Nat.add_assoc]; exact hc, hi⟩
theorem SSAt.take {w : World} {B : Nat} {A : Option Addr} {rs : List RD} (k : Nat) (h : SSAt w B A rs) : SSAt w B A (rs.take k) := by
  intro j hj
  rw [List.length_take] at hj
  have e : (rs.take k).getD j rd0 = rs.getD j rd0 := by simp [List.getD_eq_getElem?_getD, show j < k by omega]
  rw [e]
  exact h j (by omega)
theorem RowsOk.drop {rs : List RD} (k : Nat) (h : RowsOk rs) : RowsOk (rs.drop k) := by
  intro i hi
  rw [List.length_drop] at hi
  have e : (rs.drop k).getD i rd0 = rs.getD (k + i) rd0 := by simp [List.getD_eq_getElem?_getD]
  rw [e]
  exact h _ (by omega)
theorem RowsOk.take {rs : List RD} (k : Nat) (h : RowsOk rs) : RowsOk (rs.take k) := by
  intro i hi
  rw [List.length_take] at hi
  have e : (rs.take k).getD i rd0 = rs.getD i rd0 := by simp [List.getD_eq_getElem?_getD, show i < k by omega]
  rw [e]
  exact h _ (by omega)
def lenV : Value → Nat
  | .slice _ n _ => n
  | _ => 0
end Go.Proofs.Ytefgcnjbiaileaa.Spl

namespace Go.Proofs.Ytefgcnjbiaileaa.Spm
open Go.RowKit Fr Own Ins Rws Sam Srt Sst Spl Cat

theorem merge_a {f : Nat} {x : RD} {a ro : List RD} : mergeF (f + 1) ((x :: a).map RD.zs) [] (ro.map RD.zs) = mergeF f (a.map RD.zs) [] (push (ro.map RD.zs) x.zs) := rfl
theorem merge_b {f : Nat} {y : RD} {b ro : List RD} : mergeF (f + 1) [] ((y :: b).map RD.zs) (ro.map RD.zs) = mergeF f [] (b.map RD.zs) (push (ro.map RD.zs) y.zs) := rfl
theorem merge_aa {f : Nat} {x y : RD} {a b ro : List RD} (h : lessL y.zs x.zs = false) : mergeF (f + 1) ((x :: a).map RD.zs) ((y :: b).map RD.zs) (ro.map RD.zs) = mergeF f (a.map RD.zs) ((y :: b).map RD.zs) (push (ro.map RD.zs) x.zs) := by
  show mergeF (f + 1) (x.zs :: a.map RD.zs) (y.zs :: b.map RD.zs) _ = _
  rw [mergeF, if_neg (by rw [h]; decide)]
  rfl
theorem merge_bb {f : Nat} {x y : RD} {a b ro : List RD} (h : lessL y.zs x.zs = true) : mergeF (f + 1) ((x :: a).map RD.zs) ((y :: b).map RD.zs) (ro.map RD.zs) = mergeF f ((x :: a).map RD.zs) (b.map RD.zs) (push (ro.map RD.zs) y.zs) := by
  show mergeF (f + 1) (x.zs :: a.map RD.zs) (y.zs :: b.map RD.zs) _ = _
  rw [mergeF, if_pos h]
  rfl
theorem push_new {ro : List RD} {r : RD} {zs : List Int} (h : (ro.map RD.zs).getLast? ≠ some zs) (hr : r.zs = zs) : push (ro.map RD.zs) zs = (ro ++ [r]).map RD.zs := by
  unfold push
  rw [if_neg h, List.map_append, ← hr]
  rfl
theorem push_old {ro : List RD} {zs : List Int} (h : (ro.map RD.zs).getLast? = some zs) : push (ro.map RD.zs) zs = ro.map RD.zs := by unfold push; rw [if_pos h]
theorem last_at {ro : List RD} {m : Nat} (hm : ro.length = m + 1) : (ro.map RD.zs).getLast? = some (ro.getD m rd0).zs := by
  rw [List.getLast?_eq_getElem?, List.length_map, hm, List.getElem?_map, Nat.add_sub_cancel, List.getElem?_eq_getElem (by omega), List.getD_eq_getElem?_getD, List.getElem?_eq_getElem (by omega)]
  rfl
theorem merge_ta {f : Nat} {x : RD} {a b ro : List RD} (h : b = [] ∨ lessL (b.getD 0 rd0).zs x.zs = false) : mergeF (f + 1) ((x :: a).map RD.zs) (b.map RD.zs) (ro.map RD.zs) = mergeF f (a.map RD.zs) (b.map RD.zs) (push (ro.map RD.zs) x.zs) := by
  cases b with
  | nil => rfl
  | cons y b => exact merge_aa (by rcases h with h | h; cases h; exact h)
theorem merge_tb {f : Nat} {y : RD} {a b ro : List RD} (h : a = [] ∨ lessL y.zs (a.getD 0 rd0).zs = true) : mergeF (f + 1) (a.map RD.zs) ((y :: b).map RD.zs) (ro.map RD.zs) = mergeF f (a.map RD.zs) (b.map RD.zs) (push (ro.map RD.zs) y.zs) := by
  cases a with
  | nil => rfl
  | cons x a => exact merge_bb (by rcases h with h | h; cases h; exact h)
end Go.Proofs.Ytefgcnjbiaileaa.Spm

namespace Go.Proofs.Ytefgcnjbiaileaa.Sps
open Go.RowKit Fr Own Ins Rws Sam Srt Sst Spl Cat Spm

theorem rows_ok {W : World} {lo hi : Nat} {A : Option Addr} {n c : Nat} {rs : List RD} (h : SSRow W lo hi A n c rs) (hz : ∀ x ∈ rs.map RD.zs, x.length ≤ 1048576) : RowsOk rs := by
  intro i hi'
  have hr := (h.2.1 i hi').1
  refine ⟨hz _ (List.mem_map.2 ⟨rs.getD i rd0, ?_, rfl⟩), ?_, ?_⟩
  · rw [List.getD_eq_getElem?_getD, List.getElem?_eq_getElem hi']; exact List.getElem_mem _
  · intro e
    rcases hr.2 with ⟨hv, _⟩ | ⟨g, cap, cur, hv, _⟩
    · simp only [Value.slice.injEq] at hv; exact hv.2.2
    · rw [e] at hv; simp only [Value.slice.injEq] at hv; exact absurd hv.1 (by simp)
  · intro a e
    rcases hr.2 with ⟨hv, _⟩ | ⟨g, cap, cur, hv, _⟩
    · rw [e] at hv; simp only [Value.slice.injEq] at hv; exact absurd hv.1 (by simp)
    · rw [e] at hv; simp only [Value.slice.injEq, Option.some.injEq] at hv; rw [hv.1]
theorem ss_cap {W : World} {lo hi : Nat} {A : Option Addr} {n c : Nat} {rs : List RD} (h : SSRow W lo hi A n c rs) : n ≤ c := by
  rcases h.1.2 with ⟨hv, hn⟩ | ⟨g, cap, cur, hv, _, _, hn, _⟩
  · omega
  · simp only [Value.slice.injEq] at hv; omega
theorem ok_len {rs : List RD} (h : RowsOk rs) : ∀ x ∈ rs.map RD.zs, x.length ≤ 1048576 := by
  intro x hx
  obtain ⟨r, hr, rfl⟩ := List.mem_map.1 hx
  obtain ⟨i, hi, rfl⟩ := List.getElem_of_mem hr
  have := (h i hi).1
  rw [List.getD_eq_getElem?_getD, List.getElem?_eq_getElem hi] at this
  exact this
theorem cano_len {l : List (List Int)} (h : ∀ x ∈ l, x.length ≤ 1048576) : ∀ x ∈ cano l, x.length ≤ 1048576 := fun x hx => h x ((cano_mem l x).1 hx)
theorem take_len {l : List RD} (k : Nat) (h : ∀ x ∈ l.map RD.zs, x.length ≤ 1048576) : ∀ x ∈ (l.take k).map RD.zs, x.length ≤ 1048576 := fun x hx => h x (by
  obtain ⟨r, hr, rfl⟩ := List.mem_map.1 hx
  exact List.mem_map.2 ⟨r, List.mem_of_mem_take hr, rfl⟩)
theorem drop_len {l : List RD} (k : Nat) (h : ∀ x ∈ l.map RD.zs, x.length ≤ 1048576) : ∀ x ∈ (l.drop k).map RD.zs, x.length ≤ 1048576 := fun x hx => h x (by
  obtain ⟨r, hr, rfl⟩ := List.mem_map.1 hx
  exact List.mem_map.2 ⟨r, List.mem_of_mem_drop hr, rfl⟩)
theorem ss_mono {B B' : Nat} {zss : List (List Int)} {w w0 w' : World} {e : Ending} (h : IsSS B' zss w e w') (hb : Below B w0 w) (hB : B ≤ B') (hs : B ≤ w.heap.size) : IsSS B zss w0 e w' := by
  obtain ⟨A, c, rs, h1, h2, h3, h4⟩ := h
  refine ⟨A, c, rs, h1, h2, ⟨own_mono h3.1 hB, fun i hi => ⟨own_mono (h3.2.1 i hi).1 hB, (h3.2.1 i hi).2⟩, h3.2.2⟩, hb.trans (h4.mono hB)⟩
end Go.Proofs.Ytefgcnjbiaileaa.Sps
