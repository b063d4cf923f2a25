/- Functions of Go's library over lists of integers, each with what it leaves in a row of the call's own: Clone, Reverse, Insert at the front, Grow of nil, Concat. -/
import Derived.Test.YtefgcnjbiaileaaShelf
import Derived.Test.YtefgcnjbiaileaaPfn
import Derived.Test.YtefgcnjbiaileaaRws
import Derived.Laws.AppendOwnNone
set_option linter.unusedVariables false
set_option maxRecDepth 20000
namespace Go.Proofs.Ytefgcnjbiaileaa.Lb
open Go.RowKit Go.Lib Fr Own Ins Pfn Rws

theorem own_slice {w : World} {B : Nat} {e : TypeId} {s : Nat} {v : Value} {n : Nat} {xs : List Value} (h : w.ownsRow B e s v n xs) : ∃ A c, v = .slice A n c := by
  rcases h.2 with ⟨h2, h3⟩ | ⟨g, cap, cur, hv, _⟩
  · exact ⟨none, 0, by rw [h2, h3]⟩
  · exact ⟨_, _, hv⟩
theorem own_full {w : World} {B : Nat} {e : TypeId} {A : Option Addr} {n c : Nat} {xs : List Value} (h : w.ownsRow B e 1 (.slice A n c) n xs) :
    (A = none ∧ n = 0 ∧ c = 0) ∨ ∃ g ys, A = some ⟨g, 0, none⟩ ∧ B ≤ g ∧ g < w.heap.size ∧ n ≤ c ∧ c ≤ maxLen ∧ ys.length = c ∧ ys.take n = xs ∧ w.ownsRow B e 1 (.slice (some ⟨g, 0, none⟩) c c) c ys ∧ w.shape? g = some (e, c) := by
  rcases h.2 with ⟨h2, h3⟩ | ⟨g, cap, cur, hv, hg, hh, h1, h2, h3, h4⟩
  · simp only [Value.slice.injEq] at h2
    exact Or.inl ⟨h2.1, h3, h2.2.2⟩
  · simp only [Value.slice.injEq] at hv
    obtain ⟨rfl, _, rfl⟩ := hv
    rw [Nat.mul_one] at h3 h4
    refine Or.inr ⟨g, cur.toList, rfl, hg, (Array.getElem?_eq_some_iff.1 hh).1, h1, h2, by rw [Array.length_toList, h3], h4, ⟨by rw [Array.length_toList, h3, Nat.mul_one], Or.inr ⟨g, c, cur, rfl, hg, hh, Nat.le_refl _, h2, by omega, ?_⟩⟩, ?_⟩
    · rw [Nat.mul_one, List.take_of_length_le (by rw [Array.length_toList]; omega)]
    · unfold World.shape?
      rw [hh, ← h3]
theorem own_cut {w : World} {B : Nat} {e : TypeId} {g n c : Nat} {ys : List Value} (h : w.ownsRow B e 1 (.slice (some ⟨g, 0, none⟩) c c) c ys) (hn : n ≤ c) : w.ownsRow B e 1 (.slice (some ⟨g, 0, none⟩) n c) n (ys.take n) := by
  have hl : ys.length = c := by have := h.1; omega
  refine ⟨by rw [List.length_take]; omega, ?_⟩
  rcases h.2 with ⟨h2, _⟩ | ⟨g', cap, cur, hv, hg', hh, h1, h2, h3, h4⟩
  · simp at h2
  · simp only [Value.slice.injEq, Option.some.injEq, Addr.mk.injEq, and_true, true_and] at hv
    obtain ⟨rfl, rfl⟩ := hv
    refine Or.inr ⟨g, c, cur, rfl, hg', hh, hn, h2, h3, ?_⟩
    rw [Nat.mul_one] at h4 ⊢
    rw [← h4, List.take_take, Nat.min_eq_left hn]

/-- the elements from o on set to a list -/
def putAt (xs : List Value) : Nat → List Value → List Value
  | _, [] => xs
  | o, v :: r => putAt (xs.set o v) (o + 1) r
theorem putAt_eq : ∀ (ys xs : List Value) (o : Nat), o + ys.length ≤ xs.length → putAt xs o ys = xs.take o ++ ys ++ xs.drop (o + ys.length)
  | [], xs, o, h => by simp [putAt]
  | v :: r, xs, o, h => by
    simp only [List.length_cons] at h
    rw [putAt, putAt_eq r _ _ (by rw [List.length_set]; omega)]
    have hnil : List.drop (o + 1) (List.take (o + 1) xs) = [] := List.drop_eq_nil_of_le (by rw [List.length_take]; omega)
    rw [List.take_set, List.drop_set_of_lt (by omega), List.set_eq_take_append_cons_drop, if_pos (by rw [List.length_take]; omega), List.take_take, Nat.min_eq_left (by omega), hnil]
    simp [List.append_assoc]
    congr 1
    omega
theorem own_put {B : Nat} {e : TypeId} {g n c : Nat} : ∀ (ys : List Value) (w : World) (xs : List Value) (o : Nat), w.ownsRow B e 1 (.slice (some ⟨g, 0, none⟩) n c) n xs →
    (w.setCells g o ys).ownsRow B e 1 (.slice (some ⟨g, 0, none⟩) n c) n (putAt xs o ys) ∧ w.grownBy (w.setCells g o ys) (some g)
  | [], w, xs, o, h => ⟨h, World.grownBy.refl w _⟩
  | v :: r, w, xs, o, h => by
    have h1 := h.stored o v
    have h2 := own_put r _ _ (o + 1) h1.1
    exact ⟨h2.1, grown_trans h1.2 h2.2⟩

/-- a new block is a row of the call's own -/
theorem own_new (w : World) (B : Nat) (e : TypeId) (cells : Array Value) (n c : Nat) (hB : B ≤ w.heap.size) (hc : cells.size = c) (hn : n ≤ c) (hm : c ≤ maxLen) :
    (w.alloc (.cells cells e)).ownsRow B e 1 (.slice (some ⟨w.heap.size, 0, none⟩) n c) n (cells.toList.take n) :=
  ⟨by rw [List.length_take, Array.length_toList]; omega, Or.inr ⟨w.heap.size, c, cells, rfl, hB, heap_alloc_new w _, hn, hm, by omega, by rw [Nat.mul_one]⟩⟩
theorem zeros_size (n : Nat) : (Builtin.zeroCells (Value.int .i64 0).cells n).size = n := by simp [Builtin.zeroCells, Value.cells]
theorem vals_one (zs : List Int) : ∀ v ∈ vals zs, v.oneCell' = true := by
  intro v hv
  obtain ⟨x, _, rfl⟩ := List.mem_map.1 hv
  rfl
theorem grown_new (w : World) (o : Obj) (row : Option Nat) : w.grownBy (w.alloc o) row := by
  have h := (Below.refl w.heap.size w).alloc (Nat.le_refl _) o
  exact ⟨h.os, h.tape, h.output, h.size, fun k hk _ => h.block k hk⟩
theorem grown_drew (w : World) (row : Option Nat) : w.grownBy w.drew row := ⟨rfl, rfl, rfl, Nat.le_refl _, fun _ _ _ => rfl⟩
theorem grown_drewN (w : World) (q : Nat) (row : Option Nat) : w.grownBy (w.drewN q) row := ⟨rfl, rfl, rfl, Nat.le_refl _, fun _ _ _ => rfl⟩
theorem grown_new_write {w w1 w2 : World} {row : Option Nat} {g : Nat} (h : w.grownBy w1 row) (hg : w1.grownBy w2 (some g)) (hl : w.heap.size ≤ g) : w.grownBy w2 row :=
  ⟨hg.os.trans h.os, hg.tape.trans h.tape, hg.output.trans h.output, Nat.le_trans h.size hg.size, fun k hk hne =>
    (hg.block k (Nat.lt_of_lt_of_le hk h.size) (fun e => by simp only [Option.some.injEq] at e; omega)).trans (h.block k hk hne)⟩

theorem own_new_zeros (w : World) (B : Nat) (us : List Int) (m K : Nat) (hm : us.length = m) (hB : B ≤ w.heap.size) (h1 : 0 + m ≤ K) (h2 : K ≤ maxLen) :
    (w.alloc (.cells (([] ++ vals us).toArray ++ Builtin.zeroCells (Value.int .i64 0).cells (K - (0 + m))) 3)).ownsRow B 3 1 (.slice (some ⟨w.heap.size, 0, none⟩) (0 + m) K) (0 + m) (vals (us ++ [])) := by
  have hvl : (vals us).length = m := by rw [vals_len, hm]
  have h := own_new w B 3 (([] ++ vals us).toArray ++ Builtin.zeroCells (Value.int .i64 0).cells (K - (0 + m))) (0 + m) K hB (by rw [Array.size_append, zeros_size]; simp [hvl]; omega) h1 h2
  have e1 : (([] ++ vals us).toArray ++ Builtin.zeroCells (Value.int .i64 0).cells (K - (0 + m))).toList.take (0 + m) = vals (us ++ []) := by
    rw [Array.toList_append, List.nil_append, List.append_nil, List.take_append_of_le_length (by simp [hvl]), List.take_of_length_le (by simp [hvl])]
  rw [e1] at h
  exact h

theorem clone_any (A : Option Addr) (n c : Nat) (zs : List Int) (w : World) (hn : zs.length = n) (hn2 : n ≤ 1048576) (hss : IntsAt w w.heap.size .i64 A zs) :
    Calls Try.prog 30 #[.slice A n c] w (IsIL w.heap.size zs w) := by
  by_cases h0 : n = 0
  · have hz : zs = [] := List.eq_nil_of_length_eq_zero (by omega)
    subst hz h0
    cases A with
    | none =>
      refine (Try.slices_Clone_int_nil 0 c w).mono ?_
      rintro e w' ⟨rfl, rfl⟩
      exact nil_il _ _
    | some a =>
      refine (Try.slices_Clone_int_zero a c w).mono ?_
      rintro e w' ⟨v, rfl, ho, _, hb⟩
      obtain ⟨A2, c2, rfl⟩ := own_slice ho
      exact ⟨A2, c2, rfl, ho, hb⟩
  · obtain ⟨b, o, rfl, _, _⟩ := hss 0 (by omega)
    refine (Try.slices_Clone_int b o n c zs w (by omega) (by omega) (fun j hj => ?_)).mono ?_
    · obtain ⟨b2, o2, e2, _, hc⟩ := hss j hj
      simp only [Option.some.injEq, Addr.mk.injEq, and_true] at e2
      rw [e2.1, e2.2]
      exact hc
    rintro e w' ⟨v, rfl, ho, _, hb⟩
    obtain ⟨A2, c2, rfl⟩ := own_slice ho
    rw [List.take_of_length_le (by omega)] at ho
    subst hn
    exact ⟨A2, c2, rfl, ho, hb⟩


end Go.Proofs.Ytefgcnjbiaileaa.Lb
