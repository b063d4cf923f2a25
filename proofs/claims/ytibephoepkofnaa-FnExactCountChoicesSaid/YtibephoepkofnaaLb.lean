/- Functions of Go's library over lists of integers, each with what it leaves in a row of the call's own: Clone, Reverse, Insert at the front, Grow of nil, Concat. -/
import Derived.Test.YtibephoepkofnaaShelf
import Derived.Test.YtibephoepkofnaaPfn
import Derived.Test.YtibephoepkofnaaRws
import Derived.Laws.AppendOwnNone
set_option linter.unusedVariables false
set_option maxRecDepth 20000
namespace Go.Proofs.Ytibephoepkofnaa.Lb
open Go.RowKit Go.Lib Fr Own Ins Pfn Rws

theorem own_slice {w : World} {B : Nat} {e : TypeId} {s : Nat} {v : Value} {n : Nat} {xs : List Value} (h : w.ownsRow B e s v n xs) : ∃ A c, v = .slice A n c := by
  rcases h.2 with ⟨h2, h3⟩ | ⟨g, cap, cur, hv, _⟩
  · exact ⟨none, 0, by rw [h2, h3]⟩
  · exact ⟨_, _, hv⟩
theorem own_full {w : World} {B : Nat} {e : TypeId} {A : Option Addr} {n c : Nat} {xs : List Value} (h : w.ownsRow B e 1 (.slice A n c) n xs) :
    (A = none ∧ n = 0 ∧ c = 0) ∨ ∃ g ys, A = some ⟨g, 0, none⟩ ∧ B ≤ g ∧ g < w.heap.size ∧ n ≤ c ∧ c ≤ maxLen ∧ ys.length = c ∧ ys.take n = xs ∧ w.ownsRow B e 1 (.slice (some ⟨g, 0, none⟩) c c) c ys ∧ w.shape? g = some (e, c) := by
  rcases h.2 with ⟨h2, h3⟩ | ⟨g, cap, cur, hv, hg, hh, h1, h2, h3, h4⟩
  · simp only [Value.slice.injEq] at h2
    exact Or.inl ⟨h2.1, h3, h2.2.2⟩
  · simp only [Value.slice.injEq] at hv
    obtain ⟨rfl, _, rfl⟩ := hv
    rw [Nat.mul_one] at h3 h4
    refine Or.inr ⟨g, cur.toList, rfl, hg, (Array.getElem?_eq_some_iff.1 hh).1, h1, h2, by rw [Array.length_toList, h3], h4, ⟨by rw [Array.length_toList, h3, Nat.mul_one], Or.inr ⟨g, c, cur, rfl, hg, hh, Nat.le_refl _, h2, by omega, ?_⟩⟩, ?_⟩
    · rw [Nat.mul_one, List.take_of_length_le (by rw [Array.length_toList]; omega)]
    · unfold World.shape?
      rw [hh, ← h3]
theorem own_cut {w : World} {B : Nat} {e : TypeId} {g n c : Nat} {ys : List Value} (h : w.ownsRow B e 1 (.slice (some ⟨g, 0, none⟩) c c) c ys) (hn : n ≤ c) : w.ownsRow B e 1 (.slice (some ⟨g, 0, none⟩) n c) n (ys.take n) := by
  have hl : ys.length = c := by have := h.1; omega
  refine ⟨by rw [List.length_take]; omega, ?_⟩
  rcases h.2 with ⟨h2, _⟩ | ⟨g', cap, cur, hv, hg', hh, h1, h2, h3, h4⟩
  · simp at h2
  · simp only [Value.slice.injEq, Option.some.injEq, Addr.mk.injEq, and_true, true_and] at hv
    obtain ⟨rfl, rfl⟩ := hv
    refine Or.inr ⟨g, c, cur, rfl, hg', hh, hn, h2, h3, ?_⟩
    rw [Nat.mul_one] at h4 ⊢
    rw [← h4, List.take_take, Nat.min_eq_left hn]

/-- the elements from o on set to a list -/
def putAt (xs : List Value) : Nat → List Value → List Value
  | _, [] => xs
  | o, v :: r => putAt (xs.set o v) (o + 1) r
theorem putAt_eq : ∀ (ys xs : List Value) (o : Nat), o + ys.length ≤ xs.length → putAt xs o ys = xs.take o ++ ys ++ xs.drop (o + ys.length)
  | [], xs, o, h => by simp [putAt]
  | v :: r, xs, o, h => by
    simp only [List.length_cons] at h
    rw [putAt, putAt_eq r _ _ (by rw [List.length_set]; omega)]
    have hnil : List.drop (o + 1) (List.take (o + 1) xs) = [] := List.drop_eq_nil_of_le (by rw [List.length_take]; omega)
    rw [List.take_set, List.drop_set_of_lt (by omega), List.set_eq_take_append_cons_drop, if_pos (by rw [List.length_take]; omega), List.take_take, Nat.min_eq_left (by omega), hnil]
    simp [List.append_assoc]
    congr 1
    omega
theorem own_put {B : Nat} {e : TypeId} {g n c : Nat} : ∀ (ys : List Value) (w : World) (xs : List Value) (o : Nat), w.ownsRow B e 1 (.slice (some ⟨g, 0, none⟩) n c) n xs →
    (w.setCells g o ys).ownsRow B e 1 (.slice (some ⟨g, 0, none⟩) n c) n (putAt xs o ys) ∧ w.grownBy (w.setCells g o ys) (some g)
  | [], w, xs, o, h => ⟨h, World.grownBy.refl w _⟩
  | v :: r, w, xs, o, h => by
    have h1 := h.stored o v
    have h2 := own_put r _ _ (o + 1) h1.1
    exact ⟨h2.1, grown_trans h1.2 h2.2⟩

/-- a new block is a row of the call's own -/
theorem own_new (w : World) (B : Nat) (e : TypeId) (cells : Array Value) (n c : Nat) (hB : B ≤ w.heap.size) (hc : cells.size = c) (hn : n ≤ c) (hm : c ≤ maxLen) :
    (w.alloc (.cells cells e)).ownsRow B e 1 (.slice (some ⟨w.heap.size, 0, none⟩) n c) n (cells.toList.take n) :=
  ⟨by rw [List.length_take, Array.length_toList]; omega, Or.inr ⟨w.heap.size, c, cells, rfl, hB, heap_alloc_new w _, hn, hm, by omega, by rw [Nat.mul_one]⟩⟩
theorem zeros_size (n : Nat) : (Builtin.zeroCells (Value.int .i64 0).cells n).size = n := by simp [Builtin.zeroCells, Value.cells]
theorem vals_one (zs : List Int) : ∀ v ∈ vals zs, v.oneCell' = true := by
  intro v hv
  obtain ⟨x, _, rfl⟩ := List.mem_map.1 hv
  rfl
theorem grown_new (w : World) (o : Obj) (row : Option Nat) : w.grownBy (w.alloc o) row := by
  have h := (Below.refl w.heap.size w).alloc (Nat.le_refl _) o
  exact ⟨h.os, h.tape, h.output, h.size, fun k hk _ => h.block k hk⟩
theorem grown_drew (w : World) (row : Option Nat) : w.grownBy w.drew row := ⟨rfl, rfl, rfl, Nat.le_refl _, fun _ _ _ => rfl⟩
theorem grown_drewN (w : World) (q : Nat) (row : Option Nat) : w.grownBy (w.drewN q) row := ⟨rfl, rfl, rfl, Nat.le_refl _, fun _ _ _ => rfl⟩
theorem grown_new_write {w w1 w2 : World} {row : Option Nat} {g : Nat} (h : w.grownBy w1 row) (hg : w1.grownBy w2 (some g)) (hl : w.heap.size ≤ g) : w.grownBy w2 row :=
  ⟨hg.os.trans h.os, hg.tape.trans h.tape, hg.output.trans h.output, Nat.le_trans h.size hg.size, fun k hk hne =>
    (hg.block k (Nat.lt_of_lt_of_le hk h.size) (fun e => by simp only [Option.some.injEq] at e; omega)).trans (h.block k hk hne)⟩

theorem own_new_zeros (w : World) (B : Nat) (us : List Int) (m K : Nat) (hm : us.length = m) (hB : B ≤ w.heap.size) (h1 : 0 + m ≤ K) (h2 : K ≤ maxLen) :
    (w.alloc (.cells (([] ++ vals us).toArray ++ Builtin.zeroCells (Value.int .i64 0).cells (K - (0 + m))) 3)).ownsRow B 3 1 (.slice (some ⟨w.heap.size, 0, none⟩) (0 + m) K) (0 + m) (vals (us ++ [])) := by
  have hvl : (vals us).length = m := by rw [vals_len, hm]
  have h := own_new w B 3 (([] ++ vals us).toArray ++ Builtin.zeroCells (Value.int .i64 0).cells (K - (0 + m))) (0 + m) K hB (by rw [Array.size_append, zeros_size]; simp [hvl]; omega) h1 h2
  have e1 : (([] ++ vals us).toArray ++ Builtin.zeroCells (Value.int .i64 0).cells (K - (0 + m))).toList.take (0 + m) = vals (us ++ []) := by
    rw [Array.toList_append, List.nil_append, List.append_nil, List.take_append_of_le_length (by simp [hvl]), List.take_of_length_le (by simp [hvl])]
  rw [e1] at h
  exact h

theorem clone_any (A : Option Addr) (n c : Nat) (zs : List Int) (w : World) (hn : zs.length = n) (hn2 : n ≤ 1048576) (hss : IntsAt w w.heap.size .i64 A zs) :
    Calls Try.prog 43 #[.slice A n c] w (IsIL w.heap.size zs w) := by
  by_cases h0 : n = 0
  · have hz : zs = [] := List.eq_nil_of_length_eq_zero (by omega)
    subst hz h0
    cases A with
    | none =>
      refine (Try.slices_Clone_int_nil 0 c w).mono ?_
      rintro e w' ⟨rfl, rfl⟩
      exact nil_il _ _
    | some a =>
      refine (Try.slices_Clone_int_zero a c w).mono ?_
      rintro e w' ⟨v, rfl, ho, _, hb⟩
      obtain ⟨A2, c2, rfl⟩ := own_slice ho
      exact ⟨A2, c2, rfl, ho, hb⟩
  · obtain ⟨b, o, rfl, _, _⟩ := hss 0 (by omega)
    refine (Try.slices_Clone_int b o n c zs w (by omega) (by omega) (fun j hj => ?_)).mono ?_
    · obtain ⟨b2, o2, e2, _, hc⟩ := hss j hj
      simp only [Option.some.injEq, Addr.mk.injEq, and_true] at e2
      rw [e2.1, e2.2]
      exact hc
    rintro e w' ⟨v, rfl, ho, _, hb⟩
    obtain ⟨A2, c2, rfl⟩ := own_slice ho
    rw [List.take_of_length_le (by omega)] at ho
    subst hn
    exact ⟨A2, c2, rfl, ho, hb⟩

/-- the first k elements of a row of the call's own, turned round -/
theorem rev_any (B g n c k : Nat) (zs : List Int) (w : World) (hn : zs.length = n) (hk : k ≤ n) (hn2 : n ≤ 1048576) (hown : w.ownsRow B 3 1 (.slice (some ⟨g, 0, none⟩) n c) n (vals zs)) (c2 : Nat) :
    Calls Try.prog 94 #[.slice (some ⟨g, 0, none⟩) k c2] w fun e w' => e = .returned (.tuple #[]) ∧
      w'.ownsRow B 3 1 (.slice (some ⟨g, 0, none⟩) n c) n (vals ((zs.take k).reverse ++ zs.drop k)) ∧ w.grownBy w' (some g) := by
  refine (Try.slices_Reverse_int_cells g 0 k c2 zs w (by omega) (by omega) (fun j hj => ?_) (fun j hj => hown.frozenAt _)).mono ?_
  · rw [hown.cellAt (0 + j) (by omega), Nat.zero_add]
    exact vals_get hj
  rintro e w' ⟨rfl, q, rfl⟩
  have h1 : (w.drewN q).ownsRow B 3 1 (.slice (some ⟨g, 0, none⟩) n c) n (vals zs) := hown
  have h2 := own_put ((zs.take k).reverse.map (Value.int .i64)) _ _ 0 h1
  rw [putAt_eq _ _ _ (by rw [vals_len, List.length_map, List.length_reverse, List.length_take]; omega)] at h2
  refine ⟨rfl, ?_, grown_trans (grown_drewN w q _) h2.2⟩
  have e1 : vals ((zs.take k).reverse ++ zs.drop k) = List.take 0 (vals zs) ++ (zs.take k).reverse.map (Value.int .i64) ++ (vals zs).drop (0 + ((zs.take k).reverse.map (Value.int .i64)).length) := by
    unfold vals
    simp only [List.take_zero, List.nil_append, List.map_append, List.map_drop, List.length_map, List.length_reverse, List.length_take, Nat.zero_add]
    rw [Nat.min_eq_left (by omega)]
  rw [e1]
  exact h2.1

def Inserted (B : Nat) (A : Option Addr) (n : Nat) (zs : List Int) (w : World) (e : Ending) (w' : World) : Prop :=
  ∃ A' c', e = .returned (.slice A' n c') ∧ w'.ownsRow B 3 1 (.slice A' n c') n (vals zs) ∧ w.grownBy w' (A.map (·.block)) ∧ ∀ k, A'.map (·.block) = some k → A.map (·.block) = some k ∨ w.heap.size ≤ k
/-- elements put ahead of a row of the call's own -/
theorem ins_front (B : Nat) (A : Option Addr) (n c m vb vc : Nat) (zs us : List Int) (w : World) (hm : us.length = m) (hm0 : 0 < m) (hm2 : m ≤ 1048576) (hn2 : n ≤ 1048576) (hown : w.ownsRow B 3 1 (.slice A n c) n (vals zs))
    (hv : w.heap[vb]? = some (.cells (vals us).toArray 3 (0, 0))) (hvb : ∀ k, A.map (·.block) = some k → vb ≠ k) (hB : B ≤ w.heap.size) :
    Calls Try.prog 106 #[.slice A n c, .int .i64 0, .slice (some ⟨vb, 0, none⟩) m vc] w (Inserted B A (n + m) (us ++ zs) w) := by
  have hzl : zs.length = n := by have := hown.1; rw [vals_len] at this; omega
  have hvs : ∀ j v, (vals us)[j]? = some v → w.cell? ⟨vb, 0 + j, none⟩ = some v := by
    intro j v h
    unfold World.cell?
    simp only [Nat.zero_add, hv]
    rw [List.getElem?_toArray, h]
    rfl
  have hvl : (vals us).length = m := by rw [vals_len, hm]
  rcases own_full hown with ⟨rfl, rfl, rfl⟩ | ⟨g, ys, rfl, hBg, hgw, hnc, hcm, hyl, hyt, hfull, hsh⟩
  · have hz : zs = [] := List.eq_nil_of_length_eq_zero hzl
    subst hz
    refine (Try.slices_Insert_int_end_grow none 0 0 vb 0 m vc [] (vals us) w hm0 (Nat.le_refl _) (by omega) (by omega) rfl hvl (fun _ => rfl) (fun a h => by cases h) hvs (vals_one us)).mono ?_
    rintro e w' ⟨rfl, rfl⟩
    refine ⟨_, _, rfl, ?_, grown_trans (grown_drew w _) (grown_new _ _ _), fun k h => Or.inr (by simp only [Option.map_some, Option.some.injEq] at h; omega)⟩
    have hg1 := grownCap_ge w (0 + m) 0 3
    have hg2 := grownCap_le_maxLen w (0 + m) 0 3 (by unfold maxLen; omega)
    exact own_new_zeros w.drew B us m _ hm hB hg1 hg2
  · have hcs : ∀ j v, (vals zs)[j]? = some v → w.cell? ⟨g, 0 + j, none⟩ = some v := by
      intro j v h
      have hj : j < n := by
        have := (List.getElem?_eq_some_iff.1 h).1
        rw [vals_len] at this; omega
      rw [Nat.zero_add, hown.cellAt j (by omega), h]
    have hsp : ∀ j, j < c → (w.cell? ⟨g, j, none⟩).isSome = true := by
      intro j hj
      rw [hfull.cellAt j (by omega), List.getElem?_eq_getElem (by omega)]
      rfl
    have hne : vb ≠ g := hvb g rfl
    by_cases hroom : n + m ≤ c
    · have hgr : ∀ (w1 : World), w.grownBy w1 (some g) → w.grownBy w1 ((some (⟨g, 0, none⟩ : Addr)).map (·.block)) := fun _ h => h
      by_cases h0 : n = 0
      · subst h0
        have hz : zs = [] := List.eq_nil_of_length_eq_zero hzl
        subst hz
        refine (Try.slices_Insert_int_end_room g 0 0 c vb 0 m vc (vals us) w hm0 hroom (by unfold maxLen at hcm; omega) hvl (fun j hj => by simpa using hsp j (by omega)) (fun j hj => hfull.frozenAt _) hvs (vals_one us)).mono ?_
        rintro e w' ⟨rfl, rfl⟩
        have h2 := own_put (vals us) w ys (0 + 0) hfull
        rw [putAt_eq _ _ _ (by rw [vals_len]; omega)] at h2
        refine ⟨_, _, rfl, ?_, hgr _ h2.2, fun k h => Or.inl h⟩
        have h3 := own_cut h2.1 (n := 0 + m) (by omega)
        have e1 : (List.take (0 + 0) ys ++ vals us ++ List.drop (0 + 0 + (vals us).length) ys).take (0 + m) = vals (us ++ []) := by
          rw [List.append_nil]
          simp only [Nat.add_zero, List.take_zero, List.nil_append, Nat.zero_add]
          rw [List.take_append_of_le_length (by omega), List.take_of_length_le (by omega)]
        rw [e1] at h3
        exact h3
      · have hsv : w.shape? vb = some (3, m) := by
          unfold World.shape?
          rw [hv]
          simp [hvl]
        have hfr : ∀ k, w.frozen? ⟨vb, k, none⟩ = false := by
          intro k
          unfold World.frozen?
          simp [hv]
        refine (Try.slices_Insert_int_shift g 0 n c 0 vb 0 m vc (vals zs) (vals us) w (by omega) hm0 hroom (by unfold maxLen at hcm; omega) hne (by rw [vals_len, hzl]) hvl hcs (fun j hj => by rw [Nat.zero_add]; exact hsp j (by omega)) (fun j hj => hfull.frozenAt _) hvs (vals_one zs) (vals_one us) _ _ _ _ hsv hsh (by omega) (hfr 0) (hfr m)).mono ?_
        rintro e w' ⟨rfl, rfl⟩
        have hf2 : w.drew.ownsRow B 3 1 (.slice (some ⟨g, 0, none⟩) c c) c ys := hfull
        have h2 := own_put ((vals zs).drop 0) w.drew ys (0 + (0 + m)) hf2
        have h3 := own_put (vals us) _ _ (0 + 0) h2.1
        refine ⟨_, _, rfl, ?_, hgr _ (grown_trans (grown_drew w _) (grown_trans h2.2 h3.2)), fun k h => Or.inl h⟩
        have h4 := own_cut h3.1 (n := n + m) (by omega)
        have e1 : (putAt (putAt ys (0 + (0 + m)) ((vals zs).drop 0)) (0 + 0) (vals us)).take (n + m) = vals (us ++ zs) := by
          have hzv : (vals zs).length = n := by rw [vals_len, hzl]
          rw [List.drop_zero, putAt_eq _ ys _ (by omega), putAt_eq _ _ _ (by simp only [List.length_append, List.length_take, List.length_drop]; omega)]
          simp only [Nat.zero_add, Nat.add_zero, List.take_zero, List.nil_append]
          have hnil : List.drop m (List.take m ys) = [] := List.drop_eq_nil_of_le (by rw [List.length_take]; omega)
          rw [hvl, List.append_assoc, List.drop_append_of_le_length (by rw [List.length_take]; omega), hnil, List.nil_append, ← List.append_assoc, List.take_append_of_le_length (by rw [List.length_append]; omega), List.take_of_length_le (by rw [List.length_append]; omega)]
          unfold vals
          rw [List.map_append]
        rw [e1] at h4
        exact h4
    · have hg1 := grownCap_ge w (n + m) c 3
      have hg2 := grownCap_le_maxLen w (n + m) c 3 (by unfold maxLen; omega)
      by_cases h0 : n = 0
      · subst h0
        have hz : zs = [] := List.eq_nil_of_length_eq_zero hzl
        subst hz
        refine (Try.slices_Insert_int_end_grow (some ⟨g, 0, none⟩) 0 c vb 0 m vc [] (vals us) w hm0 hnc (by omega) (by omega) rfl hvl (fun h => rfl) (fun a _ j v h => by simp at h) hvs (vals_one us)).mono ?_
        rintro e w' ⟨rfl, rfl⟩
        refine ⟨_, _, rfl, ?_, grown_trans (grown_drew w _) (grown_new _ _ _), fun k h => Or.inr (by simp only [Option.map_some, Option.some.injEq] at h; omega)⟩
        exact own_new_zeros w.drew B us m _ hm hB hg1 hg2
      · refine (Try.slices_Insert_int_grow g 0 n c 0 vb 0 m vc (vals zs) (vals us) w (by omega) hm0 hnc (by omega) (by omega) (by rw [vals_len, hzl]) hvl hcs hvs (vals_one zs) (vals_one us)).mono ?_
        rintro e w' ⟨rfl, rfl⟩
        generalize hK : grownCap w (n + m) c 3 = K at *
        have hzv : (vals zs).length = n := by rw [vals_len, hzl]
        have ha := own_new w B 3 (((vals zs).take 0).toArray ++ Builtin.zeroCells (Value.int .i64 0).cells (n + m - 0) ++ Builtin.zeroCells (Value.int .i64 0).cells (K - (n + m))) (n + m) K hB (by rw [Array.size_append, Array.size_append, zeros_size, zeros_size]; simp; omega) hg1 hg2
        generalize hcells : ((vals zs).take 0).toArray ++ Builtin.zeroCells (Value.int .i64 0).cells (n + m - 0) ++ Builtin.zeroCells (Value.int .i64 0).cells (K - (n + m)) = cells at *
        have hsz : cells.size = K := by rw [← hcells, Array.size_append, Array.size_append, zeros_size, zeros_size]; simp; omega
        have ha2 : (w.alloc (.cells cells 3)).drew.ownsRow B 3 1 (.slice (some ⟨w.heap.size, 0, none⟩) (n + m) K) (n + m) (cells.toList.take (n + m)) := ha
        have h2 := own_put (vals us) _ _ 0 ha2
        have h2' : ((w.alloc (.cells cells 3)).drew.setCells w.heap.size 0 (vals us)).drew.ownsRow B 3 1 (.slice (some ⟨w.heap.size, 0, none⟩) (n + m) K) (n + m) (putAt (cells.toList.take (n + m)) 0 (vals us)) := h2.1
        have h3 := own_put ((vals zs).drop 0) _ _ (0 + m) h2'
        refine ⟨_, _, rfl, ?_, ?_, fun k h => Or.inr (by simp only [Option.map_some, Option.some.injEq] at h; omega)⟩
        · have e1 : putAt (putAt (cells.toList.take (n + m)) 0 (vals us)) (0 + m) ((vals zs).drop 0) = vals (us ++ zs) := by
            have htl : (cells.toList.take (n + m)).length = n + m := by rw [List.length_take, Array.length_toList]; omega
            rw [List.drop_zero, putAt_eq _ (cells.toList.take (n + m)) _ (by omega), putAt_eq _ _ _ (by simp only [List.length_append, List.length_take, List.length_drop, Array.length_toList]; omega)]
            simp only [Nat.zero_add, List.take_zero, List.nil_append]
            rw [hvl, hzv, List.take_append_of_le_length (by omega), List.take_of_length_le (by omega), List.drop_eq_nil_of_le (by simp only [List.length_append, List.length_take, List.length_drop, Array.length_toList]; omega), List.append_nil]
            unfold vals
            rw [List.map_append]
          rw [← e1]
          exact h3.1
        · exact grown_new_write (grown_trans (grown_new_write (grown_new w _ _) (grown_trans (grown_drew _ _) h2.2) (Nat.le_refl _)) (grown_drew _ _)) h3.2 (Nat.le_refl _)
end Go.Proofs.Ytibephoepkofnaa.Lb
