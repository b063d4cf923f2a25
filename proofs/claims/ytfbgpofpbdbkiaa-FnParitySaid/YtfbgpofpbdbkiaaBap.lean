/- Facts for FnParity: what turning the top two cards over and cutting leave of the balance; how many cards SplitSides names. -/
import Derived.Test.YtfbgpofpbdbkiaaBak
import Derived.Test.YtfbgpofpbdbkiaaSpt
import Derived.Test.YtfbgpofpbdbkiaaMkq
set_option linter.unusedVariables false
set_option maxRecDepth 20000
namespace Go.Proofs.Ytfbgpofpbdbkiaa.Bap
open Go.RowKit Fr _root_.Go.Proofs.Ytfbgpofpbdbkiaa.Own Pk Pok Ins Pl Prm Pfn Rws Mvp Pf Bal Bak Spt

/-- the number of signs 1 of a list of sides, from a place of this parity on -/
def bN : Bool → List Bool → Nat
  | _, [] => 0
  | q, b :: r => (if b == q then 1 else 0) + bN (!q) r
theorem bN_append (q : Bool) (xs ys : List Bool) : bN q (xs ++ ys) = bN q xs + bN (q == (xs.length % 2 == 0)) ys := by
  induction xs generalizing q with
  | nil => simp [bN]
  | cons b r ih =>
    simp only [List.cons_append, bN, List.length_cons]
    rw [ih]
    rcases Nat.mod_two_eq_zero_or_one r.length with h | h
    · rw [h, show (r.length + 1) % 2 = 1 by omega]
      cases q <;> simp <;> omega
    · rw [h, show (r.length + 1) % 2 = 0 by omega]
      cases q <;> simp <;> omega
theorem bN_not (q : Bool) (xs : List Bool) : bN q xs + bN (!q) xs = xs.length := by
  induction xs generalizing q with
  | nil => rfl
  | cons b r ih =>
    have h := ih q
    simp only [bN, List.length_cons, Bool.not_not]
    have e : (if b == q then 1 else 0) + (if b == !q then 1 else 0) = 1 := by cases b <;> cases q <;> rfl
    omega
theorem take_succ' {zs : List Int} {k : Nat} (h : k < zs.length) : zs.take (k + 1) = zs.take k ++ [zs.getD k 0] := by
  rw [List.take_succ_eq_append_getElem h, getD_lt h]
theorem bal_bits (zs : List Int) : ∀ k, k ≤ zs.length → balN zs k = bN true ((zs.take k).map upB)
  | 0, _ => by simp [balN, bN]
  | k + 1, h => by
    have ih := bal_bits zs k (by omega)
    rw [take_succ' (by omega), List.map_append, bN_append, ← ih]
    simp only [balN, List.map_cons, List.map_nil, bN, List.length_map, List.length_take, Nat.min_eq_left (show k ≤ zs.length by omega)]
    unfold sgB
    rcases Nat.mod_two_eq_zero_or_one k with h0 | h0
    · rw [h0]; cases upB (zs.getD k 0) <;> rfl
    · rw [h0]; cases upB (zs.getD k 0) <;> rfl
theorem bal_all (zs : List Int) : balN zs zs.length = bN true (zs.map upB) := by
  rw [bal_bits zs _ (Nat.le_refl _), List.take_of_length_le (Nat.le_refl _)]
theorem cut_bal {zs : List Int} {k n : Nat} (hn : zs.length = n) (he : n % 2 = 0) (hk : k ≤ n) : balN (moveF 1 k zs) n = balN zs n ∨ balN (moveF 1 k zs) n + balN zs n = n := by
  have hm : moveF 1 k zs = zs.drop k ++ zs.take k := rfl
  have hl : (moveF 1 k zs).length = n := by rw [hm, List.length_append, List.length_drop, List.length_take]; omega
  have e1 := bal_all (moveF 1 k zs)
  have e2 := bal_all zs
  rw [hl] at e1
  rw [hn] at e2
  have e3 : zs.map upB = (zs.take k).map upB ++ (zs.drop k).map upB := by rw [← List.map_append, List.take_append_drop]
  rw [e3, bN_append, List.length_map, List.length_take, Nat.min_eq_left (by omega)] at e2
  have e4 : (moveF 1 k zs).map upB = (zs.drop k).map upB ++ (zs.take k).map upB := by rw [hm, List.map_append]
  rw [e4, bN_append, List.length_map, List.length_drop] at e1
  have n1 := bN_not true ((zs.take k).map upB)
  have n2 := bN_not true ((zs.drop k).map upB)
  rw [List.length_map, List.length_take, Nat.min_eq_left (by omega)] at n1
  rw [List.length_map, List.length_drop] at n2
  rcases Nat.mod_two_eq_zero_or_one k with h0 | h0
  · rw [h0, show (true == (0 == 0)) = true from rfl] at e2
    rw [show (zs.length - k) % 2 = 0 by omega, show (true == (0 == 0)) = true from rfl] at e1
    left
    omega
  · rw [h0, show (true == (1 == 0)) = false from rfl] at e2
    rw [show (zs.length - k) % 2 = 1 by omega, show (true == (1 == 0)) = false from rfl] at e1
    right
    rw [show (!true) = false from rfl] at n1 n2
    omega
theorem flip_bal {zs : List Int} {n : Nat} (hz : okB zs = true) (hn : zs.length = n) (h2 : 2 ≤ n) : balN (moveF 3 2 zs) n = balN zs n := by
  match zs, hn, hz with
  | a :: b :: r, hn, hz =>
    have hm : moveF 3 2 (a :: b :: r) = turnF b :: turnF a :: r := rfl
    have ha := up_turn (show 0 ≤ cardF a from (ok_parts hz).2.1 0 (by simp))
    have hb := up_turn (show 0 ≤ cardF b from (ok_parts hz).2.1 1 (by simp))
    have e1 := bal_all (moveF 3 2 (a :: b :: r))
    have e2 := bal_all (a :: b :: r)
    rw [hn] at e2
    rw [hm, show (turnF b :: turnF a :: r).length = n from hn] at e1
    rw [hm, e1, e2]
    simp only [List.map_cons, bN, ha, hb]
    cases upB a <;> cases upB b <;> simp
  | [_], hn, _ => simp at hn; omega
  | [], hn, _ => simp at hn; omega
/-- a step of the law: the move is possible, keeps the packet valid and the balance or turns it into its complement -/
theorem flip_step {zs : List Int} {n : Nat} (hz : okB zs = true) (hn : zs.length = n) (h2 : 2 ≤ n) :
    perfB zs 3 2 = true ∧ perfF zs 3 2 = moveF 3 2 zs ∧ (moveF 3 2 zs).length = n ∧ okB (moveF 3 2 zs) = true ∧ balN (moveF 3 2 zs) n = balN zs n := by
  have h12 := (okB_yes hz).1
  have hk : kOk 3 2 zs.length = true := by unfold kOk; simp; omega
  have hp : perfB zs 3 2 = true := by
    unfold perfB mvB
    rw [hz, decide_eq_true (show 1 ≤ ((zs.length : Nat) : Int) ∧ ((zs.length : Nat) : Int) ≤ 12 by omega)]
    exact hk
  exact ⟨hp, perfF_yes hp, by rw [move_len hk (by omega) h12, hn], move_ok hk (by omega) hz, flip_bal hz hn h2⟩
theorem cut_step {zs : List Int} {n k : Nat} (hz : okB zs = true) (hn : zs.length = n) (h2 : 2 ≤ n) (he : n % 2 = 0) (hk0 : k ≤ n) :
    perfB zs 1 (k : Int) = true ∧ perfF zs 1 (k : Int) = moveF 1 k zs ∧ (moveF 1 k zs).length = n ∧ okB (moveF 1 k zs) = true ∧ (balN (moveF 1 k zs) n = balN zs n ∨ balN (moveF 1 k zs) n + balN zs n = n) := by
  have h12 := (okB_yes hz).1
  have hk : kOk 1 k zs.length = true := by unfold kOk; simp; omega
  have hp : perfB zs 1 (k : Int) = true := by
    unfold perfB mvB
    rw [hz, decide_eq_true (show 1 ≤ ((zs.length : Nat) : Int) ∧ ((zs.length : Nat) : Int) ≤ 12 by omega), decide_eq_true (show 0 ≤ (k : Int) ∧ 0 ≤ (1 : Int) by omega)]
    exact hk
  exact ⟨hp, perfF_yes hp, by rw [move_len hk (by omega) h12, hn], move_ok hk (by omega) hz, cut_bal hn he hk0⟩
theorem upL_cnt (zs : List Int) : ∀ k, (upL zs k).length = upTo zs k
  | 0 => rfl
  | k + 1 => by
    have ih := upL_cnt zs k
    cases h : upB (zs.getD k 0) with
    | true => rw [upL_yes h, upTo_yes zs k h, List.length_append, List.length_singleton, ih]
    | false => rw [upL_no h, upTo_no zs k h, ih]
theorem all_cnt {zs : List Int} (hz : okB zs = true) : ∀ k, k ≤ zs.length → (upL zs k).length + (dnL zs k).length = k
  | 0, _ => rfl
  | k + 1, hk => by
    have ih := all_cnt hz k (by omega)
    have hc := (ok_parts hz).2.1 k (by omega)
    cases h : upB (zs.getD k 0) with
    | true => rw [upL_yes h, dnL_up h, List.length_append, List.length_singleton]; omega
    | false => rw [upL_no h, dnL_yes h hc, List.length_append, List.length_singleton]; omega
/-- KeepsBalance says yes -/
theorem keep_step {zs : List Int} {kd k : Int} {n : Nat} {q : List Int} (hn : zs.length = n) (hz : okB zs = true) (he : n % 2 = 0) (hp : perfB zs kd k = true) (hq : perfF zs kd k = q) (hb : balN q n = balN zs n ∨ balN q n + balN zs n = n) : keepB zs kd k = true := by
  rw [keep_at hn (bal_of hz (by rw [hn]; exact he)) hp rfl (show balN (perfF zs kd k) n = balN q n by rw [hq])]
  exact decide_eq_true hb
theorem range2 {W : World} {g : Nat} {x y : Value} {e : TypeId} (h : W.heap[g]? = some (.cells #[x, y] e (0, 0))) : W.rangeAt g 0 [x, y] := by
  intro j v hv
  unfold World.cell?
  match j, hv with
  | 0, hv => simp at hv; subst hv; simp [h]
  | 1, hv => simp at hv; subst hv; simp [h]
/-- a box of two ints of the law's own, written as a move -/
abbrev boxW (w : World) (x y : Int) : World := w.alloc (.cells #[.int .i64 x, .int .i64 y] 37)
theorem put2 {W : World} {p : Nat} {a b x y : Value} {t : TypeId} (hp : W.heap[p]? = some (.cells #[a, b] t (0, 0))) : ((W.setCell ⟨p, 0, none⟩ x).setCell ⟨p, 1, none⟩ y).heap[p]? = some (.cells #[x, y] t (0, 0)) := by
  have h1 := heap_setCell_same W p 0 #[a, b] t x hp
  have h2 := heap_setCell_same _ p 1 _ t y h1
  exact h2
theorem frz {W : World} {p : Nat} {cs : Array Value} {t : TypeId} (hp : W.heap[p]? = some (.cells cs t (0, 0))) (j : Nat) : W.frozen? ⟨p, j, none⟩ = false := frozen_of_row W p j cs t hp
theorem box_at (w : World) (x y : Int) : (boxW w x y).heap[w.heap.size]? = some (.cells #[.int .i64 x, .int .i64 y] 37 (0, 0)) := heap_alloc_new w _
theorem box_below (w : World) (x y : Int) : Below w.heap.size w (boxW w x y) := (Below.refl _ w).alloc (Nat.le_refl _) _
theorem box_size (w : World) (x y : Int) : w.heap.size < (boxW w x y).heap.size := by simp
theorem set_grown (w : World) (g j : Nat) (v : Value) : w.grownBy (w.setCell ⟨g, j, none⟩ v) (some g) :=
  ⟨rfl, rfl, rfl, by simp, fun k _ hk => heap_setCell_other w ⟨g, j, none⟩ k v (fun e => hk (by simp [e]))⟩
theorem put2_grown (w : World) (p : Nat) (x y : Value) : w.grownBy ((w.setCell ⟨p, 0, none⟩ x).setCell ⟨p, 1, none⟩ y) (some p) := (set_grown w p 0 x).trans (set_grown _ p 1 y)
theorem cell2 {W : World} {p : Nat} {x y : Value} {e : TypeId} (h : W.heap[p]? = some (.cells #[x, y] e (0, 0))) : W.cell? ⟨p, 0, none⟩ = some x ∧ W.cell? ⟨p, 1, none⟩ = some y :=
  ⟨range2 h 0 x rfl, range2 h 1 y rfl⟩
end Go.Proofs.Ytfbgpofpbdbkiaa.Bap
