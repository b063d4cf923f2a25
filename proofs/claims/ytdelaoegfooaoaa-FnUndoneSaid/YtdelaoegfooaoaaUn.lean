/- What two moves after each other leave, on lists: cuts add up, dealing and flipping twice change nothing. -/
import Derived.Test.YtdelaoegfooaoaaPal
import Derived.Test.YtdelaoegfooaoaaPkl
set_option linter.unusedVariables false
namespace Go.Proofs.Ytdelaoegfooaoaa.Un
open Go.RowKit Fr Own Pk Pl Pok Ins Pfn Mvp Mok2 Pf Pa Pal

theorem mv_at {zs : List Int} {kd : Nat} {k : Nat} {n : Nat} (hl : zs.length = n) (h0 : okB zs = true) (h1 : 1 ≤ n) (hk : kOk kd k n = true) : perfB zs (kd : Int) (k : Int) = true ∧ perfF zs (kd : Int) (k : Int) = moveF kd k zs ∧ (moveF kd k zs).length = n ∧ okB (moveF kd k zs) = true := by
  have h12 := (okB_yes h0).1
  have hb : perfB zs (kd : Int) (k : Int) = true := by
    unfold perfB
    rw [h0, hl, mvB_some (by omega) (by omega) (by omega) (by omega)]
    exact hk
  have hk' : kOk kd k zs.length = true := by rw [hl]; exact hk
  refine ⟨hb, ?_, ?_, ?_⟩
  · rw [perfF_yes hb]; rfl
  · rw [move_len hk' (by omega) h12, hl]
  · exact move_ok hk' (by omega) h0
theorem two_go {zs : List Int} {kd k1 k2 n : Nat} (hl : zs.length = n) (h0 : okB zs = true) (h1 : 1 ≤ n) (hk1 : kOk kd k1 n = true) (hk2 : kOk kd k2 n = true) (hb : moveF kd k2 (moveF kd k1 zs) = zs) :
    allB zs [((kd : Int), (k1 : Int)), ((kd : Int), (k2 : Int))] = true ∧ allF zs [((kd : Int), (k1 : Int)), ((kd : Int), (k2 : Int))] = zs := by
  obtain ⟨a1, a2, a3, a4⟩ := mv_at hl h0 h1 hk1
  obtain ⟨b1, b2, b3, b4⟩ := mv_at a3 a4 h1 hk2
  refine all_at h0 (by show 2 ≤ 20; decide) ?_
  rw [allGo, if_pos a1]
  show allGo [((kd : Int), (k2 : Int))] (perfF zs (kd : Int) (k1 : Int)) = _
  rw [a2, allGo, if_pos b1]
  show allGo [] (perfF (moveF kd k1 zs) (kd : Int) (k2 : Int)) = _
  rw [b2, hb]
  rfl
theorem cut_cut {zs : List Int} {k n : Nat} (hl : zs.length = n) (hk : k ≤ n) : moveF 1 (n - k) (moveF 1 k zs) = zs := by
  show cutL (cutL zs k) (n - k) = zs
  have h1 : (zs.drop k).length = n - k := by rw [List.length_drop, hl]
  unfold cutL
  rw [← h1, List.drop_left, List.take_left, List.take_append_drop]
theorem deal_deal {zs : List Int} {k n : Nat} (hl : zs.length = n) (hk : k ≤ n) : moveF 2 k (moveF 2 k zs) = zs := by
  show dealL (dealL zs k) k = zs
  have h1 : (zs.take k).reverse.length = k := by rw [List.length_reverse, List.length_take, hl]; omega
  unfold dealL
  rw [List.take_append_of_le_length (by omega), List.take_of_length_le (by omega), List.reverse_reverse, List.drop_append_of_le_length (by omega), List.drop_eq_nil_of_le (by omega), List.nil_append, List.take_append_drop]
theorem turn_turn {x : Int} (h : 0 ≤ cardF x) : turnF (turnF x) = x := by
  have hb := cardF_pos h
  unfold turnF
  rw [if_pos hb, if_pos (by omega)]
  omega
theorem flip_flip {zs : List Int} {k n : Nat} (h0 : okB zs = true) (hl : zs.length = n) (hk : k ≤ n) : moveF 3 k (moveF 3 k zs) = zs := by
  have e : ∀ ys : List Int, moveF 3 k ys = (ys.take k).reverse.map turnF ++ ys.drop k := fun ys => rfl
  have h1 : ((zs.take k).reverse.map turnF).length = k := by rw [List.length_map, List.length_reverse, List.length_take, hl]; omega
  have hnil : List.drop k ((zs.take k).reverse.map turnF) = [] := List.drop_eq_nil_of_le (by omega)
  rw [e, e, List.take_append_of_le_length (by omega), List.take_of_length_le (by omega), List.drop_append_of_le_length (by omega), hnil, List.nil_append, ← List.map_reverse, List.reverse_reverse, List.map_map]
  have e2 : (zs.take k).map (turnF ∘ turnF) = zs.take k := by
    conv => rhs; rw [← List.map_id (zs.take k)]
    apply List.map_congr_left
    intro x hx
    obtain ⟨i, hi, ex⟩ := List.getElem_of_mem (List.mem_of_mem_take hx)
    have h := (ok_parts h0).2.1 i hi
    rw [List.getD_eq_getElem?_getD, List.getElem?_eq_getElem hi, Option.getD_some, ex] at h
    exact turn_turn h
  rw [e2, List.take_append_drop]
theorem up_count (zs : List Int) : ∀ k, k ≤ zs.length → upTo zs k = (zs.take k).countP upB
  | 0, _ => rfl
  | k + 1, h => by
    rw [List.take_succ_eq_append_getElem (by omega), List.countP_append, ← up_count zs k (by omega)]
    have e : zs.getD k 0 = zs[k] := by rw [List.getD_eq_getElem?_getD, List.getElem?_eq_getElem (by omega)]; rfl
    cases hu : upB (zs.getD k 0) with
    | true => rw [upTo_yes zs k hu]; rw [e] at hu; simp [hu]
    | false => rw [upTo_no zs k hu]; rw [e] at hu; simp [hu]
theorem up_flip {zs : List Int} {n : Nat} (h0 : okB zs = true) (hl : zs.length = n) : upTo (moveF 3 n zs) n + upTo zs n = n := by
  have e : moveF 3 n zs = zs.reverse.map turnF := by
    show (zs.take n).reverse.map turnF ++ zs.drop n = _
    rw [List.take_of_length_le (by omega), List.drop_eq_nil_of_le (by omega), List.append_nil]
  have hl2 : (zs.reverse.map turnF).length = n := by rw [List.length_map, List.length_reverse, hl]
  rw [e, up_count _ n (by omega), up_count zs n (by omega), List.take_of_length_le (by omega), List.take_of_length_le (by omega), List.countP_map]
  have e2 : zs.reverse.countP (upB ∘ turnF) = zs.countP (fun x => !upB x) := by
    rw [List.countP_reverse]
    apply List.countP_congr
    intro x hx
    obtain ⟨i, hi, ex⟩ := List.getElem_of_mem hx
    have h := (ok_parts h0).2.1 i hi
    rw [List.getD_eq_getElem?_getD, List.getElem?_eq_getElem hi, Option.getD_some, ex] at h
    show upB (turnF x) = true ↔ _
    rw [up_turn h]
  rw [e2]
  have h3 := List.length_eq_countP_add_countP (p := upB) (l := zs)
  have h4 : zs.countP (fun x => !upB x) = zs.countP (fun a => decide (¬ upB a = true)) := by
    apply List.countP_congr
    intro x _
    cases upB x <;> simp
  omega
/-- two moves laid as a literal -/
theorem pairs_lit (W : World) (a b c d : Int) (e : TypeId) : PairsAt (W.alloc (.cells #[.int .i64 a, .int .i64 b, .int .i64 c, .int .i64 d] e)) (W.alloc (.cells #[.int .i64 a, .int .i64 b, .int .i64 c, .int .i64 d] e)).heap.size (some ⟨W.heap.size, 0, none⟩) [(a, b), (c, d)] := by
  have h := heap_alloc_new W (.cells #[.int .i64 a, .int .i64 b, .int .i64 c, .int .i64 d] e)
  have hl := (Array.getElem?_eq_some_iff.1 h).1
  intro j hj
  refine ⟨W.heap.size, 0, rfl, hl, ?_⟩
  unfold World.cell?
  match j, hj with
  | 0, _ => rw [h]; exact ⟨rfl, rfl⟩
  | 1, _ => rw [h]; exact ⟨rfl, rfl⟩
theorem pairs_none (w : World) (B : Nat) : PairsAt w B none [] := fun j hj => absurd hj (by simp)
end Go.Proofs.Ytdelaoegfooaoaa.Un
