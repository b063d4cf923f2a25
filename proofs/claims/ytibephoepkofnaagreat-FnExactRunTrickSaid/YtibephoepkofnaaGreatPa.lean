/- Perform of the model; PermOfMove of the program and of the model. -/
import Derived.Test.YtibephoepkofnaaGreatDo
set_option linter.unusedVariables false
set_option maxRecDepth 20000
namespace Go.Proofs.YtibephoepkofnaaGreat.Pa
open Go.RowKit Fr Own Pk Pok Arr Ins Nwp Pfn Rws Lb Cat Mvp Mv1 Mv2 Mv3 Mv4 Mk Mok2 Pf Sv Sv2 Sv3 Do

theorem box_kept {w W : World} {kd k : Int} (hb : Below (w.alloc (.cells #[.int .i64 kd, .int .i64 k] 34)).heap.size (w.alloc (.cells #[.int .i64 kd, .int .i64 k] 34)) W) : W.cell? ⟨w.heap.size, 0, none⟩ = some (.int .i64 kd) ∧ W.cell? ⟨w.heap.size, 1, none⟩ = some (.int .i64 k) := by
  have h := heap_alloc_new w (.cells #[.int .i64 kd, .int .i64 k] 34)
  have hl := (Array.getElem?_eq_some_iff.1 h).1
  have h2 := (hb.block w.heap.size hl).trans h
  unfold World.cell?
  rw [h2]
  exact ⟨rfl, rfl⟩
theorem do_any (A : Option Addr) (n c : Nat) (kd k : Int) (zs : List Int) (w : World) (hR : Ready A n c zs w) (hmv : mvB n kd k = true) :
    Calls Tryz.prog 53 #[.slice A n c, .agg #[.int .i64 kd, .int .i64 k]] w (IsIL w.heap.size (moveF kd.toNat k.toNat zs) w) := by
  have hp := mvB_parts hmv
  rcases (show kd = 1 ∨ kd = 2 ∨ kd = 3 ∨ kd = 4 ∨ kd = 5 ∨ kd = 6 ∨ kd = 7 ∨ kd = 8 ∨ kd = 9 by omega) with rfl | rfl | rfl | rfl | rfl | rfl | rfl | rfl | rfl
  · exact do_1 A n c k zs w hR hmv
  · exact do_2 A n c k zs w hR hmv
  · exact do_3 A n c k zs w hR hmv
  · exact do_4 A n c k zs w hR hmv
  · exact do_5 A n c k zs w hR hmv
  · exact do_6 A n c k zs w hR hmv
  · exact do_7 A n c k zs w hR hmv
  · exact do_8 A n c k zs w hR hmv
  · exact do_9 A n c k zs w hR hmv

/-! ### PermOfMove -/
def pomF (n kd k : Int) : List Int := if mvB n kd k then srcI kd.toNat k.toNat n.toNat else []
theorem pomF_yes {n kd k : Int} (h : mvB n kd k = true) : pomF n kd k = srcI kd.toNat k.toNat n.toNat := by unfold pomF; rw [if_pos h]
theorem pomF_no {n kd k : Int} (h : mvB n kd k = false) : pomF n kd k = [] := by unfold pomF; rw [h]; rfl
theorem pom_short (n kd k : Int) : (pomF n kd k).length ≤ 1048576 := by
  cases h : mvB n kd k with
  | true =>
    obtain ⟨h1, h2, h3, h4, h5, h6⟩ := mvB_parts h
    rw [pomF_yes h, srcI_len h6 (by omega) (by omega)]; omega
  | false => rw [pomF_no h]; exact Nat.zero_le _
theorem new_perf (n kd k : Int) : perfB (newF n) kd k = mvB n kd k := by
  by_cases h : 0 ≤ n ∧ n ≤ 12
  · have hl : ((newF n).length : Int) = n := by unfold newF; rw [if_pos h, imarks_length]; omega
    have ho : okB (newF n) = true := by unfold newF; rw [if_pos h]; exact new_ok _ (by omega)
    unfold perfB
    rw [ho, hl]; rfl
  · rw [newF_no n h, mvB_out (fun h2 => h ⟨by omega, h2.2.1⟩)]
    unfold perfB
    rw [show (([] : List Int).length : Int) = 0 from rfl, mvB_out (fun h2 => by omega), Bool.and_false]
theorem new_at {n kd k : Int} (h : mvB n kd k = true) : newF n = imarks 0 n.toNat ∧ perfF (newF n) kd k = moveF kd.toNat k.toNat (imarks 0 n.toNat) := by
  have hp := mvB_parts h
  have e : newF n = imarks 0 n.toNat := by unfold newF; rw [if_pos (by omega)]
  refine ⟨e, ?_⟩
  rw [perfF_yes (by rw [new_perf]; exact h), e]
theorem new_bet {n kd k : Int} (h : mvB n kd k = true) : betF (newF n) (perfF (newF n) kd k) = pomF n kd k ∧ arrB (newF n) (perfF (newF n) kd k) = true := by
  obtain ⟨h1, h2, h3, h4, h5, h6⟩ := mvB_parts h
  obtain ⟨e1, e2⟩ := new_at h
  rw [e2, e1, pomF_yes h]
  have hl := imarks_length 0 n.toNat
  have h6' : kOk kd.toNat k.toNat (imarks 0 n.toNat).length = true := by rw [hl]; exact h6
  have ho := new_ok n.toNat (by omega)
  refine ⟨?_, move_arr h6' (by omega) ho⟩
  rw [move_bet h6' (by omega) ho, hl]
theorem perf_fits {zs : List Int} {kd k : Int} (hz : Fits zs) : Fits (perfF zs kd k) := by
  cases h : perfB zs kd k with
  | true =>
    obtain ⟨h1, h2, h3, h4, h5, h6, h7⟩ := perf_parts h
    rw [perfF_yes h]
    exact move_fits h7 h2 h1
  | false => rw [perfF_no h]; intro i hi; simp at hi
theorem new_fits (n : Int) : Fits (newF n) := by
  by_cases h : 0 ≤ n ∧ n ≤ 12
  · have ho : okB (newF n) = true := by unfold newF; rw [if_pos h]; exact new_ok _ (by omega)
    exact ok_fits ho
  · rw [newF_no n h]; intro i hi; simp at hi
theorem new_short (n : Int) : (newF n).length ≤ 12 := by
  unfold newF
  split
  · rw [imarks_length]; omega
  · simp
theorem row_cap {w : World} {B : Nat} {A : Option Addr} {n c : Nat} {xs : List Value} (h : w.ownsRow B 3 1 (.slice A n c) n xs) : n ≤ c := by
  rcases own_full h with ⟨_, h1, h2⟩ | ⟨_, _, _, _, _, h2, _⟩
  · omega
  · exact h2
end Go.Proofs.YtibephoepkofnaaGreat.Pa
