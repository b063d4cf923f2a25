/- Lists of lists that the laws hold against each other: how great they may be; a list of lists and a bool as the results of a call. -/
import Derived.Test.YtibephoepkofnaaGreatSrt
set_option linter.unusedVariables false
set_option maxRecDepth 20000
namespace Go.Proofs.YtibephoepkofnaaGreat.Big
open Go.RowKit Fr Own Ins Rws Srt Sst

/-- not too many, and not too long together -/
def BigSS (zss : List (List Int)) : Prop := zss.length ≤ 1048576 ∧ tots zss ≤ 1048576
theorem tots_mem : ∀ {l : List (List Int)} {x : List Int}, x ∈ l → x.length ≤ tots l
  | [], _, h => by cases h
  | a :: l, x, h => by
    rw [tots_cons]
    rcases List.mem_cons.1 h with rfl | h
    · omega
    · have := tots_mem h; omega
theorem big_len {rs : List RD} {zss : List (List Int)} (h : rs.map RD.zs = zss) (hs : BigSS zss) (i : Nat) : (rs.getD i rd0).zs.length ≤ 1048576 := by
  by_cases hi : i < rs.length
  · refine Nat.le_trans (tots_mem (l := zss) ?_) hs.2
    rw [← h, List.getD_eq_getElem?_getD, List.getElem?_eq_getElem hi]
    exact List.mem_map.2 ⟨rs[i], List.getElem_mem _, rfl⟩
  · rw [List.getD_eq_getElem?_getD, List.getElem?_eq_none (by omega)]
    exact Nat.zero_le _
theorem tot_eq : ∀ (rs : List RD) (n : Nat), n ≤ rs.length → tot rs n = tots ((rs.map RD.zs).take n)
  | rs, 0, _ => rfl
  | rs, n + 1, h => by
    show tot rs n + (rs.getD n rd0).zs.length = _
    rw [tot_eq rs n (by omega), List.take_succ_eq_append_getElem (by rw [List.length_map]; omega), tots_append, tots_cons, tots_nil]
    simp [List.getD_eq_getElem?_getD, List.getElem?_eq_getElem (show n < rs.length by omega)]
theorem tots_take (l : List (List Int)) (n : Nat) : tots (l.take n) ≤ tots l := by
  have h : tots l = tots (l.take n ++ l.drop n) := by rw [List.take_append_drop]
  rw [tots_append] at h
  omega
theorem tot_over : ∀ (rs : List RD) (n : Nat), tot rs n ≤ tots (rs.map RD.zs)
  | rs, 0 => Nat.zero_le _
  | rs, n + 1 => by
    by_cases h : n + 1 ≤ rs.length
    · rw [tot_eq rs (n + 1) h]; exact tots_take _ _
    · show tot rs n + (rs.getD n rd0).zs.length ≤ _
      have := tot_over rs n
      rw [List.getD_eq_getElem?_getD, List.getElem?_eq_none (by omega)]
      exact this
theorem big_tot {rs : List RD} {zss : List (List Int)} (h : rs.map RD.zs = zss) (hs : BigSS zss) (n : Nat) : tot rs n ≤ 1048576 := by
  have := tot_over rs n
  rw [h] at this
  exact Nat.le_trans this hs.2
theorem big_of {ls : List RD} {n : Nat} (hn : ls.length = n) (h : n + tot ls n ≤ 1048576) : BigSS (ls.map RD.zs) := by
  refine ⟨by rw [List.length_map]; omega, ?_⟩
  have e := tot_eq ls n (by omega)
  rw [List.take_of_length_le (by rw [List.length_map]; omega)] at e
  omega
theorem big_cano {l : List (List Int)} (h : BigSS l) : BigSS (cano l) := ⟨Nat.le_trans (cano_size l).1 h.1, Nat.le_trans (cano_size l).2 h.2⟩
theorem big_small {zss : List (List Int)} (h : zss.length ≤ 10000) (h2 : ∀ x ∈ zss, x.length ≤ 100) : BigSS zss := by
  refine ⟨by omega, ?_⟩
  have : ∀ l : List (List Int), (∀ x ∈ l, x.length ≤ 100) → tots l ≤ 100 * l.length := by
    intro l
    induction l with
    | nil => exact fun _ => Nat.zero_le _
    | cons a l ih =>
      intro h
      have h1 := h a (List.mem_cons_self ..)
      have h2 := ih (fun x hx => h x (List.mem_cons_of_mem _ hx))
      rw [tots_cons, List.length_cons]
      omega
  have := this zss h2
  omega
theorem big_lens {zss : List (List Int)} (h : BigSS zss) : ∀ x ∈ zss, x.length ≤ 1048576 := fun x hx => Nat.le_trans (tots_mem hx) h.2
theorem cast {B : Nat} {zss zss' : List (List Int)} {w w' : World} {e : Ending} (hz : zss = zss') (h : IsSS B zss w e w') : IsSS B zss' w e w' := by rw [← hz]; exact h
/-- a call hands back a list of lists of its own, and a bool -/
def IsSSB (B : Nat) (zss : List (List Int)) (b : Bool) (w : World) (e : Ending) (w' : World) : Prop :=
  ∃ A c rs, e = .returned (.tuple #[.slice A zss.length c, .bool b]) ∧ rs.map RD.zs = zss ∧ SSRow w' B w'.heap.size A zss.length c rs ∧ Below B w w'
theorem castb {B : Nat} {zss zss' : List (List Int)} {b b' : Bool} {w w' : World} {e : Ending} (hz : zss = zss') (hb : b = b') (h : IsSSB B zss b w e w') : IsSSB B zss' b' w e w' := by rw [← hz, ← hb]; exact h
end Go.Proofs.YtibephoepkofnaaGreat.Big
