/- Facts for FnForces: what the four functions say of one drawn force; the laws' 'has'. -/
import Derived.Test.YtjmfdflhplobmaaFdw
set_option linter.unusedVariables false
set_option maxRecDepth 20000
namespace Go.Proofs.Ytjmfdflhplobmaa.Ffo
open Go.RowKit Fr _root_.Go.Proofs.Ytjmfdflhplobmaa.Own Pk Ins Pfn Rws Fpl Nod Nob Frc Fan Fdr Sam

theorem mem_ends {L : List NV} (h : OkF L) (x : Int) : x ∈ endsI L ↔ x ∈ (ends L).map Prod.snd := by
  unfold endsI
  rw [ok_yes h]
  show x ∈ sortU (leaves L L.length) ↔ _
  rw [mem_sortU, ends_leaves h]
theorem sort_ends {L : List NV} (h : OkF L) : SortS (endsI L) := by
  unfold endsI
  rw [ok_yes h]
  exact sort_sortU _
/-- forced: no answers lead elsewhere -/
theorem forced_wrong {L : List NV} (hg : GoodL L) (ob : Int) : forcedB L ob = !wrongB L ob := by
  have h := hg.ok
  have hne := hg.ends
  unfold forcedB wrongB
  rw [wrong_is h]
  cases hf : (ends L).find? fun e => !decide (e.2 = ob) with
  | none =>
    have hall := List.find?_eq_none.1 hf
    refine decide_eq_true ?_
    refine sort_eq (sort_ends h) (by simp [SortS]) fun x => ?_
    rw [List.mem_singleton]
    constructor
    · intro hx
      obtain ⟨e, he, rfl⟩ := List.mem_map.1 ((mem_ends h x).1 hx)
      simpa using hall e he
    · rintro rfl
      obtain ⟨y, hy⟩ := List.exists_mem_of_ne_nil _ hne
      obtain ⟨e, he, rfl⟩ := List.mem_map.1 ((mem_ends h y).1 hy)
      have : e.2 = x := by simpa using hall e he
      rw [this] at hy
      exact hy
  | some e =>
    have hm := List.mem_of_find?_eq_some hf
    have hp := List.find?_some hf
    refine decide_eq_false fun e2 => ?_
    have h1 := (mem_ends h e.2).2 (List.mem_map.2 ⟨e, hm, rfl⟩)
    rw [e2, List.mem_singleton] at h1
    simp [h1] at hp
theorem wrong_short {L : List NV} (hg : GoodL L) (ob : Int) : ((wrongL L ob).length : Int) ≤ depthI L := by
  have h := hg.ok
  unfold wrongL
  rw [wrong_is h]
  cases hf : (ends L).find? fun e => !decide (e.2 = ob) with
  | none =>
    have := (depth_bd L L.length 0).1
    rw [Fde.depth_ok h]
    show ((0 : Nat) : Int) ≤ _
    omega
  | some e =>
    rw [Fde.depth_ml h]
    exact ml_mem (List.mem_of_find?_eq_some hf) _
theorem wrong_play {L : List NV} (hg : GoodL L) {ob : Int} (hb : wrongB L ob = true) : ∃ j : Nat, j < L.length ∧ playI L (wrongL L ob) = j ∧ playB L (wrongL L ob) = true ∧ nx L j = [] ∧ fi L j ≠ ob ∧ fi L j ∈ endsI L := by
  have h := hg.ok
  unfold wrongB at hb
  unfold wrongL
  rw [wrong_is h] at *
  cases hf : (ends L).find? fun e => !decide (e.2 = ob) with
  | none => rw [hf] at hb; cases hb
  | some e =>
    have hm := List.mem_of_find?_eq_some hf
    have hp := List.find?_some hf
    obtain ⟨j, h1, h2, h3, h4⟩ := end_play h _ 0 e h.pos hm
    obtain ⟨a, b⟩ := play_good ((play_ok h e.1).trans h2)
    refine ⟨j, h1, a, b, h3, ?_, ?_⟩
    · rw [← h4]
      simpa using hp
    · rw [← h4]
      exact (mem_ends h e.2).2 (List.mem_map.2 ⟨e, hm, rfl⟩)
theorem play_fits {L : List NV} (hb : BigN L) : ∀ (ws : List Int) (i j : Nat), playF L i ws = some j → ∀ a ∈ ws, 0 ≤ a ∧ a ≤ 1048576
  | [], _, _, _, a, ha => by cases ha
  | x :: ws, i, j, h, a, ha => by
    rw [playF] at h
    split at h
    · rename_i hx
      have hn := nx_small hb i
      rcases List.mem_cons.1 ha with rfl | ha
      · omega
      · exact play_fits hb ws _ _ h a ha
    · cases h
theorem wrong_fits {L : List NV} (hg : GoodL L) (ob : Int) : Fits (wrongL L ob) := by
  have h := hg.ok
  unfold wrongL
  rw [wrong_is h]
  cases hf : (ends L).find? fun e => !decide (e.2 = ob) with
  | none => intro i hi; exact absurd hi (Nat.not_lt_zero _)
  | some e =>
    obtain ⟨j, h1, h2, h3, h4⟩ := end_play h _ 0 e h.pos (List.mem_of_find?_eq_some hf)
    intro i hi
    change i < e.1.length at hi
    have hm : e.1.getD i 0 ∈ e.1 := by rw [List.getD_eq_getElem?_getD, List.getElem?_eq_getElem hi]; exact List.getElem_mem _
    have := play_fits hg.big e.1 0 j h2 _ hm
    show -9223372036854775808 ≤ e.1.getD i 0 ∧ e.1.getD i 0 ≤ 9223372036854775807
    omega
set_option maxHeartbeats 1000000 in
theorem law_has (A : Option Addr) (n c : Nat) (zs : List Int) (x : Int) (w : World) (hn : zs.length = n) (hn2 : n ≤ 9223372036854775807) (hss : IntsAt w w.heap.size .i64 A zs) :
    Calls Try.prog 22 #[.slice A n c, .int .i64 x] w fun e w' => e = .returned (.bool (Pok.hasB zs x)) ∧ w = w' := by
  have HN := Lib.hid hn
  clear hn
  go_enter Try.func22, Try.ntmps22
  go_wp2
  go_loop [6, 9] (fun _ i => ∃ j : Nat, j ≤ n ∧ i = .int .i64 j ∧ Hid (∀ i, i < j → zs.getD i 0 ≠ x)) (fun _ i => n - (intOf i).toNat)
  case atStart => exact ⟨0, Nat.zero_le _, rfl, (fun i hi => absurd hi (Nat.not_lt_zero _))⟩
  case round =>
    obtain ⟨j, hj, rfl, HE⟩ := hrel
    by_cases hlt : j < n
    · obtain ⟨b, o, rfl, hbb, hc⟩ := hss j (by rw [HN.out]; exact hlt)
      have hlt' : j < zs.length := by rw [HN.out]; exact hlt
      have hyes : zs.getD j 0 = x → Pok.hasB zs x = true := by
        intro e
        refine decide_eq_true ?_
        rw [← e, List.getD_eq_getElem?_getD, List.getElem?_eq_getElem hlt']
        exact List.getElem_mem _
      have hst : zs.getD j 0 ≠ x → ∀ i, i < j + 1 → zs.getD i 0 ≠ x := by
        intro e i hi
        by_cases hik : i = j
        · rw [hik]; exact e
        · exact HE.out i (by omega)
      generalize zs.getD j 0 = y at hc hyes hst
      by_cases hxy : y = x
      · have HS := Lib.hid (hyes hxy)
        have hb : (y == x) = true := by simpa using hxy
        clear hst hyes HE hxy hlt'
        go_wp2
        go_ret
        exact ⟨ret_b HS.out.symm, rfl⟩
      · have HS := Lib.hid (hst hxy)
        have hb : (y == x) = false := by simpa using hxy
        clear hst hyes HE hxy hlt'
        go_wp2
        go_round
        case rel => exact ⟨j + 1, by omega, by go_num, HS.out⟩
        case measure => simp [intOf]; omega
    · have hjn : j = n := by omega
      have hno : Pok.hasB zs x = false := by
        refine decide_eq_false fun hm => ?_
        obtain ⟨i, hi, e⟩ := List.mem_iff_getElem.1 hm
        have h9 := HE.out i (by rw [hjn, ← HN.out]; exact hi)
        rw [List.getD_eq_getElem?_getD, List.getElem?_eq_getElem hi] at h9
        exact h9 e
      have HS := Lib.hid hno
      clear hno HE hjn
      go_wp2
      go_ret
      exact ⟨ret_b HS.out.symm, rfl⟩
end Go.Proofs.Ytjmfdflhplobmaa.Ffo
