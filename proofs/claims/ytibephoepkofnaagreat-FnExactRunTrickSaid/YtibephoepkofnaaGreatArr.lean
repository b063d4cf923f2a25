/- IsArrangement of the program (by striking one set out of the other) and of the model (by looking each card up), for all lists of ints. -/
import Derived.Test.YtibephoepkofnaaGreatPok
import Derived.Test.YtibephoepkofnaaGreatPkt
set_option linter.unusedVariables false
set_option maxRecDepth 20000
namespace Go.Proofs.YtibephoepkofnaaGreat.Arr
open Go.RowKit Fr Own Pk Ins Go.Maps Pok Pl

/-- no number twice -/
theorem dist_nodup (zs : List Int) (k : Nat) : (dist zs k).Nodup := by
  induction k with
  | zero => simp [dist]
  | succ k ih =>
    simp only [dist]
    split
    · split
      · exact ih
      · rename_i h
        refine List.nodup_append.2 ⟨ih, by simp, fun a ha b hb => ?_⟩
        have : b = cardF (zs.getD k 0) := by simpa using hb
        intro e; subst e; subst this; exact h ha
    · exact ih
theorem nodup_sub_len : ∀ (l m : List Int), l.Nodup → (∀ x ∈ l, x ∈ m) → l.length ≤ m.length
  | [], _, _, _ => Nat.zero_le _
  | a :: l, m, hn, hs => by
    obtain ⟨h1, h2⟩ := List.nodup_cons.1 hn
    have hm : a ∈ m := hs a (List.mem_cons_self)
    have := nodup_sub_len l (m.erase a) h2 (fun x hx => by
      have hxm := hs x (List.mem_cons_of_mem _ hx)
      have hne : x ≠ a := fun e => h1 (e ▸ hx)
      exact (List.mem_erase_of_ne hne).2 hxm)
    rw [List.length_erase_of_mem hm] at this
    have hp : 0 < m.length := List.length_pos_of_mem hm
    simp only [List.length_cons]; omega
/-- of two lists of one length without repeats, each in the other -/
theorem sub_back (l m : List Int) (hl : l.Nodup) (hm : m.Nodup) (he : l.length = m.length) (hs : ∀ x ∈ l, x ∈ m) : ∀ x ∈ m, x ∈ l := by
  intro x hx
  by_cases h : x ∈ l
  · exact h
  · have := nodup_sub_len (x :: l) m (List.nodup_cons.2 ⟨h, hl⟩) (fun y hy => by
      rcases List.mem_cons.1 hy with e | e
      · rw [e]; exact hx
      · exact hs y e)
    simp only [List.length_cons] at this; omega

/-- are the cards of q all cards of p? -/
def inB (ps qs : List Int) : Bool := decide (∀ c ∈ dist qs qs.length, c ∈ dist ps ps.length)
def arrB (ps qs : List Int) : Bool := okB ps && okB qs && decide (ps.length = qs.length) && inB ps qs
theorem arr_no1 {ps qs : List Int} (h : okB ps = false) : arrB ps qs = false := by unfold arrB; rw [h]; rfl
theorem arr_no2 {ps qs : List Int} (h : okB qs = false) : arrB ps qs = false := by unfold arrB; rw [h, Bool.and_false]; rfl
theorem arr_no3 {ps qs : List Int} (h : ps.length ≠ qs.length) : arrB ps qs = false := by unfold arrB; rw [decide_eq_false h, Bool.and_false]; rfl
theorem arr_in {ps qs : List Int} (h1 : okB ps = true) (h2 : okB qs = true) (h3 : ps.length = qs.length) : arrB ps qs = inB ps qs := by unfold arrB; rw [h1, h2, decide_eq_true h3]; rfl
theorem in_dist {zs : List Int} (h : okB zs = true) (i : Nat) (hi : i < zs.length) : 0 ≤ cardF (zs.getD i 0) := by
  rcases Int.lt_or_le (cardF (zs.getD i 0)) 0 with h1 | h1
  · have := okB_stop zs i hi (dist_neg zs i h1)
    rw [this] at h; cases h
  · exact h1
/-- a card of p that q does not have -/
theorem in_miss {ps qs : List Int} (h1 : okB ps = true) (h2 : okB qs = true) (h3 : ps.length = qs.length) (i : Nat) (hi : i < ps.length) (h : posF qs (cardF (ps.getD i 0)) < 0) : inB ps qs = false := by
  refine decide_eq_false fun hall => ?_
  have e1 := (okB_yes h1).2
  have e2 := (okB_yes h2).2
  have hback := sub_back _ _ (dist_nodup qs qs.length) (dist_nodup ps ps.length) (by omega) hall
  have h0 := in_dist h1 i hi
  have hm := hback _ ((dist_mem ps ps.length _).2 ⟨h0, i, hi, rfl⟩)
  obtain ⟨_, j, hj, e⟩ := (dist_mem qs qs.length _).1 hm
  exact (posF_neg _ _).1 h j hj ⟨h0, e⟩
theorem in_all {ps qs : List Int} (h1 : okB ps = true) (h2 : okB qs = true) (h3 : ps.length = qs.length) (h : ∀ i, i < ps.length → 0 ≤ posF qs (cardF (ps.getD i 0))) : inB ps qs = true := by
  refine decide_eq_true ?_
  have e1 := (okB_yes h1).2
  have e2 := (okB_yes h2).2
  refine sub_back _ _ (dist_nodup ps ps.length) (dist_nodup qs qs.length) (by omega) ?_
  intro c hc
  obtain ⟨h0, i, hi, e⟩ := (dist_mem ps ps.length c).1 hc
  have hp := h i hi
  rw [e] at hp
  refine (dist_mem qs qs.length c).2 ⟨h0, ?_⟩
  rcases Classical.em (∃ j, j < qs.length ∧ cardF (qs.getD j 0) = c) with hx | hx
  · exact hx
  · have := (posF_neg qs c).2 (fun j hj hc => hx ⟨j, hj, hc.2⟩)
    omega


/-! ### the program's: a set is struck out of another -/
theorem size_zero {w : World} {b m : Nat} {D : DataW Unit} (h : w.ownsMap Tryz.prog 3 (plainElem Tryz.prog 4) b m D) : Maps.size D = 0 ↔ ∀ c : Int, Maps.has D (.int .i64 c) = false := by
  obtain ⟨es, clock, hb, F, hs, rfl⟩ := h
  constructor
  · intro h0 c
    have : ((es.toList.map (Go.WideElems.rg Tryz.prog 3 (plainElem Tryz.prog 4))).foldr DataW.insert []) = [] := List.eq_nil_of_length_eq_zero h0
    rw [this]; rfl
  · intro hall
    show ((es.toList.map (Go.WideElems.rg Tryz.prog 3 (plainElem Tryz.prog 4))).foldr DataW.insert []).length = 0
    have hk := fit_keys F
    generalize hl : es.toList.map (Go.WideElems.rg Tryz.prog 3 (plainElem Tryz.prog 4)) = l at hk hall
    cases l with
    | nil => rfl
    | cons p l =>
      exfalso
      obtain ⟨v, hv⟩ := hk p (List.mem_cons_self)
      obtain ⟨x, rfl, hx, hw⟩ := keyOf_int_inv Tryz.underlying3 hv
      have h1 := hall x
      have : Maps.has (.map ((p :: l).foldr DataW.insert []) : DataW Unit) (.int .i64 x) = true := by
        show ((p :: l).foldr DataW.insert []).any (fun q => q.1.sameKey (.int .i64 x)) = true
        rw [List.any_eq_true]
        refine ⟨p, mem_sorted.2 (List.mem_cons_self), ?_⟩
        rw [hx]
        exact WideAt.sameKey_self (keyed.key hv |> fun h => by rw [hx] at h; exact h)
      rw [this] at h1; cases h1


end Go.Proofs.YtibephoepkofnaaGreat.Arr
