/- PacketOk of the program (by a set of the cards) and of the model (by a list of them), for every list of ints; and l02Has. -/
import Derived.Test.YtjmfdflhplobmaaPkt
import Derived.Maps.OwnSet
import Derived.Maps.RangeWalk
set_option linter.unusedVariables false
set_option maxRecDepth 20000
namespace Go.Proofs.Ytjmfdflhplobmaa.Pok
open Go.RowKit Fr Own Pk Ins Go.Maps

/-- the different cards of the first k elements, in their order -/
def dist (zs : List Int) : Nat → List Int
  | 0 => []
  | k + 1 => if 0 ≤ cardF (zs.getD k 0) then (if cardF (zs.getD k 0) ∈ dist zs k then dist zs k else dist zs k ++ [cardF (zs.getD k 0)]) else dist zs k
theorem dist_neg (zs : List Int) (k : Nat) (h : cardF (zs.getD k 0) < 0) : dist zs (k + 1) = dist zs k := by simp only [dist]; rw [if_neg (by omega)]
theorem dist_old (zs : List Int) (k : Nat) (h : cardF (zs.getD k 0) ∈ dist zs k) : dist zs (k + 1) = dist zs k := by
  by_cases h0 : 0 ≤ cardF (zs.getD k 0)
  · simp only [dist]; rw [if_pos h0, if_pos h]
  · exact dist_neg zs k (by omega)
theorem dist_new (zs : List Int) (k : Nat) (h0 : 0 ≤ cardF (zs.getD k 0)) (h : cardF (zs.getD k 0) ∉ dist zs k) : dist zs (k + 1) = dist zs k ++ [cardF (zs.getD k 0)] := by
  simp only [dist]; rw [if_pos h0, if_neg h]
theorem dist_some (zs : List Int) (k : Nat) (h0 : 0 ≤ cardF (zs.getD k 0)) : dist zs (k + 1) = if cardF (zs.getD k 0) ∈ dist zs k then dist zs k else dist zs k ++ [cardF (zs.getD k 0)] := by
  simp only [dist]; rw [if_pos h0]
theorem dist_step (zs : List Int) (k : Nat) : (dist zs (k + 1)).length ≤ (dist zs k).length + 1 := by
  simp only [dist]
  split
  · split
    · omega
    · simp
  · omega
theorem dist_len (zs : List Int) (k : Nat) : (dist zs k).length ≤ k := by
  induction k with
  | zero => simp [dist]
  | succ k ih => have := dist_step zs k; omega
theorem dist_far (zs : List Int) (k j : Nat) : (dist zs (k + j)).length ≤ (dist zs k).length + j := by
  induction j with
  | zero => exact Nat.le_refl _
  | succ j ih => have := dist_step zs (k + j); rw [← Nat.add_assoc]; omega
theorem dist_mem (zs : List Int) (k : Nat) (c : Int) : c ∈ dist zs k ↔ 0 ≤ c ∧ ∃ i, i < k ∧ cardF (zs.getD i 0) = c := by
  induction k with
  | zero => simp [dist]
  | succ k ih =>
    constructor
    · intro h
      by_cases h0 : 0 ≤ cardF (zs.getD k 0)
      · rw [dist_some zs k h0] at h
        split at h
        · obtain ⟨a, i, hi, e⟩ := ih.1 h; exact ⟨a, i, by omega, e⟩
        · rcases List.mem_append.1 h with h | h
          · obtain ⟨a, i, hi, e⟩ := ih.1 h; exact ⟨a, i, by omega, e⟩
          · have e : c = cardF (zs.getD k 0) := by simpa using h
            exact ⟨by omega, k, by omega, e.symm⟩
      · rw [dist_neg zs k (by omega)] at h
        obtain ⟨a, i, hi, e⟩ := ih.1 h; exact ⟨a, i, by omega, e⟩
    · rintro ⟨h0, i, hi, e⟩
      by_cases hik : i = k
      · subst hik
        rw [dist_some zs i (by omega)]
        split
        · rename_i hm; rw [e] at hm; exact hm
        · rw [e]; simp
      · have hm := ih.2 ⟨h0, i, by omega, e⟩
        simp only [dist]
        split
        · split
          · exact hm
          · exact List.mem_append_left _ hm
        · exact hm
/-- is the list a packet? -/
def okB (zs : List Int) : Bool := decide (zs.length ≤ 12) && decide ((dist zs zs.length).length = zs.length)
theorem okB_long (zs : List Int) (h : 12 < zs.length) : okB zs = false := by unfold okB; rw [decide_eq_false (by omega)]; rfl
theorem okB_short (zs : List Int) (h : zs.length ≤ 12) : okB zs = decide ((dist zs zs.length).length = zs.length) := by unfold okB; rw [decide_eq_true h]; rfl
theorem okB_stop (zs : List Int) (k : Nat) (hk : k < zs.length) (h : dist zs (k + 1) = dist zs k) : okB zs = false := by
  have h1 := dist_far zs (k + 1) (zs.length - (k + 1))
  rw [show k + 1 + (zs.length - (k + 1)) = zs.length by omega, h] at h1
  have h2 := dist_len zs k
  unfold okB
  rw [decide_eq_false (p := (dist zs zs.length).length = zs.length) (by omega), Bool.and_false]
theorem okB_yes {zs : List Int} (h : okB zs = true) : zs.length ≤ 12 ∧ (dist zs zs.length).length = zs.length := by
  unfold okB at h
  rw [Bool.and_eq_true, decide_eq_true_eq, decide_eq_true_eq] at h
  exact h

/-- is the number on the list? -/
def hasB (zs : List Int) (x : Int) : Bool := decide (x ∈ zs)

set_option maxHeartbeats 1000000 in
theorem has_any (A : Option Addr) (n c : Nat) (zs : List Int) (x : Int) (w : World) (hn : zs.length = n) (hn2 : n ≤ 9223372036854775807) (hss : IntsAt w w.heap.size .i64 A zs) :
    Calls Try.prog 58 #[.slice A n c, .int .i64 x] w fun e w' => e = .returned (.bool (hasB zs x)) ∧ w = w' := by
  have HN := Lib.hid hn
  clear hn
  go_enter Try.func58, Try.ntmps58
  go_wp2
  go_loop [6, 9] (fun _ i => ∃ j : Nat, j ≤ n ∧ i = .int .i64 j ∧ Hid (∀ i, i < j → zs.getD i 0 ≠ x)) (fun _ i => n - (intOf i).toNat)
  case atStart => exact ⟨0, Nat.zero_le _, rfl, (fun i hi => absurd hi (Nat.not_lt_zero _))⟩
  case round =>
    obtain ⟨j, hj, rfl, HE⟩ := hrel
    by_cases hlt : j < n
    · obtain ⟨b, o, rfl, hbb, hc⟩ := hss j (by rw [HN.out]; exact hlt)
      have hlt' : j < zs.length := by rw [HN.out]; exact hlt
      have hyes : zs.getD j 0 = x → hasB zs x = true := by
        intro e
        refine decide_eq_true ?_
        rw [← e, List.getD_eq_getElem?_getD, List.getElem?_eq_getElem hlt']
        exact List.getElem_mem _
      have hst : zs.getD j 0 ≠ x → ∀ i, i < j + 1 → zs.getD i 0 ≠ x := by
        intro e i hi
        by_cases hik : i = j
        · rw [hik]; exact e
        · exact HE.out i (by omega)
      generalize zs.getD j 0 = y at hc hyes hst
      by_cases hxy : y = x
      · have HS := Lib.hid (hyes hxy)
        have hb : (y == x) = true := by simpa using hxy
        clear hst hyes HE hxy hlt'
        go_wp2
        go_ret
        exact ⟨ret_b HS.out.symm, rfl⟩
      · have HS := Lib.hid (hst hxy)
        have hb : (y == x) = false := by simpa using hxy
        clear hst hyes HE hxy hlt'
        go_wp2
        go_round
        case rel => exact ⟨j + 1, by omega, by go_num, HS.out⟩
        case measure => simp [intOf]; omega
    · have hjn : j = n := by omega
      have hno : hasB zs x = false := by
        refine decide_eq_false fun hm => ?_
        obtain ⟨i, hi, e⟩ := List.mem_iff_getElem.1 hm
        have h9 := HE.out i (by rw [hjn, ← HN.out]; exact hi)
        rw [List.getD_eq_getElem?_getD, List.getElem?_eq_getElem hi] at h9
        exact h9 e
      have HS := Lib.hid hno
      clear hno HE hjn
      go_wp2
      go_ret
      exact ⟨ret_b HS.out.symm, rfl⟩

/-- the set of the numbers of a list -/
def SetIs (D : DataW Unit) (l : List Int) : Prop := (∀ c : Int, Maps.has D (.int .i64 c) = decide (c ∈ l)) ∧ Maps.size D = l.length
theorem setIs_nil : SetIs (.map []) [] := ⟨fun c => by simp [Maps.has], rfl⟩
theorem lit_ne {c d : Int} (h : c ≠ d) : (Lit.int .i64 c) ≠ .int .i64 d := fun e => h (by injection e)
theorem setIs_put {D : DataW Unit} {l : List Int} {c : Int} (ht : Tidy D) (hk : WideAt.IsKeyLit (.int .i64 c)) (u : DataW Unit) (h : SetIs D l) : SetIs (D.put (.int .i64 c) u) (if c ∈ l then l else l ++ [c]) := by
  refine ⟨fun d => ?_, ?_⟩
  · by_cases e : d = c
    · subst e
      rw [has_put_same ht.isMap hk]
      symm
      refine decide_eq_true ?_
      split
      · assumption
      · simp
    · rw [has_put_other (lit_ne e), h.1 d]
      split
      · rfl
      · congr 1
        simp [e]
  · rw [size_put ht, h.1 c, h.2]
    by_cases e : c ∈ l
    · rw [if_pos e, if_pos (by simpa using e)]
    · rw [if_neg e, if_neg (by simpa using e)]; simp

theorem keyed : Keyed Try.prog 3 := int_keyed Try.underlying3
theorem key_int {a : Int} (h1 : -9223372036854775808 ≤ a) (h2 : a ≤ 9223372036854775807) : keyOf Try.prog 3 (.int .i64 a) = some (.int .i64 a) := keyOf_int_mk Try.underlying3 (wf_hi h1 h2)


end Go.Proofs.Ytjmfdflhplobmaa.Pok
