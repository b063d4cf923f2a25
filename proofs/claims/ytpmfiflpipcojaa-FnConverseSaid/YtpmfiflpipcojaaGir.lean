/- All Gilbreath permutations as plain lists: grown place by place (the program) and branch by branch (the model), with the same result; worlds in which rows of ints stay. -/
import Derived.Test.YtpmfiflpipcojaaGip
import Derived.Test.YtpmfiflpipcojaaLb
set_option linter.unusedVariables false
set_option maxRecDepth 20000
namespace Go.Proofs.Ytpmfiflpipcojaa.Gir
open Go.RowKit Fr Own Pk Ins Pok Prm Pfn Rws Gip

def gilStep (n : Nat) (p : List Int) : List (List Int) := (nextF n p).map fun x => p ++ [x]
def dfs (n : Nat) : Nat → List Int → List (List Int)
  | 0, p => [p]
  | f + 1, p => (nextF n p).flatMap fun x => dfs n f (p ++ [x])
def growF (n : Nat) : Nat → List Int → Int → Int → List (List Int)
  | 0, a, _, _ => [a]
  | f + 1, a, l, h => (if 0 < l then growF n f (a ++ [l - 1]) (l - 1) h else []) ++ (if h < (n : Int) - 1 then growF n f (a ++ [h + 1]) l (h + 1) else [])
theorem dfs_succ (n : Nat) : ∀ (f : Nat) (p : List Int), dfs n (f + 1) p = (dfs n f p).flatMap (gilStep n)
  | 0, p => by simp [dfs, gilStep, List.map_eq_flatMap]
  | f + 1, p => by
    rw [dfs, dfs, List.flatMap_assoc]
    refine congrArg (fun g => (nextF n p).flatMap g) (funext fun x => dfs_succ n f (p ++ [x]))
theorem head_app {p : List Int} (h : p ≠ []) (x : Int) : (p ++ [x]).headD 0 = p.headD 0 := by cases p with
  | nil => exact absurd rfl h
  | cons z p => rfl
theorem min_app {p : List Int} (h : p ≠ []) (x : Int) : Lib.minOf (p ++ [x]) = min (Lib.minOf p) x := by
  unfold Lib.minOf; rw [head_app h, List.foldl_append]; rfl
theorem max_app {p : List Int} (h : p ≠ []) (x : Int) : Lib.maxOf (p ++ [x]) = max (Lib.maxOf p) x := by
  unfold Lib.maxOf; rw [head_app h, List.foldl_append]; rfl
theorem min_le_max (p : List Int) (h : p ≠ []) : Lib.minOf p ≤ Lib.maxOf p := by
  have hp : 0 < p.length := List.length_pos_iff.2 h
  have e1 := minOf_take (zs := p) (k := p.length) hp
  have e2 := maxOf_take (zs := p) (k := p.length) hp
  rw [List.take_length] at e1 e2
  rw [e1, e2]
  have : ∀ k, k ≤ p.length → loT p k ≤ hiT p k := by
    intro k
    induction k with
    | zero => intro _; rw [loT_zero, hiT_zero]; exact Int.le_refl _
    | succ k ih => intro hk; have := ih (by omega); rw [loT_succ (by omega), hiT_succ (by omega)]; omega
  exact this _ (Nat.le_refl _)
theorem grow_dfs (n : Nat) : ∀ (f : Nat) (p : List Int), p ≠ [] → growF n f p (Lib.minOf p) (Lib.maxOf p) = dfs n f p
  | 0, p, _ => rfl
  | f + 1, p, h => by
    have hm := min_le_max p h
    have h1 := grow_dfs n f (p ++ [Lib.minOf p - 1]) (by simp)
    have h2 := grow_dfs n f (p ++ [Lib.maxOf p + 1]) (by simp)
    rw [min_app h, max_app h, show min (Lib.minOf p) (Lib.minOf p - 1) = Lib.minOf p - 1 by omega, show max (Lib.maxOf p) (Lib.minOf p - 1) = Lib.maxOf p by omega] at h1
    rw [min_app h, max_app h, show min (Lib.minOf p) (Lib.maxOf p + 1) = Lib.minOf p by omega, show max (Lib.maxOf p) (Lib.maxOf p + 1) = Lib.maxOf p + 1 by omega] at h2
    rw [growF, dfs, nextF, if_neg h, h1, h2]
    by_cases a : 0 < Lib.minOf p
    · by_cases b : Lib.maxOf p < (n : Int) - 1
      · rw [if_pos a, if_pos b, if_pos (by omega), if_pos (by omega)]; simp
      · rw [if_pos a, if_neg b, if_pos (by omega), if_neg (by omega)]; simp
    · by_cases b : Lib.maxOf p < (n : Int) - 1
      · rw [if_neg a, if_pos b, if_neg (by omega), if_pos (by omega)]; simp
      · rw [if_neg a, if_neg b, if_neg (by omega), if_neg (by omega)]; simp
def gilsF (n : Int) : List (List Int) := if 1 ≤ n ∧ n ≤ 12 then dfs n.toNat n.toNat [] else []
theorem gils_yes (m : Nat) (h1 : 1 ≤ m) (h2 : m ≤ 12) : gilsF (m : Int) = dfs m m [] := by unfold gilsF; rw [if_pos (by omega)]; rfl
theorem gils_no {n : Int} (h : ¬ (1 ≤ n ∧ n ≤ 12)) : gilsF n = [] := by unfold gilsF; rw [if_neg h]
theorem gils_grow {n : Nat} (h : 1 ≤ n) : dfs n n [] = (imarks 0 n).flatMap fun x => growF n (n - 1) [x] x x := by
  obtain ⟨m, rfl⟩ : ∃ m, n = m + 1 := ⟨n - 1, by omega⟩
  rw [dfs, nextF, if_pos rfl]
  refine congrArg (fun g => (imarks 0 (m + 1)).flatMap g) (funext fun x => ?_)
  rw [Nat.add_sub_cancel, List.nil_append]
  exact (grow_dfs (m + 1) m [x] (by simp)).symm.trans (by simp [Lib.minOf, Lib.maxOf])
theorem growF_len (n : Nat) : ∀ (f : Nat) (p : List Int) (l h : Int), (growF n f p l h).length ≤ 2 ^ f
  | 0, _, _, _ => Nat.le_refl _
  | f + 1, p, l, h => by
    have h1 := growF_len n f (p ++ [l - 1]) (l - 1) h
    have h2 := growF_len n f (p ++ [h + 1]) l (h + 1)
    rw [growF, List.length_append, Nat.pow_succ]
    have h0 : ([] : List (List Int)).length = 0 := rfl
    split <;> split <;> omega
theorem gilStep_len {n : Nat} (p : List Int) : (gilStep n p).length = (nextF n p).length := by simp [gilStep]
theorem nextF_two {n : Nat} {p : List Int} (h : p ≠ []) : (nextF n p).length ≤ 2 := by
  unfold nextF
  rw [if_neg h, List.length_append]
  split <;> split <;> simp
/-- what lies in the lists grown so far -/
theorem dfs_mem (n : Nat) : ∀ (f : Nat) (p q : List Int), inR p n → q ∈ dfs n f p → q.length = p.length + f ∧ inR q n
  | 0, p, q, hp, h => by simp [dfs] at h; subst h; exact ⟨rfl, hp⟩
  | f + 1, p, q, hp, h => by
    rw [dfs, List.mem_flatMap] at h
    obtain ⟨x, hx, hq⟩ := h
    have hx2 : 0 ≤ x ∧ x < (n : Int) := by
      unfold nextF at hx
      split at hx
      · exact mem_imarks.1 hx
      · rename_i hne
        have hl : 0 < p.length := List.length_pos_iff.2 hne
        have hb := lohi_in hp hl p.length (Nat.le_refl _)
        have e1 := minOf_take (zs := p) (k := p.length) hl
        have e2 := maxOf_take (zs := p) (k := p.length) hl
        rw [List.take_length] at e1 e2
        rw [← e1, ← e2] at hb
        rw [List.mem_append] at hx
        rcases hx with hx | hx
        · split at hx
          · simp at hx; omega
          · cases hx
        · split at hx
          · simp at hx; omega
          · cases hx
    have hp2 : inR (p ++ [x]) n := fun i hi => by
      rw [List.length_append, List.length_singleton] at hi
      by_cases e : i < p.length
      · have := hp i e
        rw [List.getD_eq_getElem?_getD] at this ⊢
        rwa [List.getElem?_append_left e]
      · have e2 : i = p.length := by omega
        subst e2
        rw [List.getD_eq_getElem?_getD]
        simpa using hx2
    have := dfs_mem n f (p ++ [x]) q hp2 hq
    rw [List.length_append, List.length_singleton] at this
    exact ⟨by omega, this.2⟩
theorem inR_nil (n : Nat) : inR [] n := fun i hi => absurd hi (Nat.not_lt_zero _)
theorem flat_len {f : List Int → List (List Int)} {b : Nat} : ∀ (l : List (List Int)), (∀ p ∈ l, (f p).length ≤ b) → (l.flatMap f).length ≤ l.length * b
  | [], _ => by simp
  | p :: l, h => by
    have h1 := h p (List.mem_cons_self)
    have h2 := flat_len l fun q hq => h q (List.mem_cons_of_mem _ hq)
    rw [List.flatMap_cons, List.length_append, List.length_cons, Nat.succ_mul]
    omega
theorem dfs_len (n : Nat) (hn : n ≤ 12) : ∀ k, k ≤ 12 → (dfs n k []).length ≤ 12 * 2 ^ (k - 1)
  | 0, _ => by simp [dfs]
  | 1, _ => by
    rw [dfs_succ]
    have := nextF_small hn []
    simpa [dfs, gilStep] using this
  | k + 2, hk => by
    have ih := dfs_len n hn (k + 1) (by omega)
    rw [dfs_succ]
    have := flat_len (f := gilStep n) (b := 2) (dfs n (k + 1) []) fun p hp => by
      rw [gilStep_len]
      refine nextF_two fun e => ?_
      have := (dfs_mem n (k + 1) [] p (inR_nil n) hp).1
      rw [e] at this
      simp at this
    rw [show k + 2 - 1 = (k + 1 - 1) + 1 by omega, Nat.pow_succ]
    omega
theorem dfs_big {n k : Nat} (hn : n ≤ 12) (hk : k ≤ 12) : (dfs n k []).length ≤ 24576 := by
  have h1 := dfs_len n hn k hk
  have h2 : 2 ^ (k - 1) ≤ 2 ^ 11 := Nat.pow_le_pow_right (by decide) (by omega)
  have h3 : (2 : Nat) ^ 11 = 2048 := by decide
  omega
theorem gils_small (n : Int) : SmallSS (gilsF n) := by
  unfold gilsF
  split
  · rename_i h
    refine ⟨by have := dfs_big (n := n.toNat) (k := n.toNat) (by omega) (by omega); omega, fun q hq => ?_⟩
    have := (dfs_mem n.toNat n.toNat [] q (inR_nil _) hq).1
    simp at this; omega
  · exact ⟨Nat.zero_le _, fun q hq => by cases hq⟩

/-! ### memory -/
/-- nothing below lo changes, and no row of ints -/
structure Wt (lo : Nat) (W W' : World) : Prop where
  os : W'.os = W.os
  tape : W'.tape = W.tape
  output : W'.output = W.output
  size : W.heap.size ≤ W'.heap.size
  block : ∀ k, k < W.heap.size → (k < lo ∨ ∃ cs f, W.heap[k]? = some (.cells cs 3 f)) → W'.heap[k]? = W.heap[k]?
theorem Wt.refl (lo : Nat) (W : World) : Wt lo W W := ⟨rfl, rfl, rfl, Nat.le_refl _, fun _ _ _ => rfl⟩
theorem Wt.trans {lo : Nat} {X Y Z : World} (h : Wt lo X Y) (k : Wt lo Y Z) : Wt lo X Z :=
  ⟨k.os.trans h.os, k.tape.trans h.tape, k.output.trans h.output, Nat.le_trans h.size k.size, fun i hi hc => by
    have e := h.block i hi hc
    refine (k.block i (Nat.lt_of_lt_of_le hi h.size) ?_).trans e
    rcases hc with hc | hc
    · exact Or.inl hc
    · exact Or.inr (by rw [e]; exact hc)⟩
theorem Wt.below {lo : Nat} {W W' : World} (h : Wt lo W W') (hl : lo ≤ W.heap.size) : Below lo W W' :=
  ⟨h.os, h.tape, h.output, h.size, fun k hk => h.block k (by omega) (Or.inl hk)⟩
theorem Wt.of_below {lo : Nat} {W W' : World} (h : Below W.heap.size W W') : Wt lo W W' := ⟨h.os, h.tape, h.output, h.size, fun k hk _ => h.block k hk⟩
/-- an outer row grew -/
theorem Wt.of_grown {lo : Nat} {W W' : World} {A : Option Addr} {n c m : Nat} {xs : List Value} (h : W.ownsRow lo 23 1 (.slice A n c) m xs) (hg : W.grownBy W' (A.map (·.block))) : Wt lo W W' := by
  refine ⟨hg.os, hg.tape, hg.output, hg.size, fun k hk hc => hg.block k hk fun e => ?_⟩
  rcases hc with hc | ⟨cs, f, hc⟩
  · have := (own_lo h k e.symm).1; omega
  · rcases h.2 with ⟨h2, _⟩ | ⟨g, cap, cur, hv, _, hh, _⟩
    · simp only [Value.slice.injEq] at h2
      rw [h2.1] at e; cases e
    · simp only [Value.slice.injEq] at hv
      obtain ⟨rfl, _, _⟩ := hv
      simp only [Option.map_some, Option.some.injEq] at e
      subst e
      rw [hc] at hh
      simp only [Option.some.injEq, Obj.cells.injEq] at hh
      exact absurd hh.2.1 (by decide)
theorem own_wt {lo B : Nat} {W W' : World} {A : Option Addr} {n c m : Nat} {xs : List Value} (h : W.ownsRow B 3 1 (.slice A n c) m xs) (hw : Wt lo W W') : W'.ownsRow B 3 1 (.slice A n c) m xs := by
  refine ⟨h.1, ?_⟩
  rcases h.2 with h2 | ⟨g, cap, cur, hv, hg, hh, r⟩
  · exact Or.inl h2
  · exact Or.inr ⟨g, cap, cur, hv, hg, by rw [hw.block g (Array.getElem?_eq_some_iff.1 hh).1 (Or.inr ⟨_, _, hh⟩)]; exact hh, r⟩
/-- rows of one's own lie above a lower bound, too -/
theorem SSRow.mono {W : World} {lo lo' hi : Nat} {A : Option Addr} {n c : Nat} {rs : List RD} (h : SSRow W lo hi A n c rs) (hl : lo' ≤ lo) : SSRow W lo' hi A n c rs :=
  ⟨own_mono h.1 hl, fun i hi' => ⟨own_mono (h.2.1 i hi').1 hl, (h.2.1 i hi').2⟩, h.2.2⟩
end Go.Proofs.Ytpmfiflpipcojaa.Gir
