/- Lists in lexicographic order: merging, sorting without repetitions; what the sorted list is. Lists of lists of ints as arguments: what they hold, the laws' copy of them and how their size is looked at. -/
import Derived.KernelRfl
import Derived.Test.YtibephoepkofnaaGreatRws
import Derived.Deep.Matrix
set_option linter.unusedVariables false
set_option maxRecDepth 20000
namespace Go.Proofs.YtibephoepkofnaaGreat.Srt

def lessL : List Int → List Int → Bool
  | [], [] => false
  | [], _ :: _ => true
  | _ :: _, [] => false
  | x :: a, y :: b => if x = y then lessL a b else decide (x < y)
theorem less_irr : ∀ a, lessL a a = false
  | [] => rfl
  | x :: a => by rw [lessL, if_pos rfl]; exact less_irr a
theorem less_trans : ∀ {a b c}, lessL a b = true → lessL b c = true → lessL a c = true
  | [], [], _, h, _ => by cases h
  | [], _ :: _, [], _, h => by cases h
  | [], _ :: _, _ :: _, _, _ => rfl
  | _ :: _, [], _, h, _ => by cases h
  | _ :: _, _ :: _, [], _, h => by cases h
  | x :: a, y :: b, z :: c, h1, h2 => by
    rw [lessL] at h1 h2 ⊢
    by_cases e1 : x = y
    · subst e1
      rw [if_pos rfl] at h1
      by_cases e2 : x = z
      · subst e2
        rw [if_pos rfl] at h2 ⊢
        exact less_trans h1 h2
      · rw [if_neg e2] at h2 ⊢
        exact h2
    · rw [if_neg e1] at h1
      have h1' := of_decide_eq_true h1
      by_cases e2 : y = z
      · subst e2
        rw [if_neg e1]
        exact h1
      · rw [if_neg e2] at h2
        have h2' := of_decide_eq_true h2
        rw [if_neg (by omega)]
        exact decide_eq_true (by omega)
theorem less_total : ∀ a b, lessL a b = false → lessL b a = false → a = b
  | [], [], _, _ => rfl
  | [], _ :: _, h, _ => by cases h
  | _ :: _, [], _, h => by cases h
  | x :: a, y :: b, h1, h2 => by
    rw [lessL] at h1 h2
    by_cases e : x = y
    · subst e
      rw [if_pos rfl] at h1 h2
      rw [less_total a b h1 h2]
    · rw [if_neg e] at h1
      rw [if_neg (fun h => e h.symm)] at h2
      have h1' := of_decide_eq_false h1
      have h2' := of_decide_eq_false h2
      omega
theorem less_asym {a b : List Int} (h : lessL a b = true) : lessL b a = false := by
  cases h2 : lessL b a with
  | false => rfl
  | true => have := less_trans h h2; rw [less_irr] at this; cases this
/-- not behind -/
def leL (a b : List Int) : Prop := lessL b a = false
theorem le_of_less {a b : List Int} (h : lessL a b = true) : leL a b := less_asym h
theorem le_trans {a b c : List Int} (h1 : leL a b) (h2 : leL b c) : leL a c := by
  unfold leL at *
  cases h : lessL c a with
  | false => rfl
  | true =>
    cases h3 : lessL a b with
    | true => have := less_trans h h3; rw [h2] at this; cases this
    | false =>
      have e := less_total a b h3 h1
      subst e
      rw [h] at h2; cases h2
theorem less_of_le {a b : List Int} (h : leL a b) (hne : a ≠ b) : lessL a b = true := by
  cases h2 : lessL a b with
  | true => rfl
  | false => exact absurd (less_total a b h2 h) hne
def SortedL (l : List (List Int)) : Prop := l.Pairwise fun a b => lessL a b = true
theorem sorted_uniq : ∀ {l m : List (List Int)}, SortedL l → SortedL m → (∀ x, x ∈ l ↔ x ∈ m) → l = m
  | [], [], _, _, _ => rfl
  | [], b :: m, _, _, h => by have := (h b).2 (List.mem_cons_self ..); cases this
  | a :: l, [], _, _, h => by have := (h a).1 (List.mem_cons_self ..); cases this
  | a :: l, b :: m, h1, h2, h => by
    have p1 := List.pairwise_cons.1 h1
    have p2 := List.pairwise_cons.1 h2
    have e : a = b := by
      by_cases e : a = b
      · exact e
      · have q1 : a ∈ m := by
          rcases List.mem_cons.1 ((h a).1 (List.mem_cons_self ..)) with q | q
          · exact absurd q e
          · exact q
        have q2 : b ∈ l := by
          rcases List.mem_cons.1 ((h b).2 (List.mem_cons_self ..)) with q | q
          · exact absurd q.symm e
          · exact q
        have := less_trans (p1.1 b q2) (p2.1 a q1)
        rw [less_irr] at this; cases this
    subst e
    have hn1 : a ∉ l := fun q => by have := p1.1 a q; rw [less_irr] at this; cases this
    have hn2 : a ∉ m := fun q => by have := p2.1 a q; rw [less_irr] at this; cases this
    rw [sorted_uniq p1.2 p2.2 (fun x => ⟨fun q => by
      rcases List.mem_cons.1 ((h x).1 (List.mem_cons_of_mem _ q)) with e | r
      · subst e; exact absurd q hn1
      · exact r, fun q => by
      rcases List.mem_cons.1 ((h x).2 (List.mem_cons_of_mem _ q)) with e | r
      · subst e; exact absurd q hn2
      · exact r⟩)]

/-! ### merging -/
def push (out : List (List Int)) (x : List Int) : List (List Int) := if out.getLast? = some x then out else out ++ [x]
def mergeF : Nat → List (List Int) → List (List Int) → List (List Int) → List (List Int)
  | 0, _, _, out => out
  | _ + 1, [], [], out => out
  | f + 1, x :: a, [], out => mergeF f a [] (push out x)
  | f + 1, [], y :: b, out => mergeF f [] b (push out y)
  | f + 1, x :: a, y :: b, out => if lessL y x = true then mergeF f (x :: a) b (push out y) else mergeF f a (y :: b) (push out x)
def mergeL (a b : List (List Int)) : List (List Int) := mergeF (a.length + b.length) a b []
def tots (l : List (List Int)) : Nat := (l.map List.length).sum
theorem tots_nil : tots [] = 0 := rfl
theorem tots_cons (x : List Int) (l : List (List Int)) : tots (x :: l) = x.length + tots l := by simp [tots]
theorem tots_append (l m : List (List Int)) : tots (l ++ m) = tots l + tots m := by simp [tots, List.sum_append]
theorem push_mem (out : List (List Int)) (x z : List Int) : z ∈ push out x ↔ z ∈ out ∨ z = x := by
  unfold push
  split
  · rename_i h
    have hx : x ∈ out := List.mem_of_getLast? h
    exact ⟨Or.inl, fun h => by rcases h with h | rfl; exact h; exact hx⟩
  · simp
theorem push_size (out : List (List Int)) (x : List Int) : (push out x).length ≤ out.length + 1 ∧ tots (push out x) ≤ tots out + x.length := by
  unfold push
  split
  · omega
  · rw [List.length_append, tots_append, tots_cons, tots_nil]; simp
theorem push_sorted {out : List (List Int)} {x : List Int} (h : SortedL out) (hle : ∀ z ∈ out, leL z x) : SortedL (push out x) := by
  unfold push
  split
  · exact h
  · rename_i hl
    refine List.pairwise_append.2 ⟨h, List.pairwise_singleton _ _, fun z hz y hy => ?_⟩
    rw [List.mem_singleton] at hy
    subst hy
    refine less_of_le (hle z hz) fun e => ?_
    subst e
    -- z is in out, and not the last: the last one is behind it, and not behind it
    obtain ⟨l, rfl⟩ : ∃ l, out = l := ⟨out, rfl⟩
    cases hg : out.getLast? with
    | none => rw [List.getLast?_eq_none_iff] at hg; subst hg; cases hz
    | some t =>
      have ht : t ∈ out := List.mem_of_getLast? hg
      have hne : t ≠ z := fun e => hl (by rw [hg, e])
      obtain ⟨init, hi⟩ := List.getLast?_eq_some_iff.1 hg
      subst hi
      rcases List.mem_append.1 hz with q | q
      · have h3 := (List.pairwise_append.1 h).2.2 z q t (List.mem_singleton.2 rfl)
        have h4 := hle t ht
        unfold leL at h4
        rw [h3] at h4; cases h4
      · exact hne (List.mem_singleton.1 q).symm
theorem merge_all : ∀ (f : Nat) (a b out : List (List Int)), a.length + b.length ≤ f → SortedL a → SortedL b → SortedL out → (∀ z ∈ out, ∀ x, x ∈ a ∨ x ∈ b → leL z x) →
    SortedL (mergeF f a b out) ∧ (∀ x, x ∈ mergeF f a b out ↔ x ∈ out ∨ x ∈ a ∨ x ∈ b)
  | 0, a, b, out, hf, ha, hb, ho, hle => by
    have e1 : a = [] := List.length_eq_zero_iff.1 (by omega)
    have e2 : b = [] := List.length_eq_zero_iff.1 (by omega)
    subst e1 e2
    exact ⟨ho, fun x => by simp [mergeF]⟩
  | f + 1, [], [], out, hf, ha, hb, ho, hle => ⟨ho, fun x => by simp [mergeF]⟩
  | f + 1, x :: a, [], out, hf, ha, hb, ho, hle => by
    have pa := List.pairwise_cons.1 ha
    have h := merge_all f a [] (push out x) (by simp only [List.length_cons, List.length_nil] at hf ⊢; omega) pa.2 hb (push_sorted ho fun z hz => hle z hz x (Or.inl (List.mem_cons_self ..))) (fun z hz y hy => by
      rcases hy with hy | hy
      · rcases (push_mem out x z).1 hz with hz | rfl
        · exact hle z hz y (Or.inl (List.mem_cons_of_mem _ hy))
        · exact le_of_less (pa.1 y hy)
      · cases hy)
    refine ⟨h.1, fun y => ?_⟩
    show y ∈ mergeF f a [] (push out x) ↔ _
    rw [h.2 y, push_mem, List.mem_cons]
    simp only [List.not_mem_nil, or_false]
    exact or_assoc
  | f + 1, [], x :: b, out, hf, ha, hb, ho, hle => by
    have pb := List.pairwise_cons.1 hb
    have h := merge_all f [] b (push out x) (by simp only [List.length_cons, List.length_nil] at hf ⊢; omega) ha pb.2 (push_sorted ho fun z hz => hle z hz x (Or.inr (List.mem_cons_self ..))) (fun z hz y hy => by
      rcases hy with hy | hy
      · cases hy
      · rcases (push_mem out x z).1 hz with hz | rfl
        · exact hle z hz y (Or.inr (List.mem_cons_of_mem _ hy))
        · exact le_of_less (pb.1 y hy))
    refine ⟨h.1, fun y => ?_⟩
    show y ∈ mergeF f [] b (push out x) ↔ _
    rw [h.2 y, push_mem, List.mem_cons]
    simp only [List.not_mem_nil, false_or]
    exact or_assoc
  | f + 1, x :: a, y :: b, out, hf, ha, hb, ho, hle => by
    have pa := List.pairwise_cons.1 ha
    have pb := List.pairwise_cons.1 hb
    cases hyx : lessL y x with
    | true =>
      have h := merge_all f (x :: a) b (push out y) (by simp only [List.length_cons] at hf ⊢; omega) ha pb.2 (push_sorted ho fun z hz => hle z hz y (Or.inr (List.mem_cons_self ..))) (fun z hz t ht => by
        rcases (push_mem out y z).1 hz with hz | rfl
        · exact hle z hz t (by rcases ht with ht | ht; exact Or.inl ht; exact Or.inr (List.mem_cons_of_mem _ ht))
        · rcases ht with ht | ht
          · rcases List.mem_cons.1 ht with rfl | ht
            · exact le_of_less hyx
            · exact le_of_less (less_trans hyx (pa.1 t ht))
          · exact le_of_less (pb.1 t ht))
      have e : mergeF (f + 1) (x :: a) (y :: b) out = mergeF f (x :: a) b (push out y) := by rw [mergeF, if_pos hyx]
      rw [e]
      refine ⟨h.1, fun t => ?_⟩
      rw [h.2 t, push_mem, List.mem_cons (a := t) (b := y)]
      constructor
      · rintro ((h | h) | h | h)
        · exact Or.inl h
        · exact Or.inr (Or.inr (Or.inl h))
        · exact Or.inr (Or.inl h)
        · exact Or.inr (Or.inr (Or.inr h))
      · rintro (h | h | h | h)
        · exact Or.inl (Or.inl h)
        · exact Or.inr (Or.inl h)
        · exact Or.inl (Or.inr h)
        · exact Or.inr (Or.inr h)
    | false =>
      have h := merge_all f a (y :: b) (push out x) (by simp only [List.length_cons] at hf ⊢; omega) pa.2 hb (push_sorted ho fun z hz => hle z hz x (Or.inl (List.mem_cons_self ..))) (fun z hz t ht => by
        rcases (push_mem out x z).1 hz with hz | rfl
        · exact hle z hz t (by rcases ht with ht | ht; exact Or.inl (List.mem_cons_of_mem _ ht); exact Or.inr ht)
        · rcases ht with ht | ht
          · exact le_of_less (pa.1 t ht)
          · rcases List.mem_cons.1 ht with rfl | ht
            · exact hyx
            · exact le_trans hyx (le_of_less (pb.1 t ht)))
      have e : mergeF (f + 1) (x :: a) (y :: b) out = mergeF f a (y :: b) (push out x) := by rw [mergeF, if_neg (by rw [hyx]; decide)]
      rw [e]
      refine ⟨h.1, fun t => ?_⟩
      rw [h.2 t, push_mem, List.mem_cons (a := t) (b := x)]
      constructor
      · rintro ((h | h) | h | h)
        · exact Or.inl h
        · exact Or.inr (Or.inl (Or.inl h))
        · exact Or.inr (Or.inl (Or.inr h))
        · exact Or.inr (Or.inr h)
      · rintro (h | (h | h) | h)
        · exact Or.inl (Or.inl h)
        · exact Or.inl (Or.inr h)
        · exact Or.inr (Or.inl h)
        · exact Or.inr (Or.inr h)
theorem merge_size : ∀ (f : Nat) (a b out : List (List Int)), (mergeF f a b out).length ≤ out.length + a.length + b.length ∧ tots (mergeF f a b out) ≤ tots out + tots a + tots b
  | 0, a, b, out => by rw [mergeF]; omega
  | f + 1, [], [], out => by rw [mergeF]; omega
  | f + 1, x :: a, [], out => by
    have h := merge_size f a [] (push out x)
    have p := push_size out x
    rw [mergeF, tots_cons, List.length_cons]; omega
  | f + 1, [], x :: b, out => by
    have h := merge_size f [] b (push out x)
    have p := push_size out x
    rw [mergeF, tots_cons, List.length_cons]; omega
  | f + 1, x :: a, y :: b, out => by
    rw [mergeF]
    split
    · have h := merge_size f (x :: a) b (push out y)
      have p := push_size out y
      rw [tots_cons y, List.length_cons (a := y)]; omega
    · have h := merge_size f a (y :: b) (push out x)
      have p := push_size out x
      rw [tots_cons x, List.length_cons (a := x)]; omega
theorem sorted_nil : SortedL [] := List.Pairwise.nil
theorem sorted_short {l : List (List Int)} (h : l.length < 2) : SortedL l := by
  match l, h with
  | [], _ => exact List.Pairwise.nil
  | [a], _ => exact List.pairwise_singleton _ _
theorem merge_sorted {a b : List (List Int)} (ha : SortedL a) (hb : SortedL b) : SortedL (mergeL a b) ∧ ∀ x, x ∈ mergeL a b ↔ x ∈ a ∨ x ∈ b := by
  have h := merge_all (a.length + b.length) a b [] (Nat.le_refl _) ha hb sorted_nil (fun z hz => by cases hz)
  exact ⟨h.1, fun x => (h.2 x).trans (by simp)⟩

/-! ### sorting -/
def sortF : Nat → List (List Int) → List (List Int)
  | 0, l => mergeL l []
  | f + 1, l => if l.length < 2 then mergeL l [] else mergeL (sortF f (l.take (l.length / 2))) (sortF f (l.drop (l.length / 2)))
theorem sortF_all : ∀ (f : Nat) (l : List (List Int)), l.length ≤ f + 1 → SortedL (sortF f l) ∧ ∀ x, x ∈ sortF f l ↔ x ∈ l
  | 0, l, h => by
    have m := merge_sorted (sorted_short (l := l) (by omega)) sorted_nil
    exact ⟨m.1, fun x => (m.2 x).trans (by simp)⟩
  | f + 1, l, h => by
    rw [sortF]
    split
    · rename_i h2
      have m := merge_sorted (sorted_short h2) sorted_nil
      exact ⟨m.1, fun x => (m.2 x).trans (by simp)⟩
    · have h1 := sortF_all f (l.take (l.length / 2)) (by rw [List.length_take]; omega)
      have h2 := sortF_all f (l.drop (l.length / 2)) (by rw [List.length_drop]; omega)
      have m := merge_sorted h1.1 h2.1
      refine ⟨m.1, fun x => (m.2 x).trans ?_⟩
      rw [h1.2, h2.2, ← List.mem_append, List.take_append_drop]
/-- the different elements in order -/
def cano (l : List (List Int)) : List (List Int) := sortF l.length l
theorem cano_sorted (l : List (List Int)) : SortedL (cano l) := (sortF_all l.length l (Nat.le_succ _)).1
theorem cano_mem (l : List (List Int)) (x : List Int) : x ∈ cano l ↔ x ∈ l := (sortF_all l.length l (Nat.le_succ _)).2 x
theorem cano_of {l r : List (List Int)} (h1 : SortedL r) (h2 : ∀ x, x ∈ r ↔ x ∈ l) : r = cano l := sorted_uniq h1 (cano_sorted l) fun x => (h2 x).trans (cano_mem l x).symm
theorem cano_same {l m : List (List Int)} (h : ∀ x, x ∈ l ↔ x ∈ m) : cano l = cano m := cano_of (cano_sorted l) fun x => (cano_mem l x).trans (h x)
theorem cano_short {l : List (List Int)} (h : l.length < 2) : mergeL l [] = cano l := by
  have m := merge_sorted (sorted_short h) sorted_nil
  exact cano_of m.1 fun x => (m.2 x).trans (by simp)
theorem cano_merge (a b : List (List Int)) : mergeL (cano a) (cano b) = cano (a ++ b) := by
  have m := merge_sorted (cano_sorted a) (cano_sorted b)
  exact cano_of m.1 fun x => (m.2 x).trans (by rw [cano_mem, cano_mem, List.mem_append])
theorem sortF_size : ∀ (f : Nat) (l : List (List Int)), (sortF f l).length ≤ l.length ∧ tots (sortF f l) ≤ tots l
  | 0, l => by
    have h := merge_size (l.length + ([] : List (List Int)).length) l [] []
    rw [sortF]
    exact ⟨by have := h.1; simp only [List.length_nil] at this; unfold mergeL; simp only [List.length_nil]; omega, by have := h.2; simp only [tots_nil] at this; unfold mergeL; simp only [List.length_nil]; simp only [List.length_nil] at this; omega⟩
  | f + 1, l => by
    rw [sortF]
    split
    · have h := merge_size (l.length + ([] : List (List Int)).length) l [] []
      exact ⟨by have := h.1; simp only [List.length_nil] at this; unfold mergeL; simp only [List.length_nil]; omega, by have := h.2; simp only [tots_nil] at this; unfold mergeL; simp only [List.length_nil]; simp only [List.length_nil] at this; omega⟩
    · have h1 := sortF_size f (l.take (l.length / 2))
      have h2 := sortF_size f (l.drop (l.length / 2))
      have h := merge_size ((sortF f (l.take (l.length / 2))).length + (sortF f (l.drop (l.length / 2))).length) (sortF f (l.take (l.length / 2))) (sortF f (l.drop (l.length / 2))) []
      have e : tots (l.take (l.length / 2)) + tots (l.drop (l.length / 2)) = tots l := by rw [← tots_append, List.take_append_drop]
      have e2 : (l.take (l.length / 2)).length + (l.drop (l.length / 2)).length = l.length := by rw [← List.length_append, List.take_append_drop]
      unfold mergeL
      simp only [List.length_nil, tots_nil] at h
      omega
theorem cano_size (l : List (List Int)) : (cano l).length ≤ l.length ∧ tots (cano l) ≤ tots l := sortF_size _ l
theorem cano_nil : cano [] = [] := rfl
end Go.Proofs.YtibephoepkofnaaGreat.Srt

namespace Go.Proofs.YtibephoepkofnaaGreat.Sst
open Go.Deep Go.RowKit Go.ChangeShapes Go.WideShapes Fr Own Ins Rws

/-- lists in memory below block B, to be read -/
def SSAt (w : World) (B : Nat) (A : Option Addr) (rs : List RD) : Prop :=
  ∀ j, j < rs.length → ∃ b o, A = some ⟨b, o, none⟩ ∧ b < B ∧ w.cell? ⟨b, o + j, none⟩ = some (rs.getD j rd0).v ∧ IntsAt w B .i64 (rs.getD j rd0).A (rs.getD j rd0).zs
theorem SSAt.below {w w' : World} {B : Nat} {A : Option Addr} {rs : List RD} (h : SSAt w B A rs) (hb : Below B w w') : SSAt w' B A rs := by
  intro j hj
  obtain ⟨b, o, hA, hlt, hc, hi⟩ := h j hj
  exact ⟨b, o, hA, hlt, (hb.cell (p := ⟨b, o + j, none⟩) hlt).trans hc, hi.below hb⟩
theorem SSAt.more {w : World} {B B' : Nat} {A : Option Addr} {rs : List RD} (h : SSAt w B A rs) (hB : B ≤ B') : SSAt w B' A rs := by
  intro j hj
  obtain ⟨b, o, hA, hlt, hc, hi⟩ := h j hj
  exact ⟨b, o, hA, Nat.lt_of_lt_of_le hlt hB, hc, hi.more hB⟩
theorem SSAt.nil (w : World) (B : Nat) (A : Option Addr) : SSAt w B A [] := fun j hj => absurd hj (Nat.not_lt_zero _)
def WfSS (rs : List RD) : Prop := ∀ i, i < rs.length → (rs.getD i rd0).zs.length ≤ maxLen ∧ Fits (rs.getD i rd0).zs
theorem at_of {W : World} {lo hi : Nat} {A : Option Addr} {n c : Nat} {rs : List RD} (h : SSRow W lo hi A n c rs) : SSAt W W.heap.size A rs := by
  intro j hj
  obtain ⟨g, rfl, hc⟩ := h.cell j (by rw [← h.len]; exact hj)
  have hg := (own_lo h.1 g rfl).2
  exact ⟨g, 0, rfl, hg, by rw [Nat.zero_add]; exact hc, (h.2.1 j hj).at_⟩
section
variable {H : Type} {enc : TypeId × Value → H} {P : Program}
theorem view_intss {W : World} {base : Nat} {t e q : TypeId} {v : Value} {d : DataW H} {ps : List MemPlace} (ht : P.underlying t = some (.slice e)) (he : P.underlying e = some (.slice q)) (hq : P.underlying q = some (.int .i64)) (ce : P.cellsOf e = 1) (cq : P.cellsOf q = 1)
    (hval : Value.okWide P W .any base t v) (hd : DataW.Trod enc P W 0 (fun _ => true) true t v d ps) (hlt : ∀ x ∈ ps, x.block < W.heap.size) :
    ∃ (A : Option Addr) (n c : Nat) (rs : List RD), v = .slice A n c ∧ rs.length = n ∧ n ≤ maxLen ∧ WfSS rs ∧ SSAt W W.heap.size A rs := by
  obtain ⟨a0, len, cap, rfl⟩ := okWide_slice ht hval
  obtain ⟨fuel, hf⟩ := hd
  rcases open_int_rows ht he hq ce cq hf with ⟨hcs, hx⟩ | ⟨a, len', cap', Ar, L, C, Z, hcs, _, hl, hm, hx, hr⟩
  · simp [Value.cells] at hcs
    obtain ⟨rfl, rfl, rfl⟩ := hcs
    exact ⟨none, 0, 0, [], rfl, rfl, Nat.zero_le _, (fun i hi => absurd hi (Nat.not_lt_zero _)), SSAt.nil _ _ _⟩
  · simp [Value.cells] at hcs
    obtain ⟨rfl, rfl, rfl⟩ := hcs
    simp only [Prod.mk.injEq] at hx
    have hget : ∀ i, i < len → ((List.range len).map fun r => (⟨Ar r, C r, (Z r).take (L r)⟩ : RD)).getD i rd0 = ⟨Ar i, C i, (Z i).take (L i)⟩ := by
      intro i hi
      simp [List.getD_eq_getElem?_getD, hi]
    have hzl : ∀ i, i < cap → ((Z i).take (L i)).length = L i := by
      intro i hi
      obtain ⟨_, h1, _, h3, _⟩ := hr i hi
      rw [List.length_take]; omega
    refine ⟨some a, len, cap, (List.range len).map fun r => ⟨Ar r, C r, (Z r).take (L r)⟩, rfl, by simp, by omega, ?_, ?_⟩
    · intro i hi
      simp only [List.length_map, List.length_range] at hi
      rw [hget i hi]
      obtain ⟨_, h1, h2, h3, h4, _⟩ := hr i (by omega)
      refine ⟨by show ((Z i).take (L i)).length ≤ maxLen; rw [hzl i (by omega)]; omega, ?_⟩
      exact fits_of fun z hz => h4 z (List.mem_of_mem_take hz)
    · intro j hj
      simp only [List.length_map, List.length_range] at hj
      rw [hget j hj]
      obtain ⟨hc, h1, h2, h3, h4, h5, h6⟩ := hr j (by omega)
      obtain ⟨b, off, spot⟩ := a
      have hspot : spot = none := by simpa [Addr.add] using World.cell?_spot (hr 0 (by omega)).1
      subst hspot
      have hbW : b < W.heap.size := hlt (.cell b off) (by rw [hx.2]; exact List.mem_append_left _ (MemPlace.mem_row.2 ⟨0, by omega, by simp⟩))
      refine ⟨b, off, rfl, hbW, ?_, ?_⟩
      · rw [← add_plain, hc]
        simp only [RD.v]
        rw [hzl j (by omega)]
      · intro k hk
        simp only at hk ⊢
        rw [hzl j (by omega)] at hk
        cases hA : Ar j with
        | none => have := h5 hA; omega
        | some a' =>
          obtain ⟨_, hcell⟩ := h6 a' hA
          obtain ⟨b', off', spot'⟩ := a'
          have hs' : spot' = none := by simpa [Addr.add] using World.cell?_spot (hcell 0 (by omega))
          subst hs'
          have hbW' : b' < W.heap.size := by
            refine hlt (.cell b' off') ?_
            rw [hx.2]
            refine List.mem_append_right _ (List.mem_flatMap.2 ⟨j, List.mem_range.2 (by omega), ?_⟩)
            rw [hA]
            exact MemPlace.mem_row.2 ⟨0, by omega, by simp⟩
          refine ⟨b', off', rfl, hbW', ?_⟩
          rw [← add_plain, hcell k (by omega)]
          simp [List.getD_eq_getElem?_getD, hk]
end

/-! ### a row put in its place -/
theorem getD_set {rs : List RD} {k i : Nat} {r : RD} (hk : k < rs.length) : (rs.set k r).getD i rd0 = if i = k then r else rs.getD i rd0 := by
  simp only [List.getD_eq_getElem?_getD]
  by_cases e : i = k
  · subst e
    rw [if_pos rfl, List.getElem?_set_self hk]; rfl
  · rw [if_neg e, List.getElem?_set_ne (fun h => e h.symm)]
theorem put_row {W : World} {lo b0 g : Nat} {n c : Nat} {rs : List RD} {k : Nat} {r : RD} (h : SSRow W lo b0 (some ⟨g, 0, none⟩) n c rs) (hk : k < n) (hlo : lo ≤ b0) (hin : W.ownsRow b0 3 1 (.slice r.A r.zs.length r.c) r.zs.length (r.zs.map (Value.int .i64))) :
    SSRow (W.setCell ⟨g, k, none⟩ r.v) lo (W.setCell ⟨g, k, none⟩ r.v).heap.size (some ⟨g, 0, none⟩) n c (rs.set k r) := by
  have hl := h.len
  have hkl : k < rs.length := by omega
  have hg := set_grown W ⟨g, k, none⟩ r.v
  have hin' : ∀ b, r.b = some b → b0 ≤ b ∧ b < W.heap.size := fun b hb => own_lo hin b hb
  have hsz := hg.size
  refine ⟨?_, ?_, ?_, ?_, Nat.le_refl _⟩
  · rw [List.map_set]
    exact (h.1.stored k r.v).1
  · intro i hi
    rw [List.length_set] at hi
    rw [getD_set hkl]
    split
    · refine ⟨own_mono (own_gr hin hg fun b hb e2 => ?_) hlo, fun a ha => ?_, Nat.le_refl _⟩
      · exact own_diff hin h.1 (by decide) b hb e2
      · have := (hin' a.block (by unfold RD.b; rw [ha]; rfl)).2; omega
    · have hr := h.2.1 i hi
      exact ⟨own_gr hr.1 hg fun b hb e2 => own_diff hr.1 h.1 (by decide) b hb e2, fun a ha => by have h5 := hr.2.1 a ha; have h6 := hr.2.2; omega, Nat.le_refl _⟩
  · intro i j hi hj hne b hb
    rw [List.length_set] at hi hj
    rw [getD_set hkl] at hb
    rw [getD_set hkl]
    by_cases ei : i = k
    · rw [if_pos ei] at hb
      have h1 := (hin' b hb).1
      rw [if_neg (fun e => hne (ei.trans e.symm))]
      intro e2
      have := (h.2.1 j hj).hi b e2
      omega
    · rw [if_neg ei] at hb
      have h1 := (h.2.1 i hi).hi b hb
      by_cases ej : j = k
      · rw [if_pos ej]
        intro e2
        have := (hin' b e2).1
        omega
      · rw [if_neg ej]
        exact h.2.2.1 i j hi hj hne b hb
  · intro a ha
    have h5 := h.2.2.2.1 a ha
    have h6 := h.2.2.2.2
    omega

def IsSSCopy (B : Nat) (n : Nat) (ls : List RD) (w : World) (e : Ending) (w' : World) : Prop :=
  ∃ g rs, e = .returned (.slice (some ⟨g, 0, none⟩) n n) ∧ rs.map RD.zs = ls.map RD.zs ∧ (∀ i, i < n → ∃ b, (rs.getD i rd0).A = some ⟨b, 0, none⟩) ∧ SSRow w' B w'.heap.size (some ⟨g, 0, none⟩) n n rs ∧ Below B w w'
theorem map_zs_of {rs ls : List RD} (hl : rs.length = ls.length) (h : ∀ i, i < rs.length → (rs.getD i rd0).zs = (ls.getD i rd0).zs) : rs.map RD.zs = ls.map RD.zs := by
  refine List.ext_getElem (by simp [hl]) fun i h1 h2 => ?_
  simp only [List.length_map] at h1 h2
  have e := h i h1
  simp only [List.getD_eq_getElem?_getD, List.getElem?_eq_getElem h1, List.getElem?_eq_getElem h2, Option.getD_some] at e
  simpa using e
theorem rows_none (W : World) (lo hi : Nat) (hh : hi ≤ W.heap.size) : Row W lo hi none 0 0 [] := ⟨World.ownsRow_nil _ _ _ _, (fun a e => by cases e), hh⟩
theorem rep_get (n i : Nat) : (List.replicate n rd0).getD i rd0 = rd0 := by
  simp only [List.getD_eq_getElem?_getD, List.getElem?_replicate]
  split <;> rfl
theorem rows_new {W : World} {lo : Nat} {A : Option Addr} {n c : Nat} (h : W.ownsRow lo 22 1 (.slice A n c) n (List.replicate n (.slice none 0 0))) : SSRow W lo W.heap.size A n c (List.replicate n rd0) := by
  refine ⟨by rw [List.map_replicate]; exact h, fun i hi => ?_, fun i j hi hj hne b hb => ?_, fun a e => (own_lo h a.block (by subst e; rfl)).2, Nat.le_refl _⟩
  · rw [rep_get]; exact rows_none _ _ _ (Nat.le_refl _)
  · rw [rep_get] at hb; cases hb
theorem sz_ints (A : Option Addr) (n c : Nat) (k : Int) (w : World) (hn2 : n ≤ 9223372036854775807) (h0 : 0 ≤ k) (h1 : k ≤ 1073741824) :
    Calls Tryz.prog 25 #[.slice A n c, .int .i64 k] w fun e w' => e = .returned (.int .i64 (if (n : Int) ≤ k then k - (n : Int) else -1)) ∧ w = w' := by
  by_cases h : (n : Int) ≤ k
  · rw [if_pos h]
    go_enter Tryz.func25, Tryz.ntmps25
    go_wp2
    go_ret
    exact ⟨rfl, rfl⟩
  · rw [if_neg h]
    have hneg : k - (n : Int) < 0 := by omega
    go_enter Tryz.func25, Tryz.ntmps25
    go_wp2
    go_ret
    exact ⟨rfl, rfl⟩
end Go.Proofs.YtibephoepkofnaaGreat.Sst
