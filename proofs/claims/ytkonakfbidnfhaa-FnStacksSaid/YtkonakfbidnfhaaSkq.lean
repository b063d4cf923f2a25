/- The greedy word and shift registers, plainly. -/
import Derived.Test.YtkonakfbidnfhaaSkg
import Derived.Test.YtkonakfbidnfhaaSkp
import Derived.KernelRfl
set_option linter.unusedVariables false
set_option maxRecDepth 20000
namespace Go.Proofs.Ytkonakfbidnfhaa.Skq
open Go.RowKit Fr Skp Skv Skg Pk Ins

/-! ### the greedy word -/
/-- its colors, and one window more -/
def cbL : Nat → List Int
  | 1 => [0, 1, 0]
  | 2 => [0, 0, 1, 1, 0, 0]
  | 3 => [0, 0, 0, 1, 1, 1, 0, 1, 0, 0, 0]
  | 4 => [0, 0, 0, 0, 1, 1, 1, 1, 0, 1, 1, 0, 0, 1, 0, 1, 0, 0, 0, 0]
  | 5 => [0, 0, 0, 0, 0, 1, 1, 1, 1, 1, 0, 1, 1, 1, 0, 0, 1, 1, 0, 1, 0, 1, 1, 0, 0, 0, 1, 0, 1, 0, 0, 1, 0, 0, 0, 0, 0]
  | 6 => [0, 0, 0, 0, 0, 0, 1, 1, 1, 1, 1, 1, 0, 1, 1, 1, 1, 0, 0, 1, 1, 1, 0, 1, 0, 1, 1, 1, 0, 0, 0, 1, 1, 0, 1, 1, 0, 1, 0, 0, 1, 1, 0, 0, 1, 0, 1, 1, 0, 0, 0, 0, 1, 0, 1, 0, 1, 0, 0, 0, 1, 0, 0, 1, 0, 0, 0, 0, 0, 0]
  | _ => []
def nxB (C : List Int) (m t : Nat) : Bool := decide ((C.take (m + t)).drop (t + 1) ++ [1] ∈ wsL C m (t + 1))
def nextB (C : List Int) (m T : Nat) : Bool := (List.range T).all fun t => C.getD (m + t) 0 == (if nxB C m t then 0 else 1)
def growsB (C : List Int) (m T : Nat) : Bool := decide (C.length = m + T) && decide ((wsL C m T).Nodup) && decide (wsF C m T ∈ wsL C m T) && C.all (fun x => decide (0 ≤ x) && decide (x ≤ 1))
theorem fits_bits {C : List Int} (h : ∀ x ∈ C, 0 ≤ x ∧ x ≤ 1) : Fits C := by
  intro i hi
  have hm : C.getD i 0 ∈ C := by
    rw [List.getD_eq_getElem?_getD, List.getElem?_eq_getElem hi]
    exact List.getElem_mem _
  have := h _ hm
  omega
theorem grows_of {C : List Int} {m T : Nat} (h : growsB C m T = true) (h1 : 1 ≤ m) (h6 : m ≤ 6) (ht : 1 ≤ T) (hf : T ≤ 64) : Grows C m T := by
  unfold growsB at h
  simp only [Bool.and_eq_true, decide_eq_true_eq, List.all_eq_true] at h
  exact ⟨h.1.1.1, h1, h6, ht, hf, h.1.1.2, h.1.2, fits_bits h.2⟩
theorem cb_chk : ((List.range 7).all fun m => m == 0 || (growsB (cbL m) m (2 ^ m) && nextB (cbL m) m (2 ^ m) && decide ((cbL m).take m = List.replicate m 0) && stkB ((cbL m).take (2 ^ m)) m)) = true := by kernel_rfl
theorem pow_small {m : Nat} (h1 : 1 ≤ m) (h6 : m ≤ 6) : m + 1 ≤ 2 ^ m ∧ 2 ^ m ≤ 64 := by
  rcases (show m = 1 ∨ m = 2 ∨ m = 3 ∨ m = 4 ∨ m = 5 ∨ m = 6 by omega) with rfl | rfl | rfl | rfl | rfl | rfl <;> decide
theorem cb_all {m : Nat} (h1 : 1 ≤ m) (h6 : m ≤ 6) : Grows (cbL m) m (2 ^ m) ∧ (∀ t, t < 2 ^ m → (cbL m).getD (m + t) 0 = if nxB (cbL m) m t then 0 else 1) ∧ (cbL m).take m = List.replicate m 0 ∧ stkB ((cbL m).take (2 ^ m)) m = true := by
  have h := List.all_eq_true.1 cb_chk m (List.mem_range.2 (by omega))
  rw [show (m == 0) = false by simp; omega, Bool.false_or] at h
  simp only [Bool.and_eq_true, decide_eq_true_eq] at h
  obtain ⟨q1, q2⟩ := pow_small h1 h6
  refine ⟨grows_of h.1.1.1 h1 h6 (by omega) q2, fun t ht => ?_, h.1.2, h.2⟩
  have h2 := List.all_eq_true.1 h.1.1.2 t (List.mem_range.2 ht)
  simpa using h2
def dbB (m : Int) : Bool := decide (1 ≤ m ∧ m ≤ 6)
def dbS (m : Int) : List Int := if dbB m then (cbL m.toNat).take (2 ^ m.toNat) else []
def dbM (m : Int) : Int := if dbB m then m else 0
theorem db_short (m : Int) : (dbS m).length ≤ 1048576 := by
  unfold dbS
  cases h : dbB m with
  | false => simp
  | true =>
    unfold dbB at h
    have h := of_decide_eq_true h
    have := (pow_small (m := m.toNat) (by omega) (by omega)).2
    rw [if_pos rfl, List.length_take]
    omega

/-! ### shift registers -/
def fN (taps w : List Int) : Int := (taps.foldl (fun s t => s + w.getD (w.length - t.toNat) 0) 0) % 2
def stepW (taps w : List Int) : List Int := w.drop 1 ++ [fN taps w]
def itW (taps w : List Int) : Nat → List Int
  | 0 => w
  | i + 1 => stepW taps (itW taps w i)
def colS (taps seed : List Int) : Nat → List Int
  | 0 => seed
  | t + 1 => colS taps seed t ++ [fN taps (itW taps seed t)]
/-- the least place from i on, of f, where the seed comes again (w: the window there), or 0 -/
def perF (taps seed : List Int) : Nat → Nat → List Int → Nat
  | 0, _, _ => 0
  | f + 1, i, w => if w = seed then i else perF taps seed f (i + 1) (stepW taps w)
def perT (taps seed : List Int) : Nat := perF taps seed 64 1 (stepW taps seed)
/-- ascending from last on, ending with n -/
def ascB (n : Int) : Int → List Int → Bool
  | last, [] => decide (last = n)
  | last, t :: r => decide (last < t) && ascB n t r
def seedB (seed : List Int) : Bool := decide (1 ≤ seed.length ∧ seed.length ≤ 6) && seed.all isCol && decide ((1 : Int) ∈ seed)
def shB (taps seed : List Int) : Bool := seedB seed && ascB seed.length 0 taps
def shS (taps seed : List Int) : List Int := if shB taps seed then (colS taps seed (perT taps seed)).take (perT taps seed) else []
def shM (taps seed : List Int) : Int := if shB taps seed then seed.length else 0

def bitsL : Nat → List (List Int)
  | 0 => [[]]
  | n + 1 => (bitsL n).map ((0 : Int) :: ·) ++ (bitsL n).map ((1 : Int) :: ·)
theorem bitsL_len : ∀ n, (bitsL n).length = 2 ^ n
  | 0 => rfl
  | n + 1 => by rw [bitsL, List.length_append, List.length_map, List.length_map, bitsL_len n, Nat.pow_succ]; omega
theorem asc_le {n : Int} : ∀ {last : Int} {l : List Int}, ascB n last l = true → last ≤ n ∧ ∀ x ∈ l, last < x ∧ x ≤ n
  | last, [], h => by
    unfold ascB at h
    exact ⟨by have := of_decide_eq_true h; omega, fun x hx => by cases hx⟩
  | last, t :: r, h => by
    simp only [ascB, Bool.and_eq_true, decide_eq_true_eq] at h
    obtain ⟨h1, h2⟩ := asc_le h.2
    refine ⟨by omega, fun x hx => ?_⟩
    rcases List.mem_cons.1 hx with rfl | hx
    · exact ⟨h.1, h1⟩
    · have := h2 x hx
      omega
theorem bits_in : ∀ {l : List Int}, l.all isCol = true → l ∈ bitsL l.length
  | [], _ => by simp [bitsL]
  | x :: r, h => by
    simp only [List.all_cons, Bool.and_eq_true] at h
    have hx : x = 0 ∨ x = 1 := by simpa [isCol] using h.1
    have hr := bits_in h.2
    show x :: r ∈ bitsL (r.length + 1)
    unfold bitsL
    refine List.mem_append.2 ?_
    rcases hx with rfl | rfl
    · exact Or.inl (List.mem_map.2 ⟨r, hr, rfl⟩)
    · exact Or.inr (List.mem_map.2 ⟨r, hr, rfl⟩)
theorem nodup_le {α : Type} [DecidableEq α] : ∀ (l m : List α), l.Nodup → (∀ x ∈ l, x ∈ m) → l.length ≤ m.length
  | [], _, _, _ => Nat.zero_le _
  | x :: r, m, h, hs => by
    have hx := hs x List.mem_cons_self
    have hd := List.nodup_cons.1 h
    have h2 := nodup_le r (m.erase x) hd.2 (fun y hy => by
      have hne : y ≠ x := fun e => hd.1 (e ▸ hy)
      exact (List.mem_erase_of_ne hne).2 (hs y (List.mem_cons_of_mem _ hy)))
    rw [List.length_erase_of_mem hx] at h2
    have : 0 < m.length := List.length_pos_of_mem hx
    rw [List.length_cons]
    omega
theorem fN_bit (taps w : List Int) : isCol (fN taps w) = true := by
  unfold fN isCol
  generalize (taps.foldl (fun s t => s + w.getD (w.length - t.toNat) 0) 0) = s
  have : s % 2 = 0 ∨ s % 2 = 1 := by omega
  simpa using this
theorem step_len {taps w : List Int} (h : 1 ≤ w.length) : (stepW taps w).length = w.length := by
  unfold stepW
  rw [List.length_append, List.length_drop, List.length_singleton]
  omega
theorem step_bits {taps w : List Int} (h : w.all isCol = true) : (stepW taps w).all isCol = true := by
  unfold stepW
  rw [List.all_append, Bool.and_eq_true]
  refine ⟨List.all_eq_true.2 fun x hx => List.all_eq_true.1 h x (List.mem_of_mem_drop hx), ?_⟩
  simp [fN_bit]
theorem fold_diff {n : Nat} {a b : List Int} (ha : a.length = n) (hb : b.length = n) (hd : a.drop 1 = b.drop 1) : ∀ (taps : List Int) (last s s' : Int), 0 ≤ last → last < n → ascB n last taps = true →
    taps.foldl (fun s t => s + a.getD (a.length - t.toNat) 0) s - taps.foldl (fun s t => s + b.getD (b.length - t.toNat) 0) s' = s - s' + (a.getD 0 0 - b.getD 0 0)
  | [], last, s, s', h0, hl, h => by
    unfold ascB at h
    have := of_decide_eq_true h
    omega
  | t :: r, last, s, s', h0, hl, h => by
    simp only [ascB, Bool.and_eq_true, decide_eq_true_eq] at h
    rw [List.foldl_cons, List.foldl_cons]
    have hle := (asc_le h.2).1
    by_cases e : t = (n : Int)
    · have hr : r = [] := by
        cases r with
        | nil => rfl
        | cons y q =>
          have := (asc_le h.2).2 y List.mem_cons_self
          omega
      subst hr
      subst e
      rw [List.foldl_nil, List.foldl_nil, ha, hb]
      simp only [Int.toNat_natCast, Nat.sub_self]
      omega
    · have e1 : a.getD (n - t.toNat) 0 = b.getD (n - t.toNat) 0 := by
        obtain ⟨q, hq⟩ : ∃ q, n - t.toNat = 1 + q := ⟨n - t.toNat - 1, by omega⟩
        have h1 := congrArg (fun l => l.getD q 0) hd
        simp only [List.getD_eq_getElem?_getD, List.getElem?_drop] at h1
        rw [hq, List.getD_eq_getElem?_getD, List.getD_eq_getElem?_getD]
        exact h1
      rw [fold_diff ha hb hd r t _ _ (by omega) (by omega) h.2, ha, hb, e1]
      omega
theorem cons_of {a : List Int} (h : 1 ≤ a.length) : a = a.getD 0 0 :: a.drop 1 := by
  cases a with
  | nil => simp at h
  | cons x r => rfl
theorem bit_at {a : List Int} (h : a.all isCol = true) (h1 : 1 ≤ a.length) : a.getD 0 0 = 0 ∨ a.getD 0 0 = 1 := by
  cases a with
  | nil => simp at h1
  | cons x r =>
    have := List.all_eq_true.1 h x List.mem_cons_self
    simpa [isCol] using this
theorem step_inj {n : Nat} {taps a b : List Int} (hn : 1 ≤ n) (ha : a.length = n) (hb : b.length = n) (hac : a.all isCol = true) (hbc : b.all isCol = true) (ht : ascB n 0 taps = true) (h : stepW taps a = stepW taps b) : a = b := by
  unfold stepW at h
  obtain ⟨h1, h2⟩ := List.append_inj h (by rw [List.length_drop, List.length_drop, ha, hb])
  injection h2 with h2 _
  have h3 := fold_diff ha hb h1 taps 0 0 0 (Int.le_refl _) (by omega) ht
  unfold fN at h2
  have h4 := bit_at hac (by omega)
  have h5 := bit_at hbc (by omega)
  have h6 : a.getD 0 0 = b.getD 0 0 := by omega
  rw [cons_of (a := a) (by omega), cons_of (a := b) (by omega), h1, h6]
section
variable {n : Nat} {taps seed : List Int}
theorem it_len (hn : 1 ≤ n) (hs : seed.length = n) : ∀ i, (itW taps seed i).length = n
  | 0 => hs
  | i + 1 => by have := it_len hn hs i; unfold itW; rw [step_len (by omega), this]
theorem it_bits (hs : seed.all isCol = true) : ∀ i, (itW taps seed i).all isCol = true
  | 0 => hs
  | i + 1 => step_bits (it_bits hs i)
theorem it_back (hn : 1 ≤ n) (hs : seed.length = n) (hc : seed.all isCol = true) (ht : ascB n 0 taps = true) : ∀ (i d : Nat), itW taps seed i = itW taps seed (i + d) → itW taps seed d = seed
  | 0, d, h => by rw [Nat.zero_add] at h; exact h.symm
  | i + 1, d, h => by
    rw [show i + 1 + d = i + d + 1 by omega] at h
    exact it_back hn hs hc ht i d (step_inj hn (it_len hn hs i) (it_len hn hs (i + d)) (it_bits hc i) (it_bits hc (i + d)) ht h)
/-- before the seed comes again all windows differ -/
theorem it_nodup (hn : 1 ≤ n) (hs : seed.length = n) (hc : seed.all isCol = true) (ht : ascB n 0 taps = true) {T : Nat} (h : ∀ j, 1 ≤ j → j < T → itW taps seed j ≠ seed) : ((List.range T).map (itW taps seed)).Nodup := by
  refine List.pairwise_map.2 (List.Pairwise.imp_of_mem (R := fun a b => a < b) (fun {a b} ha hb hab e => ?_) List.pairwise_lt_range)
  have hb := List.mem_range.1 hb
  exact h (b - a) (by omega) (by omega) (it_back hn hs hc ht a (b - a) (by rw [show a + (b - a) = b by omega]; exact e))
theorem it_again (hn : 1 ≤ n) (h6 : n ≤ 6) (hs : seed.length = n) (hc : seed.all isCol = true) (ht : ascB n 0 taps = true) : ∃ j, 1 ≤ j ∧ j < 65 ∧ itW taps seed j = seed := by
  refine Classical.byContradiction fun hno => ?_
  have hd := it_nodup (T := 65) hn hs hc ht (fun j h1 h2 e => hno ⟨j, h1, h2, e⟩)
  have hl := nodup_le _ (bitsL n) hd (fun x hx => by
    obtain ⟨i, _, rfl⟩ := List.mem_map.1 hx
    have h := bits_in (it_bits (taps := taps) hc i)
    rw [it_len hn hs i] at h
    exact h)
  rw [bitsL_len] at hl
  have := (pow_small hn h6).2
  simp at hl
  omega
theorem per_hit : ∀ (f i : Nat), (∃ j, i ≤ j ∧ j < i + f ∧ itW taps seed j = seed) → i ≤ perF taps seed f i (itW taps seed i) ∧ perF taps seed f i (itW taps seed i) < i + f ∧ itW taps seed (perF taps seed f i (itW taps seed i)) = seed ∧ ∀ j, i ≤ j → j < perF taps seed f i (itW taps seed i) → itW taps seed j ≠ seed
  | 0, i, ⟨j, h1, h2, _⟩ => by omega
  | f + 1, i, ⟨j, h1, h2, h3⟩ => by
    unfold perF
    by_cases e : itW taps seed i = seed
    · rw [if_pos e]
      exact ⟨Nat.le_refl _, by omega, e, fun j h1 h2 => by omega⟩
    · rw [if_neg e]
      have hj : i + 1 ≤ j := by
        by_cases e2 : i = j
        · subst e2; exact absurd h3 e
        · omega
      obtain ⟨q1, q2, q3, q4⟩ := per_hit f (i + 1) ⟨j, hj, by omega, h3⟩
      have eq1 : itW taps seed (i + 1) = stepW taps (itW taps seed i) := rfl
      rw [eq1] at q1 q2 q3 q4
      refine ⟨by omega, by omega, q3, fun j' h1' h2' => ?_⟩
      by_cases e2 : i = j'
      · subst e2; exact e
      · exact q4 j' (by omega) h2'
theorem col_len (hs : seed.length = n) : ∀ t, (colS taps seed t).length = n + t
  | 0 => hs
  | t + 1 => by rw [colS, List.length_append, col_len hs t]; rfl
theorem col_drop (hn : 1 ≤ n) (hs : seed.length = n) : ∀ t, (colS taps seed t).drop t = itW taps seed t
  | 0 => rfl
  | t + 1 => by
    have h := col_drop hn hs t
    have hl := col_len (taps := taps) hs t
    rw [colS, List.drop_append_of_le_length (by omega), ← List.drop_drop, h]
    rfl
theorem col_take (hs : seed.length = n) : ∀ {T t : Nat}, t ≤ T → (colS taps seed T).take (n + t) = colS taps seed t
  | 0, t, h => by
    obtain rfl : t = 0 := by omega
    rw [Nat.add_zero]
    exact List.take_of_length_le (by rw [col_len hs]; omega)
  | T + 1, t, h => by
    by_cases e : t = T + 1
    · subst e
      exact List.take_of_length_le (by rw [col_len hs]; omega)
    · rw [colS, List.take_append_of_le_length (by rw [col_len hs]; omega)]
      exact col_take hs (by omega)
theorem col_ws (hn : 1 ≤ n) (hs : seed.length = n) {T i : Nat} (h : i ≤ T) : wsF (colS taps seed T) n i = itW taps seed i := by
  rw [← take_drop_ws, col_take hs h, col_drop hn hs]
theorem col_wsl (hn : 1 ≤ n) (hs : seed.length = n) {T k : Nat} (h : k ≤ T) : wsL (colS taps seed T) n k = (List.range k).map (itW taps seed) := by
  unfold wsL
  exact List.map_congr_left fun i hi => col_ws hn hs (by have := List.mem_range.1 hi; omega)
theorem col_next (hn : 1 ≤ n) (hs : seed.length = n) {T t : Nat} (h : t < T) : (colS taps seed T).getD (n + t) 0 = fN taps (itW taps seed t) := by
  have h1 := col_take (taps := taps) hs (T := T) (t := t + 1) (by omega)
  have h2 : (colS taps seed (t + 1)).getD (n + t) 0 = fN taps (itW taps seed t) := by
    rw [colS, List.getD_eq_getElem?_getD, List.getElem?_append_right (by rw [col_len hs]; omega), col_len hs, Nat.sub_self]
    rfl
  rw [← h2, ← h1, List.getD_eq_getElem?_getD, List.getD_eq_getElem?_getD, List.getElem?_take, if_pos (by omega)]
theorem col_bits (hc : seed.all isCol = true) : ∀ t, ∀ x ∈ colS taps seed t, 0 ≤ x ∧ x ≤ 1
  | 0, x, hx => by
    have := List.all_eq_true.1 hc x hx
    have : x = 0 ∨ x = 1 := by simpa [isCol] using this
    omega
  | t + 1, x, hx => by
    rw [colS] at hx
    rcases List.mem_append.1 hx with hx | hx
    · exact col_bits hc t x hx
    · rw [List.mem_singleton.1 hx]
      have : fN taps (itW taps seed t) = 0 ∨ fN taps (itW taps seed t) = 1 := by simpa [isCol] using fN_bit taps (itW taps seed t)
      omega
end
/-- a register's colors, until its seed comes again -/
theorem reg_all {taps seed : List Int} (h : shB taps seed = true) : Grows (colS taps seed (perT taps seed)) seed.length (perT taps seed) ∧ 1 ≤ perT taps seed ∧ perT taps seed ≤ 64 ∧ itW taps seed (perT taps seed) = seed ∧ (∀ j, 1 ≤ j → j < perT taps seed → itW taps seed j ≠ seed) := by
  unfold shB seedB at h
  simp only [Bool.and_eq_true, decide_eq_true_eq] at h
  obtain ⟨⟨⟨⟨h1, h6⟩, hc⟩, _⟩, ht⟩ := h
  have hp := per_hit (taps := taps) (seed := seed) 64 1 (by
    obtain ⟨j, q1, q2, q3⟩ := it_again h1 h6 rfl hc ht
    exact ⟨j, q1, by omega, q3⟩)
  have e : perF taps seed 64 1 (itW taps seed 1) = perT taps seed := rfl
  rw [e] at hp
  obtain ⟨p1, p2, p3, p4⟩ := hp
  refine ⟨⟨col_len rfl _, h1, h6, p1, by omega, ?_, ?_, fits_bits (col_bits hc _)⟩, p1, by omega, p3, p4⟩
  · rw [col_wsl h1 rfl (Nat.le_refl _)]
    exact it_nodup h1 rfl hc ht p4
  · rw [col_wsl h1 rfl (Nat.le_refl _), col_ws h1 rfl (Nat.le_refl _), p3]
    exact List.mem_map.2 ⟨0, List.mem_range.2 (by omega), rfl⟩
theorem sh_short (taps seed : List Int) : (shS taps seed).length ≤ 1048576 := by
  unfold shS
  cases h : shB taps seed with
  | false => simp
  | true =>
    have := (reg_all h).2.2.1
    rw [if_pos rfl, List.length_take]
    omega
end Go.Proofs.Ytkonakfbidnfhaa.Skq
