/- Permutations as functions on the numbers below n: how often a point returns, its orbit, and which points open an orbit. Plain mathematics. -/
import GoSem.ClaimData
set_option linter.unusedVariables false
set_option maxRecDepth 20000
namespace Go.Proofs.Ytibephoepkofnaa.Orb

theorem nodup_le {α : Type} [DecidableEq α] : ∀ (l m : List α), l.Nodup → (∀ x ∈ l, x ∈ m) → l.length ≤ m.length
  | [], _, _, _ => Nat.zero_le _
  | a :: l, m, hn, hs => by
    obtain ⟨h1, h2⟩ := List.nodup_cons.1 hn
    have hm : a ∈ m := hs a (List.mem_cons_self)
    have := nodup_le l (m.erase a) h2 (fun x hx => by
      have hxm := hs x (List.mem_cons_of_mem _ hx)
      have hne : x ≠ a := fun e => h1 (e ▸ hx)
      exact (List.mem_erase_of_ne hne).2 hxm)
    rw [List.length_erase_of_mem hm] at this
    have hp : 0 < m.length := List.length_pos_of_mem hm
    simp only [List.length_cons]; omega
/-- of n + 1 numbers below n two are one -/
theorem pigeon (g : Nat → Nat) (n : Nat) (h : ∀ t, t ≤ n → g t < n) : ∃ s t, s < t ∧ t ≤ n ∧ g s = g t := by
  rcases Classical.em (∃ s t, s < t ∧ t ≤ n ∧ g s = g t) with h1 | h1
  · exact h1
  · exfalso
    have hnd : ((List.range (n + 1)).map g).Nodup := by
      rw [List.nodup_iff_pairwise_ne, List.pairwise_map]
      refine (List.pairwise_lt_range (n := n + 1)).imp_of_mem ?_
      intro a b ha hb hab e
      exact h1 ⟨a, b, hab, by have := List.mem_range.1 hb; omega, e⟩
    have := nodup_le _ (List.range n) hnd (fun x hx => by
      obtain ⟨t, ht, rfl⟩ := List.mem_map.1 hx
      exact List.mem_range.2 (h t (by have := List.mem_range.1 ht; omega)))
    simp at this
    omega

/-- f permutes the numbers below n -/
structure Bij (f : Nat → Nat) (n : Nat) : Prop where
  lt : ∀ x, x < n → f x < n
  inj : ∀ x y, x < n → y < n → f x = f y → x = y

def it (f : Nat → Nat) : Nat → Nat → Nat
  | 0, x => x
  | t + 1, x => it f t (f x)
section
variable {f : Nat → Nat} {n : Nat}
theorem it_add (f : Nat → Nat) (s t x : Nat) : it f (s + t) x = it f s (it f t x) := by
  induction t generalizing x with
  | zero => rfl
  | succ t ih => exact ih (f x)
theorem it_succ (f : Nat → Nat) (t x : Nat) : it f (t + 1) x = f (it f t x) := by
  rw [Nat.add_comm, it_add]; rfl
theorem it_lt (h : Bij f n) (t : Nat) {x : Nat} (hx : x < n) : it f t x < n := by
  induction t generalizing x with
  | zero => exact hx
  | succ t ih => exact ih (h.lt x hx)
theorem it_inj (h : Bij f n) (t : Nat) {x y : Nat} (hx : x < n) (hy : y < n) (e : it f t x = it f t y) : x = y := by
  induction t generalizing x y with
  | zero => exact e
  | succ t ih => exact h.inj x y hx hy (ih (h.lt x hx) (h.lt y hy) e)
theorem it_mul (f : Nat → Nat) (p x : Nat) (h : it f p x = x) (k : Nat) : it f (p * k) x = x := by
  induction k with
  | zero => rfl
  | succ k ih => rw [Nat.mul_succ, it_add, h, ih]
theorem it_mod (f : Nat → Nat) (p x : Nat) (h : it f p x = x) (t : Nat) : it f t x = it f (t % p) x := by
  have e : t = t % p + p * (t / p) := by have := Nat.mod_add_div t p; omega
  rw [e, it_add, it_mul f p x h]
  simp [Nat.add_mul_mod_self_left]

/-- after how many steps a point returns -/
def per (f : Nat → Nat) (n x : Nat) : Nat := (((List.range n).find? fun j => it f (j + 1) x == x).map (· + 1)).getD 1
theorem find_range (p : Nat → Bool) (n : Nat) : (∃ j, (List.range n).find? p = some j ∧ j < n ∧ p j = true ∧ ∀ i, i < j → p i = false) ∨ ((List.range n).find? p = none ∧ ∀ i, i < n → p i = false) := by
  cases h : (List.range n).find? p with
  | none =>
    refine Or.inr ⟨rfl, fun i hi => ?_⟩
    have := List.find?_eq_none.1 h i (List.mem_range.2 hi)
    simpa using this
  | some j =>
    have h1 := List.find?_some h
    have h2 := List.mem_range.1 (List.mem_of_find?_eq_some h)
    refine Or.inl ⟨j, rfl, h2, h1, fun i hi => ?_⟩
    obtain ⟨_, as, bs, he, hall⟩ := List.find?_eq_some_iff_append.1 h
    have hlen : as.length = j := by
      have h3 : (List.range n)[as.length]? = some j := by rw [he]; simp
      rw [List.getElem?_range (by
        have := congrArg List.length he
        simp at this; omega)] at h3
      exact Option.some.inj h3
    have hi2 : (List.range n)[i]? = some i := List.getElem?_range (by omega)
    rw [he, List.getElem?_append_left (by omega)] at hi2
    have := hall i (List.mem_of_getElem? hi2)
    simpa using this
theorem per_spec (h : Bij f n) {x : Nat} (hx : x < n) : 1 ≤ per f n x ∧ per f n x ≤ n ∧ it f (per f n x) x = x ∧ ∀ j, 0 < j → j < per f n x → it f j x ≠ x := by
  rcases find_range (fun j => it f (j + 1) x == x) n with ⟨j, hj, h1, h2, h3⟩ | ⟨_, h2⟩
  · have e : per f n x = j + 1 := by unfold per; rw [hj]; rfl
    rw [e]
    refine ⟨by omega, by omega, by simpa using h2, fun i h4 h5 => ?_⟩
    have := h3 (i - 1) (by omega)
    rw [show i - 1 + 1 = i by omega] at this
    simpa using this
  · exfalso
    obtain ⟨s, t, hst, ht, e⟩ := pigeon (fun t => it f t x) n (fun t _ => it_lt h t hx)
    have e2 : it f s (it f (t - s) x) = it f s x := by
      rw [← it_add, show s + (t - s) = t by omega]; exact e.symm
    have e3 := it_inj h s (it_lt h (t - s) hx) hx e2
    have := h2 (t - s - 1) (by omega)
    rw [show t - s - 1 + 1 = t - s by omega] at this
    simp [e3] at this
theorem per_dvd (h : Bij f n) {x : Nat} (hx : x < n) (t : Nat) : it f t x = x ↔ per f n x ∣ t := by
  obtain ⟨h1, h2, h3, h4⟩ := per_spec h hx
  constructor
  · intro e
    rw [it_mod f _ x h3] at e
    rcases Nat.eq_zero_or_pos (t % per f n x) with h5 | h5
    · exact Nat.dvd_of_mod_eq_zero h5
    · exact absurd e (h4 _ h5 (Nat.mod_lt _ h1))
  · rintro ⟨k, rfl⟩
    exact it_mul f _ x h3 k

/-- the points that a point comes to -/
def orb (f : Nat → Nat) (n x : Nat) : List Nat := (List.range (per f n x)).map fun t => it f t x
theorem orb_len (f : Nat → Nat) (n x : Nat) : (orb f n x).length = per f n x := by simp [orb]
theorem mem_orb (h : Bij f n) {x : Nat} (hx : x < n) (y : Nat) : y ∈ orb f n x ↔ ∃ t, it f t x = y := by
  obtain ⟨h1, h2, h3, h4⟩ := per_spec h hx
  constructor
  · intro hm
    obtain ⟨t, _, e⟩ := List.mem_map.1 hm
    exact ⟨t, e⟩
  · rintro ⟨t, e⟩
    refine List.mem_map.2 ⟨t % per f n x, List.mem_range.2 (Nat.mod_lt _ h1), ?_⟩
    rw [← it_mod f _ x h3]; exact e
/-- y is reached from x -/
def Rel (f : Nat → Nat) (x y : Nat) : Prop := ∃ t, it f t x = y
theorem rel_refl (f : Nat → Nat) (x : Nat) : Rel f x x := ⟨0, rfl⟩
theorem rel_step (f : Nat → Nat) (x : Nat) : Rel f x (f x) := ⟨1, rfl⟩
theorem rel_trans {x y z : Nat} (h1 : Rel f x y) (h2 : Rel f y z) : Rel f x z := by
  obtain ⟨s, rfl⟩ := h1
  obtain ⟨t, rfl⟩ := h2
  exact ⟨t + s, it_add f t s x⟩
theorem rel_lt (h : Bij f n) {x y : Nat} (hx : x < n) (hr : Rel f x y) : y < n := by
  obtain ⟨t, rfl⟩ := hr
  exact it_lt h t hx
theorem rel_symm (h : Bij f n) {x y : Nat} (hx : x < n) (hr : Rel f x y) : Rel f y x := by
  obtain ⟨h1, h2, h3, h4⟩ := per_spec h hx
  obtain ⟨t, rfl⟩ := hr
  refine ⟨per f n x * t - t, ?_⟩
  rw [← it_add]
  have : t ≤ per f n x * t := Nat.le_mul_of_pos_left t h1
  rw [show per f n x * t - t + t = per f n x * t by omega]
  exact it_mul f _ x h3 t

/-- v lies in the orbit of a point below k -/
def old (f : Nat → Nat) (n k v : Nat) : Bool := (List.range k).any fun i => decide (v ∈ orb f n i)
theorem old_iff (h : Bij f n) {k : Nat} (hk : k ≤ n) (v : Nat) : old f n k v = true ↔ ∃ i, i < k ∧ Rel f i v := by
  unfold old
  rw [List.any_eq_true]
  constructor
  · rintro ⟨i, hi, hm⟩
    have hik := List.mem_range.1 hi
    exact ⟨i, hik, (mem_orb h (by omega) v).1 (of_decide_eq_true hm)⟩
  · rintro ⟨i, hi, hm⟩
    exact ⟨i, List.mem_range.2 hi, decide_eq_true ((mem_orb h (by omega) v).2 hm)⟩
/-- a point opens its orbit: no smaller one lies in it -/
def lead (f : Nat → Nat) (n k : Nat) : Bool := !old f n k k
theorem lead_iff (h : Bij f n) {k : Nat} (hk : k < n) : lead f n k = true ↔ ∀ i, i < k → ¬ Rel f i k := by
  unfold lead
  rw [Bool.not_eq_true', ← Bool.not_eq_true, old_iff h (Nat.le_of_lt hk)]
  constructor
  · intro hh i hi hr; exact hh ⟨i, hi, hr⟩
  · rintro hh ⟨i, hi, hr⟩; exact hh i hi hr
/-- the points marked behind t steps of round k -/
def mid (f : Nat → Nat) (n k t v : Nat) : Bool := old f n k v || decide (v ∈ (orb f n k).take t)
theorem mid_zero (f : Nat → Nat) (n k v : Nat) : mid f n k 0 v = old f n k v := by simp [mid]
theorem orb_take (f : Nat → Nat) (n k t : Nat) (ht : t < per f n k) : (orb f n k).take (t + 1) = (orb f n k).take t ++ [it f t k] := by
  rw [List.take_succ_eq_append_getElem (by rw [orb_len]; exact ht)]
  simp [orb]
theorem mid_next (f : Nat → Nat) (n k t v : Nat) (ht : t < per f n k) : mid f n k (t + 1) v = (mid f n k t v || decide (v = it f t k)) := by
  unfold mid
  rw [orb_take f n k t ht, Bool.or_assoc]
  congr 1
  rw [Bool.eq_iff_iff]
  simp
/-- along the orbit of an opening point nothing is marked yet -/
theorem mid_free (h : Bij f n) {k t : Nat} (hk : k < n) (hl : lead f n k = true) (ht : t < per f n k) : mid f n k t (it f t k) = false := by
  obtain ⟨h1, h2, h3, h4⟩ := per_spec h hk
  unfold mid
  rw [Bool.or_eq_false_iff]
  constructor
  · rw [← Bool.not_eq_true, old_iff h (Nat.le_of_lt hk)]
    rintro ⟨i, hi, hr⟩
    refine (lead_iff h hk).1 hl i hi (rel_trans hr (rel_symm h hk ⟨t, rfl⟩))
  · refine decide_eq_false fun hm => ?_
    obtain ⟨s, hs, e⟩ := List.mem_iff_getElem.1 hm
    rw [List.length_take, orb_len] at hs
    have e2 : it f s k = it f t k := by simpa [orb] using e
    have e3 : it f s (it f (t - s) k) = it f s k := by rw [← it_add, show s + (t - s) = t by omega]; exact e2.symm
    exact h4 (t - s) (by omega) (by omega) (it_inj h s (it_lt h _ hk) hk e3)
/-- back at the opening point -/
theorem mid_back (h : Bij f n) {k : Nat} (hk : k < n) : mid f n k (per f n k) (it f (per f n k) k) = true := by
  obtain ⟨h1, h2, h3, h4⟩ := per_spec h hk
  unfold mid
  rw [h3, Bool.or_eq_true]
  refine Or.inr (decide_eq_true ?_)
  rw [List.take_of_length_le (by rw [orb_len]; exact Nat.le_refl _)]
  exact (mem_orb h hk k).2 ⟨0, rfl⟩
theorem mid_all (h : Bij f n) {k : Nat} (hk : k < n) (v : Nat) : mid f n k (per f n k) v = old f n (k + 1) v := by
  unfold mid
  rw [List.take_of_length_le (by rw [orb_len]; exact Nat.le_refl _)]
  unfold old
  rw [List.range_succ, List.any_append]
  simp
theorem old_stay (h : Bij f n) {k : Nat} (hk : k < n) (hl : lead f n k = false) (v : Nat) : old f n (k + 1) v = old f n k v := by
  rw [Bool.eq_iff_iff, old_iff h hk, old_iff h (Nat.le_of_lt hk)]
  constructor
  · rintro ⟨i, hi, hr⟩
    by_cases e : i = k
    · subst e
      have ho : old f n i i = true := by unfold lead at hl; simpa using hl
      obtain ⟨j, hj, hr2⟩ := (old_iff h (Nat.le_of_lt hk) i).1 ho
      exact ⟨j, hj, rel_trans hr2 hr⟩
    · exact ⟨i, by omega, hr⟩
  · rintro ⟨i, hi, hr⟩
    exact ⟨i, by omega, hr⟩
theorem old_zero (f : Nat → Nat) (n v : Nat) : old f n 0 v = false := rfl

/-- the orbits of the opening points below k, in their order -/
def cycTo (f : Nat → Nat) (n k : Nat) : List (List Nat) := ((List.range k).filter (lead f n)).map (orb f n)
theorem cycTo_yes {k : Nat} (hl : lead f n k = true) : cycTo f n (k + 1) = cycTo f n k ++ [orb f n k] := by
  unfold cycTo
  rw [List.range_succ, List.filter_append, List.map_append]
  simp [hl]
theorem cycTo_no {k : Nat} (hl : lead f n k = false) : cycTo f n (k + 1) = cycTo f n k := by
  unfold cycTo
  rw [List.range_succ, List.filter_append, List.map_append]
  simp [hl]
theorem cycTo_len (f : Nat → Nat) (n k : Nat) : (cycTo f n k).length ≤ k := by
  unfold cycTo
  rw [List.length_map]
  exact Nat.le_trans (List.length_filter_le _ _) (by simp)
/-! ### the order -/
theorem lead_of (h : Bij f n) : ∀ x, x < n → ∃ l, l < n ∧ lead f n l = true ∧ Rel f l x := by
  intro x
  induction x using Nat.strongRecOn with
  | _ x ih =>
    intro hx
    cases hl : lead f n x with
    | true => exact ⟨x, hx, hl, rel_refl f x⟩
    | false =>
      have ho : old f n x x = true := by unfold lead at hl; simpa using hl
      obtain ⟨i, hi, hr⟩ := (old_iff h (Nat.le_of_lt hx) x).1 ho
      obtain ⟨l, h1, h2, h3⟩ := ih i hi (by omega)
      exact ⟨l, h1, h2, rel_trans h3 hr⟩
def lcmL (ls : List Nat) : Nat := ls.foldl Nat.lcm 1
theorem lcmL_snoc (ls : List Nat) (x : Nat) : lcmL (ls ++ [x]) = Nat.lcm (lcmL ls) x := by simp [lcmL]
theorem lcm_fold_dvd (ls : List Nat) (m k : Nat) : ls.foldl Nat.lcm m ∣ k ↔ m ∣ k ∧ ∀ l ∈ ls, l ∣ k := by
  induction ls generalizing m with
  | nil => simp
  | cons a ls ih =>
    rw [List.foldl_cons, ih]
    constructor
    · rintro ⟨h1, h2⟩
      refine ⟨Nat.dvd_trans (Nat.dvd_lcm_left m a) h1, fun l hl => ?_⟩
      rcases List.mem_cons.1 hl with e | e
      · rw [e]; exact Nat.dvd_trans (Nat.dvd_lcm_right m a) h1
      · exact h2 l e
    · rintro ⟨h1, h2⟩
      exact ⟨Nat.lcm_dvd h1 (h2 a List.mem_cons_self), fun l hl => h2 l (List.mem_cons_of_mem _ hl)⟩
theorem lcmL_dvd (ls : List Nat) (k : Nat) : lcmL ls ∣ k ↔ ∀ l ∈ ls, l ∣ k := by
  unfold lcmL
  rw [lcm_fold_dvd]
  simp
/-- how often f must be done till all points are back -/
def ordN (f : Nat → Nat) (n : Nat) : Nat := lcmL ((cycTo f n n).map List.length)
theorem mem_cycTo {k : Nat} {l : List Nat} (hm : l ∈ cycTo f n k) : ∃ x, x < k ∧ lead f n x = true ∧ l = orb f n x := by
  unfold cycTo at hm
  obtain ⟨x, hx, rfl⟩ := List.mem_map.1 hm
  obtain ⟨h1, h2⟩ := List.mem_filter.1 hx
  exact ⟨x, List.mem_range.1 h1, h2, rfl⟩
theorem cycTo_mem {k x : Nat} (hx : x < k) (hl : lead f n x = true) : orb f n x ∈ cycTo f n k :=
  List.mem_map.2 ⟨x, List.mem_filter.2 ⟨List.mem_range.2 hx, hl⟩, rfl⟩
theorem it_all (h : Bij f n) (k : Nat) : (∀ x, x < n → it f k x = x) ↔ ordN f n ∣ k := by
  unfold ordN
  rw [lcmL_dvd]
  constructor
  · intro ha l hl
    obtain ⟨c, hc, rfl⟩ := List.mem_map.1 hl
    obtain ⟨x, hx, _, rfl⟩ := mem_cycTo hc
    rw [orb_len]
    exact (per_dvd h hx k).1 (ha x hx)
  · intro ha x hx
    obtain ⟨l, h1, h2, t, rfl⟩ := lead_of h x hx
    have h3 := ha (per f n l) (List.mem_map.2 ⟨_, cycTo_mem h1 h2, orb_len f n l⟩)
    have h4 := (per_dvd h h1 k).2 h3
    rw [← it_add, Nat.add_comm, it_add, h4]
theorem cyc_len (h : Bij f n) {k : Nat} (hk : k ≤ n) {l : List Nat} (hm : l ∈ cycTo f n k) : 1 ≤ l.length ∧ l.length ≤ n := by
  obtain ⟨x, hx, _, rfl⟩ := mem_cycTo hm
  rw [orb_len]
  have := per_spec h (show x < n by omega)
  exact ⟨this.1, this.2.1⟩
theorem dvd_27720 : ∀ m, 1 ≤ m → m ≤ 12 → m ∣ 27720 := by
  intro m h1 h2
  rcases (show m = 1 ∨ m = 2 ∨ m = 3 ∨ m = 4 ∨ m = 5 ∨ m = 6 ∨ m = 7 ∨ m = 8 ∨ m = 9 ∨ m = 10 ∨ m = 11 ∨ m = 12 by omega) with e | e | e | e | e | e | e | e | e | e | e | e <;> subst e <;> decide
theorem lcmL_small (ls : List Nat) (h : ∀ l ∈ ls, 1 ≤ l ∧ l ≤ 12) : 1 ≤ lcmL ls ∧ lcmL ls ≤ 27720 := by
  have h1 : lcmL ls ∣ 27720 := (lcmL_dvd ls _).2 fun l hl => dvd_27720 l (h l hl).1 (h l hl).2
  have h2 := Nat.le_of_dvd (by omega) h1
  refine ⟨Nat.pos_of_ne_zero fun e => ?_, h2⟩
  rw [e] at h1
  have := Nat.eq_zero_of_zero_dvd h1
  omega
end
end Go.Proofs.Ytibephoepkofnaa.Orb
