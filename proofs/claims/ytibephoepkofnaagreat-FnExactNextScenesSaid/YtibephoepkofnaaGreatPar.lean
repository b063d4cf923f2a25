/- The parity of a permutation: exchanging two points turns it, so that it is multiplicative. Plain mathematics. -/
import Derived.Test.YtibephoepkofnaaGreatOrb
set_option linter.unusedVariables false
set_option maxRecDepth 20000
namespace Go.Proofs.YtibephoepkofnaaGreat.Orb

def cnt (p : Nat → Bool) (k : Nat) : Nat := ((List.range k).filter p).length
theorem cnt_succ (p : Nat → Bool) (k : Nat) : cnt p (k + 1) = cnt p k + (if p k then 1 else 0) := by
  unfold cnt
  rw [List.range_succ, List.filter_append, List.length_append]
  cases h : p k <;> simp [h]
theorem cnt_le (p : Nat → Bool) (k : Nat) : cnt p k ≤ k := by
  induction k with
  | zero => exact Nat.le_refl _
  | succ k ih => rw [cnt_succ]; split <;> omega
theorem cnt_congr {p q : Nat → Bool} {k : Nat} (h : ∀ x, x < k → p x = q x) : cnt p k = cnt q k := by
  induction k with
  | zero => rfl
  | succ k ih => rw [cnt_succ, cnt_succ, ih (fun x hx => h x (by omega)), h k (by omega)]
theorem cnt_mono {p q : Nat → Bool} {k : Nat} (h : ∀ x, x < k → p x = true → q x = true) : cnt p k ≤ cnt q k := by
  induction k with
  | zero => exact Nat.le_refl _
  | succ k ih =>
    rw [cnt_succ, cnt_succ]
    have h1 := ih (fun x hx => h x (by omega))
    cases hp : p k with
    | false => rw [if_neg (by simp)]; omega
    | true => rw [h k (by omega) hp]; omega
theorem cnt_lt {p q : Nat → Bool} {k : Nat} (h : ∀ x, x < k → p x = true → q x = true) {m : Nat} (hm : m < k) (h1 : p m = false) (h2 : q m = true) : cnt p k < cnt q k := by
  induction k with
  | zero => omega
  | succ k ih =>
    rw [cnt_succ, cnt_succ]
    by_cases e : m = k
    · subst e
      rw [h1, h2]
      have := cnt_mono (k := m) (fun x hx => h x (by omega))
      simp; omega
    · have h3 := ih (fun x hx => h x (by omega)) (by omega)
      cases hp : p k with
      | false => rw [if_neg (by simp)]; omega
      | true => rw [h k (by omega) hp]; omega
/-- all but one -/
theorem cnt_less {p q : Nat → Bool} {k m : Nat} (h : ∀ x, x < k → (p x = true ↔ q x = true ∧ x ≠ m)) (hm : m < k) (hq : q m = true) : cnt p k + 1 = cnt q k := by
  have hgen : ∀ j, j ≤ k → cnt p j + (if m < j then 1 else 0) = cnt q j := by
    intro j
    induction j with
    | zero => intro _; rfl
    | succ j ih =>
      intro hj
      have h1 := ih (by omega)
      have h2 := h j (by omega)
      rw [cnt_succ, cnt_succ, ← h1]
      by_cases e : j = m
      · subst e
        have hp : p j = false := by
          cases hpj : p j with
          | false => rfl
          | true => exact absurd rfl (h2.1 hpj).2
        rw [hp, hq]; simp
      · have h4 : p j = q j := by
          rw [Bool.eq_iff_iff, h2]
          constructor
          · exact fun h => h.1
          · exact fun h => ⟨h, e⟩
        rw [h4]
        have : (m < j + 1) ↔ (m < j) := by omega
        simp only [this]; omega
  have := hgen k (Nat.le_refl _)
  rw [if_pos hm] at this
  exact this

def sw (i j x : Nat) : Nat := if x = i then j else if x = j then i else x
theorem sw_i (i j : Nat) : sw i j i = j := by simp [sw]
theorem sw_j (i j : Nat) : sw i j j = i := by simp only [sw]; split <;> simp_all
theorem sw_o {i j x : Nat} (h1 : x ≠ i) (h2 : x ≠ j) : sw i j x = x := by simp [sw, h1, h2]
theorem sw_sw (i j x : Nat) : sw i j (sw i j x) = x := by
  by_cases h1 : x = i
  · subst h1; rw [sw_i, sw_j]
  · by_cases h2 : x = j
    · subst h2; rw [sw_j, sw_i]
    · rw [sw_o h1 h2, sw_o h1 h2]
def swp (f : Nat → Nat) (i j : Nat) : Nat → Nat := fun x => f (sw i j x)
theorem swp_swp (f : Nat → Nat) (i j : Nat) : swp (swp f i j) i j = f := by
  funext x; simp [swp, sw_sw]
section
variable {f : Nat → Nat} {n i j : Nat}
theorem sw_lt (hi : i < n) (hj : j < n) {x : Nat} (hx : x < n) : sw i j x < n := by
  unfold sw; split
  · exact hj
  · split
    · exact hi
    · exact hx
theorem bij_swp (h : Bij f n) (hi : i < n) (hj : j < n) : Bij (swp f i j) n := by
  refine ⟨fun x hx => h.lt _ (sw_lt hi hj hx), fun x y hx hy e => ?_⟩
  have := h.inj _ _ (sw_lt hi hj hx) (sw_lt hi hj hy) e
  have h2 := congrArg (sw i j) this
  rwa [sw_sw, sw_sw] at h2
theorem swp_i : swp f i j i = f j := by unfold swp; rw [sw_i]
theorem swp_j : swp f i j j = f i := by unfold swp; rw [sw_j]
theorem swp_o {x : Nat} (h1 : x ≠ i) (h2 : x ≠ j) : swp f i j x = f x := by unfold swp; rw [sw_o h1 h2]
/-- two points of one orbit come apart -/
theorem swp_split (h : Bij f n) (hi : i < n) (hj : j < n) (hne : i ≠ j) (hr : Rel f i j) : ¬ Rel (swp f i j) i j := by
  have hb := bij_swp h hi hj
  obtain ⟨h1, h2, h3, h4⟩ := per_spec h hi
  obtain ⟨t, htm, htj⟩ := List.mem_map.1 ((mem_orb h hi j).2 hr)
  have ht := List.mem_range.1 htm
  have ht0 : 0 < t := by
    rcases Nat.eq_zero_or_pos t with e | e
    · subst e; exact absurd htj hne
    · exact e
  have hdif : ∀ s, s < t → it f s i ≠ j := by
    intro s hs e
    have e3 : it f s (it f (t - s) i) = it f s i := by rw [← it_add, show s + (t - s) = t by omega, htj]; exact e.symm
    exact h4 (t - s) (by omega) (by omega) (it_inj h s (it_lt h _ hi) hi e3)
  have hrun : ∀ s, 1 ≤ s → s ≤ t → it (swp f i j) s j = it f s i := by
    intro s
    induction s with
    | zero => intro h; omega
    | succ s ih =>
      intro _ hs
      by_cases e : s = 0
      · subst e; exact swp_j
      · have h5 := ih (by omega) (by omega)
        rw [it_succ, h5, swp_o (h4 s (by omega) (by omega)) (hdif s (by omega)), it_succ]
  have hback : it (swp f i j) t j = j := by rw [hrun t (by omega) (Nat.le_refl _)]; exact htj
  intro hcon
  obtain ⟨u, hu⟩ := rel_symm hb hi hcon
  rw [it_mod _ t j hback] at hu
  have hm := Nat.mod_lt u ht0
  rcases Nat.eq_zero_or_pos (u % t) with e | e
  · rw [e] at hu; exact hne hu.symm
  · rw [hrun _ e (by omega)] at hu
    exact h4 _ e (by omega) hu
/-- two orbits become one -/
theorem swp_join (h : Bij f n) (hi : i < n) (hj : j < n) (hr : ¬ Rel f i j) : Rel (swp f i j) i j := by
  obtain ⟨h1, h2, h3, h4⟩ := per_spec h hj
  have hrun : ∀ s, 1 ≤ s → s ≤ per f n j → it (swp f i j) s i = it f s j := by
    intro s
    induction s with
    | zero => intro h; omega
    | succ s ih =>
      intro _ hs
      by_cases e : s = 0
      · subst e; exact swp_i
      · have h5 := ih (by omega) (by omega)
        rw [it_succ, h5, swp_o (fun e => hr (rel_symm h hj ⟨s, e⟩)) (h4 s (by omega) (by omega)), it_succ]
  exact ⟨per f n j, by rw [hrun _ h1 (Nat.le_refl _)]; exact h3⟩
def Mrg (f : Nat → Nat) (i j x y : Nat) : Prop := Rel f x y ∨ (Rel f x i ∧ Rel f j y) ∨ (Rel f x j ∧ Rel f i y)
theorem swp_rel (h : Bij f n) (hi : i < n) (hj : j < n) (hr : ¬ Rel f i j) {x y : Nat} (hx : x < n) : Rel (swp f i j) x y ↔ Mrg f i j x y := by
  have hb := bij_swp h hi hj
  have hij := swp_join h hi hj hr
  have hji := rel_symm hb hi hij
  have hsub : ∀ t z, Rel (swp f i j) z (it f t z) := by
    intro t
    induction t with
    | zero => intro z; exact rel_refl _ z
    | succ t ih =>
      intro z
      have h2 := ih (f z)
      refine rel_trans ?_ h2
      by_cases e1 : z = i
      · subst e1
        refine rel_trans hij ?_
        rw [← swp_j (f := f) (i := z) (j := j)]; exact rel_step _ _
      · by_cases e2 : z = j
        · subst e2
          refine rel_trans hji ?_
          rw [← swp_i (f := f) (i := i) (j := z)]; exact rel_step _ _
        · rw [← swp_o (f := f) e1 e2]; exact rel_step _ _
  have hsub2 : ∀ z y, Rel f z y → Rel (swp f i j) z y := by rintro z y ⟨t, rfl⟩; exact hsub t z
  constructor
  · rintro ⟨t, rfl⟩
    induction t with
    | zero => exact Or.inl (rel_refl f x)
    | succ t ih =>
      rw [it_succ]
      generalize it (swp f i j) t x = z at ih
      by_cases e1 : z = i
      · subst e1
        rw [swp_i]
        rcases ih with h1 | ⟨h1, h2⟩ | ⟨h1, h2⟩
        · exact Or.inr (Or.inl ⟨h1, rel_step f j⟩)
        · exact Or.inr (Or.inl ⟨h1, rel_step f j⟩)
        · exact Or.inl (rel_trans h1 (rel_step f j))
      · by_cases e2 : z = j
        · subst e2
          rw [swp_j]
          rcases ih with h1 | ⟨h1, h2⟩ | ⟨h1, h2⟩
          · exact Or.inr (Or.inr ⟨h1, rel_step f i⟩)
          · exact Or.inl (rel_trans h1 (rel_step f i))
          · exact Or.inr (Or.inr ⟨h1, rel_step f i⟩)
        · rw [swp_o e1 e2]
          rcases ih with h1 | ⟨h1, h2⟩ | ⟨h1, h2⟩
          · exact Or.inl (rel_trans h1 (rel_step f z))
          · exact Or.inr (Or.inl ⟨h1, rel_trans h2 (rel_step f z)⟩)
          · exact Or.inr (Or.inr ⟨h1, rel_trans h2 (rel_step f z)⟩)
  · rintro (h1 | ⟨h1, h2⟩ | ⟨h1, h2⟩)
    · exact hsub2 _ _ h1
    · exact rel_trans (hsub2 _ _ h1) (rel_trans hij (hsub2 _ _ h2))
    · exact rel_trans (hsub2 _ _ h1) (rel_trans hji (hsub2 _ _ h2))
theorem lead_uniq (h : Bij f n) {x y : Nat} (hx : x < n) (hy : y < n) (h1 : lead f n x = true) (h2 : lead f n y = true) (hr : Rel f x y) : x = y := by
  rcases Nat.lt_trichotomy x y with e | e | e
  · exact absurd hr ((lead_iff h hy).1 h2 x e)
  · exact e
  · exact absurd (rel_symm h hx hr) ((lead_iff h hx).1 h1 y e)
def orbs (f : Nat → Nat) (n : Nat) : Nat := cnt (lead f n) n
/-- where two orbits become one there is one fewer -/
theorem orbs_join (h : Bij f n) (hi : i < n) (hj : j < n) (hr : ¬ Rel f i j) : orbs (swp f i j) n + 1 = orbs f n := by
  have hb := bij_swp h hi hj
  obtain ⟨a, ha1, ha2, ha3⟩ := lead_of h i hi
  obtain ⟨b, hb1, hb2, hb3⟩ := lead_of h j hj
  have hab : a ≠ b := fun e => hr (by subst e; exact rel_trans (rel_symm h ha1 ha3) hb3)
  have hleast : ∀ l u z, l < n → lead f n l = true → Rel f l z → u < n → Rel f u z → l ≤ u := by
    intro l u z hl h1 h2 hu h3
    rcases Nat.lt_or_ge u l with e | e
    · exact absurd (rel_trans h3 (rel_symm h hl h2)) ((lead_iff h hl).1 h1 u e)
    · exact e
  refine cnt_less (m := max a b) ?_ (by omega) (by
    rcases Nat.le_total a b with e | e
    · rw [Nat.max_eq_right e]; exact hb2
    · rw [Nat.max_eq_left e]; exact ha2)
  intro x hx
  rw [lead_iff hb hx]
  constructor
  · intro hl
    refine ⟨(lead_iff h hx).2 fun u hu hru => hl u hu ((swp_rel h hi hj hr (by omega)).2 (Or.inl hru)), fun e => ?_⟩
    rcases Nat.lt_or_ge a b with hlt | hge
    · have ex : x = b := by omega
      subst ex
      exact hl a hlt ((swp_rel h hi hj hr ha1).2 (Or.inr (Or.inl ⟨ha3, rel_symm h hb1 hb3⟩)))
    · have ex : x = a := by omega
      subst ex
      exact hl b (by omega) ((swp_rel h hi hj hr hb1).2 (Or.inr (Or.inr ⟨hb3, rel_symm h ha1 ha3⟩)))
  · rintro ⟨hl, hne⟩ u hu hru
    have hun : u < n := by omega
    rcases (swp_rel h hi hj hr hun).1 hru with h1 | ⟨h1, h2⟩ | ⟨h1, h2⟩
    · exact (lead_iff h hx).1 hl u hu h1
    · have ex : x = b := lead_uniq h hx hb1 hl hb2 (rel_trans (rel_symm h hj h2) (rel_symm h hb1 hb3))
      have := hleast a u i ha1 ha2 ha3 hun h1
      omega
    · have ex : x = a := lead_uniq h hx ha1 hl ha2 (rel_trans (rel_symm h hi h2) (rel_symm h ha1 ha3))
      have := hleast b u j hb1 hb2 hb3 hun h1
      omega
/-- is the permutation even? -/
def ev (f : Nat → Nat) (n : Nat) : Bool := (n - orbs f n) % 2 == 0
theorem orbs_le (f : Nat → Nat) (n : Nat) : orbs f n ≤ n := cnt_le _ _
theorem ev_of {a b : Nat} (h : a + 1 = b) (hb : b ≤ n) : ((n - a) % 2 == 0) = !((n - b) % 2 == 0) := by
  subst h
  have : n - a = n - (a + 1) + 1 := by omega
  rw [this]
  rcases Nat.mod_two_eq_zero_or_one (n - (a + 1)) with e | e
  · rw [Nat.add_mod, e]; rfl
  · rw [Nat.add_mod, e]; rfl
theorem ev_swp (h : Bij f n) (hi : i < n) (hj : j < n) (hne : i ≠ j) : ev (swp f i j) n = !ev f n := by
  unfold ev
  by_cases hr : Rel f i j
  · have h1 := orbs_join (bij_swp h hi hj) hi hj (swp_split h hi hj hne hr)
    rw [swp_swp] at h1
    rw [ev_of h1 (orbs_le _ _), Bool.not_not]
  · exact ev_of (orbs_join h hi hj hr) (orbs_le _ _)
theorem it_congr {g : Nat → Nat} (h : Bij f n) (he : ∀ x, x < n → f x = g x) (t : Nat) {x : Nat} (hx : x < n) : it f t x = it g t x := by
  induction t generalizing x with
  | zero => rfl
  | succ t ih =>
    show it f t (f x) = it g t (g x)
    rw [← he x hx]; exact ih (h.lt x hx)
theorem bij_congr {g : Nat → Nat} (h : Bij f n) (he : ∀ x, x < n → f x = g x) : Bij g n :=
  ⟨fun x hx => by rw [← he x hx]; exact h.lt x hx, fun x y hx hy e => h.inj x y hx hy (by rw [he x hx, he y hy]; exact e)⟩
theorem ev_congr {g : Nat → Nat} (h : Bij f n) (he : ∀ x, x < n → f x = g x) : ev f n = ev g n := by
  unfold ev orbs
  rw [cnt_congr (p := lead f n) (q := lead g n)]
  intro x hx
  rw [Bool.eq_iff_iff, lead_iff h hx, lead_iff (bij_congr h he) hx]
  constructor
  · rintro h1 u hu ⟨t, ht⟩; exact h1 u hu ⟨t, by rw [it_congr h he t (by omega)]; exact ht⟩
  · rintro h1 u hu ⟨t, ht⟩; exact h1 u hu ⟨t, by rw [← it_congr h he t (by omega)]; exact ht⟩
theorem bij_comp {g : Nat → Nat} (h : Bij f n) (hg : Bij g n) : Bij (fun x => f (g x)) n :=
  ⟨fun x hx => h.lt _ (hg.lt x hx), fun x y hx hy e => hg.inj x y hx hy (h.inj _ _ (hg.lt x hx) (hg.lt y hy) e)⟩
theorem ev_comp (h : Bij f n) : ∀ (m : Nat) (g : Nat → Nat), Bij g n → cnt (fun x => decide (g x ≠ x)) n ≤ m → ev (fun x => f (g x)) n = (ev f n == ev g n) := by
  have hbase : ∀ g : Nat → Nat, Bij g n → (∀ x, x < n → g x = x) → ev (fun x => f (g x)) n = (ev f n == ev g n) := by
    intro g hg hid
    have h1 : ev (fun x => f (g x)) n = ev f n := (ev_congr h (fun x hx => by show f x = f (g x); rw [hid x hx])).symm
    have h2 : ev g n = true := by
      have h3 : orbs g n = n := by
        unfold orbs
        have : cnt (lead g n) n = cnt (fun _ => true) n := cnt_congr fun x hx => by
          show lead g n x = true
          rw [lead_iff hg hx]
          rintro u hu ⟨t, ht⟩
          have h4 : ∀ t, it g t u = u := by
            intro t
            induction t with
            | zero => rfl
            | succ t ih => rw [it_succ, ih]; exact hid u (by omega)
          rw [h4] at ht; omega
        rw [this]
        have : ∀ k, cnt (fun _ => true) k = k := by
          intro k
          induction k with
          | zero => rfl
          | succ k ih => rw [cnt_succ, ih]; rfl
        exact this n
      unfold ev; rw [h3, Nat.sub_self]; rfl
    rw [h1, h2]; cases ev f n <;> rfl
  intro m
  induction m with
  | zero =>
    intro g hg hm
    refine hbase g hg fun x hx => ?_
    rcases Classical.em (g x = x) with e | e
    · exact e
    · have := cnt_lt (p := fun _ => false) (q := fun x => decide (g x ≠ x)) (k := n) (fun _ _ hh => by cases hh) hx rfl (decide_eq_true e)
      omega
  | succ m ih =>
    intro g hg hm
    rcases Classical.em (∀ x, x < n → g x = x) with hid | hid
    · exact hbase g hg hid
    · obtain ⟨x, hx⟩ := Classical.not_forall.1 hid
      obtain ⟨hxn, hx⟩ := Classical.not_imp.1 hx
      obtain ⟨h1, h2, h3, h4⟩ := per_spec hg hxn
      have hy : it g (per g n x - 1) x < n := it_lt hg _ hxn
      have hgy : g (it g (per g n x - 1) x) = x := by rw [← it_succ g, show per g n x - 1 + 1 = per g n x by omega]; exact h3
      generalize it g (per g n x - 1) x = y at hy hgy
      have hxy : x ≠ y := fun e => hx (by rw [e] at hgy ⊢; exact hgy)
      have hb := bij_swp hg hxn hy
      have hlt : cnt (fun z => decide (swp g x y z ≠ z)) n < cnt (fun z => decide (g z ≠ z)) n := by
        refine cnt_lt (m := x) ?_ hxn ?_ (decide_eq_true hx)
        · intro z hz hd
          have hd2 := of_decide_eq_true hd
          refine decide_eq_true fun e => ?_
          by_cases e1 : z = x
          · rw [e1] at e; exact hx e
          · by_cases e2 : z = y
            · rw [e2] at e; rw [hgy] at e; exact hxy e
            · rw [swp_o e1 e2] at hd2; exact hd2 e
        · refine decide_eq_false fun hh => hh ?_
          rw [swp_i]; exact hgy
      have h5 := ih (swp g x y) hb (by omega)
      have h6 := ev_swp (bij_comp h hb) hxn hy hxy
      have h7 := ev_swp hb hxn hy hxy
      rw [swp_swp] at h7
      have h8 : swp (fun z => f (swp g x y z)) x y = fun z => f (g z) := by
        funext z; simp [swp, sw_sw]
      rw [h8, h5] at h6
      rw [h6, h7]
      cases ev f n <;> cases ev (swp g x y) n <;> rfl
theorem even_comp {g : Nat → Nat} (h : Bij f n) (hg : Bij g n) : ev (fun x => f (g x)) n = (ev f n == ev g n) := ev_comp h _ g hg (Nat.le_refl _)
theorem orbs_cyc (f : Nat → Nat) (n : Nat) : orbs f n = (cycTo f n n).length := by simp [orbs, cnt, cycTo]
end
end Go.Proofs.YtibephoepkofnaaGreat.Orb
