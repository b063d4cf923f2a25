/- OrderOfPerm and IsEven of the program and of the model, for every list of ints. -/
import Derived.Test.YtibephoepkofnaaGreatCyc
import Derived.Test.YtibephoepkofnaaGreatPfn
import Derived.Test.YtibephoepkofnaaGreatSame
set_option linter.unusedVariables false
set_option maxRecDepth 20000
namespace Go.Proofs.YtibephoepkofnaaGreat.Ord
open Go.RowKit Fr Own Pk Ins Pok Prm Rws Orb Cyc Pfn Sam

theorem pow_get {zs : List Int} (h : permB zs = true) (k : Nat) : ∀ x, x < zs.length → (powTo zs k).getD x 0 = (it (fOf zs) k x : Nat) := by
  induction k with
  | zero =>
    intro x hx
    show (imarks 0 zs.length).getD x 0 = _
    rw [imarks_get 0 _ x hx]; simp [it]
  | succ k ih =>
    intro x hx
    show (joinF (powTo zs k) zs).getD x 0 = _
    rw [joinF_get _ _ x hx, fOf_get h hx, Int.toNat_natCast, ih _ ((bij_of h).lt x hx)]
    rfl
theorem pow_same {zs : List Int} (h : permB zs = true) (k : Nat) : sameB (powTo zs k) (powTo zs 0) = decide (ordN (fOf zs) zs.length ∣ k) := by
  unfold sameB
  rw [Bool.eq_iff_iff, decide_eq_true_eq, decide_eq_true_eq, ← it_all (bij_of h)]
  constructor
  · intro e x hx
    have h1 := pow_get h k x hx
    rw [e, pow_get h 0 x hx] at h1
    exact (Int.ofNat_inj.1 h1).symm
  · intro hall
    refine same_all _ _ (by rw [powTo_len, powTo_len]) fun i hi => ?_
    rw [powTo_len] at hi
    rw [pow_get h k i hi, pow_get h 0 i hi, hall i hi]; rfl
theorem pow_one {zs : List Int} (h : permB zs = true) : powTo zs 1 = zs := by
  refine same_all _ _ (powTo_len _ _) fun i hi => ?_
  rw [powTo_len] at hi
  rw [pow_get h 1 i hi, fOf_get h hi]; rfl
theorem ord_small {zs : List Int} (h : permB zs = true) : 1 ≤ ordN (fOf zs) zs.length ∧ ordN (fOf zs) zs.length ≤ 27720 := by
  have h12 := (permB_yes h).1
  refine lcmL_small _ fun l hl => ?_
  obtain ⟨c, hc, rfl⟩ := List.mem_map.1 hl
  have := cyc_len (bij_of h) (Nat.le_refl _) hc
  omega
/-- the order, or 0 -/
def ordF (zs : List Int) : Nat := if permB zs then ordN (fOf zs) zs.length else 0
theorem ordF_yes {zs : List Int} (h : permB zs = true) : ordF zs = ordN (fOf zs) zs.length := by unfold ordF; rw [if_pos h]
theorem ordF_no {zs : List Int} (h : permB zs = false) : ordF zs = 0 := by unfold ordF; rw [h]; rfl


/-! ### the program's way: by the lengths of the cycles -/
theorem cyc_lens {zs : List Int} (h : permB zs = true) : lcmL ((cycI zs).map List.length) = ordF zs := by
  rw [ordF_yes h, cycI_yes h]
  unfold ordN
  congr 1
  rw [List.map_map]
  exact List.map_congr_left fun l _ => by simp [ints_len]
theorem cyc_bd {zs : List Int} (h : permB zs = true) : ∀ l ∈ (cycI zs).map List.length, 1 ≤ l ∧ l ≤ 12 := by
  have h12 := (permB_yes h).1
  rw [cycI_yes h]
  intro l hl
  rw [List.map_map] at hl
  obtain ⟨c, hc, rfl⟩ := List.mem_map.1 hl
  have := cyc_len (bij_of h) (Nat.le_refl _) hc
  simp only [Function.comp, ints_len]
  omega
theorem cyc_few {zs : List Int} (h : permB zs = true) : (cycI zs).length ≤ zs.length := by
  rw [cycI_yes h, List.length_map]
  exact cycTo_len _ _ _
def lcmTo (ls : List Nat) (j : Nat) : Nat := lcmL (ls.take j)
theorem lcmTo_next (ls : List Nat) (j : Nat) (h : j < ls.length) : lcmTo ls (j + 1) = Nat.lcm (lcmTo ls j) (ls.getD j 0) := by
  unfold lcmTo
  rw [List.take_succ_eq_append_getElem h, lcmL_snoc, List.getD_eq_getElem?_getD, List.getElem?_eq_getElem h]; rfl
theorem lcmTo_small (ls : List Nat) (h : ∀ l ∈ ls, 1 ≤ l ∧ l ≤ 12) (j : Nat) : 1 ≤ lcmTo ls j ∧ lcmTo ls j ≤ 27720 := lcmL_small _ fun l hl => h l (List.mem_of_mem_take hl)
theorem lcm_parts (a b : Nat) (ha : 1 ≤ a) (hb : 1 ≤ b) : ∃ r, 1 ≤ r ∧ Nat.lcm a b = a * r ∧ (∀ t, 1 ≤ t → b ∣ a * t → r ≤ t) ∧ b ∣ a * r := by
  obtain ⟨r, hr⟩ := Nat.dvd_lcm_left a b
  have hp := Nat.lcm_pos (show 0 < a by omega) (show 0 < b by omega)
  refine ⟨r, ?_, hr, ?_, by rw [← hr]; exact Nat.dvd_lcm_right a b⟩
  · rcases Nat.eq_zero_or_pos r with e | e
    · rw [e, Nat.mul_zero] at hr; omega
    · exact e
  · intro t ht hd
    have h1 := Nat.lcm_dvd (Nat.dvd_mul_right a t) hd
    have h2 := Nat.le_of_dvd (Nat.mul_pos (by omega) (by omega)) h1
    rw [hr] at h2
    exact Nat.le_of_mul_le_mul_left h2 (by omega)
theorem tmod_eq (a b : Nat) : ((a : Int) % (b : Int) == 0) = decide (b ∣ a) := by
  rw [Bool.eq_iff_iff, beq_iff_eq, decide_eq_true_eq]
  constructor
  · intro h; exact Int.ofNat_dvd.1 (Int.dvd_of_emod_eq_zero h)
  · intro h; exact Int.emod_eq_zero_of_dvd (Int.ofNat_dvd.2 h)


/-! ### IsEven -/
def evenF (zs : List Int) : Bool := permB zs && decide (2 ∣ zs.length - (cycI zs).length)
theorem evenF_no {zs : List Int} (h : permB zs = false) : evenF zs = false := by unfold evenF; rw [h]; rfl
theorem evenF_yes {zs : List Int} (h : permB zs = true) : evenF zs = decide (2 ∣ zs.length - (cycI zs).length) := by unfold evenF; rw [h]; rfl
end Go.Proofs.YtibephoepkofnaaGreat.Ord
