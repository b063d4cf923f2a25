/- CyclesOf of the program and of the model: the orbits of the opening points, for every list of ints. -/
import Derived.Test.YtibephoepkofnaaGreatPerm
import Derived.Test.YtibephoepkofnaaGreatRws
import Derived.Test.YtibephoepkofnaaGreatOrb
set_option linter.unusedVariables false
set_option maxRecDepth 20000
namespace Go.Proofs.YtibephoepkofnaaGreat.Cyc
open Go.RowKit Fr Own Pk Ins Pok Prm Rws Orb

/-! ### lists as permutations -/
def fOf (zs : List Int) (x : Nat) : Nat := (zs.getD x 0).toNat
theorem bij_of {zs : List Int} (h : permB zs = true) : Bij (fOf zs) zs.length := by
  obtain ⟨_, hall⟩ := permB_yes h
  refine ⟨fun x hx => ?_, fun x y hx hy e => ?_⟩
  · have := (hall x hx).1; unfold fOf; omega
  · have hmem : ∀ i j, i < j → j < zs.length → zs.getD i 0 ∈ zs.take j := by
      intro i j hij hj
      rw [List.getD_eq_getElem?_getD, List.getElem?_eq_getElem (by omega)]
      exact List.mem_take_iff_getElem.2 ⟨i, by omega, rfl⟩
    have hx1 := (hall x hx).1
    have hy1 := (hall y hy).1
    have e2 : zs.getD x 0 = zs.getD y 0 := by unfold fOf at e; omega
    rcases Nat.lt_trichotomy x y with h1 | h1 | h1
    · exact absurd (e2 ▸ hmem x y h1 hy) (hall y hy).2
    · exact h1
    · exact absurd (e2 ▸ hmem y x h1 hx) (hall x hx).2
theorem fOf_get {zs : List Int} (h : permB zs = true) {x : Nat} (hx : x < zs.length) : zs.getD x 0 = (fOf zs x : Nat) := by
  have := ((permB_yes h).2 x hx).1
  unfold fOf; omega
def ints (l : List Nat) : List Int := l.map fun t : Nat => (t : Int)
theorem ints_len (l : List Nat) : (ints l).length = l.length := by simp [ints]
theorem ints_snoc (l : List Nat) (x : Nat) : ints (l ++ [x]) = ints l ++ [(x : Int)] := by simp [ints]
def cycI (zs : List Int) : List (List Int) := if permB zs then (cycTo (fOf zs) zs.length zs.length).map ints else []
theorem cycI_yes {zs : List Int} (h : permB zs = true) : cycI zs = (cycTo (fOf zs) zs.length zs.length).map ints := by unfold cycI; rw [if_pos h]
theorem cycI_no {zs : List Int} (h : permB zs = false) : cycI zs = [] := by unfold cycI; rw [h]; rfl

def lenOf : Value → Nat
  | .slice _ n _ => n
  | _ => 0
theorem orb_pos {f : Nat → Nat} {n : Nat} (h : Bij f n) {k : Nat} (hk : k < n) : 1 ≤ per f n k := (per_spec h hk).1
theorem it_per {f : Nat → Nat} {n : Nat} (h : Bij f n) {k : Nat} (hk : k < n) : it f (per f n k) k = k := (per_spec h hk).2.2.1
theorem per_le {f : Nat → Nat} {n : Nat} (h : Bij f n) {k : Nat} (hk : k < n) : per f n k ≤ n := (per_spec h hk).2.1

theorem infoBool : (Tryz.prog.info? 4).map (fun i => (i.zero, i.size, i.bytes)) = some (some (.bool false), 1, 1) := by kernel_rfl
theorem infob_parts : ∃ i, Tryz.prog.info? 4 = some i ∧ i.zero = some (.bool false) ∧ i.size = 1 ∧ i.bytes = 1 := by
  have h := infoBool
  cases hi : Tryz.prog.info? 4 with
  | none => rw [hi] at h; cases h
  | some i =>
    rw [hi] at h
    simp only [Option.map_some, Option.some.injEq, Prod.mk.injEq] at h
    exact ⟨i, rfl, h.1, h.2.1, h.2.2⟩
theorem cyc_small (zs : List Int) : SmallSS (cycI zs) := by
  cases h : permB zs with
  | false => rw [cycI_no h]; exact ⟨Nat.zero_le _, fun l hl => by cases hl⟩
  | true =>
    have h12 := (permB_yes h).1
    rw [cycI_yes h]
    refine ⟨?_, fun l hl => ?_⟩
    · rw [List.length_map]; have := cycTo_len (fOf zs) zs.length zs.length; omega
    · obtain ⟨c, hc, rfl⟩ := List.mem_map.1 hl
      have := cyc_len (bij_of h) (Nat.le_refl _) hc
      rw [ints_len]; omega
end Go.Proofs.YtibephoepkofnaaGreat.Cyc
