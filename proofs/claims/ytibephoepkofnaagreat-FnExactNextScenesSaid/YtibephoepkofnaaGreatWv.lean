/- Interleaving two lists in all ways, plainly: the model's recursion and the program's numbers of ways give the same lists. -/
import Derived.Test.YtibephoepkofnaaGreatSrt
set_option linter.unusedVariables false
set_option maxRecDepth 20000
namespace Go.Proofs.YtibephoepkofnaaGreat.Wv
open Srt

def weaveF : Nat → List Int → List Int → List Int → List (List Int)
  | 0, ds, _, _ => [ds]
  | f + 1, ds, xs, ys => (match xs with | [] => [] | x :: a => weaveF f (ds ++ [x]) a ys) ++ (match ys with | [] => [] | y :: b => weaveF f (ds ++ [y]) xs b)
/-- what the first half adds -/
def wl (f : Nat) (ds xs ys : List Int) : List (List Int) := match xs with | [] => [] | x :: a => weaveF f (ds ++ [x]) a ys
def wr (f : Nat) (ds xs ys : List Int) : List (List Int) := match ys with | [] => [] | y :: b => weaveF f (ds ++ [y]) xs b
theorem weave_split (f : Nat) (ds xs ys : List Int) : weaveF (f + 1) ds xs ys = wl f ds xs ys ++ wr f ds xs ys := rfl
theorem weave_size : ∀ (f : Nat) (ds xs ys : List Int), (weaveF f ds xs ys).length ≤ 2 ^ f
  | 0, _, _, _ => Nat.le_refl _
  | f + 1, ds, xs, ys => by
    rw [weave_split, List.length_append, Nat.pow_succ]
    have h1 : (wl f ds xs ys).length ≤ 2 ^ f := by
      cases xs with
      | nil => exact Nat.zero_le _
      | cons x a => exact weave_size f _ _ _
    have h2 : (wr f ds xs ys).length ≤ 2 ^ f := by
      cases ys with
      | nil => exact Nat.zero_le _
      | cons x a => exact weave_size f _ _ _
    omega
theorem wl_size (f : Nat) (ds xs ys : List Int) : (wl f ds xs ys).length ≤ 2 ^ f := by
  cases xs with
  | nil => exact Nat.zero_le _
  | cons x a => exact weave_size f _ _ _
/-- one interleaving: true takes from the first list -/
def ril : List Bool → List Int → List Int → List Int
  | [], _, _ => []
  | true :: l, x :: a, b => x :: ril l a b
  | true :: _, [], _ => []
  | false :: l, a, y :: b => y :: ril l a b
  | false :: _, _, [] => []
theorem count_le (l : List Bool) : l.count true ≤ l.length := List.count_le_length
theorem weave_mem : ∀ (f : Nat) (ds xs ys q : List Int), xs.length + ys.length = f → (q ∈ weaveF f ds xs ys ↔ ∃ l : List Bool, l.length = f ∧ l.count true = xs.length ∧ q = ds ++ ril l xs ys)
  | 0, ds, xs, ys, q, h => by
    have e1 : xs = [] := List.length_eq_zero_iff.1 (by omega)
    have e2 : ys = [] := List.length_eq_zero_iff.1 (by omega)
    subst e1 e2
    show q ∈ [ds] ↔ _
    rw [List.mem_singleton]
    constructor
    · rintro rfl; exact ⟨[], rfl, rfl, by simp [ril]⟩
    · rintro ⟨l, hl, _, rfl⟩
      have : l = [] := List.length_eq_zero_iff.1 hl
      subst this
      simp [ril]
  | f + 1, ds, xs, ys, q, h => by
    rw [weave_split, List.mem_append]
    constructor
    · rintro (hq | hq)
      · cases xs with
        | nil => cases hq
        | cons x a =>
          obtain ⟨l, h1, h2, rfl⟩ := (weave_mem f (ds ++ [x]) a ys q (by simp at h; omega)).1 hq
          exact ⟨true :: l, by simp [h1], by simp [h2], by simp [ril]⟩
      · cases ys with
        | nil => cases hq
        | cons y b =>
          obtain ⟨l, h1, h2, rfl⟩ := (weave_mem f (ds ++ [y]) xs b q (by simp at h; omega)).1 hq
          exact ⟨false :: l, by simp [h1], by simp [h2], by simp [ril]⟩
    · rintro ⟨l, h1, h2, rfl⟩
      cases l with
      | nil => simp at h1
      | cons c l =>
        cases c with
        | true =>
          cases xs with
          | nil => simp at h2
          | cons x a => exact Or.inl ((weave_mem f (ds ++ [x]) a ys _ (by simp at h; omega)).2 ⟨l, by simpa using h1, by simpa using h2, by simp [ril]⟩)
        | false =>
          cases ys with
          | nil =>
            have := count_le l
            simp at h1 h2 h
            omega
          | cons y b => exact Or.inr ((weave_mem f (ds ++ [y]) xs b _ (by simp at h; omega)).2 ⟨l, by simpa using h1, by simpa using h2, by simp [ril]⟩)
def bitsN (w n : Nat) : List Bool := (List.range n).map fun i => w.testBit i
theorem bitsN_len (w n : Nat) : (bitsN w n).length = n := by simp [bitsN]
theorem bitsN_succ (w n : Nat) : bitsN w (n + 1) = w.testBit 0 :: bitsN (w / 2) n := by
  unfold bitsN
  rw [List.range_succ_eq_map, List.map_cons, List.map_map]
  congr 1
  refine List.map_congr_left fun i _ => ?_
  show w.testBit (i + 1) = _
  rw [Nat.testBit_succ]
theorem bits_surj : ∀ (l : List Bool), ∃ w, w < 2 ^ l.length ∧ bitsN w l.length = l
  | [] => ⟨0, by decide, rfl⟩
  | c :: l => by
    obtain ⟨w, h1, h2⟩ := bits_surj l
    refine ⟨2 * w + (if c then 1 else 0), ?_, ?_⟩
    · rw [List.length_cons, Nat.pow_succ]
      split <;> omega
    · rw [List.length_cons, bitsN_succ, show (2 * w + (if c then 1 else 0)) / 2 = w by split <;> omega, h2, Nat.testBit_zero]
      cases c <;> simp <;> omega
/-- a riffle by its bits -/
def rifOf (zs : List Int) (l : List Bool) : List Int := ril l (zs.take (l.count true)) (zs.drop (l.count true))
def rifI (zs : List Int) : List (List Int) := (List.range (2 ^ zs.length)).map fun w => rifOf zs (bitsN w zs.length)
def rifM (zs : List Int) : List (List Int) := (List.range (zs.length + 1)).flatMap fun k => weaveF zs.length [] (zs.take k) (zs.drop k)
theorem rif_mem (zs q : List Int) : q ∈ rifM zs ↔ q ∈ rifI zs := by
  unfold rifM rifI
  rw [List.mem_flatMap, List.mem_map]
  constructor
  · rintro ⟨k, hk, hq⟩
    have hk' := List.mem_range.1 hk
    obtain ⟨l, h1, h2, rfl⟩ := (weave_mem zs.length [] _ _ q (by simp; omega)).1 hq
    obtain ⟨w, h3, h4⟩ := bits_surj l
    rw [h1] at h3 h4
    refine ⟨w, List.mem_range.2 h3, ?_⟩
    rw [h4]
    unfold rifOf
    rw [h2, List.length_take, Nat.min_eq_left (by omega), List.nil_append]
  · rintro ⟨w, hw, rfl⟩
    have hc : (bitsN w zs.length).count true ≤ zs.length := by have := count_le (bitsN w zs.length); rw [bitsN_len] at this; exact this
    refine ⟨(bitsN w zs.length).count true, List.mem_range.2 (by omega), ?_⟩
    refine (weave_mem zs.length [] _ _ _ (by simp; omega)).2 ⟨bitsN w zs.length, bitsN_len _ _, ?_, rfl⟩
    rw [List.length_take, Nat.min_eq_left hc]
theorem ril_perm : ∀ (l : List Bool) (a b : List Int), l.length = a.length + b.length → l.count true = a.length → (ril l a b).Perm (a ++ b)
  | [], a, b, h1, h2 => by
    have e1 : a = [] := List.length_eq_zero_iff.1 (by simp at h1; omega)
    have e2 : b = [] := List.length_eq_zero_iff.1 (by simp at h1; omega)
    subst e1 e2
    exact List.Perm.refl _
  | true :: l, [], b, h1, h2 => by simp at h2
  | true :: l, x :: a, b, h1, h2 => (ril_perm l a b (by simp at h1; omega) (by simpa using h2)).cons x
  | false :: l, a, [], h1, h2 => by have := count_le l; simp at h1 h2; omega
  | false :: l, a, y :: b, h1, h2 => ((ril_perm l a b (by simp at h1; omega) (by simpa using h2)).cons y).trans List.perm_middle.symm
theorem rif_perm {zs : List Int} {l : List Bool} (h : l.length = zs.length) : (rifOf zs l).Perm zs := by
  unfold rifOf
  have hc := count_le l
  have := ril_perm l (zs.take (l.count true)) (zs.drop (l.count true)) (by simp; omega) (by rw [List.length_take, Nat.min_eq_left (by omega)])
  rwa [List.take_append_drop] at this
end Go.Proofs.YtibephoepkofnaaGreat.Wv
