/- Lists of elements: CountUp, PositionOf and SamePacket of the program and of the model, for every list of ints. -/
import Derived.Test.YtdelaoegfooaoaaPkt
import Derived.Test.YtdelaoegfooaoaaInts
set_option linter.unusedVariables false
namespace Go.Proofs.Ytdelaoegfooaoaa.Pl
open Go.RowKit Fr Own Pk Ins

/-- how many of the first k elements lie face up -/
def upTo (zs : List Int) : Nat → Nat
  | 0 => 0
  | k + 1 => upTo zs k + (if upB (zs.getD k 0) then 1 else 0)
theorem upTo_le (zs : List Int) (k : Nat) : upTo zs k ≤ k := by
  induction k with
  | zero => exact Nat.le_refl _
  | succ k ih => simp only [upTo]; split <;> omega
theorem upTo_yes (zs : List Int) (k : Nat) (h : upB (zs.getD k 0) = true) : upTo zs (k + 1) = upTo zs k + 1 := by simp only [upTo, h, if_true]
theorem upTo_no (zs : List Int) (k : Nat) (h : upB (zs.getD k 0) = false) : upTo zs (k + 1) = upTo zs k := by simp only [upTo, h]; simp

set_option maxHeartbeats 1000000 in
theorem impl_count (A : Option Addr) (n c : Nat) (zs : List Int) (w : World) (hn : zs.length = n) (hn2 : n ≤ 9223372036854775807) (hz : Fits zs) (hss : IntsAt w w.heap.size .i64 A zs) :
    Calls Try.prog 23 #[.slice A n c] w fun e w' => e = .returned (.int .i64 (upTo zs n : Nat)) ∧ w = w' := by
  have HN := Lib.hid hn
  clear hn
  go_enter Try.func23, Try.ntmps23
  go_wp2
  go_loop [3, 5, 8] (fun q x i => ∃ j : Nat, j ≤ n ∧ i = .int .i64 j ∧ ∃ m : Nat, Hid (m = upTo zs j) ∧ m ≤ j ∧ q = .int .i64 m) (fun _ _ i => n - (intOf i).toNat)
  case atStart => exact ⟨0, Nat.zero_le _, rfl, 0, rfl, Nat.le_refl _, rfl⟩
  case round =>
    obtain ⟨j, hj, rfl, m, HM, hm, rfl⟩ := hrel
    by_cases hlt : j < n
    · obtain ⟨b, o, rfl, hbb, hc⟩ := hss j (by rw [HN.out]; exact hlt)
      obtain ⟨hx1, hx2⟩ := hz j (by rw [HN.out]; exact hlt)
      have hy := upTo_yes zs j
      have ho := upTo_no zs j
      generalize zs.getD j 0 = x at hc hx1 hx2 hy ho
      by_cases hu : upB x = true
      · have HY := Lib.hid (hy hu)
        clear hy ho
        go_wp2_with fail
        refine (impl_up x _ hx1 hx2).mono ?_
        rintro e w' ⟨rfl, rfl⟩
        go_wp2
        go_round
        case rel => exact ⟨j + 1, by omega, by go_num, m + 1, by show m + 1 = _; rw [HY.out, HM.out], by omega, by go_num⟩
        case measure => simp [intOf]; omega
      · have hu' : upB x = false := Bool.eq_false_iff.2 hu
        have HO := Lib.hid (ho hu')
        clear hy ho hu
        go_wp2_with fail
        refine (impl_up x _ hx1 hx2).mono ?_
        rintro e w' ⟨rfl, rfl⟩
        go_wp2
        go_round
        case rel => exact ⟨j + 1, by omega, by go_num, m, by show m = _; rw [HO.out, HM.out], by omega, rfl⟩
        case measure => simp [intOf]; omega
    · have hjn : j = n := by omega
      rw [hjn] at HM
      clear hjn
      go_wp2
      go_ret
      exact ⟨congrArg (fun z : Nat => Ending.returned (.int .i64 (z : Int))) HM.out, rfl⟩

/-! ### PositionOf -/
/-- the first place from i on, of at most f, that bears the card, or -1 -/
def posFrom (zs : List Int) (card : Int) : Nat → Nat → Int
  | 0, _ => -1
  | f + 1, i => if 0 ≤ card ∧ cardF (zs.getD i 0) = card then (i : Int) else posFrom zs card f (i + 1)
def posF (zs : List Int) (card : Int) : Int := posFrom zs card zs.length 0
theorem posFrom_hit (zs : List Int) (card : Int) (f i : Nat) (h0 : 0 ≤ card) (h : cardF (zs.getD i 0) = card) : posFrom zs card (f + 1) i = i := by
  simp only [posFrom]; rw [if_pos ⟨h0, h⟩]
theorem posFrom_miss (zs : List Int) (card : Int) (f i : Nat) (h : ¬ (0 ≤ card ∧ cardF (zs.getD i 0) = card)) : posFrom zs card (f + 1) i = posFrom zs card f (i + 1) := by
  simp only [posFrom]; rw [if_neg h]
theorem posFrom_range (zs : List Int) (card : Int) (f i : Nat) : -1 ≤ posFrom zs card f i ∧ posFrom zs card f i < (i + f : Nat) := by
  induction f generalizing i with
  | zero => simp only [posFrom]; omega
  | succ f ih =>
    simp only [posFrom]
    split
    · omega
    · have := ih (i + 1); omega
theorem posF_range (zs : List Int) (card : Int) : -1 ≤ posF zs card ∧ posF zs card < zs.length := by
  have := posFrom_range zs card zs.length 0
  unfold posF; omega
theorem posFrom_neg (zs : List Int) (card : Int) (f i : Nat) : posFrom zs card f i < 0 ↔ ∀ j, i ≤ j → j < i + f → ¬ (0 ≤ card ∧ cardF (zs.getD j 0) = card) := by
  induction f generalizing i with
  | zero => simp only [posFrom]; constructor
            · intro _ j h1 h2; omega
            · intro _; omega
  | succ f ih =>
    by_cases h : 0 ≤ card ∧ cardF (zs.getD i 0) = card
    · rw [posFrom_hit zs card f i h.1 h.2]
      constructor
      · intro h1; omega
      · intro h1; exact absurd h (h1 i (Nat.le_refl _) (by omega))
    · rw [posFrom_miss zs card f i h, ih]
      constructor
      · intro h1 j hj1 hj2
        by_cases e : j = i
        · rw [e]; exact h
        · exact h1 j (by omega) (by omega)
      · intro h1 j hj1 hj2
        exact h1 j (by omega) (by omega)
theorem posF_neg (zs : List Int) (card : Int) : posF zs card < 0 ↔ ∀ j, j < zs.length → ¬ (0 ≤ card ∧ cardF (zs.getD j 0) = card) := by
  unfold posF
  rw [posFrom_neg]
  constructor
  · intro h j hj; exact h j (Nat.zero_le _) (by omega)
  · intro h j _ hj; exact h j (by omega)

set_option maxHeartbeats 1000000 in
theorem impl_pos (A : Option Addr) (n c : Nat) (zs : List Int) (card : Int) (w : World) (hn : zs.length = n) (hn2 : n ≤ 9223372036854775807) (hz : Fits zs) (hss : IntsAt w w.heap.size .i64 A zs) :
    Calls Try.prog 18 #[.slice A n c, .int .i64 card] w fun e w' => e = .returned (.int .i64 (posF zs card)) ∧ w = w' := by
  have HN := Lib.hid hn
  clear hn
  go_enter Try.func18, Try.ntmps18
  go_wp2
  go_loop [5, 6, 9] (fun _ _ i => ∃ j : Nat, j ≤ n ∧ i = .int .i64 j ∧ Hid (posF zs card = posFrom zs card (n - j) j)) (fun _ _ i => n - (intOf i).toNat)
  case atStart => exact ⟨0, Nat.zero_le _, rfl, by show _ = _; rw [posF, HN.out]; rfl⟩
  case round =>
    obtain ⟨j, hj, rfl, HP⟩ := hrel
    by_cases hlt : j < n
    · obtain ⟨b, o, rfl, hbb, hc⟩ := hss j (by rw [HN.out]; exact hlt)
      obtain ⟨hx1, hx2⟩ := hz j (by rw [HN.out]; exact hlt)
      obtain ⟨f, hf⟩ : ∃ f, n - j = f + 1 := ⟨n - j - 1, by omega⟩
      have hp := HP.out
      rw [hf] at hp
      have hhit := posFrom_hit zs card f j
      have hmiss := posFrom_miss zs card f j
      generalize zs.getD j 0 = x at hc hx1 hx2 hhit hmiss
      by_cases h0 : 0 ≤ card
      · by_cases he : cardF x = card
        · have HR := Lib.hid (hp.trans (hhit h0 he))
          have he1 : (cardF x == card) = true := by simpa using he
          clear hhit hmiss hp hf HP he
          go_wp2_with fail
          refine (impl_card x _ hx1 hx2).mono ?_
          rintro e w' ⟨rfl, rfl⟩
          go_wp2
          go_ret
          exact ⟨ret_i HR.out.symm, rfl⟩
        · have HR := Lib.hid (hp.trans (hmiss (fun h => he h.2)))
          have he1 : (cardF x == card) = false := by simpa using he
          have hf2 : f = n - (j + 1) := by omega
          have HF := Lib.hid hf2
          clear hhit hmiss hp hf HP he hf2
          go_wp2_with fail
          refine (impl_card x _ hx1 hx2).mono ?_
          rintro e w' ⟨rfl, rfl⟩
          go_wp2
          go_round
          case rel => exact ⟨j + 1, by omega, by go_num, by show _ = _; rw [HR.out, HF.out]⟩
          case measure => simp [intOf]; omega
      · have HR := Lib.hid (hp.trans (hmiss (fun h => h0 h.1)))
        have h01 : decide (0 ≤ card) = false := decide_eq_false h0
        have hf2 : f = n - (j + 1) := by omega
        have HF := Lib.hid hf2
        clear hhit hmiss hp hf HP hf2
        go_wp2
        go_round
        case rel => exact ⟨j + 1, by omega, by go_num, by show _ = _; rw [HR.out, HF.out]⟩
        case measure => simp [intOf]; omega
    · have hjn : n - j = 0 := by omega
      have hp := HP.out
      rw [hjn] at hp
      have HR := Lib.hid hp
      clear hjn hp HP
      go_wp2
      go_ret
      exact ⟨ret_i HR.out.symm, rfl⟩

end Go.Proofs.Ytdelaoegfooaoaa.Pl
