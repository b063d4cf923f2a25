/- The program's numbers of packets. -/
import Derived.Test.YtefgcnjbiaileaaRws
import Derived.Test.YtefgcnjbiaileaaPok
import Derived.WalkKit
set_option linter.unusedVariables false
set_option maxRecDepth 20000
namespace Go.Proofs.Ytefgcnjbiaileaa.Pkn
open Go.RowKit Fr _root_.Go.Proofs.Ytefgcnjbiaileaa.Own Pk Ins Rws

def numTo (zs : List Int) : Nat → Int
  | 0 => 0
  | k + 1 => numTo zs k * 25 + zs.getD k 0 + 13
def numF (zs : List Int) : Int := numTo zs zs.length
/-- elements that stand for cards -/
def Cards (zs : List Int) : Prop := ∀ i, i < zs.length → -12 ≤ zs.getD i 0 ∧ zs.getD i 0 ≤ 11
theorem num_bound {zs : List Int} (h : Cards zs) : ∀ k, k ≤ zs.length → 0 ≤ numTo zs k ∧ numTo zs k < 26 ^ k
  | 0, _ => by simp [numTo]
  | k + 1, hk => by
    have h1 := num_bound h k (by omega)
    have h2 := h k (by omega)
    show 0 ≤ numTo zs k * 25 + zs.getD k 0 + 13 ∧ numTo zs k * 25 + zs.getD k 0 + 13 < 26 ^ (k + 1)
    rw [Int.pow_succ]
    generalize (26 : Int) ^ k = p at *
    omega
theorem num_small {zs : List Int} (h : Cards zs) (h12 : zs.length ≤ 12) (k : Nat) (hk : k ≤ zs.length) : 0 ≤ numTo zs k ∧ numTo zs k < 95428956661682176 := by
  have h1 := num_bound h k hk
  refine ⟨h1.1, Int.lt_of_lt_of_le h1.2 ?_⟩
  have e : ((26 : Int) ^ k) = ((26 ^ k : Nat) : Int) := by simp
  have h2 : 26 ^ k ≤ 26 ^ 12 := Nat.pow_le_pow_right (by decide) (by omega)
  rw [e]
  exact Int.ofNat_le.2 h2
theorem num_snoc {zs : List Int} {x : Int} : ∀ k, k ≤ zs.length → numTo (zs ++ [x]) k = numTo zs k
  | 0, _ => rfl
  | k + 1, hk => by
    show numTo (zs ++ [x]) k * 25 + (zs ++ [x]).getD k 0 + 13 = numTo zs k * 25 + zs.getD k 0 + 13
    rw [num_snoc k (by omega)]
    have : (zs ++ [x]).getD k 0 = zs.getD k 0 := by
      simp only [List.getD_eq_getElem?_getD]
      rw [List.getElem?_append_left (by omega)]
    rw [this]
theorem numF_snoc (zs : List Int) (x : Int) : numF (zs ++ [x]) = numF zs * 25 + x + 13 := by
  unfold numF
  rw [List.length_append, List.length_singleton]
  show numTo (zs ++ [x]) zs.length * 25 + (zs ++ [x]).getD zs.length 0 + 13 = _
  rw [num_snoc _ (Nat.le_refl _)]
  have : (zs ++ [x]).getD zs.length 0 = x := by simp [List.getD_eq_getElem?_getD]
  rw [this]
theorem cards_init {zs : List Int} {x : Int} (h : Cards (zs ++ [x])) : Cards zs ∧ -12 ≤ x ∧ x ≤ 11 := by
  constructor
  · intro i hi
    have := h i (by simp; omega)
    simp only [List.getD_eq_getElem?_getD] at this ⊢
    rwa [List.getElem?_append_left hi] at this
  · have := h zs.length (by simp)
    simpa [List.getD_eq_getElem?_getD] using this
theorem numF_pos {zs : List Int} (h : Cards zs) : 0 ≤ numF zs := (num_bound h zs.length (Nat.le_refl _)).1
/-- no two packets have one number -/
theorem num_inj : ∀ (n : Nat) (us vs : List Int), us.length + vs.length ≤ n → Cards us → Cards vs → numF us = numF vs → us = vs
  | 0, us, vs, hn, _, _, _ => by
    have e1 : us = [] := List.length_eq_zero_iff.1 (by omega)
    have e2 : vs = [] := List.length_eq_zero_iff.1 (by omega)
    rw [e1, e2]
  | n + 1, us, vs, hn, h1, h2, he => by
    rcases List.eq_nil_or_concat us with rfl | ⟨a, x, rfl⟩
    · rcases List.eq_nil_or_concat vs with rfl | ⟨b, y, rfl⟩
      · rfl
      · rw [List.concat_eq_append] at *
        obtain ⟨g1, g2, g3⟩ := cards_init h2
        have := numF_pos g1
        rw [numF_snoc] at he
        have e0 : numF [] = 0 := rfl
        omega
    · rw [List.concat_eq_append] at *
      obtain ⟨f1, f2, f3⟩ := cards_init h1
      rcases List.eq_nil_or_concat vs with rfl | ⟨b, y, rfl⟩
      · have := numF_pos f1
        rw [numF_snoc] at he
        have e0 : numF [] = 0 := rfl
        omega
      · rw [List.concat_eq_append] at *
        obtain ⟨g1, g2, g3⟩ := cards_init h2
        rw [numF_snoc, numF_snoc] at he
        have e1 : numF a = numF b := by omega
        have e2 : x = y := by omega
        rw [num_inj n a b (by simp at hn; omega) f1 g1 e1, e2]
theorem num_eq {us vs : List Int} (h1 : Cards us) (h2 : Cards vs) (he : numF us = numF vs) : us = vs := num_inj _ us vs (Nat.le_refl _) h1 h2 he
set_option maxHeartbeats 1000000 in
theorem num_any (A : Option Addr) (n c B : Nat) (zs : List Int) (w : World) (hn : zs.length = n) (h12 : n ≤ 12) (hcd : Cards zs) (hat : IntsAt w B .i64 A zs) :
    Calls Try.prog 17 #[.slice A n c] w fun e w' => e = .returned (.int .i64 (numF zs)) ∧ w = w' := by
  have HN := Lib.hid hn
  have HS := Lib.hid (fun k hk => num_small hcd (by omega) k hk)
  have HC := Lib.hid hcd
  clear hn hcd
  go_enter Try.func17, Try.ntmps17
  go_wp2
  go_loop [3, 5, 8] (fun s _ i => ∃ k : Nat, k ≤ n ∧ i = .int .i64 (k : Int) ∧ s = .int .i64 (numTo zs k)) (fun _ _ i => n - (intOf i).toNat)
  case atStart => exact ⟨0, Nat.zero_le _, rfl, rfl⟩
  case round =>
    obtain ⟨k, hk, rfl, rfl⟩ := hrel
    by_cases hlt : k < n
    · obtain ⟨b, o, rfl, hb, hc⟩ := hat k (by rw [HN.out]; exact hlt)
      obtain ⟨hx1, hx2⟩ := HC.out k (by rw [HN.out]; exact hlt)
      obtain ⟨hs1, hs2⟩ := HS.out k (by rw [HN.out]; omega)
      have HE := Lib.hid (show numTo zs (k + 1) = numTo zs k * 25 + zs.getD k 0 + 13 from rfl)
      generalize zs.getD k 0 = x at *
      generalize hy : numTo zs k = y at *
      have HY := Lib.hid hy
      clear hy
      go_wp2
      go_round
      case rel => exact ⟨k + 1, by omega, by go_num, by rw [HE.out]; congr 1; omega⟩
      case measure => simp [intOf]; omega
    · have hkn : k = n := by omega
      have HE := Lib.hid (show numTo zs k = numF zs by unfold numF; rw [HN.out, hkn])
      have hge : (n : Int) ≤ (k : Int) := by omega
      clear hlt hkn
      go_wp2
      go_ret
      exact ⟨congrArg (fun z => Ending.returned (.int .i64 z)) HE.out, rfl⟩
end Go.Proofs.Ytefgcnjbiaileaa.Pkn
