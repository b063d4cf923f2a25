/- Facts for FnCodes with everything under names: what the functions answer for the decks and hands that the law draws. -/
import Derived.Test.YtefgcnjbiaileaaFco
set_option linter.unusedVariables false
set_option maxRecDepth 20000
namespace Go.Proofs.Ytefgcnjbiaileaa.Fcl
open Go.RowKit Fr _root_.Go.Proofs.Ytefgcnjbiaileaa.Own Pk Ins Hnd Hno Hnl Hco Hcp Hen Hde Fcd Fco Rws Cde

def NoCode (w : World) (e : Ending) (w' : World) : Prop := ∃ A c B d, e = .returned (.tuple #[coV 0 A 0 c B 0 d, .bool false]) ∧ Below w.heap.size w w'
def SomeSS (L : Nat) (w : World) (e : Ending) (w' : World) : Prop := ∃ A c, e = .returned (.slice A L c) ∧ Below w.heap.size w w'
def SomeB (b : Bool) (w : World) (e : Ending) (w' : World) : Prop := e = .returned (.bool b) ∧ Below w.heap.size w w'
def YesCode (n : Int) (nh ns : Nat) (H S : List (List Int)) (w : World) (e : Ending) (w' : World) : Prop :=
  ∃ A c B d rs r2, e = .returned (.tuple #[coV n A nh c B ns d, .bool true]) ∧ rs.map RD.zs = H ∧ r2.map RD.zs = S ∧ CR w' w.heap.size w'.heap.size A nh c rs B ns d r2 ∧ Below w.heap.size w w'
def SomeHands (L : Nat) (H : List (List Int)) (w : World) (e : Ending) (w' : World) : Prop := ∃ A c rs, e = .returned (.slice A L c) ∧ rs.map RD.zs = H ∧ SSRow w' w.heap.size w'.heap.size A L c rs ∧ Below w.heap.size w w'
def Sent (m : Nat) (ms : List Int) (w : World) (e : Ending) (w' : World) : Prop := ∃ A c, e = .returned (.tuple #[.slice A m c, .bool true]) ∧ w'.ownsRow w.heap.size 3 1 (.slice A m c) m (ms.map (Value.int .i64)) ∧ Below w.heap.size w w'
def Told (x : Int) (w : World) (e : Ending) (w' : World) : Prop := e = .returned (.tuple #[.int .i64 x, .bool true]) ∧ Below w.heap.size w w'
theorem some_of {L : Nat} {zss : List (List Int)} {w w' : World} {e : Ending} (h : IsSS w.heap.size zss w e w') (hl : zss.length = L) : SomeSS L w e w' := by
  obtain ⟨A, c, rs, rfl, _, _, hb⟩ := h
  rw [hl]
  exact ⟨A, c, rfl, hb⟩
theorem no_law {n k : Int} (hk : 1 ≤ k ∧ k ≤ 3) (hn : k ≤ n ∧ n ≤ k + 3) (hb : fndB n k = false) : ∃ (Lg : Int) (lh lm : Nat),
    (∀ W, Calls Try.prog 5 #[.int .i64 n, .int .i64 k] W (NoCode W)) ∧ (∀ W, Calls Try.prog 6 #[.int .i64 k] W fun e w' => e = .returned (.int .i64 Lg) ∧ W = w') ∧
    (∀ W, Calls Try.prog 7 #[.int .i64 n, .int .i64 k] W (SomeB true W)) ∧ (∀ W, Calls Try.prog 8 #[.int .i64 n, .int .i64 k] W (SomeSS lh W)) ∧
    (∀ W, Calls Try.prog 9 #[.int .i64 n, .int .i64 (k - 1)] W (SomeSS lm W)) ∧ Lg < n ∧ k ≤ Lg ∧ lm < lh := by
  have hok := ok_at hk hn
  obtain ⟨f1, f2, f3⟩ := ok_one hok
  have hlt : largestI k < n := by
    rw [hb] at f1
    have := of_decide_eq_false f1.symm
    omega
  obtain ⟨e1, e2, e3⟩ := fnd_no hb
  refine ⟨largestI k, _, _, fun W => ?_, fun W => Him.impl_largest k W, fun W => ?_, fun W => (Him.impl_handsof n k W (by omega) (by omega) (by omega) (by omega)).mono fun e w' h => some_of h rfl, fun W => (Hms.impl_messages n (k - 1) W (by omega) (by omega) (by omega) (by omega)).mono fun e w' h => some_of h rfl, hlt, f3, ok_no hok hb⟩
  · refine (Fci.impl_find n k W (by omega) (by omega) (by omega) (by omega)).mono ?_
    rintro e w' ⟨A, c, A2, c2, rs, r2, rfl, _, _, _, hb2⟩
    rw [e1, e2, e3, hb]
    exact ⟨A, c, A2, c2, rfl, hb2⟩
  · refine (Hms.impl_hall n k W (by omega) (by omega) (by omega) (by omega)).mono ?_
    rintro e w' ⟨rfl, hb2⟩
    rw [f2, decide_eq_true hlt]
    exact ⟨rfl, hb2⟩
theorem yes_law {n k : Int} (hk : 1 ≤ k ∧ k ≤ 3) (hn : k ≤ n ∧ n ≤ k + 3) (hb : fndB n k = true) : ∃ (Lg : Int) (lh lm nh ns : Nat) (H S : List (List Int)),
    (∀ W, Calls Try.prog 5 #[.int .i64 n, .int .i64 k] W (YesCode n nh ns H S W)) ∧ (∀ W, Calls Try.prog 6 #[.int .i64 k] W fun e w' => e = .returned (.int .i64 Lg) ∧ W = w') ∧
    (∀ W, Calls Try.prog 7 #[.int .i64 n, .int .i64 k] W (SomeB false W)) ∧ (∀ W, Calls Try.prog 8 #[.int .i64 n, .int .i64 k] W (SomeHands lh H W)) ∧
    (∀ W, Calls Try.prog 9 #[.int .i64 n, .int .i64 (k - 1)] W (SomeSS lm W)) ∧ n ≤ Lg ∧ k ≤ Lg ∧ lh ≤ lm ∧ 0 < lh ∧ lh ≤ 1000 ∧ lm ≤ 1000000000 ∧ nh ≤ 1000 ∧ ns ≤ 1000 ∧
    (∀ W lo hi A c B d rs r2, rs.map RD.zs = H → r2.map RD.zs = S → CR W lo hi A nh c rs B ns d r2 → Calls Try.prog 10 #[coV n A nh c B ns d] W (SomeB true W)) ∧
    (∀ q ∈ H, q.length ≤ 1000 ∧ ∃ (m : Nat) (ms : List Int) (x : Int), ms.length = m ∧ (m : Int) = k - 1 ∧ x ∈ q ∧ x ∉ ms ∧ (∀ y ∈ ms, y ∈ q) ∧
      (∀ W lo hi A c B d rs r2 Aj cj, rs.map RD.zs = H → r2.map RD.zs = S → CR W lo hi A nh c rs B ns d r2 → IntsAt W W.heap.size .i64 Aj q → Calls Try.prog 11 #[coV n A nh c B ns d, .slice Aj q.length cj] W (Sent m ms W)) ∧
      (∀ W lo hi A c B d rs r2 Am cm, rs.map RD.zs = H → r2.map RD.zs = S → CR W lo hi A nh c rs B ns d r2 → IntsAt W W.heap.size .i64 Am ms → Calls Try.prog 12 #[coV n A nh c B ns d, .slice Am m cm] W (Told x W))) := by
  have hok := ok_at hk hn
  have hsm := okS_at hk hn
  unfold okS at hsm
  rw [Bool.and_eq_true] at hsm
  obtain ⟨f1, f2, f3⟩ := ok_one hok
  have hle : n ≤ largestI k := by
    rw [hb] at f1
    exact of_decide_eq_true f1.symm
  obtain ⟨e1, e2⟩ := found_is hb
  obtain ⟨y1, y2, y3, y4⟩ := ok_yes hok hb
  have hs1 : ∀ rs : List RD, rs.map RD.zs = fndH n k → ∀ i, (rs.getD i rd0).zs.length ≤ 1000 ∧ Fits (rs.getD i rd0).zs := fun rs h => (small_at hsm.1 (h.trans e2)).2
  have hs2 : ∀ rs : List RD, rs.map RD.zs = fndS n k → ∀ i, (rs.getD i rd0).zs.length ≤ 1000 ∧ Fits (rs.getD i rd0).zs := fun rs h => (small_at hsm.2 h).2
  have hl1 : (fndH n k).length ≤ 1000 := by
    rw [e2]
    have h := hsm.1
    unfold smallB at h
    rw [Bool.and_eq_true, decide_eq_true_eq] at h
    exact h.1
  have hl2 : (fndS n k).length ≤ 1000 := by
    have h := hsm.2
    unfold smallB at h
    rw [Bool.and_eq_true, decide_eq_true_eq] at h
    exact h.1
  have hlm : (messagesI n (k - 1)).length ≤ 1000000000 := by
    have h := Hms.messages_small n (k - 1)
    have := h.1
    omega
  refine ⟨largestI k, (handsI n k).length, (messagesI n (k - 1)).length, (fndH n k).length, (fndS n k).length, fndH n k, fndS n k, fun W => ?_, fun W => Him.impl_largest k W, fun W => ?_, fun W => ?_, fun W => (Hms.impl_messages n (k - 1) W (by omega) (by omega) (by omega) (by omega)).mono fun e w' h => some_of h rfl, hle, f3, y2, List.length_pos_iff.2 y3, by rw [← e2]; exact hl1, hlm, hl1, hl2, fun W lo hi A c B d rs r2 hz hy hcr => ?_, fun q hq => ?_⟩
  · refine (Fci.impl_find n k W (by omega) (by omega) (by omega) (by omega)).mono ?_
    rintro e w' ⟨A, c, A2, c2, rs, r2, rfl, hz, hy, hcr, hb2⟩
    rw [e1, hb]
    exact ⟨A, c, A2, c2, rs, r2, rfl, hz, hy, hcr, hb2⟩
  · refine (Hms.impl_hall n k W (by omega) (by omega) (by omega) (by omega)).mono ?_
    rintro e w' ⟨rfl, hb2⟩
    rw [f2, decide_eq_false (by omega)]
    exact ⟨rfl, hb2⟩
  · refine (Him.impl_handsof n k W (by omega) (by omega) (by omega) (by omega)).mono ?_
    rintro e w' ⟨A, c, rs, rfl, hz, hr, hb2⟩
    exact ⟨A, c, rs, rfl, hz.trans e2.symm, hr, hb2⟩
  · obtain ⟨mid, g1, g2, g3⟩ := hcr
    exact code_call y1 hz hy ⟨mid, g1, g2, g3⟩ g1.len g2.len (by omega) (hs1 rs hz) (hs2 r2 hy) hl1
  · have hq2 : q ∈ handsI n k := by rw [← e2]; exact hq
    obtain ⟨ms, x, m1, m2, m3, m4, m5, m6, m7, m8⟩ := one_yes (y4 q hq2)
    have hql : q.length ≤ 1000 := by
      have h := hsm.1
      unfold smallB at h
      rw [Bool.and_eq_true, List.all_eq_true] at h
      have h2 := h.2 q hq2
      rw [Bool.and_eq_true, decide_eq_true_eq] at h2
      exact h2.1
    refine ⟨hql, ms.length, ms, x, rfl, m5, m6, m7, m8, fun W lo hi A c B d rs r2 Aj cj hz hy hcr ha => ?_, fun W lo hi A c B d rs r2 Am cm hz hy hcr ha => ?_⟩
    · have h := impl_enc n A (fndH n k).length c B (fndS n k).length d rs r2 Aj q.length cj q W (by omega) (by omega) hcr (fun i _ => Nat.le_trans (hs1 rs hz i).1 (by omega)) (fun i _ => ⟨Nat.le_trans (hs2 r2 hy i).1 (by omega), (hs2 r2 hy i).2⟩) (by omega) rfl (by omega) ha
      rw [hz, hy, ← m1, m3] at h
      exact h
    · have h := impl_dec n A (fndH n k).length c B (fndS n k).length d rs r2 Am ms.length cm ms W (by omega) (by omega) hcr (fun i _ => Nat.le_trans (hs1 rs hz i).1 (by omega)) (fun i _ => ⟨Nat.le_trans (hs2 r2 hy i).1 (by omega), (hs2 r2 hy i).2⟩) (by omega) (by omega) rfl (by omega) ha
      rw [hz, hy, ← m2, m4] at h
      exact h
end Go.Proofs.Ytefgcnjbiaileaa.Fcl
