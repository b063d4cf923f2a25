/- RoundsNeeded and FixedIndex: plainly, and in the program. -/
import Derived.Test.YtpfbjbakcfmngaaIxa
set_option linter.unusedVariables false
set_option linter.unusedSimpArgs false
set_option maxRecDepth 20000
namespace Go.Proofs.Ytpfbjbakcfmngaa.Rne
open Go.RowKit Fr Nwp _root_.Go.Proofs.Ytpfbjbakcfmngaa.Own Pk Ins Pfn Rws Lb Plk Ixa

/-- where the card at x lies behind k rounds -/
def itN (n m pl x : Nat) : Nat → Nat
  | 0 => x
  | k + 1 => idxN n m (itN n m pl x k) pl
def meetFrom (n m pl : Nat) : Nat → Nat → Int × Int
  | 0, _ => (-1, -1)
  | f + 1, k => if itN n m pl 0 k = itN n m pl (n - 1) k then ((k : Int), (itN n m pl 0 k : Int)) else meetFrom n m pl f (k + 1)
theorem meet_hit {n m pl f k : Nat} (h : itN n m pl 0 k = itN n m pl (n - 1) k) : meetFrom n m pl (f + 1) k = ((k : Int), (itN n m pl 0 k : Int)) := by rw [meetFrom, if_pos h]
theorem meet_miss {n m pl f k : Nat} (h : itN n m pl 0 k ≠ itN n m pl (n - 1) k) : meetFrom n m pl (f + 1) k = meetFrom n m pl f (k + 1) := by rw [meetFrom, if_neg h]
def rneB (n m pl : Int) : Bool := okB n m && inB pl m
def meetA (n m pl : Int) : Int × Int := if rneB n m pl then meetFrom n.toNat m.toNat pl.toNat n.toNat 0 else (-1, -1)
theorem meet_no {n m pl : Int} (h : rneB n m pl = false) : meetA n m pl = (-1, -1) := by unfold meetA; rw [h]; rfl
theorem meet_yes {n m pl : Int} (h : rneB n m pl = true) : meetA n m pl = meetFrom n.toNat m.toNat pl.toNat n.toNat 0 := by unfold meetA; rw [h]; rfl
theorem rne_parts {n m pl : Int} (h : rneB n m pl = true) : ∃ N M P : Nat, n = N ∧ m = M ∧ pl = P ∧ (M = 2 ∨ M = 3 ∨ M = 4) ∧ M ≤ N ∧ N ≤ 12 ∧ N % M = 0 ∧ P < M := by
  unfold rneB at h
  rw [Bool.and_eq_true] at h
  obtain ⟨N, M, rfl, rfl, q1, q2, q3, q4⟩ := ok_parts h.1
  have e2 := of_decide_eq_true h.2
  exact ⟨N, M, pl.toNat, rfl, rfl, by omega, q1, q2, q3, q4, by omega⟩
theorem idx_nat {N M I P : Nat} (hm : M = 2 ∨ M = 3 ∨ M = 4) (h1 : M ≤ N) (h2 : N ≤ 12) (h3 : N % M = 0) (hi : I < N) (hp : P < M) : idxA N M I P = (idxN N M I P : Int) := by
  have : idxB N M I P = true := by
    unfold idxB
    rw [ok_yes hm h1 h2 h3, show inB (I : Int) N = true from decide_eq_true ⟨by omega, by omega⟩, show inB (P : Int) M = true from decide_eq_true ⟨by omega, by omega⟩]
    rfl
  rw [idx_yes this]
  rfl
theorem it_lt {n m pl x : Nat} (hm : m = 2 ∨ m = 3 ∨ m = 4) (h1 : m ≤ n) (h2 : n ≤ 12) (h3 : n % m = 0) (hp : pl < m) (hx : x < n) : ∀ k, itN n m pl x k < n
  | 0 => hx
  | k + 1 => (chk_at hm h1 h2 h3 (it_lt hm h1 h2 h3 hp hx k) hp).2.2.2.2
def MeetPost (R : Int × Int) (w : World) (e : Ending) (w' : World) : Prop := e = .returned (.tuple #[.int .i64 R.1, .int .i64 R.2]) ∧ Below w.heap.size w w'
set_option maxHeartbeats 1000000 in
theorem impl_meet (n m pl : Int) (w : World) (n1 : -9223372036854775808 ≤ n) (n2 : n ≤ 9223372036854775807) (m1 : -9223372036854775808 ≤ m) (m2 : m ≤ 9223372036854775807) :
    Calls Try.prog 61 #[.int .i64 n, .int .i64 m, .int .i64 pl] w (MeetPost (meetA n m pl) w) := by
  have HI := Lib.hid fun (a b : Int) W => impl_in a b W
  have HQ := Lib.hid fun W => impl_ok n m W n1 n2 m1 m2
  cases h1 : okB n m with
  | false =>
    rw [meet_no (by unfold rneB; rw [h1]; rfl)]
    rw [h1] at HQ
    clear h1
    go_enter Try.func61, Try.ntmps61
    go_wp2_with fail
    refine (HQ.out _).mono ?_
    rintro e w1 ⟨rfl, rfl⟩
    go_wp2
    go_ret2
    exact ⟨rfl, Below.refl _ _⟩
  | true =>
    rw [h1] at HQ
    cases h2 : inB pl m with
    | false =>
      rw [meet_no (by unfold rneB; rw [h1, h2]; rfl)]
      have H2 := Lib.hid h2
      clear h1 h2
      go_enter Try.func61, Try.ntmps61
      go_wp2_with fail
      refine (HQ.out _).mono ?_
      rintro e w1 ⟨rfl, rfl⟩
      go_wp2_with fail
      refine (HI.out _ _ _).mono ?_
      rintro e w1 ⟨rfl, rfl⟩
      rw [H2.out]
      go_wp2
      go_ret2
      exact ⟨rfl, Below.refl _ _⟩
    | true =>
      have hb : rneB n m pl = true := by unfold rneB; rw [h1, h2]; rfl
      rw [meet_yes hb]
      have H2 := Lib.hid h2
      obtain ⟨N, M, P, rfl, rfl, rfl, hm, q1, q2, q3, hp⟩ := rne_parts hb
      obtain ⟨R, hR⟩ : ∃ R, R = meetFrom (N : Int).toNat (M : Int).toNat (P : Int).toNat (N : Int).toNat 0 := ⟨_, rfl⟩
      rw [← hR]
      have HR0 := Lib.hid (show R = meetFrom N M P (N - 0) 0 from hR)
      have HLT := Lib.hid fun x (hx : x < N) k => it_lt hm q1 q2 q3 hp hx k
      have HIX := Lib.hid fun I (hi : I < N) W => (show Calls Try.prog 18 #[.int .i64 (N : Int), .int .i64 (M : Int), .int .i64 (I : Int), .int .i64 (P : Int)] W (IdxPost (idxN N M I P : Int) W) from by
        have h := impl_idx N M I P W n1 n2 m1 m2
        rw [idx_nat hm q1 q2 q3 hi hp] at h
        exact h)
      have hN2 : 2 ≤ N := by omega
      have HB0 := Lib.hid (Below.refl w.heap.size w)
      clear h1 h2 hb hR hm q3
      go_enter Try.func61, Try.ntmps61
      go_wp2_with fail
      refine (HQ.out _).mono ?_
      rintro e w1 ⟨rfl, rfl⟩
      go_wp2_with fail
      refine (HI.out _ _ _).mono ?_
      rintro e w1 ⟨rfl, rfl⟩
      rw [H2.out]
      go_wp2
      go_loopw [8, 9, 10, 24] (fun a b _ i wr => ∃ k x y : Nat, k ≤ N ∧ i = .int .i64 (k : Int) ∧ a = .int .i64 (x : Int) ∧ b = .int .i64 (y : Int) ∧ x < N ∧ y < N ∧ Hid (x = itN N M P 0 k) ∧ Hid (y = itN N M P (N - 1) k) ∧ Hid (R = meetFrom N M P (N - k) k) ∧ Hid (Below w.heap.size w wr)) (fun _ _ _ i _ => N - (intOf i).toNat)
      case atStart => exact ⟨0, 0, N - 1, Nat.zero_le _, rfl, rfl, by rw [show (N : Int) - 1 = ((N - 1 : Nat) : Int) by omega], by omega, by omega, rfl, rfl, HR0, HB0⟩
      case round =>
        obtain ⟨k, x, y, hk, rfl, rfl, rfl, hx, hy, HX, HY, HRK, HB⟩ := hrel
        clear HR0 HB0
        by_cases hlt : k < N
        · by_cases he : x = y
          · have HE := Lib.hid (show R = ((k : Int), (x : Int)) by rw [HRK.out, show N - k = (N - (k + 1)) + 1 by omega, meet_hit (by rw [← HX.out, ← HY.out]; exact he), ← HX.out])
            have hei : (x : Int) = (y : Int) := by omega
            have hej : ((x : Int) == (y : Int)) = true := by simp [he]
            clear he
            go_wp2
            go_ret2
            rw [HE.out]
            exact ⟨by simp, HB.out⟩
          · have HE := Lib.hid (show R = meetFrom N M P (N - (k + 1)) (k + 1) by rw [HRK.out, show N - k = (N - (k + 1)) + 1 by omega, meet_miss (by rw [← HX.out, ← HY.out]; exact he)])
            have hei : ¬ ((x : Int) = (y : Int)) := by omega
            have C1 := Lib.hid (HIX.out x hx)
            have C2 := Lib.hid (HIX.out y hy)
            have hx2 : idxN N M x P < N := by have := HLT.out 0 (by omega) (k + 1); rw [itN, ← HX.out] at this; exact this
            have hy2 : idxN N M y P < N := by have := HLT.out (N - 1) (by omega) (k + 1); rw [itN, ← HY.out] at this; exact this
            have HX2 := Lib.hid (show idxN N M x P = itN N M P 0 (k + 1) by rw [itN, ← HX.out])
            have HY2 := Lib.hid (show idxN N M y P = itN N M P (N - 1) (k + 1) by rw [itN, ← HY.out])
            generalize idxN N M x P = x2 at *
            generalize idxN N M y P = y2 at *
            go_wp2_with fail
            refine (C1.out _).mono ?_
            rintro e w3 ⟨rfl, hb3⟩
            have HB3 := Lib.hid (HB.out.trans (hb3.mono HB.out.size))
            clear hb3
            go_wp2_with fail
            refine (C2.out _).mono ?_
            rintro e w4 ⟨rfl, hb4⟩
            have HB4 := Lib.hid (HB3.out.trans (hb4.mono HB3.out.size))
            clear hb4
            go_wp2
            refine ⟨⟨k + 1, x2, y2, by omega, by go_num, rfl, rfl, hx2, hy2, HX2, HY2, HE, HB4⟩, ?_⟩
            simp [intOf]; omega
        · have hkn : k = N := by omega
          subst hkn
          have HE := Lib.hid (show R = (-1, -1) by rw [HRK.out, Nat.sub_self]; rfl)
          go_wp2
          go_ret2
          rw [HE.out]
          exact ⟨rfl, HB.out⟩
theorem impl_rounds (n m pl : Int) (w : World) (n1 : -9223372036854775808 ≤ n) (n2 : n ≤ 9223372036854775807) (m1 : -9223372036854775808 ≤ m) (m2 : m ≤ 9223372036854775807) :
    Calls Try.prog 23 #[.int .i64 n, .int .i64 m, .int .i64 pl] w (IdxPost (meetA n m pl).1 w) := by
  have HM := Lib.hid (impl_meet n m pl w n1 n2 m1 m2)
  generalize meetA n m pl = R at *
  obtain ⟨a, b⟩ := R
  go_enter Try.func23, Try.ntmps23
  go_wp2_with fail
  refine HM.out.mono ?_
  rintro e w1 ⟨rfl, hb⟩
  go_wp2
  go_ret
  exact ⟨rfl, hb⟩
theorem impl_fixed (n m pl : Int) (w : World) (n1 : -9223372036854775808 ≤ n) (n2 : n ≤ 9223372036854775807) (m1 : -9223372036854775808 ≤ m) (m2 : m ≤ 9223372036854775807) :
    Calls Try.prog 24 #[.int .i64 n, .int .i64 m, .int .i64 pl] w (IdxPost (meetA n m pl).2 w) := by
  have HM := Lib.hid (impl_meet n m pl w n1 n2 m1 m2)
  generalize meetA n m pl = R at *
  obtain ⟨a, b⟩ := R
  go_enter Try.func24, Try.ntmps24
  go_wp2_with fail
  refine HM.out.mono ?_
  rintro e w1 ⟨rfl, hb⟩
  go_wp2
  go_ret
  exact ⟨rfl, hb⟩
end Go.Proofs.Ytpfbjbakcfmngaa.Rne
