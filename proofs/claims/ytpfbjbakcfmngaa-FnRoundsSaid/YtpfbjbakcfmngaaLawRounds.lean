/- The law of the rounds holds: after the needed rounds every chosen card has the same position, and the returned places bring a card to its target. No condition. -/
import Derived.Test.YtpfbjbakcfmngaaRnx
import Derived.Test.YtpfbjbakcfmngaaPlm
import Derived.Test.YtpfbjbakcfmngaaFrame
set_option linter.unusedVariables false
namespace Go.Proofs.Ytpfbjbakcfmngaa.LawRounds
open Go.ChangeShapes Go.WideShapes Go.ChangeAt Go.RowKit Fr _root_.Go.Proofs.Ytpfbjbakcfmngaa.Own

theorem more_bytes {w : World} {B B' : Nat} {A : Option Addr} {n : Nat} (h : Cur.BytesAt w B A n) (hB : B ≤ B') : Cur.BytesAt w B' A n := by
  intro k hk
  obtain ⟨b, o, x, hA, hlt, r⟩ := h k hk
  exact ⟨b, o, x, hA, by omega, r⟩
theorem shape1 {w : World} {B : Nat} {e : TypeId} {A : Option Addr} {n c : Nat} {xs : List Value} (h : w.ownsRow B e 1 (.slice A n c) n xs) (hn : 1 ≤ n) : ∃ g, A = some ⟨g, 0, none⟩ := by
  rcases Lb.own_full h with ⟨_, h0, _⟩ | ⟨g, _, h1, _⟩
  · omega
  · exact ⟨g, h1⟩
theorem mod_nat {x : Int} {m : Nat} (h0 : 0 ≤ x) (hm : 0 < m) : ∃ j : Nat, x % (m : Int) = (j : Int) ∧ x.tmod (m : Int) = (j : Int) ∧ j < m := by
  refine ⟨(x % (m : Int)).toNat, ?_, ?_, ?_⟩
  · have := Int.emod_nonneg x (show (m : Int) ≠ 0 by omega)
    omega
  · rw [Int.tmod_eq_emod_of_nonneg h0]
    have := Int.emod_nonneg x (show (m : Int) ≠ 0 by omega)
    omega
  · have h1 := Int.emod_nonneg x (show (m : Int) ≠ 0 by omega)
    have h2 := Int.emod_lt_of_pos x (show (0 : Int) < (m : Int) by omega)
    omega
set_option maxHeartbeats 4000000 in
set_option maxRecDepth 20000 in
theorem walk (A : Option Addr) (n c : Nat) (zs : List Int) (w : World) (hn : zs.length = n) (hm : n ≤ maxLen) (hs : ∀ z ∈ zs, (Lit.int .u8 z).wf = true) (ha : Fr.IntsAt w w.heap.size .u8 A zs) :
    Calls Try.prog 4 #[.slice A n c] w fun e w' => e = .returned (.bool true) ∧ Below w.heap.size w w' := by
  have hm0 : n ≤ 9223372036854775807 := by unfold maxLen at hm; omega
  have hby := Cur.bytes_of hn hs ha
  clear hn hs ha zs hm
  by_cases h1 : n ≤ 1048576
  · have h1' : decide ((1048576 : Int) < (n : Int)) = false := decide_eq_false (by omega)
    have HBY := Lib.hid hby
    clear hby
    go_enter Try.func4, Try.ntmps4
    go_wp2_with fail
    refine (Plm.make_piles A n c w h1 HBY.out).mono ?_
    rintro e w1 ⟨N, M, rfl, hM, q1, q2, q3, hb1⟩
    have HM := Lib.hid hM
    have HQ3 := Lib.hid q3
    have HB1 := Lib.hid hb1
    have s1 := hb1.size
    have hM2 : 2 ≤ M := by omega
    have hM4 : M ≤ 4 := by omega
    clear hM q3 hb1
    go_wp2_with fail
    refine (Cur.num_any A n c 40 w1 h1 (by omega) (more_bytes (HBY.out.below HB1.out) s1)).mono ?_
    rintro e w2 ⟨x, rfl, hx0, hx1, hb2⟩
    have HB2 := Lib.hid (HB1.out.trans (hb2.mono s1))
    have s2 := HB2.out.size
    obtain ⟨P, e1, e2, hP⟩ := mod_nat (m := M) hx0 (by omega)
    clear hb2 HB1
    have HIX := Lib.hid fun (I Y : Nat) W (hI : I < N) (hY : Y < M) => (show Calls Try.prog 18 #[.int .i64 (N : Int), .int .i64 (M : Int), .int .i64 (I : Int), .int .i64 (Y : Int)] W (Ixa.IdxPost (Ixa.idxN N M I Y : Int) W) from by
      have h := Ixa.impl_idx N M I Y W (by omega) (by omega) (by omega) (by omega)
      rw [Rne.idx_nat HM.out q1 q2 HQ3.out hI hY] at h
      exact h)
    have hrb : Rne.rneB N M P = true := by
      unfold Rne.rneB
      rw [Plk.ok_yes HM.out q1 q2 HQ3.out, show Plk.inB (P : Int) M = true from decide_eq_true ⟨by omega, by omega⟩]
      rfl
    have HRN := Lib.hid fun W => Rne.impl_rounds N M P W (by omega) (by omega) (by omega) (by omega)
    have HFX := Lib.hid fun W => Rne.impl_fixed N M P W (by omega) (by omega) (by omega) (by omega)
    rw [Rne.meet_yes hrb, show (N : Int).toNat = N from rfl, show (M : Int).toNat = M from rfl, show (P : Int).toNat = P from rfl] at HRN HFX
    have HOK := Lib.hid fun W => Plk.impl_ok (N : Int) (M : Int) W (by omega) (by omega) (by omega) (by omega)
    rw [Plk.ok_yes HM.out q1 q2 HQ3.out] at HOK
    have hor := Rnx.meets HM.out q1 q2 HQ3.out hP
    generalize Rne.meetFrom N M P N 0 = RR at *
    clear hrb
    rcases hor with rfl | ⟨K, X, rfl, hK, hall⟩
    · go_wp2_with fail
      clear e1 e2 hx0 hx1
      refine (HRN.out _).mono ?_
      rintro e w3 ⟨rfl, hb3⟩
      have HB3 := Lib.hid (HB2.out.trans (hb3.mono s2))
      clear hb3
      go_wp2_with fail
      refine (HFX.out _).mono ?_
      rintro e w4 ⟨rfl, hb4⟩
      have HB4 := Lib.hid (HB3.out.trans (hb4.mono HB3.out.size))
      clear hb4 HB3 HB2
      have hNm : decide ((N : Int) < -1) = false := decide_eq_false (by omega)
      go_wp2_with fail
      refine (HOK.out _).mono ?_
      rintro e w5 ⟨rfl, rfl⟩
      go_wp2
      go_loopw [8, 9, 10] (fun i _ _ wr => i = .int .i64 0 ∧ wr = w4) (fun _ _ _ _ => 0)
      case atStart => exact ⟨rfl, rfl⟩
      case round =>
        obtain ⟨rfl, rfl⟩ := hrel
        have HBR := HB4
        have hN0 : (0 : Int) < (N : Int) := by omega
        clear HB4 HRN HFX HOK hNm
        go_wp2_with fail
        refine (Cur.num_any A n c 42 wr h1 (by omega) (more_bytes (HBY.out.below HBR.out) HBR.out.size)).mono ?_
        rintro e w6 ⟨y, rfl, hy0, hy1, hb6⟩
        have HB6 := Lib.hid (HBR.out.trans (hb6.mono HBR.out.size))
        obtain ⟨a, e3, e4, ha⟩ := mod_nat (m := N) hy0 (by omega)
        clear hb6 HBR
        go_wp2_with fail
        clear e3 e4 hy0 hy1
        refine (Cur.num_any A n c 44 w6 h1 (by omega) (more_bytes (HBY.out.below HB6.out) HB6.out.size)).mono ?_
        rintro e w7 ⟨z, rfl, hz0, hz1, hb7⟩
        have HB7 := Lib.hid (HB6.out.trans (hb7.mono HB6.out.size))
        obtain ⟨t, e5, e6, ht⟩ := mod_nat (m := N) hz0 (by omega)
        clear hb7 HB6
        obtain ⟨L, f1, f2, f3, f4, f5⟩ := Rnx.leads HM.out q1 q2 HQ3.out ha ht
        have HPL := Lib.hid (Plf.impl_plc (N : Int) (M : Int) (a : Int) (t : Int) w7 (by omega) (by omega) (by omega) (by omega) (by omega) (by omega))
        rw [f1, f2] at HPL
        have HWK := Lib.hid (show Rnx.wk N M a (L.drop 0) = t by rw [List.drop_zero]; exact f3)
        have HIN := Lib.hid f5
        clear f1 f2 f3 f5
        go_wp2_with fail
        clear e5 e6 hz0 hz1
        refine HPL.out.mono ?_
        rintro e w8 ⟨Al, cl, rfl, hol, hb8⟩
        have HB8 := Lib.hid (HB7.out.trans (hb8.mono HB7.out.size))
        have HRL := Lib.hid (Ins.Row.mk hol)
        obtain ⟨m, hm⟩ : ∃ m, m = L.length := ⟨_, rfl⟩
        have HML := Lib.hid hm
        rw [← hm] at HRL f4 ⊢
        clear hol hb8 HB7 HPL hm
        go_wp2
        go_loopw [11, 16, 103] (fun s _ i wq => ∃ j x : Nat, j ≤ m ∧ i = .int .i64 (j : Int) ∧ s = .int .i64 (x : Int) ∧ x < N ∧ Hid (Rnx.wk N M x (L.drop j) = t) ∧ Hid (Below w8.heap.size w8 wq)) (fun _ _ i _ => m - (intOf i).toNat)
        case atStart => exact ⟨0, a, Nat.zero_le _, rfl, rfl, ha, HWK, Lib.hid (Below.refl _ _)⟩
        case round =>
          obtain ⟨j, x, hj, rfl, rfl, hx, HW, HBQ⟩ := hrel
          clear HWK
          by_cases hlt : j < m
          · have HR2 := HRL.out.below HBQ.out
            obtain ⟨g, hg⟩ := shape1 HR2.own (by omega)
            subst hg
            have hin := HIN.out j (by rw [← HML.out]; exact hlt)
            have hcj := HR2.own.cellAt j (by omega)
            have hcj2 := hcj.trans (Pfn.vals_get (zs := L) (by rw [← HML.out]; exact hlt))
            have HNX := Lib.hid (Rnx.wk_next (n := N) (m := M) (x := x) (L := L) (j := j) (by rw [← HML.out]; exact hlt))
            clear hcj
            generalize L.getD j 0 = yy at *
            obtain ⟨yn, rfl⟩ := Int.eq_ofNat_of_zero_le hin.1
            have hym : yn < M := by omega
            have HLT := Lib.hid (Ixa.chk_at HM.out q1 q2 HQ3.out hx hym).2.2.2.2
            have HNX2 := Lib.hid (show Rnx.wk N M (Ixa.idxN N M x yn) (L.drop (j + 1)) = t by
              have h := HNX.out
              rw [show (yn : Int).toNat = yn from rfl, HW.out] at h
              exact h.symm)
            clear HNX
            have HC := Lib.hid fun W => HIX.out x yn W hx hym
            generalize Ixa.idxN N M x yn = x2 at *
            go_wp2_with fail
            refine (HC.out _).mono ?_
            rintro e w9 ⟨rfl, hb9⟩
            have HB9 := Lib.hid (HBQ.out.trans (hb9.mono HBQ.out.size))
            clear hb9 hcj2
            go_wp2
            refine ⟨⟨j + 1, x2, by omega, by go_num, rfl, HLT.out, HNX2, HB9⟩, ?_⟩
            simp [intOf]; omega
          · have hjm : j = m := by omega
            subst hjm
            have hxt : x = t := by
              have h := HW.out
              rw [Rnx.wk_end (by rw [← HML.out]; exact Nat.le_refl _)] at h
              exact h
            subst hxt
            have f4' : (j : Int) ≤ (N : Int) := by omega
            have HEND := Lib.hid (HB8.out.trans (HBQ.out.mono HB8.out.size))
            go_wp2
            go_ret
            exact ⟨rfl, HEND.out⟩
    · go_wp2_with fail
      clear e1 e2 hx0 hx1
      refine (HRN.out _).mono ?_
      rintro e w3 ⟨rfl, hb3⟩
      have HB3 := Lib.hid (HB2.out.trans (hb3.mono s2))
      clear hb3
      go_wp2_with fail
      refine (HFX.out _).mono ?_
      rintro e w4 ⟨rfl, hb4⟩
      have HB4 := Lib.hid (HB3.out.trans (hb4.mono HB3.out.size))
      clear hb4 HB3 HB2
      have k1 : decide ((K : Int) < -1) = false := decide_eq_false (by omega)
      have k2 : decide ((N : Int) < (K : Int)) = false := decide_eq_false (by omega)
      have k2n : decide (N < K) = false := decide_eq_false (by omega)
      have k3 : decide ((K : Int) < 0) = false := decide_eq_false (by omega)
      have k4 : decide ((X : Int) < 0) = false := decide_eq_false (by omega)
      have k5 : (0 : Int) ≤ (K : Int) := by omega
      have HALL := Lib.hid hall
      clear hall
      dsimp only
      go_wp2_with fail
      refine (HOK.out _).mono ?_
      rintro e w5 ⟨rfl, rfl⟩
      go_wp2
      go_loopw [8, 9, 10] (fun i _ _ wr => ∃ b : Nat, b ≤ N ∧ i = .int .i64 (b : Int) ∧ Hid (Below w.heap.size w wr)) (fun i _ _ _ => N - (intOf i).toNat)
      case atStart => exact ⟨0, Nat.zero_le _, rfl, HB4⟩
      case round =>
        obtain ⟨b, hb, rfl, HBR⟩ := hrel
        clear HB4
        by_cases hlt : b < N
        · have hblt : (b : Int) < (N : Int) := by omega
          go_wp2
          go_loopw [9, 10] (fun s r wq => ∃ q y : Nat, q ≤ K ∧ r = .int .i64 (q : Int) ∧ s = .int .i64 (y : Int) ∧ y < N ∧ Hid (y = Rne.itN N M P b q) ∧ Hid (Below w.heap.size w wq)) (fun _ r _ => K - (intOf r).toNat)
          case atStart => exact ⟨0, b, Nat.zero_le _, rfl, rfl, hlt, rfl, HBR⟩
          case round =>
            obtain ⟨q, y, hq, rfl, rfl, hy, HY, HBQ⟩ := hrel
            clear HBR
            by_cases hlt2 : q < K
            · have HC := Lib.hid fun W => HIX.out y P W hy hP
              have HLT := Lib.hid (Ixa.chk_at HM.out q1 q2 HQ3.out hy hP).2.2.2.2
              have HY2 := Lib.hid (show Ixa.idxN N M y P = Rne.itN N M P b (q + 1) by rw [Rne.itN, ← HY.out])
              generalize Ixa.idxN N M y P = y2 at *
              go_wp2_with fail
              refine (HC.out _).mono ?_
              rintro e w9 ⟨rfl, hb9⟩
              have HB9 := Lib.hid (HBQ.out.trans (hb9.mono HBQ.out.size))
              clear hb9
              go_wp2
              refine ⟨⟨q + 1, y2, by omega, by go_num, rfl, HLT.out, HY2, HB9⟩, ?_⟩
              simp [intOf]; omega
            · have hqK : q = K := by omega
              subst hqK
              have hyX : y = X := by rw [HY.out]; exact HALL.out b hlt
              subst hyX
              have hne : ((y : Int) != (y : Int)) = false := by simp
              go_wp2
              refine ⟨⟨b + 1, by omega, by go_num, HBQ⟩, ?_⟩
              simp [intOf]; omega
        · have hbN : b = N := by omega
          subst hbN
          clear HRN HFX HOK k1 k2 k2n k3 k4 HALL
          go_wp2_with fail
          refine (Cur.num_any A n c 42 wr h1 (by omega) (more_bytes (HBY.out.below HBR.out) HBR.out.size)).mono ?_
          rintro e w6 ⟨y, rfl, hy0, hy1, hb6⟩
          have HB6 := Lib.hid (HBR.out.trans (hb6.mono HBR.out.size))
          obtain ⟨a, e3, e4, ha⟩ := mod_nat (m := b) hy0 (by omega)
          clear hb6 HBR
          go_wp2_with fail
          clear e3 e4 hy0 hy1
          refine (Cur.num_any A n c 44 w6 h1 (by omega) (more_bytes (HBY.out.below HB6.out) HB6.out.size)).mono ?_
          rintro e w7 ⟨z, rfl, hz0, hz1, hb7⟩
          have HB7 := Lib.hid (HB6.out.trans (hb7.mono HB6.out.size))
          obtain ⟨t, e5, e6, ht⟩ := mod_nat (m := b) hz0 (by omega)
          clear hb7 HB6
          obtain ⟨L, f1, f2, f3, f4, f5⟩ := Rnx.leads HM.out q1 q2 HQ3.out ha ht
          have HPL := Lib.hid (Plf.impl_plc (b : Int) (M : Int) (a : Int) (t : Int) w7 (by omega) (by omega) (by omega) (by omega) (by omega) (by omega))
          rw [f1, f2] at HPL
          have HWK := Lib.hid (show Rnx.wk b M a (L.drop 0) = t by rw [List.drop_zero]; exact f3)
          have HIN := Lib.hid f5
          clear f1 f2 f3 f5
          go_wp2_with fail
          clear e5 e6 hz0 hz1
          refine HPL.out.mono ?_
          rintro e w8 ⟨Al, cl, rfl, hol, hb8⟩
          have HB8 := Lib.hid (HB7.out.trans (hb8.mono HB7.out.size))
          have HRL := Lib.hid (Ins.Row.mk hol)
          obtain ⟨m, hm⟩ : ∃ m, m = L.length := ⟨_, rfl⟩
          have HML := Lib.hid hm
          rw [← hm] at HRL f4 ⊢
          clear hol hb8 HB7 HPL hm
          go_wp2
          go_loopw [11, 16, 103] (fun s _ i wq => ∃ j x : Nat, j ≤ m ∧ i = .int .i64 (j : Int) ∧ s = .int .i64 (x : Int) ∧ x < b ∧ Hid (Rnx.wk b M x (L.drop j) = t) ∧ Hid (Below w8.heap.size w8 wq)) (fun _ _ i _ => m - (intOf i).toNat)
          case atStart => exact ⟨0, a, Nat.zero_le _, rfl, rfl, ha, HWK, Lib.hid (Below.refl _ _)⟩
          case round =>
            obtain ⟨j, x, hj, rfl, rfl, hx, HW, HBQ⟩ := hrel
            clear HWK
            by_cases hlt : j < m
            · have HR2 := HRL.out.below HBQ.out
              obtain ⟨g, hg⟩ := shape1 HR2.own (by omega)
              subst hg
              have hin := HIN.out j (by rw [← HML.out]; exact hlt)
              have hcj := HR2.own.cellAt j (by omega)
              have hcj2 := hcj.trans (Pfn.vals_get (zs := L) (by rw [← HML.out]; exact hlt))
              have HNX := Lib.hid (Rnx.wk_next (n := b) (m := M) (x := x) (L := L) (j := j) (by rw [← HML.out]; exact hlt))
              clear hcj
              generalize L.getD j 0 = yy at *
              obtain ⟨yn, rfl⟩ := Int.eq_ofNat_of_zero_le hin.1
              have hym : yn < M := by omega
              have HLT := Lib.hid (Ixa.chk_at HM.out q1 q2 HQ3.out hx hym).2.2.2.2
              have HNX2 := Lib.hid (show Rnx.wk b M (Ixa.idxN b M x yn) (L.drop (j + 1)) = t by
                have h := HNX.out
                rw [show (yn : Int).toNat = yn from rfl, HW.out] at h
                exact h.symm)
              clear HNX
              have HC := Lib.hid fun W => HIX.out x yn W hx hym
              generalize Ixa.idxN b M x yn = x2 at *
              go_wp2_with fail
              refine (HC.out _).mono ?_
              rintro e w9 ⟨rfl, hb9⟩
              have HB9 := Lib.hid (HBQ.out.trans (hb9.mono HBQ.out.size))
              clear hb9 hcj2
              go_wp2
              refine ⟨⟨j + 1, x2, by omega, by go_num, rfl, HLT.out, HNX2, HB9⟩, ?_⟩
              simp [intOf]; omega
            · have hjm : j = m := by omega
              subst hjm
              have hxt : x = t := by
                have h := HW.out
                rw [Rnx.wk_end (by rw [← HML.out]; exact Nat.le_refl _)] at h
                exact h
              subst hxt
              have f4' : (j : Int) ≤ (b : Int) := by omega
              have HEND := Lib.hid (HB8.out.trans (HBQ.out.mono HB8.out.size))
              go_wp2
              go_ret
              exact ⟨rfl, HEND.out⟩
  · have h1' : (1048576 : Int) < (n : Int) := by omega
    go_enter Try.func4, Try.ntmps4
    go_wp2
    go_ret
    exact ⟨rfl, Below.refl _ w⟩

set_option maxRecDepth 100000 in
theorem lifted (os : Os) (started : os.Started) (H : Type) (enc : TypeId × Value → H) :
    ReturnsInHanded {} Try.checked os 4 .any (Rows.fnRoundsSpec.pre6 enc Try.prog Try.f4 Rows.fnRoundsRow.domain false) (Rows.fnRoundsSpec.post enc Try.prog Try.f4 false true false false) := by
  refine returnsInHanded_of_change (C := Try.checked) Fr.own started (by kernel_rfl) Try.func4
    (ChangeSpec.witness6 (enc := enc) (C := Try.checked) false ⟨#[], #[.slice none 0 0], []⟩ 8 (by kernel_rfl) (by kernel_rfl) (by kernel_rfl) (by kernel_rfl)) ?_
  intro W base args ds gs before hval0 hW hcnd _
  have hval : ∀ (j : Nat) t v, Try.f4.params[j]? = some t → args[j]? = some v → Value.okWide Try.prog W .any base t v := hval0
  have hW' := hW
  obtain ⟨p, q, hA0, hV, rfl, hfz, hnd⟩ := hW
  have hA : DataW.TrodAll enc Try.prog W 0 (fun _ => true) true Try.f4.params.toList args.toList ds p := hA0
  have hAk := hA
  rw [Try.params4] at hA hval
  obtain ⟨v0, d0, rfl, rfl, h0⟩ := trodAll_one hA
  obtain ⟨rfl, rfl⟩ := trodVars_none hV
  have hlt : ∀ x ∈ p, x.block < W.heap.size := fun x hx => by simpa using hW'.lt x (List.mem_append_left _ hx)
  obtain ⟨A0, n0, c0, l0, rfl, hn0, hm0, hs0, ha0⟩ := Fr.view_nums Try.underlying22 Try.underlying5 (by kernel_rfl) (hval 0 22 v0 rfl rfl) h0 hlt
  clear hA0 hval0
  refine (walk A0 n0 c0 l0 W hn0 hm0 hs0 ha0).mono fun e W' ⟨he, hb⟩ => ?_
  subst he
  exact ⟨_, rfl, _, _, _, [], p, [], hW', trodAll_mk1 (shut_bool Try.underlying4 _), Fr.below_all Fr.laidOut hb _ _ _ _ (Fr.readB_all (by kernel_rfl)) hAk hlt, rfl, hb.frame _, fun h => by cases h⟩

theorem proved : Rows.FnRoundsSaid :=
  OpenClaim.holds_of_wide 4 Try.f4 rfl rfl rfl rfl rfl rfl rfl ⟨rfl, rfl, rfl, rfl, rfl⟩ rfl rfl rfl rfl rfl (by kernel_rfl) Try.func4 (by kernel_rfl)
    (of_decide_eq_true (by kernel_rfl)) (by unfold Func.isWrapper; first | (rw [if_pos (by decide +kernel)]; kernel_rfl) | (rw [if_neg (by decide +kernel)]; exact ⟨rfl, rfl⟩))
    (fun os started H enc _ => lifted os started H enc)

end Go.Proofs.Ytpfbjbakcfmngaa.LawRounds
