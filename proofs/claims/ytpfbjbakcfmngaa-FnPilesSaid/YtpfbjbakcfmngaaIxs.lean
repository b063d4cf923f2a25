/- IndexAfter of the model. -/
import Derived.Test.YtpfbjbakcfmngaaIxa
set_option linter.unusedVariables false
set_option linter.unusedSimpArgs false
set_option maxRecDepth 20000
namespace Go.Proofs.Ytpfbjbakcfmngaa.Ixs
open Go.RowKit Fr Nwp _root_.Go.Proofs.Ytpfbjbakcfmngaa.Own Pk Ins Pfn Rws Lb Plk Gat Gas Dls Dlt Put Prd Ixa

theorem rnd_fits {zs : List Int} (hz : Fits zs) (m card pl : Int) : Fits (rndL zs m card pl) := by
  unfold rndL gatL
  split
  · unfold gatF
    exact cat_fits _ (fun k _ => fits_get (piles_fits hz m) _)
  · exact fun i hi => by simp at hi
theorem spec_idx (n m i pl : Int) (w : World) (n1 : -9223372036854775808 ≤ n) (n2 : n ≤ 9223372036854775807) (m1 : -9223372036854775808 ≤ m) (m2 : m ≤ 9223372036854775807) :
    Calls Try.prog 39 #[.int .i64 n, .int .i64 m, .int .i64 i, .int .i64 pl] w (IdxPost (idxA n m i pl) w) := by
  have HI := Lib.hid fun (a b c : Int) W => in_any a b c W
  have HQ := Lib.hid fun W => spec_ok n m W n1 n2 m1 m2
  cases h1 : okB n m with
  | false =>
    rw [idx_no (by unfold idxB; rw [h1]; rfl)]
    rw [h1] at HQ
    clear h1
    go_enter Try.func39, Try.ntmps39
    go_wp2_with fail
    refine (HQ.out _).mono ?_
    rintro e w1 ⟨rfl, rfl⟩
    go_wp2
    go_ret
    exact ⟨rfl, Below.refl _ _⟩
  | true =>
    rw [h1] at HQ
    obtain ⟨N, M, rfl, rfl, hm, q1, q2, q3⟩ := ok_parts h1
    have hM4 : M ≤ 4 := by omega
    have hM2 : 2 ≤ M := by omega
    cases h2 : inB i N with
    | false =>
      rw [idx_no (by unfold idxB; rw [h1, h2]; rfl)]
      have H2 := Lib.hid (show decide (0 ≤ i ∧ i ≤ (N : Int) - 1) = false from decide_eq_false (by have := of_decide_eq_false h2; omega))
      clear h1 h2
      go_enter Try.func39, Try.ntmps39
      go_wp2_with fail
      refine (HQ.out _).mono ?_
      rintro e w1 ⟨rfl, rfl⟩
      go_wp2_with fail
      refine (HI.out _ _ _ _).mono ?_
      rintro e w1 ⟨rfl, rfl⟩
      rw [H2.out]
      go_wp2
      go_ret
      exact ⟨rfl, Below.refl _ _⟩
    | true =>
      have H2 := Lib.hid (show decide (0 ≤ i ∧ i ≤ (N : Int) - 1) = true from decide_eq_true (by have := of_decide_eq_true h2; omega))
      cases h3 : inB pl M with
      | false =>
        rw [idx_no (by unfold idxB; rw [h1, h2, h3]; rfl)]
        have H3 := Lib.hid (show decide (0 ≤ pl ∧ pl ≤ (M : Int) - 1) = false from decide_eq_false (by have := of_decide_eq_false h3; omega))
        clear h1 h2 h3
        go_enter Try.func39, Try.ntmps39
        go_wp2_with fail
        refine (HQ.out _).mono ?_
        rintro e w1 ⟨rfl, rfl⟩
        go_wp2_with fail
        refine (HI.out _ _ _ _).mono ?_
        rintro e w1 ⟨rfl, rfl⟩
        rw [H2.out]
        go_wp2_with fail
        refine (HI.out _ _ _ _).mono ?_
        rintro e w1 ⟨rfl, rfl⟩
        rw [H3.out]
        go_wp2
        go_ret
        exact ⟨rfl, Below.refl _ _⟩
      | true =>
        have hb : idxB N M i pl = true := by unfold idxB; rw [h1, h2, h3]; rfl
        rw [idx_yes hb]
        have H3 := Lib.hid (show decide (0 ≤ pl ∧ pl ≤ (M : Int) - 1) = true from decide_eq_true (by have := of_decide_eq_true h3; omega))
        obtain ⟨N', M', I, P, e1, e2, rfl, rfl, _, _, _, _, hi, hp⟩ := idx_parts hb
        have hN : N' = N := by omega
        have hM : M' = M := by omega
        subst hN hM
        obtain ⟨c1, c2, c3, c4, c5⟩ := chk_at hm q1 q2 q3 hi hp
        obtain ⟨R, hR⟩ : ∃ R, R = idxN N' M' I P := ⟨_, rfl⟩
        rw [show ((idxN (N' : Int).toNat (M' : Int).toNat (I : Int).toNat (P : Int).toNat : Nat) : Int) = (R : Int) by rw [hR]; rfl]
        rw [← hR] at c3
        have HNEW := Lib.hid fun W => Nwp.spec_new (N' : Int) W n1 n2
        have HRN := Lib.hid fun A c W (h : IntsAt W W.heap.size .i64 A (newF (N' : Int))) => spec_round A (newF (N' : Int)).length c (newF (N' : Int)) M' I P W rfl (newF_len _) (new_fits _) h m1 m2
        have HPS := Lib.hid fun A c W (h : IntsAt W W.heap.size .i64 A (rndL (newF (N' : Int)) M' I P)) => Pl.spec_pos A (rndL (newF (N' : Int)) M' I P).length c (rndL (newF (N' : Int)) M' I P) I W rfl (by have := rnd_short (newF (N' : Int)) M' I P; omega) (rnd_fits (new_fits _) _ _ _) h
        rw [c3] at HPS
        generalize rndL (newF (N' : Int)) M' I P = L at *
        generalize rndB (newF (N' : Int)) M' I P = LB at *
        generalize newF (N' : Int) = Z at *
        clear h1 h2 h3 hb e1 e2 c1 c2 c3 c4 c5 hR
        go_enter Try.func39, Try.ntmps39
        go_wp2_with fail
        refine (HQ.out _).mono ?_
        rintro e w1 ⟨rfl, rfl⟩
        go_wp2_with fail
        refine (HI.out _ _ _ _).mono ?_
        rintro e w1 ⟨rfl, rfl⟩
        rw [H2.out]
        go_wp2_with fail
        refine (HI.out _ _ _ _).mono ?_
        rintro e w1 ⟨rfl, rfl⟩
        rw [H3.out]
        go_wp2_with fail
        refine (HNEW.out _).mono ?_
        rintro e w1 ⟨A1, c1, rfl, ho1, hb1⟩
        have HB1 := Lib.hid hb1
        have HS1 := Lib.hid (HRN.out A1 c1 w1 (ints_of ho1))
        clear ho1 hb1
        go_wp2_with fail
        refine HS1.out.mono ?_
        rintro e w2 ⟨A2, c2, rfl, ho2, hb2⟩
        have HB2 := Lib.hid (HB1.out.trans (hb2.mono HB1.out.size))
        have HS2 := Lib.hid (HPS.out A2 c2 w2 (ints_of ho2))
        clear ho2 hb2
        go_wp2_with fail
        refine HS2.out.mono ?_
        rintro e w3 ⟨rfl, rfl⟩
        go_wp2
        go_ret
        exact ⟨rfl, HB2.out⟩
end Go.Proofs.Ytpfbjbakcfmngaa.Ixs
