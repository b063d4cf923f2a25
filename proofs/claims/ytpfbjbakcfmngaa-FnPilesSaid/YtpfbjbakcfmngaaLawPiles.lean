/- The law of the piles holds: dealing into piles and putting the chosen one at a place brings the card where the formula says. No condition. -/
import Derived.Deep.RegionHeld3
import Derived.Deep.RegionWith
import Derived.Deep.Cut
import Derived.BigQuiet
import Derived.Test.YtpfbjbakcfmngaaPlx
import Derived.Test.YtpfbjbakcfmngaaPlm
import Derived.Test.YtpfbjbakcfmngaaRne
import Derived.Test.YtpfbjbakcfmngaaFrame
set_option linter.unusedVariables false
namespace Go.Proofs.Ytpfbjbakcfmngaa.LawPiles
open Go.ChangeShapes Go.WideShapes Go.ChangeAt Go.RowKit Fr _root_.Go.Proofs.Ytpfbjbakcfmngaa.Own

theorem more_bytes {w : World} {B B' : Nat} {A : Option Addr} {n : Nat} (h : Cur.BytesAt w B A n) (hB : B ≤ B') : Cur.BytesAt w B' A n := by
  intro k hk
  obtain ⟨b, o, x, hA, hlt, r⟩ := h k hk
  exact ⟨b, o, x, hA, by omega, r⟩
theorem fits_perm {zs : List Int} (h : Prm.permB zs = true) : Ins.Fits zs := by
  intro i hi
  have h1 := (Prm.permB_yes h).1
  have h2 := ((Prm.permB_yes h).2 i hi).1
  omega
theorem shape1 {w : World} {B : Nat} {e : TypeId} {A : Option Addr} {n c : Nat} {xs : List Value} (h : w.ownsRow B e 1 (.slice A n c) n xs) (hn : 1 ≤ n) : ∃ g, A = some ⟨g, 0, none⟩ := by
  rcases Lb.own_full h with ⟨_, h0, _⟩ | ⟨g, _, h1, _⟩
  · omega
  · exact ⟨g, h1⟩
theorem mod_nat {x : Int} {m : Nat} (h0 : 0 ≤ x) (hm : 0 < m) : ∃ j : Nat, x % (m : Int) = (j : Int) ∧ x.tmod (m : Int) = (j : Int) ∧ j < m := by
  refine ⟨(x % (m : Int)).toNat, ?_, ?_, ?_⟩
  · have := Int.emod_nonneg x (show (m : Int) ≠ 0 by omega)
    omega
  · rw [Int.tmod_eq_emod_of_nonneg h0]
    have := Int.emod_nonneg x (show (m : Int) ≠ 0 by omega)
    omega
  · have h1 := Int.emod_nonneg x (show (m : Int) ≠ 0 by omega)
    have h2 := Int.emod_lt_of_pos x (show (0 : Int) < (m : Int) by omega)
    omega
theorem same_self (l : List Int) : Sam.sameB l l = true := decide_eq_true rfl
theorem div_nat (a b : Nat) : (a : Int) / (b : Int) = ((a / b : Nat) : Int) ∧ (a : Int).tdiv (b : Int) = ((a / b : Nat) : Int) := ⟨rfl, rfl⟩
set_option maxHeartbeats 4000000 in
set_option maxRecDepth 20000 in
theorem walk (A : Option Addr) (n c : Nat) (zs : List Int) (w : World) (hn : zs.length = n) (hm : n ≤ maxLen) (hs : ∀ z ∈ zs, (Lit.int .u8 z).wf = true) (ha : Fr.IntsAt w w.heap.size .u8 A zs) :
    Calls Try.prog 3 #[.slice A n c] w fun e w' => e = .returned (.bool true) ∧ Below w.heap.size w w' := by
  have hm0 : n ≤ 9223372036854775807 := by unfold maxLen at hm; omega
  have hby := Cur.bytes_of hn hs ha
  clear hn hs ha zs hm
  by_cases h1 : n ≤ 1048576
  · have h1' : decide ((1048576 : Int) < (n : Int)) = false := decide_eq_false (by omega)
    have HBY := Lib.hid hby
    clear hby
    go_enter Try.func3, Try.ntmps3
    go_wp2_with fail
    refine (Plm.make_piles A n c w h1 HBY.out).mono ?_
    rintro e w1 ⟨N, M, rfl, hM, q1, q2, q3, hb1⟩
    have HM := Lib.hid hM
    have HQ3 := Lib.hid q3
    have HB1 := Lib.hid hb1
    have s1 := hb1.size
    have hM2 : 2 ≤ M := by omega
    have hM4 : M ≤ 4 := by omega
    clear hM q3 hb1
    go_wp2_with fail
    refine (Mkp.make_perm A n c 20 N w1 h1 (by omega) (by omega) q2 (more_bytes (HBY.out.below HB1.out) s1)).mono ?_
    rintro e w2 ⟨Ap, cp, ps, rfl, hl, hp, ho, hb2⟩
    obtain ⟨gp, rfl⟩ := shape1 ho (by omega)
    have HL := Lib.hid hl
    have HP := Lib.hid hp
    have HB2 := Lib.hid (HB1.out.trans (hb2.mono s1))
    have s2 := HB2.out.size
    have r_p := Ins.Row.mk (own_mono ho s1)
    clear hl hp ho hb2 HB1
    go_wp2_with fail
    refine (Cur.num_any A n c 40 w2 h1 (by omega) (more_bytes (HBY.out.below HB2.out) s2)).mono ?_
    rintro e w3 ⟨x, rfl, hx0, hx1, hb3⟩
    have HB3 := Lib.hid (HB2.out.trans (hb3.mono s2))
    replace r_p := r_p.below hb3
    have s3 := HB3.out.size
    obtain ⟨P, e1, e2, hP⟩ := mod_nat (m := M) hx0 (by omega)
    clear hb3 HB2
    go_wp2_with fail
    clear e1 e2
    refine (Cur.num_any A n c 42 w3 h1 (by omega) (more_bytes (HBY.out.below HB3.out) s3)).mono ?_
    rintro e w4 ⟨y, rfl, hy0, hy1, hb4⟩
    have HB4 := Lib.hid (HB3.out.trans (hb4.mono s3))
    replace r_p := r_p.below hb4
    have s4 := HB4.out.size
    obtain ⟨a, e3, e4, ha⟩ := mod_nat (m := N) hy0 (by omega)
    obtain ⟨d1, d2⟩ := div_nat N M
    clear hb4 HB3 hx0 hx1
    obtain ⟨R, f1, f2, f3, f4, f5, f6, f7, f8, f9⟩ := Plx.piles_law (pl := P) HP.out HL.out HM.out q1 q2 HQ3.out ha hP
    have hidx := (Ixa.chk_at HM.out q1 q2 HQ3.out ha hP).2.2.2.2
    have HF := Lib.hid (fits_perm HP.out)
    have hS1 : 1 ≤ N / M := Nat.div_pos q1 (by omega)
    have hS2 : N / M ≤ N := Nat.div_le_self N M
    have hQ2 : a / M ≤ a := Nat.div_le_self a M
    have hQS : a / M ≤ N / M - 1 := by
      have h := HQ3.out
      rcases HM.out with rfl | rfl | rfl <;> omega
    have hSS := Lib.hid (show Plk.pilesI ps (M : Int) = Plk.pilesI ps (M : Int) from rfl)
    obtain ⟨k, hk⟩ : ∃ k, k = a % M := ⟨_, rfl⟩
    have hkm : k < M := by rw [hk]; exact Nat.mod_lt _ (by omega)
    have d3 : (a : Int) % (M : Int) = (k : Int) := by rw [hk]; rfl
    have d4 : (a : Int).tmod (M : Int) = (k : Int) := by rw [hk]; rfl
    rw [← hk] at f7 f8
    have HIX := Lib.hid fun W => (show Calls Try.prog 18 #[.int .i64 (N : Int), .int .i64 (M : Int), .int .i64 (a : Int), .int .i64 (P : Int)] W (Ixa.IdxPost (Ixa.idxN N M a P : Int) W) from by
      have h := Ixa.impl_idx N M a P W (by omega) (by omega) (by omega) (by omega)
      rw [Rne.idx_nat HM.out q1 q2 HQ3.out ha hP] at h
      exact h)
    have htoE : Ixa.idxN N M a P = P * (N / M) + (N / M - 1 - a / M) := rfl
    have d5 : (a : Int) / (M : Int) = ((a / M : Nat) : Int) := rfl
    have d6 : (a : Int).tdiv (M : Int) = ((a / M : Nat) : Int) := rfl
    generalize hzss : Plk.pilesI ps (M : Int) = zss at *
    obtain ⟨to, hto⟩ : ∃ to, to = Ixa.idxN N M a P := ⟨_, rfl⟩
    rw [← hto] at HIX hidx htoE f5
    generalize N / M = S at *
    generalize a / M = Q at *
    have hPS0 : P * S ≤ 4 * 12 := Nat.mul_le_mul (by omega) (by omega)
    obtain ⟨PS, hPS⟩ : ∃ PS, PS = P * S := ⟨_, rfl⟩
    have hmul : (P : Int) * (S : Int) = (PS : Int) := by rw [hPS]; simp
    rw [← hPS] at htoE hPS0
    obtain ⟨ca, hca⟩ : ∃ ca, ca = ps.getD a 0 := ⟨_, rfl⟩
    rw [← hca] at f2 f3 f5
    have HF2 := Lib.hid f2
    have HF3 := Lib.hid f3
    have HF4 := Lib.hid f4
    have HF5 := Lib.hid f5
    have HF6 := Lib.hid f6
    have HF7 := Lib.hid f7
    have HF8 := Lib.hid f8
    have HF9 := Lib.hid f9
    have HF1 := Lib.hid f1
    have HZS := Lib.hid hzss
    have HCA := Lib.hid hca
    have hcp : ∀ W, Below w4.heap.size w4 W → W.cell? ⟨gp, a, none⟩ = some (.int .i64 ca) := fun W hb => by
      have h := (r_p.below hb).own.cellAt a (by omega)
      rw [h, hca]
      exact Pfn.vals_get (zs := ps) (by rw [HL.out]; exact ha)
    have HCP := Lib.hid hcp
    have HTOE := Lib.hid htoE
    clear htoE
    clear f1 f2 f3 f4 f5 f6 f7 f8 f9 hzss hca hcp hto hPS hk hSS
    go_wp2_with fail
    clear e3 e4 d1 d2 hy0 hy1
    refine (Dls.impl_pilesof _ N cp ps (M : Int) w4 HL.out (by omega) HF.out r_p.at_ (by omega) (by omega)).mono ?_
    rintro e w5 ⟨Al, cl, rs, rfl, hzl, hrl, hb5⟩
    rw [HZS.out] at hzl hrl ⊢
    rw [HF1.out] at hrl ⊢
    have HRL := Lib.hid hrl
    have HZL := Lib.hid hzl
    have HB45 := Lib.hid hb5
    have s5 := hb5.size
    have hc5 := HCP.out w5 hb5
    replace r_p := r_p.below hb5
    clear hzl hrl hb5
    have haN : (a : Int) < (N : Int) := by omega
    go_wp2_with fail
    refine (Prd.impl_round _ N cp ps (M : Int) ca (P : Int) w5 HL.out (by omega) HF.out r_p.at_ (by omega) (by omega)).mono ?_
    rintro e w6 ⟨Aq, cq, rfl, hoq, hb6⟩
    rw [HF2.out] at hoq ⊢
    rw [HF3.out]
    rw [HF4.out] at hoq ⊢
    obtain ⟨gq, rfl⟩ := shape1 hoq (by omega)
    replace r_p := r_p.below hb6
    have r_q := Ins.Row.mk hoq
    have HRL6 := Lib.hid (HRL.out.below hb6)
    have HB46 := Lib.hid (HB45.out.trans (hb6.mono s5))
    clear hoq hb6 HRL hc5
    go_wp2_with fail
    refine (HIX.out _).mono ?_
    rintro e w7 ⟨rfl, hb7⟩
    have HB47 := Lib.hid (HB46.out.trans (hb7.mono HB46.out.size))
    replace r_p := r_p.below hb7
    replace r_q := r_q.below hb7
    have HRL7 := Lib.hid (HRL6.out.below hb7)
    clear hb7 HRL6
    have hcq : w7.cell? ⟨gq, to, none⟩ = some (.int .i64 ca) := by
      rw [r_q.own.cellAt to (by omega), ← HF5.out]
      exact Pfn.vals_get (zs := R) (by rw [HF4.out]; exact hidx)
    have hcp7 := HCP.out w7 HB47.out
    have t1 : ((M : Int) != (M : Int)) = false := by simp
    have t2 : ((N : Int) != (N : Int)) = false := by simp
    have t3 : ((to : Int) != (PS : Int) + (S : Int) - 1 - (Q : Int)) = false := by
      have : (to : Int) = (PS : Int) + (S : Int) - 1 - (Q : Int) := by have := HTOE.out; omega
      rw [this]; simp
    have t4 : (ca != ca) = false := by simp
    have hrel : ∀ W, Below w7.heap.size w7 W → W.cell? ⟨gq, to, none⟩ = some (.int .i64 ca) ∧ W.cell? ⟨gp, a, none⟩ = some (.int .i64 ca) := fun W hb => by
      refine ⟨?_, HCP.out W (HB47.out.trans (hb.mono HB47.out.size))⟩
      rw [(r_q.below hb).own.cellAt to (by omega), ← HF5.out]
      exact Pfn.vals_get (zs := R) (by rw [HF4.out]; exact hidx)
    have HREL := Lib.hid hrel
    have toN : (to : Int) < (N : Int) := by omega
    clear hrel
    have hM0 : ¬ M = 0 := by omega
    have w1' : IntKind.i64.wrap (PS : Int) = (PS : Int) := IntWalk.i64_in _ (by omega)
    have w5' : IntKind.i64.wrap (Q : Int) = (Q : Int) := IntWalk.i64_in _ (by omega)
    have w2' : IntKind.i64.wrap ((PS : Int) + (S : Int)) = (PS : Int) + (S : Int) := IntWalk.i64_in _ (by omega)
    have w3' : IntKind.i64.wrap ((PS : Int) + (S : Int) - 1) = (PS : Int) + (S : Int) - 1 := IntWalk.i64_in _ (by omega)
    have w4' : IntKind.i64.wrap ((PS : Int) + (S : Int) - 1 - (Q : Int)) = (PS : Int) + (S : Int) - 1 - (Q : Int) := IntWalk.i64_in _ (by omega)
    have hM0' : ¬ (M : Int) = 0 := by omega
    go_upto_region 11 with fail
    go_cut [100] from 56 (fun s wx => s = .bool false ∧ Below w7.heap.size w7 wx)
    case first =>
      have HBW := Lib.hid (show Below w7.heap.size w7 w7.drew from (Below.refl _ w7).drew)
      go_region_held3 (fun w' => w'.cell? ⟨gq, to, none⟩ = some (.int .i64 ca) ∧ w'.cell? ⟨gp, a, none⟩ = some (.int .i64 ca)) ((first | exact HREL.out _ HBW.out | exact hSS9)) ((first | (go_at_call 19; refine (Arr.impl_arr _ N cp ps _ N cq R _ HL.out (by omega) HF.out (r_p.below HBW.out).at_ HF4.out (by omega) HF9.out (r_q.below HBW.out).at_).mono ?_; rintro e wa ⟨rfl, hba⟩; rw [HF6.out]; have HBA := Lib.hid (HBW.out.trans (hba.mono HBW.out.size)); have hSS9 := HREL.out _ HBA.out; clear hba)))
      all_goals (go_wp2_with fail; go_meet; exact ⟨rfl, HBA.out⟩)
    case rest =>
    obtain ⟨rfl, hbc⟩ := hcut
    have HRL8 := Lib.hid (HRL7.out.below hbc)
    have HB48 := Lib.hid (HB47.out.trans (hbc.mono HB47.out.size))
    replace r_q := r_q.below hbc
    clear hbc HRL7 hcq hcp7 t1 t2 t3 t4 r_p
    have HSM := Lib.hid (show ∀ l ∈ zss, l.length ≤ 1048576 from fun l hl => by
      have h := Dls.pilesI_small ps (M : Int)
      rw [HZS.out] at h
      have := h.2 l hl
      omega)
    have HFS := Lib.hid (show ∀ l ∈ zss, Ins.Fits l from by
      have h := Prd.piles_fits HF.out (M : Int)
      rw [HZS.out] at h
      exact h)
    go_wp2_with fail
    refine (Gas.impl_gather _ _ Al M cl (k : Int) (P : Int) rs zss wc HZL.out HRL8.out (by omega) HSM.out HFS.out).mono ?_
    rintro e w9 ⟨Ag, cg, rfl, hog, hb9⟩
    rw [HF7.out] at hog ⊢
    rw [HF8.out]
    rw [HF4.out] at hog ⊢
    have r_g := Ins.Row.mk hog
    replace r_q := r_q.below hb9
    have HB9 := Lib.hid (HB48.out.trans (hb9.mono HB48.out.size))
    clear hog hb9 HRL8 HB48
    go_wp2_with fail
    refine (Mkp.same_any Ag _ N N cg cq R R w9 HF4.out HF4.out (by omega) (by omega) r_g.at_ r_q.at_).mono ?_
    rintro e w' ⟨rfl, rfl⟩
    rw [same_self]
    go_wp2_with fail
    refine (Plk.impl_ok (N : Int) (M : Int) _ (by omega) (by omega) (by omega) (by omega)).mono ?_
    rintro e w' ⟨rfl, rfl⟩
    rw [Plk.ok_yes HM.out q1 q2 HQ3.out]
    have HEND := Lib.hid (HB4.out.trans (HB9.out.mono HB4.out.size))
    go_wp2
    go_ret
    exact ⟨rfl, HEND.out⟩
  · have h1' : (1048576 : Int) < (n : Int) := by omega
    go_enter Try.func3, Try.ntmps3
    go_wp2
    go_ret
    exact ⟨rfl, Below.refl _ w⟩

set_option maxRecDepth 100000 in
theorem lifted (os : Os) (started : os.Started) (H : Type) (enc : TypeId × Value → H) :
    ReturnsInHanded {} Try.checked os 3 .any (Rows.fnPilesSpec.pre6 enc Try.prog Try.f3 Rows.fnPilesRow.domain false) (Rows.fnPilesSpec.post enc Try.prog Try.f3 false true false false) := by
  refine returnsInHanded_of_change (C := Try.checked) Fr.own started (by kernel_rfl) Try.func3
    (ChangeSpec.witness6 (enc := enc) (C := Try.checked) false ⟨#[], #[.slice none 0 0], []⟩ 8 (by kernel_rfl) (by kernel_rfl) (by kernel_rfl) (by kernel_rfl)) ?_
  intro W base args ds gs before hval0 hW hcnd _
  have hval : ∀ (j : Nat) t v, Try.f3.params[j]? = some t → args[j]? = some v → Value.okWide Try.prog W .any base t v := hval0
  have hW' := hW
  obtain ⟨p, q, hA0, hV, rfl, hfz, hnd⟩ := hW
  have hA : DataW.TrodAll enc Try.prog W 0 (fun _ => true) true Try.f3.params.toList args.toList ds p := hA0
  have hAk := hA
  rw [Try.params3] at hA hval
  obtain ⟨v0, d0, rfl, rfl, h0⟩ := trodAll_one hA
  obtain ⟨rfl, rfl⟩ := trodVars_none hV
  have hlt : ∀ x ∈ p, x.block < W.heap.size := fun x hx => by simpa using hW'.lt x (List.mem_append_left _ hx)
  obtain ⟨A0, n0, c0, l0, rfl, hn0, hm0, hs0, ha0⟩ := Fr.view_nums Try.underlying22 Try.underlying5 (by kernel_rfl) (hval 0 22 v0 rfl rfl) h0 hlt
  clear hA0 hval0
  refine (walk A0 n0 c0 l0 W hn0 hm0 hs0 ha0).mono fun e W' ⟨he, hb⟩ => ?_
  subst he
  exact ⟨_, rfl, _, _, _, [], p, [], hW', trodAll_mk1 (shut_bool Try.underlying4 _), Fr.below_all Fr.laidOut hb _ _ _ _ (Fr.readB_all (by kernel_rfl)) hAk hlt, rfl, hb.frame _, fun h => by cases h⟩

theorem proved : Rows.FnPilesSaid :=
  OpenClaim.holds_of_wide 3 Try.f3 rfl rfl rfl rfl rfl rfl rfl ⟨rfl, rfl, rfl, rfl, rfl⟩ rfl rfl rfl rfl rfl (by kernel_rfl) Try.func3 (by kernel_rfl)
    (of_decide_eq_true (by kernel_rfl)) (by unfold Func.isWrapper; first | (rw [if_pos (by decide +kernel)]; kernel_rfl) | (rw [if_neg (by decide +kernel)]; exact ⟨rfl, rfl⟩))
    (fun os started H enc _ => lifted os started H enc)

end Go.Proofs.Ytpfbjbakcfmngaa.LawPiles
