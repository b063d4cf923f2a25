/- RoundsNeeded and FixedIndex of the model. -/
import Derived.Test.YtpfbjbakcfmngaaRne
import Derived.Test.YtpfbjbakcfmngaaIxs
set_option linter.unusedVariables false
set_option linter.unusedSimpArgs false
set_option maxRecDepth 20000
namespace Go.Proofs.Ytpfbjbakcfmngaa.Rns
open Go.RowKit Fr Nwp _root_.Go.Proofs.Ytpfbjbakcfmngaa.Own Pk Ins Pfn Rws Lb Plk Ixa Ixs Rne

/-- all cards: the first i of them behind k + 1 rounds, the others behind k -/
def mixN (n m pl k i : Nat) : List Int := (List.range n).map fun t => ((if t < i then itN n m pl t (k + 1) else itN n m pl t k : Nat) : Int)
def imgN (n m pl k : Nat) : List Int := (List.range n).map fun t => (itN n m pl t k : Int)
theorem mix_len (n m pl k i : Nat) : (mixN n m pl k i).length = n := by simp [mixN]
theorem img_len (n m pl k : Nat) : (imgN n m pl k).length = n := by simp [imgN]
theorem mix_zero (n m pl k : Nat) : mixN n m pl k 0 = imgN n m pl k := by simp [mixN, imgN]
theorem mix_all (n m pl k : Nat) : mixN n m pl k n = imgN n m pl (k + 1) := by
  unfold mixN imgN
  refine List.map_congr_left fun t ht => ?_
  rw [if_pos (List.mem_range.1 ht)]
theorem img_zero {n : Nat} (h : n ≤ 12) (m pl : Nat) : imgN n m pl 0 = newF (n : Int) := by
  rw [newF_yes n h]
  unfold imgN imarks
  simp [itN]
theorem mix_get {n m pl k i : Nat} (h : i < n) : (mixN n m pl k i).getD i 0 = (itN n m pl i k : Int) := by
  unfold mixN
  simp [List.getD_eq_getElem?_getD, h]
theorem mix_next {n m pl k i : Nat} (h : i < n) : mixN n m pl k (i + 1) = (mixN n m pl k i).set i (itN n m pl i (k + 1) : Int) := by
  refine List.ext_getElem? fun t => ?_
  unfold mixN
  by_cases e : i = t
  · subst e
    simp [h]
  · rw [List.getElem?_set_ne e]
    by_cases ht : t < n
    · have : (t < i + 1) = (t < i) := by simp only [eq_iff_iff]; omega
      simp [ht, this]
    · simp [ht]
set_option maxHeartbeats 2000000 in
theorem spec_images (n m pl k : Nat) (w : World) (hm : m = 2 ∨ m = 3 ∨ m = 4) (h1 : m ≤ n) (h2 : n ≤ 12) (h3 : n % m = 0) (hp : pl < m) (hk : k ≤ 12) :
    Calls Try.prog 72 #[.int .i64 (n : Int), .int .i64 (m : Int), .int .i64 (pl : Int), .int .i64 (k : Int)] w (IsIL w.heap.size (imgN n m pl k) w) := by
  have HNEW := Lib.hid (Nwp.spec_new (n : Int) w (by omega) (by omega))
  rw [← img_zero h2 m pl] at HNEW
  have HIX := Lib.hid fun I (hi : I < n) W => (show Calls Try.prog 39 #[.int .i64 (n : Int), .int .i64 (m : Int), .int .i64 (I : Int), .int .i64 (pl : Int)] W (IdxPost (idxN n m I pl : Int) W) from by
    have h := spec_idx n m I pl W (by omega) (by omega) (by omega) (by omega)
    rw [idx_nat hm h1 h2 h3 hi hp] at h
    exact h)
  have HLT := Lib.hid fun x (hx : x < n) j => it_lt hm h1 h2 h3 hp hx j
  have HL := Lib.hid fun j => img_len n m pl j
  have hn2 : 2 ≤ n := by omega
  clear hm h3
  go_enter Try.func72, Try.ntmps72
  go_wp2_with fail
  refine HNEW.out.mono ?_
  rintro e w1 ⟨A1, c1, rfl, ho1, hb1⟩
  rw [HL.out] at ho1
  rw [HL.out]
  rcases own_full ho1 with ⟨_, h0, _⟩ | ⟨g, ys, rfl, hBg, _⟩
  · omega
  have HO := Lib.hid ho1
  have HB := Lib.hid hb1
  clear ho1 hb1
  go_wp2
  go_loopw [10, 11, 12, 22] (fun a _ _ _ wr => ∃ j : Nat, j ≤ k ∧ a = .int .i64 (j : Int) ∧ Hid (wr.ownsRow w.heap.size 3 1 (.slice (some ⟨g, 0, none⟩) n c1) n (vals (imgN n m pl j))) ∧ Hid (Below w.heap.size w wr)) (fun a _ _ _ _ => k - (intOf a).toNat)
  case atStart => exact ⟨0, Nat.zero_le _, rfl, HO, HB⟩
  case round =>
    obtain ⟨j, hj, rfl, HOJ, HBJ⟩ := hrel
    clear HO HB
    by_cases hlt : j < k
    · have HMZ := Lib.hid (mix_zero n m pl j)
      have HMA := Lib.hid (mix_all n m pl j)
      rw [← HMZ.out] at HOJ
      go_wp2
      go_loopw [11, 12, 22] (fun _ _ b wr => ∃ i : Nat, i ≤ n ∧ b = .int .i64 (i : Int) ∧ Hid (wr.ownsRow w.heap.size 3 1 (.slice (some ⟨g, 0, none⟩) n c1) n (vals (mixN n m pl j i))) ∧ Hid (Below w.heap.size w wr)) (fun _ _ b _ => n - (intOf b).toNat)
      case atStart => exact ⟨0, Nat.zero_le _, rfl, HOJ, HBJ⟩
      case round =>
        obtain ⟨i, hi, rfl, HOI, HBI⟩ := hrel
        clear HOJ HBJ
        by_cases hlt2 : i < n
        · have hsz := HBI.out.size
          have hc : wr.cell? ⟨g, i, none⟩ = some (.int .i64 (itN n m pl i j : Int)) := by
            rw [HOI.out.cellAt i (by omega), vals_get (by rw [mix_len]; exact hlt2), mix_get hlt2]
          have hx := HLT.out i hlt2 j
          have HN := Lib.hid (show mixN n m pl j (i + 1) = (mixN n m pl j i).set i (idxN n m (itN n m pl i j) pl : Int) from mix_next hlt2)
          generalize itN n m pl i j = x at *
          have C := Lib.hid (HIX.out x hx wr)
          generalize idxN n m x pl = y at *
          go_wp2_with fail
          refine C.out.mono ?_
          rintro e w3 ⟨rfl, hb3⟩
          have HO3 := Lib.hid (own_below HOI.out hb3)
          have HB3 := Lib.hid (HBI.out.trans (hb3.mono hsz))
          have hst := HO3.out.stored i (.int .i64 (y : Int))
          have hcs : (w3.cell? ⟨g, i, none⟩).isSome = true := by rw [HO3.out.cellAt i (by omega), vals_get (by rw [mix_len]; exact hlt2)]; rfl
          obtain ⟨u, hu⟩ := Option.isSome_iff_exists.1 hcs
          have hfz : w3.frozen? ⟨g, i, none⟩ = false := HO3.out.frozenAt _
          have HS := Lib.hid hst
          have HV := Lib.hid (show (vals (mixN n m pl j i)).set i (.int .i64 (y : Int)) = vals (mixN n m pl j (i + 1)) by rw [HN.out]; unfold vals; rw [List.map_set])
          clear hb3 hst hcs hc
          go_wp2
          refine ⟨⟨i + 1, by omega, by go_num, by rw [← HV.out]; exact HS.out.1, Lib.hid (HB3.out.grown HS.out.2 HB3.out.size (fun q hq => by injection hq with hq; omega))⟩, ?_⟩
          simp [intOf]; omega
        · have hin : i = n := by omega
          subst hin
          rw [HMA.out] at HOI
          go_wp2
          refine ⟨⟨j + 1, by omega, by go_num, HOI, HBI⟩, ?_⟩
          simp [intOf]; omega
    · have hjk : j = k := by omega
      subst hjk
      go_wp2
      go_ret
      exact ⟨_, c1, by rw [HL.out]; rfl, by rw [HL.out]; exact HOJ.out, HBJ.out⟩
/-- are all elements alike? -/
def sameB (zs : List Int) : Bool := zs.all fun x => x == zs.getD 0 0
def sameTo (zs : List Int) (k : Nat) : Prop := ∀ i, i < k → zs.getD i 0 = zs.getD 0 0
theorem same_yes {zs : List Int} (h : sameTo zs zs.length) : sameB zs = true := by
  refine List.all_eq_true.2 fun x hx => ?_
  obtain ⟨i, hi, e⟩ := List.mem_iff_getElem.1 hx
  have := h i hi
  rw [List.getD_eq_getElem?_getD, List.getElem?_eq_getElem hi, Option.getD_some, e] at this
  simp [this]
theorem same_no {zs : List Int} {i : Nat} (hi : i < zs.length) (h : zs.getD i 0 ≠ zs.getD 0 0) : sameB zs = false := by
  refine Bool.eq_false_iff.2 fun h2 => h ?_
  have := List.all_eq_true.1 h2 zs[i] (List.getElem_mem _)
  rw [beq_iff_eq] at this
  rw [List.getD_eq_getElem?_getD, List.getElem?_eq_getElem hi, Option.getD_some]
  exact this
theorem spec_same (A : Option Addr) (n c : Nat) (zs : List Int) (w : World) (hn : zs.length = n) (h1 : 1 ≤ n) (hn2 : n ≤ 1048576) (hz : Fits zs) (hss : IntsAt w w.heap.size .i64 A zs) :
    Calls Try.prog 71 #[.slice A n c] w fun e w' => e = .returned (.bool (sameB zs)) ∧ w = w' := by
  have HN := Lib.hid hn
  have HS := Lib.hid hss
  obtain ⟨bx, ox, hA, hbx, hc0⟩ := hss 0 (by omega)
  subst hA
  have H0 := Lib.hid (show sameTo zs 0 from fun i hi => by omega)
  obtain ⟨R, hR⟩ : ∃ R, R = sameB zs := ⟨_, rfl⟩
  rw [← hR]
  have HR := Lib.hid hR
  obtain ⟨z0, hz0⟩ : ∃ z0, z0 = zs.getD 0 0 := ⟨_, rfl⟩
  rw [← hz0, Nat.add_zero] at hc0
  have HZ0 := Lib.hid hz0
  clear hss hn hR hz0
  go_enter Try.func71, Try.ntmps71
  go_wp2
  go_loop [4, 7] (fun _ i => ∃ k : Nat, k ≤ n ∧ i = .int .i64 (k : Int) ∧ Hid (sameTo zs k)) (fun _ i => n - (intOf i).toNat)
  case atStart => exact ⟨0, Nat.zero_le _, rfl, H0⟩
  case round =>
    obtain ⟨k, hk, rfl, HT⟩ := hrel
    clear H0
    by_cases hlt : k < n
    · obtain ⟨b2, o2, e2, _, hck⟩ := HS.out k (by rw [HN.out]; exact hlt)
      simp only [Option.some.injEq, Addr.mk.injEq, and_true] at e2
      obtain ⟨rfl, rfl⟩ := e2
      obtain ⟨x, hx⟩ : ∃ x, x = zs.getD k 0 := ⟨_, rfl⟩
      rw [← hx] at hck
      have HX := Lib.hid hx
      clear hx
      have hn0 : (0 : Int) < (n : Int) := by omega
      by_cases he : x = z0
      · have HE := Lib.hid (show sameTo zs (k + 1) from fun i hi => by
          by_cases e : i = k
          · rw [e, ← HX.out, ← HZ0.out]; exact he
          · exact HT.out i (by omega))
        have hb : (x != z0) = false := by simp [he]
        clear he
        go_wp2
        go_round
        case rel => exact ⟨k + 1, by omega, by go_num, HE⟩
        case measure => simp [intOf]; omega
      · have HE := Lib.hid (show R = false by rw [HR.out]; exact same_no (by rw [HN.out]; exact hlt) (by rw [← HX.out, ← HZ0.out]; exact he))
        have hb : (x != z0) = true := by simp [he]
        clear he
        go_wp2
        go_ret
        exact ⟨ret_b HE.out.symm, rfl⟩
    · have hkn : k = n := by omega
      subst hkn
      have HE := Lib.hid (show R = true by rw [HR.out]; exact same_yes (by rw [HN.out]; exact HT.out))
      go_wp2
      go_ret
      exact ⟨ret_b HE.out.symm, rfl⟩
/-- the first number of rounds after which all cards lie alike -/
def rneFrom (n m pl : Nat) : Nat → Nat → Int
  | 0, _ => -1
  | f + 1, k => if sameB (imgN n m pl k) = true then (k : Int) else rneFrom n m pl f (k + 1)
theorem rne_hit {n m pl f k : Nat} (h : sameB (imgN n m pl k) = true) : rneFrom n m pl (f + 1) k = k := by rw [rneFrom, if_pos h]
theorem rne_miss {n m pl f k : Nat} (h : sameB (imgN n m pl k) = false) : rneFrom n m pl (f + 1) k = rneFrom n m pl f (k + 1) := by rw [rneFrom, if_neg (by rw [h]; decide)]
def chkR (n m pl : Nat) : Bool := decide (rneFrom n m pl (n + 1) 0 = (meetFrom n m pl n 0).1) && decide ((if rneFrom n m pl (n + 1) 0 < 0 then -1 else (imgN n m pl (rneFrom n m pl (n + 1) 0).toNat).getD 0 0) = (meetFrom n m pl n 0).2) && decide (-1 ≤ rneFrom n m pl (n + 1) 0 ∧ rneFrom n m pl (n + 1) 0 ≤ n)
set_option maxHeartbeats 4000000 in
theorem chkR_all : ([2, 3, 4].all fun m => (List.range 13).all fun n => if m ≤ n ∧ n % m = 0 then (List.range m).all (fun pl => chkR n m pl) else true) = true := by kernel_rfl
theorem chkR_at {n m pl : Nat} (hm : m = 2 ∨ m = 3 ∨ m = 4) (h1 : m ≤ n) (h2 : n ≤ 12) (h3 : n % m = 0) (hp : pl < m) :
    rneFrom n m pl (n + 1) 0 = (meetFrom n m pl n 0).1 ∧ (if rneFrom n m pl (n + 1) 0 < 0 then -1 else (imgN n m pl (rneFrom n m pl (n + 1) 0).toNat).getD 0 0) = (meetFrom n m pl n 0).2 ∧ -1 ≤ rneFrom n m pl (n + 1) 0 ∧ rneFrom n m pl (n + 1) 0 ≤ n := by
  have h := List.all_eq_true.1 (List.all_eq_true.1 chkR_all m (by rcases hm with rfl | rfl | rfl <;> decide)) n (List.mem_range.2 (by omega))
  rw [if_pos ⟨h1, h3⟩] at h
  have h := List.all_eq_true.1 h pl (List.mem_range.2 hp)
  unfold chkR at h
  simp only [Bool.and_eq_true, decide_eq_true_eq] at h
  exact ⟨h.1.1, h.1.2, h.2⟩
theorem img_fits {n m pl k : Nat} (hm : m = 2 ∨ m = 3 ∨ m = 4) (h1 : m ≤ n) (h2 : n ≤ 12) (h3 : n % m = 0) (hp : pl < m) : Fits (imgN n m pl k) := by
  intro i hi
  rw [img_len] at hi
  have e : (imgN n m pl k).getD i 0 = (itN n m pl i k : Int) := by unfold imgN; simp [List.getD_eq_getElem?_getD, hi]
  have := it_lt hm h1 h2 h3 hp hi k
  rw [e]
  omega
set_option maxHeartbeats 1000000 in
theorem spec_rounds (n m pl : Int) (w : World) (n1 : -9223372036854775808 ≤ n) (n2 : n ≤ 9223372036854775807) (m1 : -9223372036854775808 ≤ m) (m2 : m ≤ 9223372036854775807) :
    Calls Try.prog 40 #[.int .i64 n, .int .i64 m, .int .i64 pl] w (IdxPost (meetA n m pl).1 w) := by
  have HI := Lib.hid fun (a b c : Int) W => in_any a b c W
  have HQ := Lib.hid fun W => spec_ok n m W n1 n2 m1 m2
  cases h1 : okB n m with
  | false =>
    rw [meet_no (by unfold rneB; rw [h1]; rfl)]
    rw [h1] at HQ
    clear h1
    go_enter Try.func40, Try.ntmps40
    go_wp2_with fail
    refine (HQ.out _).mono ?_
    rintro e w1 ⟨rfl, rfl⟩
    go_wp2
    go_ret
    exact ⟨rfl, Below.refl _ _⟩
  | true =>
    rw [h1] at HQ
    obtain ⟨N, M, rfl, rfl, hm, q1, q2, q3⟩ := ok_parts h1
    have hM4 : M ≤ 4 := by omega
    have hM2 : 2 ≤ M := by omega
    cases h2 : inB pl M with
    | false =>
      rw [meet_no (by unfold rneB; rw [h1, h2]; rfl)]
      have H2 := Lib.hid (show decide (0 ≤ pl ∧ pl ≤ (M : Int) - 1) = false from decide_eq_false (by have := of_decide_eq_false h2; omega))
      clear h1 h2
      go_enter Try.func40, Try.ntmps40
      go_wp2_with fail
      refine (HQ.out _).mono ?_
      rintro e w1 ⟨rfl, rfl⟩
      go_wp2_with fail
      refine (HI.out _ _ _ _).mono ?_
      rintro e w1 ⟨rfl, rfl⟩
      rw [H2.out]
      go_wp2
      go_ret
      exact ⟨rfl, Below.refl _ _⟩
    | true =>
      have hb : rneB N M pl = true := by unfold rneB; rw [h1, h2]; rfl
      rw [meet_yes hb]
      have H2 := Lib.hid (show decide (0 ≤ pl ∧ pl ≤ (M : Int) - 1) = true from decide_eq_true (by have := of_decide_eq_true h2; omega))
      obtain ⟨P, rfl⟩ : ∃ P : Nat, pl = P := ⟨pl.toNat, by have := of_decide_eq_true h2; omega⟩
      have hp : P < M := by have := of_decide_eq_true h2; omega
      obtain ⟨c1, _, _, _⟩ := chkR_at hm q1 q2 q3 hp
      obtain ⟨R, hR⟩ : ∃ R, R = (meetFrom (N : Int).toNat (M : Int).toNat (P : Int).toNat (N : Int).toNat 0).1 := ⟨_, rfl⟩
      rw [← hR]
      have HR0 := Lib.hid (show R = rneFrom N M P (N + 1 - 0) 0 by rw [hR, Nat.sub_zero, c1]; rfl)
      have HIM := Lib.hid fun k (hk : k ≤ 12) W => spec_images N M P k W hm q1 q2 q3 hp hk
      have HSM := Lib.hid fun A c k W (h : IntsAt W W.heap.size .i64 A (imgN N M P k)) => spec_same A (imgN N M P k).length c (imgN N M P k) W rfl (by rw [img_len]; omega) (by rw [img_len]; omega) (img_fits hm q1 q2 q3 hp) h
      have HB0 := Lib.hid (Below.refl w.heap.size w)
      clear h1 h2 hb hR hm q3 c1
      go_enter Try.func40, Try.ntmps40
      go_wp2_with fail
      refine (HQ.out _).mono ?_
      rintro e w1 ⟨rfl, rfl⟩
      go_wp2_with fail
      refine (HI.out _ _ _ _).mono ?_
      rintro e w1 ⟨rfl, rfl⟩
      rw [H2.out]
      go_wp2
      go_loopw [7] (fun i wr => ∃ k : Nat, k ≤ N + 1 ∧ i = .int .i64 (k : Int) ∧ Hid (R = rneFrom N M P (N + 1 - k) k) ∧ Hid (Below w.heap.size w wr)) (fun i _ => N + 1 - (intOf i).toNat)
      case atStart => exact ⟨0, Nat.zero_le _, rfl, HR0, HB0⟩
      case round =>
        obtain ⟨k, hk, rfl, HRK, HB⟩ := hrel
        clear HR0 HB0
        by_cases hlt : k < N + 1
        · have C := Lib.hid (HIM.out k (by omega) wr)
          have C2 := Lib.hid fun A c W h => HSM.out A c k W h
          have HK := Lib.hid fun (b : Bool) (hb : b = sameB (imgN N M P k)) => (show R = if b = true then (k : Int) else rneFrom N M P (N + 1 - (k + 1)) (k + 1) from by
            rw [HRK.out, show N + 1 - k = (N + 1 - (k + 1)) + 1 by omega, hb]
            cases h : sameB (imgN N M P k) with
            | true => rw [rne_hit h]; rfl
            | false => rw [rne_miss h]; rfl)
          generalize imgN N M P k = L at *
          generalize hsb : sameB L = sb at *
          have HKB := Lib.hid (HK.out sb rfl)
          clear HK
          go_wp2_with fail
          refine C.out.mono ?_
          rintro e w2 ⟨A2, c2, rfl, ho2, hb2⟩
          have HB2 := Lib.hid (HB.out.trans (hb2.mono HB.out.size))
          have C3 := Lib.hid (C2.out A2 c2 w2 (ints_of ho2))
          clear ho2 hb2
          go_wp2_with fail
          refine C3.out.mono ?_
          rintro e w3 ⟨rfl, rfl⟩
          cases sb with
          | true =>
            have HE := Lib.hid (show R = (k : Int) from HKB.out)
            go_wp2
            go_ret
            exact ⟨by rw [HE.out]; rfl, HB2.out⟩
          | false =>
            have HE := Lib.hid (show R = rneFrom N M P (N + 1 - (k + 1)) (k + 1) from HKB.out)
            go_wp2
            refine ⟨⟨k + 1, by omega, by go_num, HE, HB2⟩, ?_⟩
            simp [intOf]; omega
        · have hkn : k = N + 1 := by omega
          subst hkn
          have HE := Lib.hid (show R = -1 by rw [HRK.out, Nat.sub_self]; rfl)
          go_wp2
          go_ret
          exact ⟨by rw [HE.out]; rfl, HB.out⟩
set_option maxHeartbeats 1000000 in
theorem spec_fixed (n m pl : Int) (w : World) (n1 : -9223372036854775808 ≤ n) (n2 : n ≤ 9223372036854775807) (m1 : -9223372036854775808 ≤ m) (m2 : m ≤ 9223372036854775807) :
    Calls Try.prog 41 #[.int .i64 n, .int .i64 m, .int .i64 pl] w (IdxPost (meetA n m pl).2 w) := by
  have HR := Lib.hid (spec_rounds n m pl w n1 n2 m1 m2)
  cases hb : rneB n m pl with
  | false =>
    rw [meet_no hb] at HR ⊢
    clear hb
    go_enter Try.func41, Try.ntmps41
    go_wp2_with fail
    refine HR.out.mono ?_
    rintro e w1 ⟨rfl, hb1⟩
    go_wp2
    go_ret
    exact ⟨rfl, hb1⟩
  | true =>
    rw [meet_yes hb] at HR ⊢
    obtain ⟨N, M, P, rfl, rfl, rfl, hm, q1, q2, q3, hp⟩ := rne_parts hb
    obtain ⟨c1, c2, c3, c4⟩ := chkR_at hm q1 q2 q3 hp
    rw [show (N : Int).toNat = N from rfl, show (M : Int).toNat = M from rfl, show (P : Int).toNat = P from rfl] at HR ⊢
    rw [← c1] at HR
    rw [← c2]
    generalize rneFrom N M P (N + 1) 0 = r at *
    have hN2 : 2 ≤ N := by omega
    have HIM := Lib.hid fun k (hk : k ≤ 12) W => spec_images N M P k W hm q1 q2 q3 hp hk
    by_cases h0 : r < 0
    · rw [if_pos h0]
      have hr : r = -1 := by omega
      subst hr
      clear hb hm q3 c1 c2 c3 c4 h0
      go_enter Try.func41, Try.ntmps41
      go_wp2_with fail
      refine HR.out.mono ?_
      rintro e w1 ⟨rfl, hb1⟩
      go_wp2
      go_ret
      exact ⟨rfl, hb1⟩
    · rw [if_neg h0]
      obtain ⟨k, rfl⟩ : ∃ k : Nat, r = k := ⟨r.toNat, by omega⟩
      rw [show (k : Int).toNat = k from rfl]
      have C := Lib.hid fun W => HIM.out k (by omega) W
      have hll := img_len N M P k
      generalize imgN N M P k = L at *
      have hd : decide ((k : Int) < 0) = false := decide_eq_false h0
      have HLL := Lib.hid hll
      clear hb hm q3 c1 c2 h0 hll
      go_enter Try.func41, Try.ntmps41
      go_wp2_with fail
      refine HR.out.mono ?_
      rintro e w1 ⟨rfl, hb1⟩
      go_wp2_with fail
      refine (C.out w1).mono ?_
      rintro e w2 ⟨A2, c5, rfl, ho2, hb2⟩
      rw [HLL.out] at ho2
      rw [HLL.out]
      obtain ⟨g, _, _, _⟩ : ∃ g : Nat, A2 = some ⟨g, 0, none⟩ ∧ True ∧ True := by
        rcases own_full ho2 with ⟨_, h0, _⟩ | ⟨g, _, h, _⟩
        · omega
        · exact ⟨g, h, trivial, trivial⟩
      subst A2
      have hc : w2.cell? ⟨g, 0, none⟩ = some (.int .i64 (L.getD 0 0)) := by
        rw [ho2.cellAt 0 (by omega)]
        exact vals_get (zs := L) (by rw [HLL.out]; omega)
      have HB2 := Lib.hid (hb1.trans (hb2.mono hb1.size))
      generalize L.getD 0 0 = z at *
      clear ho2 hb1 hb2
      have hn0 : (0 : Int) < (N : Int) := by omega
      go_wp2
      go_ret
      exact ⟨rfl, HB2.out⟩
end Go.Proofs.Ytpfbjbakcfmngaa.Rns
