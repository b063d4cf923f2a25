/- The program's sizes of decks and hands, LargestDeck, HandsOf. -/
import Derived.Test.YtefgcnjbiaileaaCol
import Derived.Test.YtefgcnjbiaileaaHnl
set_option linter.unusedVariables false
set_option maxRecDepth 20000
namespace Go.Proofs.Ytefgcnjbiaileaa.Him
open Go.RowKit Fr _root_.Go.Proofs.Ytefgcnjbiaileaa.Own Pk Ins Pok Prm Pfn Rws Nwp Hnd Hno Hnl Col

theorem is_deck (m : Int) (w : World) : Calls Try.prog 19 #[.int .i64 m] w fun e w' => e = .returned (.bool (decide (1 ≤ m ∧ m ≤ 8))) ∧ w = w' := by
  by_cases h1 : 1 ≤ m
  · by_cases h2 : m ≤ 8
    · rw [decide_eq_true (⟨h1, h2⟩ : 1 ≤ m ∧ m ≤ 8)]
      have k1 := decide_eq_true h1
      have k2 := decide_eq_true h2
      go_enter Try.func19, Try.ntmps19
      go_wp2
      go_ret
      exact ⟨rfl, rfl⟩
    · rw [decide_eq_false (show ¬ (1 ≤ m ∧ m ≤ 8) from fun h => h2 h.2)]
      have k1 := decide_eq_true h1
      have k2 := decide_eq_false h2
      go_enter Try.func19, Try.ntmps19
      go_wp2
      go_ret
      exact ⟨rfl, rfl⟩
  · rw [decide_eq_false (show ¬ (1 ≤ m ∧ m ≤ 8) from fun h => h1 h.1)]
    have k1 := decide_eq_false h1
    go_enter Try.func19, Try.ntmps19
    go_wp2
    go_ret
    exact ⟨rfl, rfl⟩
theorem is_hand (m : Int) (w : World) : Calls Try.prog 18 #[.int .i64 m] w fun e w' => e = .returned (.bool (decide (1 ≤ m ∧ m ≤ 4))) ∧ w = w' := by
  by_cases h1 : 1 ≤ m
  · by_cases h2 : m ≤ 4
    · rw [decide_eq_true (⟨h1, h2⟩ : 1 ≤ m ∧ m ≤ 4)]
      have k1 := decide_eq_true h1
      have k2 := decide_eq_true h2
      go_enter Try.func18, Try.ntmps18
      go_wp2
      go_ret
      exact ⟨rfl, rfl⟩
    · rw [decide_eq_false (show ¬ (1 ≤ m ∧ m ≤ 4) from fun h => h2 h.2)]
      have k1 := decide_eq_true h1
      have k2 := decide_eq_false h2
      go_enter Try.func18, Try.ntmps18
      go_wp2
      go_ret
      exact ⟨rfl, rfl⟩
  · rw [decide_eq_false (show ¬ (1 ≤ m ∧ m ≤ 4) from fun h => h1 h.1)]
    have k1 := decide_eq_false h1
    go_enter Try.func18, Try.ntmps18
    go_wp2
    go_ret
    exact ⟨rfl, rfl⟩
theorem impl_largest (k : Int) (w : World) : Calls Try.prog 6 #[.int .i64 k] w fun e w' => e = .returned (.int .i64 (largestI k)) ∧ w = w' := by
  by_cases hk : 1 ≤ k ∧ k ≤ 4
  · have HK := Lib.hid (decide_eq_true hk)
    obtain ⟨m, rfl⟩ : ∃ m : Nat, k = (m : Int) := ⟨k.toNat, by omega⟩
    have hm : 1 ≤ m ∧ m ≤ 4 := by omega
    have HR := Lib.hid (show largestI (m : Int) = (facF m : Int) + (m : Int) - 1 by unfold largestI; rw [if_pos hk]; rfl)
    have HFS := Lib.hid fac_small
    clear hk
    go_enter Try.func6, Try.ntmps6
    go_wp2_with fail
    refine (is_hand _ _).mono ?_
    rintro e w1 ⟨rfl, rfl⟩
    rw [HK.out]
    go_wp2
    go_loop [3, 4, 9] (fun f _ i => ∃ j : Nat, j ≤ m ∧ i = .int .i64 (j : Int) ∧ f = .int .i64 (facF j : Int)) (fun _ _ i => m - (intOf i).toNat)
    case atStart => exact ⟨0, Nat.zero_le _, rfl, rfl⟩
    case round =>
      obtain ⟨j, hj, rfl, rfl⟩ := hrel
      have h1 := HFS.out j (by omega)
      by_cases hlt : j < m
      · have h2 := HFS.out (j + 1) (by omega)
        have HF := Lib.hid (show (facF j : Int) * ((j : Int) + 1) = (facF (j + 1) : Int) by
          rw [show facF (j + 1) = (j + 1) * facF j from rfl]
          push_cast
          exact Int.mul_comm _ _)
        obtain ⟨q, hq⟩ : ∃ q, q = facF (j + 1) := ⟨_, rfl⟩
        rw [← hq] at HF h2
        have HQ := Lib.hid hq
        clear hq
        generalize facF j = p at *
        have hw : IntKind.i64.wrap ((p : Int) * ((j : Int) + 1)) = (q : Int) := by rw [HF.out, IntWalk.i64_in _ (by omega)]
        go_wp2
        go_round
        case rel => exact ⟨j + 1, by omega, by go_num, by rw [HQ.out]⟩
        case measure => simp [intOf]; omega
      · have hjm : j = m := by omega
        subst hjm
        generalize facF j = p at *
        have hw : IntKind.i64.wrap ((p : Int) + (j : Int)) = (p : Int) + (j : Int) := IntWalk.i64_in _ (by omega)
        go_wp2
        go_ret
        exact ⟨by rw [HR.out]; rfl, rfl⟩
  · have HK := Lib.hid (decide_eq_false hk)
    have HR := Lib.hid (show largestI k = -1 by unfold largestI; rw [if_neg hk])
    clear hk
    go_enter Try.func6, Try.ntmps6
    go_wp2_with fail
    refine (is_hand _ _).mono ?_
    rintro e w1 ⟨rfl, rfl⟩
    rw [HK.out]
    go_wp2
    go_ret
    exact ⟨by rw [HR.out]; rfl, rfl⟩
/-- how a hand may go on -/
def nextH (n : Nat) (p : List Int) : List Int := if p = [] then imarks 0 n else (imarks 0 n).drop (p.getD (p.length - 1) 0 + 1).toNat
def chkH (n k : Nat) : Bool := decide (grow (nextH n) k [] = handsF n k 0) && (grow (nextH n) k []).all fun q => q.all fun x => decide (0 ≤ x ∧ x < (n : Int))
theorem all_chkH : ((List.range 9).all fun n => (List.range 9).all fun k => chkH n k) = true := by kernel_rfl
theorem chk_h {n k : Nat} (hn : n ≤ 8) (hk : k ≤ 8) : grow (nextH n) k [] = handsF n k 0 ∧ ∀ q ∈ grow (nextH n) k [], ∀ x ∈ q, 0 ≤ x ∧ x < (n : Int) := by
  have h := List.all_eq_true.1 (List.all_eq_true.1 all_chkH n (List.mem_range.2 (by omega))) k (List.mem_range.2 (by omega))
  unfold chkH at h
  rw [Bool.and_eq_true] at h
  exact ⟨of_decide_eq_true h.1, fun q hq x hx => of_decide_eq_true (List.all_eq_true.1 (List.all_eq_true.1 h.2 q hq) x hx)⟩
theorem nextH_len (n : Nat) (p : List Int) : (nextH n p).length ≤ n := by
  unfold nextH
  split
  · rw [imarks_length]; omega
  · rw [List.length_drop, imarks_length]; omega
theorem ints_off {w : World} {B b o k : Nat} {zs : List Int} (h : IntsAt w B .i64 (some ⟨b, o, none⟩) zs) : IntsAt w B .i64 (some ⟨b, o + k, none⟩) (zs.drop k) := ints_drop h
theorem ints_nil (w : World) (B : Nat) (A : Option Addr) : IntsAt w B .i64 A [] := fun j hj => absurd hj (Nat.not_lt_zero _)
set_option maxHeartbeats 1000000 in
theorem hands_1 (bp a n cc : Nat) (A : Option Addr) (m c : Nat) (ps : List Int) (w : World) (hn : n ≤ 8) (hn1 : 1 ≤ n) (hncc : n ≤ cc) (hm : ps.length = m) (hm2 : m ≤ 8) (hin : ∀ x ∈ ps, 0 ≤ x ∧ x < (n : Int)) (hss : IntsAt w w.heap.size .i64 A ps)
    (hca : IntsAt w w.heap.size .i64 (some ⟨a, 0, none⟩) (imarks 0 n)) (hbox : w.cell? ⟨bp, 0, none⟩ = some (.slice (some ⟨a, 0, none⟩) n cc)) :
    Calls Try.prog 22 #[.slice A m c, .pointer (some ⟨bp, 0, none⟩)] w fun e w' => (∃ A2 c2, e = .returned (.slice A2 (nextH n ps).length c2) ∧ IntsAt w w.heap.size .i64 A2 (nextH n ps) ∧ ∀ b, A2.map (·.block) = some b → b = a) ∧ ∃ q, w' = w.drewN q := by
  by_cases h0 : m = 0
  · have hp : ps = [] := List.eq_nil_of_length_eq_zero (by omega)
    have HE := Lib.hid (show nextH n ps = imarks 0 n by unfold nextH; rw [if_pos hp])
    have HCA := Lib.hid hca
    have hl0 : ((m : Nat) : Int) == 0 := by rw [beq_iff_eq]; omega
    have hl1 : (((m : Nat) : Int) == 0) = true := hl0
    clear hca hss hin hm hp h0 hl0
    go_enter Try.func22, Try.ntmps22
    go_wp2
    go_ret
    rw [HE.out]
    exact ⟨⟨_, cc, by rw [imarks_length]; rfl, HCA.out, fun b hb => by simpa using hb.symm⟩, 0, rfl⟩
  · obtain ⟨b, o, rfl, hbb, hcx⟩ := hss (m - 1) (by omega)
    have hmem : ps.getD (m - 1) 0 ∈ ps := by
      rw [List.getD_eq_getElem?_getD, List.getElem?_eq_getElem (by omega)]
      exact List.getElem_mem _
    have hx := hin _ hmem
    have HE := Lib.hid (show nextH n ps = (imarks 0 n).drop (ps.getD (m - 1) 0 + 1).toNat by
      unfold nextH
      rw [if_neg (fun e => h0 (by rw [← hm, e]; rfl)), hm])
    clear hmem hin hss
    generalize ps.getD (m - 1) 0 = x at *
    obtain ⟨y, rfl⟩ : ∃ y : Nat, x = (y : Int) := ⟨x.toNat, by omega⟩
    have hy : y < n := by omega
    have HEL := Lib.hid (show (nextH n ps).length = n - (y + 1) by rw [HE.out, List.length_drop, imarks_length]; omega)
    have HIA := Lib.hid (show IntsAt w w.heap.size .i64 (some ⟨a, 0 + (y + 1), none⟩) (nextH n ps) by rw [HE.out]; exact ints_off hca)
    have hl1 : (((m : Nat) : Int) == 0) = false := beq_eq_false_iff_ne.2 (by omega)
    have hwr : IntKind.i64.wrap ((m : Int) - 1) = ((m - 1 : Nat) : Int) := by rw [IntWalk.i64_in _ (by omega)]; omega
    have hm1 : m - 1 < m := by omega
    clear hca hx hm HE
    by_cases hcap : y + 1 = cc
    · have HNE := Lib.hid (show nextH n ps = [] from List.eq_nil_of_length_eq_zero (by rw [HEL.out]; omega))
      go_enter Try.func22, Try.ntmps22
      go_wp2
      go_quiet (fail)
      go_wp2
      go_ret
      exact ⟨⟨some ⟨a, 0, none⟩, 0, by rw [HNE.out]; rfl, by rw [HNE.out]; exact ints_nil _ _ _, fun b hb => by simpa using hb.symm⟩, _, rfl⟩
    · have hcap2 : y + 1 < cc := by omega
      go_enter Try.func22, Try.ntmps22
      go_wp2
      go_quiet (fail)
      go_wp2
      go_ret
      exact ⟨⟨some ⟨a, y + 1, none⟩, cc - (y + 1), by rw [HEL.out]; rfl, by have h := HIA.out; rw [Nat.zero_add] at h; exact h, fun b hb => by simpa using hb.symm⟩, _, rfl⟩
theorem new_il {w : World} {B n : Nat} {e : Ending} {w' : World} (h : IsIL B (newF (n : Int)) w e w') (hn : n ≤ 12) (h1 : 1 ≤ n) : ∃ a c, e = .returned (.slice (some ⟨a, 0, none⟩) n c) ∧ w'.ownsRow B 3 1 (.slice (some ⟨a, 0, none⟩) n c) n ((imarks 0 n).map (Value.int .i64)) ∧ Below B w w' := by
  rw [newF_yes n hn] at h
  obtain ⟨A, c, rfl, ho, hb⟩ := h
  rw [imarks_length] at ho ⊢
  obtain ⟨g, rfl⟩ := own_shape ho h1
  exact ⟨g, c, rfl, ho, hb⟩
theorem hands_nexts (bp a n k cc : Nat) (w : World) (hn : n ≤ 8) (hn1 : 1 ≤ n) (hk : k ≤ n) (hncc : n ≤ cc) (ha : a < w.heap.size) (hbp : bp < w.heap.size) (hca : IntsAt w w.heap.size .i64 (some ⟨a, 0, none⟩) (imarks 0 n)) (hbox : w.cell? ⟨bp, 0, none⟩ = some (.slice (some ⟨a, 0, none⟩) n cc)) :
    Nexts w 22 ⟨bp, 0, none⟩ (nextH n) k := by
  intro W j m c A ps hj hps hm hb hss
  have hl := grow_len (nextH n) j [] ps hps
  rw [List.length_nil] at hl
  refine (hands_1 bp a n cc A m c ps W hn hn1 hncc hm (by omega) ((chk_h hn (by omega)).2 ps hps) hss ((hca.below hb).more hb.size) ((hb.cell (p := ⟨bp, 0, none⟩) hbp).trans hbox)).mono ?_
  rintro e w' ⟨⟨A2, c2, rfl, h2, h3⟩, q, rfl⟩
  exact ⟨A2, c2, rfl, h2, fun b hb2 => Or.inl (by rw [h3 b hb2]; exact ha), below_drewN (Below.refl _ _) q⟩
theorem hands_big {n : Nat} (hn : n ≤ 8) : ∀ k, k ≤ n → (grow (nextH n) k []).length ≤ 1000 := fun k hk => by
  rw [(chk_h hn (by omega)).1]
  exact Nat.le_trans (hands_len _ _ _) (Nat.le_trans (Nat.pow_le_pow_right (by decide) hn) (by decide))
set_option maxHeartbeats 1000000 in
theorem impl_handsof (n k : Int) (w : World) (h1 : -9223372036854775808 ≤ n) (h2 : n ≤ 9223372036854775807) (h3 : -9223372036854775808 ≤ k) (h4 : k ≤ 9223372036854775807) :
    Calls Try.prog 8 #[.int .i64 n, .int .i64 k] w (IsSS w.heap.size (handsI n k) w) := by
  by_cases hn : 1 ≤ n ∧ n ≤ 8
  · have HN := Lib.hid (decide_eq_true hn)
    by_cases hk : 1 ≤ k ∧ k ≤ n
    · obtain ⟨m, rfl⟩ : ∃ m : Nat, n = (m : Int) := ⟨n.toNat, by omega⟩
      obtain ⟨q, rfl⟩ : ∃ q : Nat, k = (q : Int) := ⟨k.toNat, by omega⟩
      have hq : q ≤ m ∧ m ≤ 8 ∧ 1 ≤ m := by omega
      have e : handsI (m : Int) (q : Int) = grow (nextH m) q [] := by unfold handsI; rw [if_pos ⟨hn.1, hn.2, hk.1, hk.2⟩, (chk_h hq.2.1 (by omega)).1]; rfl
      rw [e]
      have k1 : decide ((q : Int) < 1) = false := decide_eq_false (by omega)
      have k2 : decide ((m : Int) < (q : Int)) = false := decide_eq_false (by omega)
      have k3 : decide (m < q) = false := decide_eq_false (by omega)
      have k4 : decide (q < 1) = false := decide_eq_false (by omega)
      have HNC := Lib.hid (impl_new (m : Int) w (by omega) (by omega))
      clear hn hk e
      go_enter Try.func8, Try.ntmps8
      go_wp2_with fail
      refine (is_deck _ _).mono ?_
      rintro e w1 ⟨rfl, rfl⟩
      rw [HN.out]
      go_wp2_with fail
      refine HNC.out.mono ?_
      intro e w1 hil
      obtain ⟨a, c, rfl, ho, hb⟩ := new_il hil (by omega) hq.2.2
      have hmc := Hno.own_cap ho
      obtain ⟨W, hW⟩ : ∃ W, W = w1.alloc (.cells #[.slice (some ⟨a, 0, none⟩) m c] 33) := ⟨_, rfl⟩
      have hs1 : w1.heap.size < W.heap.size := by rw [hW]; simp
      have hbW : Below w1.heap.size w1 W := by rw [hW]; exact box_below' w1 _
      have hcW : W.cell? ⟨w1.heap.size, 0, none⟩ = some (.slice (some ⟨a, 0, none⟩) m c) := by
        rw [hW]
        unfold World.cell?
        rw [heap_alloc_new w1 _]; rfl
      have HB := Lib.hid (hb.trans (hbW.mono hb.size))
      have hla := ho.lt a rfl
      have HC := Lib.hid (collect_any 22 ⟨w1.heap.size, 0, none⟩ (nextH m) q W (by omega) (fun k hk => hands_big hq.2.1 k (by omega)) (fun x => Nat.le_trans (nextH_len m x) (by omega)) (fun args w => rfl)
        (hands_nexts w1.heap.size a m q c W hq.2.1 hq.2.2 hq.1 hmc (by omega) hs1 ((((ints_of ho).below hbW)).more hbW.size) hcW))
      have hsW := hbW.size
      clear hil ho hb hbW hcW
      go_wp2_with fail
      rw [← hW]
      clear hW
      refine HC.out.mono ?_
      rintro e w2 ⟨A, c2, rs, rfl, hrs, hrow, hb2⟩
      have HR := Lib.hid hrow
      have HRS := Lib.hid hrs
      have HB2 := Lib.hid (HB.out.trans (hb2.mono HB.out.size))
      clear hrow hrs hb2
      go_wp2
      go_ret
      exact ⟨A, c2, _, rfl, HRS.out, ss_mono HR.out HB.out.size, HB2.out⟩
    · have e : handsI n k = [] := by unfold handsI; rw [if_neg (fun h => hk h.2.2)]
      rw [e]
      by_cases hk1 : k < 1
      · have k1 : decide (k < 1) = true := decide_eq_true hk1
        clear hn hk e
        go_enter Try.func8, Try.ntmps8
        go_wp2_with fail
        refine (is_deck _ _).mono ?_
        rintro e w1 ⟨rfl, rfl⟩
        rw [HN.out]
        go_wp2
        go_ret
        exact nil_ss _ _ (Nat.le_refl _)
      · have k1 : decide (k < 1) = false := decide_eq_false hk1
        have k2 : decide (n < k) = true := decide_eq_true (by omega)
        clear hn hk e
        go_enter Try.func8, Try.ntmps8
        go_wp2_with fail
        refine (is_deck _ _).mono ?_
        rintro e w1 ⟨rfl, rfl⟩
        rw [HN.out]
        go_wp2
        go_ret
        exact nil_ss _ _ (Nat.le_refl _)
  · have HN := Lib.hid (decide_eq_false hn)
    have e : handsI n k = [] := by unfold handsI; rw [if_neg (fun h => hn ⟨h.1, h.2.1⟩)]
    rw [e]
    clear hn e
    go_enter Try.func8, Try.ntmps8
    go_wp2_with fail
    refine (is_deck _ _).mono ?_
    rintro e w1 ⟨rfl, rfl⟩
    rw [HN.out]
    go_wp2
    go_ret
    exact nil_ss _ _ (Nat.le_refl _)
theorem hands_small (n k : Int) : SmallSS (handsI n k) := by
  unfold handsI
  split
  · rename_i h
    refine ⟨Nat.le_trans (hands_len _ _ _) (Nat.le_trans (Nat.pow_le_pow_right (by decide) (show n.toNat ≤ 8 by omega)) (by decide)), fun l hl => ?_⟩
    rw [hands_each _ _ _ l hl]
    omega
  · exact ⟨by simp, fun l hl => by cases hl⟩
end Go.Proofs.Ytefgcnjbiaileaa.Him
