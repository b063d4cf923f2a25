/- slices.EqualFunc over lists of lists with SamePacket; plain facts on codes. -/
import Derived.Test.YtefgcnjbiaileaaHms
import Derived.Test.YtefgcnjbiaileaaHcp
import Derived.Test.YtefgcnjbiaileaaSip
set_option linter.unusedVariables false
set_option maxRecDepth 20000
namespace Go.Proofs.Ytefgcnjbiaileaa.Hce
open Go.RowKit Fr _root_.Go.Proofs.Ytefgcnjbiaileaa.Own Pk Ins Pok Rws Sam Srt Sip Cpf Fnd Hix Hco Hcp Wit

theorem same_at {L K : List (List Int)} (hl : L.length = K.length) {j : Nat} (h : ∀ i, i < j → L.getD i [] = K.getD i []) (hj : j = L.length) : L = K := by
  refine List.ext_getElem hl fun i h1 h2 => ?_
  have := h i (by omega)
  simpa [List.getD_eq_getElem?_getD, List.getElem?_eq_getElem h1, List.getElem?_eq_getElem h2] using this
set_option maxHeartbeats 2000000 in
theorem equal_ss (A B : Option Addr) (n m c d : Nat) (ls rs : List RD) (w : World) (hn : ls.length = n) (hm : rs.length = m) (hn2 : n ≤ 1048576) (hat : LL w A ls) (hbt : LL w B rs) (hz : ∀ i, i < n → (ls.getD i rd0).zs.length ≤ 1048576) (hz2 : ∀ i, i < m → (rs.getD i rd0).zs.length ≤ 1048576) :
    Calls Try.prog 24 #[.slice A n c, .slice B m d, .func (.func 25) #[] #[]] w fun e w' => e = .returned (.bool (decide (ls.map RD.zs = rs.map RD.zs))) ∧ ∃ q, w' = w.drewN q := by
  have HN := Lib.hid hn
  have HM := Lib.hid hm
  have HA := Lib.hid hat
  have HB := Lib.hid hbt
  have HZ := Lib.hid hz
  have HZ2 := Lib.hid hz2
  obtain ⟨R, hR⟩ : ∃ R, R = decide (ls.map RD.zs = rs.map RD.zs) := ⟨_, rfl⟩
  rw [← hR]
  have HR := Lib.hid hR
  clear hR hat hbt hz hz2 hn hm
  by_cases hnm : n = m
  · subst hnm
    go_enter Try.func24, Try.ntmps24
    go_wp2
    go_loopw [7, 8, 9, 17] (fun _ _ _ i wr => ∃ j q : Nat, j ≤ n ∧ i = .int .i64 (j : Int) ∧ wr = w.drewN q ∧ Hid (∀ i, i < j → (ls.map RD.zs).getD i [] = (rs.map RD.zs).getD i [])) (fun _ _ _ i _ => n - (intOf i).toNat)
    case atStart => exact ⟨0, 0, Nat.zero_le _, rfl, rfl, fun i hi => absurd hi (Nat.not_lt_zero _)⟩
    case round =>
      obtain ⟨j, q, hj, rfl, rfl, HF⟩ := hrel
      by_cases hlt : j < n
      · obtain ⟨b1, o1, rfl, hc1, hi1⟩ := HA.out j (by rw [HN.out]; exact hlt)
        obtain ⟨b2, o2, rfl, hc2, hi2⟩ := HB.out j (by rw [HM.out]; exact hlt)
        have z1 := HZ.out j hlt
        have z2 := HZ2.out j hlt
        have HY := Lib.hid (show (ls.getD j rd0).zs = (rs.getD j rd0).zs → ∀ i, i < j + 1 → (ls.map RD.zs).getD i [] = (rs.map RD.zs).getD i [] from fun h i hi => by
          by_cases e : i = j
          · rw [e, zs_get ls (by rw [HN.out]; exact hlt), zs_get rs (by rw [HM.out]; exact hlt)]
            exact h
          · exact HF.out i (by omega))
        have HNE := Lib.hid (show ¬ (ls.getD j rd0).zs = (rs.getD j rd0).zs → R = false from fun h => by
          rw [HR.out]
          refine decide_eq_false fun e => h ?_
          rw [← zs_get ls (by rw [HN.out]; exact hlt), ← zs_get rs (by rw [HM.out]; exact hlt), e])
        have k1 := cell_drewN hc1 q
        have k2 := cell_drewN hc2 q
        have q1 := ints_drewN hi1 q
        have q2 := ints_drewN hi2 q
        clear hc1 hc2 hi1 hi2
        generalize ls.getD j rd0 = r1 at *
        generalize rs.getD j rd0 = r2 at *
        obtain ⟨A1, d1, s1⟩ := r1
        obtain ⟨A2, d2, s2⟩ := r2
        simp only [RD.v] at k1 k2 q1 q2 z1 z2 HY HNE
        have HC := Lib.hid (same_q _ _ A1 A2 s1.length s2.length d1 d2 s1 s2 (w.drewN q) rfl rfl (by omega) (by omega) q1 q2)
        clear q1 q2
        generalize s1.length = m1 at *
        generalize s2.length = m2 at *
        obtain ⟨V, hV⟩ : ∃ V, V = w.drewN q := ⟨_, rfl⟩
        rw [← hV] at k1 k2 HC
        rw [← hV]
        have HV := Lib.hid hV
        clear hV
        go_wp2_with fail
        refine HC.out.mono ?_
        rintro e w1 ⟨rfl, d', rfl⟩
        by_cases h : s1 = s2
        · have HS := Lib.hid (show sameB s1 s2 = true from decide_eq_true h)
          have HT := Lib.hid (HY.out h)
          rw [HS.out]
          clear h HY HNE HC
          go_wp2
          go_roundw
          case rel => exact ⟨j + 1, q + d', by omega, by go_num, by rw [HV.out, World.drewN_drewN], HT⟩
          case measure => simp [intOf]; omega
        · have HS := Lib.hid (show sameB s1 s2 = false from decide_eq_false h)
          have HT := Lib.hid (HNE.out h)
          rw [HS.out]
          clear h HY HNE HC
          go_wp2
          go_ret
          exact ⟨by rw [HT.out]; rfl, q + d', by rw [HV.out, World.drewN_drewN]⟩
      · have HT := Lib.hid (show R = true by
          rw [HR.out]
          exact decide_eq_true (same_at (by rw [List.length_map, List.length_map, HN.out, HM.out]) (j := j) HF.out (by rw [List.length_map, HN.out]; omega)))
        go_wp2
        go_ret
        exact ⟨by rw [HT.out]; rfl, q, rfl⟩
  · have HT := Lib.hid (show R = false by
      rw [HR.out]
      refine decide_eq_false fun e => hnm ?_
      have := congrArg List.length e
      rw [List.length_map, List.length_map, HN.out, HM.out] at this
      exact this)
    have hne : (((n : Nat) : Int) != ((m : Nat) : Int)) = true := by rw [bne_iff_ne]; omega
    have hne2 : (n != m) = true := by rw [bne_iff_ne]; exact hnm
    clear hnm
    go_enter Try.func24, Try.ntmps24
    go_wp2
    go_ret
    exact ⟨by rw [HT.out]; rfl, 0, rfl⟩
/-! ### plain facts -/
theorem dist_nodup {zs : List Int} (h : ∀ i, i < zs.length → 0 ≤ zs.getD i 0 ∧ zs.getD i 0 < 12) : ∀ k, k ≤ zs.length → ((dist zs k).length = k ↔ ∀ i, i < k → zs.getD i 0 ∉ zs.take i) := by
  intro k
  induction k with
  | zero => exact fun _ => ⟨fun _ i hi => absurd hi (Nat.not_lt_zero _), fun _ => rfl⟩
  | succ k ih =>
    intro hk
    have ih := ih (by omega)
    have hx := h k (by omega)
    have hc : cardF (zs.getD k 0) = zs.getD k 0 := cardF_down hx.1 (by omega)
    have hmem : zs.getD k 0 ∈ dist zs k ↔ zs.getD k 0 ∈ zs.take k := by
      rw [dist_mem]
      constructor
      · rintro ⟨_, i, hi, e⟩
        have hi2 := h i (by omega)
        have hci : cardF (zs.getD i 0) = zs.getD i 0 := cardF_down hi2.1 (by omega)
        rw [hci] at e
        rw [← e, List.getD_eq_getElem?_getD, List.getElem?_eq_getElem (by omega)]
        exact List.mem_take_iff_getElem.2 ⟨i, by omega, rfl⟩
      · intro hm
        obtain ⟨i, hi, e⟩ := List.mem_take_iff_getElem.1 hm
        have hi3 : i < zs.length := by omega
        have hi2 := h i hi3
        refine ⟨hx.1, i, by omega, ?_⟩
        have e2 : zs.getD i 0 = zs.getD k 0 := by
          rw [← e, List.getD_eq_getElem?_getD, List.getElem?_eq_getElem hi3]
          rfl
        rw [e2, hc]
    have hd := dist_some zs k (by rw [hc]; exact hx.1)
    rw [hc] at hd
    have hle := dist_len zs k
    constructor
    · intro e i hi
      by_cases hm : zs.getD k 0 ∈ dist zs k
      · rw [hd, if_pos hm] at e
        omega
      · rw [hd, if_neg hm, List.length_append, List.length_singleton] at e
        by_cases hik : i = k
        · subst hik
          exact fun hm2 => hm (hmem.2 hm2)
        · exact ih.1 (by omega) i (by omega)
    · intro hall
      have hm : zs.getD k 0 ∉ dist zs k := fun hm => hall k (by omega) (hmem.1 hm)
      rw [hd, if_neg hm, List.length_append, List.length_singleton, ih.2 fun i hi => hall i (by omega)]
theorem sh_ok {h m : List Int} (hh : ∀ x ∈ h, 0 ≤ x ∧ x < 12) (hl : m.length ≤ 12) : (okB m && decide (withF m h = [])) = shTo h m m.length := by
  by_cases hw : withF m h = []
  · have hin : ∀ x ∈ m, x ∈ h := by
      unfold withF at hw
      rw [List.filter_eq_nil_iff] at hw
      intro x hx
      have := hw x hx
      simpa using this
    have hget : ∀ i, i < m.length → m.getD i 0 ∈ h := fun i hi => by
      rw [List.getD_eq_getElem?_getD, List.getElem?_eq_getElem hi]
      exact hin _ (List.getElem_mem hi)
    rw [decide_eq_true hw, Bool.and_true, okB_short m hl, Bool.eq_iff_iff, decide_eq_true_iff, dist_nodup (fun i hi => hh _ (hget i hi)) m.length (Nat.le_refl _)]
    unfold shTo
    rw [List.all_eq_true]
    constructor
    · intro hall i hi
      have hi := List.mem_range.1 hi
      rw [decide_eq_true (hget i hi), decide_eq_false (hall i hi)]
      rfl
    · intro hall i hi hm
      have := hall i (List.mem_range.2 hi)
      rw [decide_eq_true hm] at this
      simp at this
  · rw [decide_eq_false hw, Bool.and_false]
    symm
    rw [Bool.eq_false_iff]
    intro hall
    apply hw
    unfold withF
    rw [List.filter_eq_nil_iff]
    intro x hx
    obtain ⟨i, hi, rfl⟩ := List.getElem_of_mem hx
    unfold shTo at hall
    have := List.all_eq_true.1 hall i (List.mem_range.2 hi)
    rw [Bool.and_eq_true] at this
    have h2 := of_decide_eq_true this.1
    rw [List.getD_eq_getElem?_getD, List.getElem?_eq_getElem hi] at h2
    simpa using h2
theorem cano_nodup (L : List (List Int)) : (cano L).Nodup := by
  have h := cano_sorted L
  exact h.imp fun {a b} hab e => by
    subst e
    exact absurd hab (by rw [less_irr]; decide)
theorem nodup_take {L : List (List Int)} : L.Nodup ↔ ∀ i, i < L.length → L.getD i [] ∉ L.take i := by
  rw [List.Nodup, List.pairwise_iff_getElem]
  constructor
  · intro h i hi hm
    obtain ⟨j, hj, e⟩ := List.mem_take_iff_getElem.1 hm
    have hj2 : j < i := by omega
    refine h j i (by omega) hi hj2 ?_
    rw [e, List.getD_eq_getElem?_getD, List.getElem?_eq_getElem hi]
    rfl
  · intro h i j hi hj hij e
    apply h j hj
    rw [List.getD_eq_getElem?_getD, List.getElem?_eq_getElem hj, Option.getD_some, ← e]
    exact List.mem_take_iff_getElem.2 ⟨i, by omega, rfl⟩
theorem len_nodup (L : List (List Int)) : (cano L).length = L.length ↔ L.Nodup := by
  constructor
  · intro h
    rw [nodup_take]
    intro i hi hm
    have hs : ∀ x ∈ cano L, x ∈ L.take i ++ L.drop (i + 1) := fun x hx => by
      have hx := (cano_mem L x).1 hx
      rw [← List.take_append_drop i L, List.mem_append, List.drop_eq_getElem_cons hi] at hx
      rw [List.mem_append]
      rcases hx with hx | hx
      · exact Or.inl hx
      · rcases List.mem_cons.1 hx with hx | hx
        · left
          rw [hx]
          rw [List.getD_eq_getElem?_getD, List.getElem?_eq_getElem hi] at hm
          exact hm
        · exact Or.inr hx
    have := (cano_nodup L).length_le_of_subset hs
    rw [List.length_append, List.length_take, List.length_drop] at this
    omega
  · intro h
    exact Nat.le_antisymm ((cano_nodup L).length_le_of_subset fun x hx => (cano_mem L x).1 hx) (h.length_le_of_subset fun x hx => (cano_mem L x).2 hx)
end Go.Proofs.Ytefgcnjbiaileaa.Hce
