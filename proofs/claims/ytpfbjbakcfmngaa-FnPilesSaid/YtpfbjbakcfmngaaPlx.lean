/- Facts for FnPiles: dealing a permutation, putting piles together and a round, through those of the new packet. -/
import Derived.Test.YtpfbjbakcfmngaaIxs
import Derived.Test.YtpfbjbakcfmngaaMkq
set_option linter.unusedVariables false
set_option maxRecDepth 20000
namespace Go.Proofs.Ytpfbjbakcfmngaa.Plx
open Go.RowKit Fr Nwp _root_.Go.Proofs.Ytpfbjbakcfmngaa.Own Pk Pl Ins Pok Arr Prm Pfn Rws Plk Gat Prd Ixa

theorem new_get {n i : Nat} (hn : n ≤ 12) (h : i < n) : (newF (n : Int)).getD i 0 = (i : Int) := by
  rw [newF_yes n hn]
  unfold imarks
  simp [List.getD_eq_getElem?_getD, h]
theorem new_len {n : Nat} (hn : n ≤ 12) : (newF (n : Int)).length = n := by rw [newF_yes n hn, imarks_length]
/-- the piles of any packet out of those of the new one -/
theorem pile_map {zs : List Int} {n m k : Nat} (hl : zs.length = n) (hn : n ≤ 12) : ∀ t, t ≤ n → pileT zs m k t = joinF zs (pileT (newF (n : Int)) m k t)
  | 0, _ => rfl
  | t + 1, h => by
    have ih := pile_map hl hn (m := m) (k := k) t (by omega)
    rw [pileT, pileT]
    split
    · rw [ih, new_get hn (by omega)]
      rfl
    · exact ih
theorem piles_map {zs : List Int} {n m : Nat} (hl : zs.length = n) (hn : n ≤ 12) : pilesF zs m n = (pilesF (newF (n : Int)) m n).map (joinF zs) := by
  unfold pilesF
  rw [List.map_map]
  exact List.map_congr_left fun k _ => pile_map hl hn n (Nat.le_refl _)
theorem getD_join (zs : List Int) (L : List (List Int)) (i : Nat) : (L.map (joinF zs)).getD i [] = joinF zs (L.getD i []) := by
  by_cases h : i < L.length
  · simp [List.getD_eq_getElem?_getD, List.getElem?_eq_getElem h]
  · simp [List.getD_eq_getElem?_getD, List.getElem?_eq_none (show L.length ≤ i by omega), joinF]
theorem cat_join (zs : List Int) (f : Nat → List Int) : ∀ n, Cat.cat (fun k => joinF zs (f k)) n = joinF zs (Cat.cat f n)
  | 0 => rfl
  | n + 1 => by
    rw [Cat.cat, Cat.cat, cat_join zs f n]
    unfold joinF
    rw [List.map_append]
theorem gat_join (zs : List Int) (L : List (List Int)) (ch pl : Nat) : gatF (L.map (joinF zs)) ch pl = joinF zs (gatF L ch pl) := by
  unfold gatF
  rw [List.length_map, ← cat_join]
  exact cat_congr _ fun k _ => getD_join zs L _
theorem perm_ne {zs : List Int} (h : permB zs = true) {i j : Nat} (hi : i < zs.length) (hj : j < zs.length) (he : zs.getD i 0 = zs.getD j 0) : i = j := by
  have key : ∀ a b, a < b → b < zs.length → zs.getD a 0 = zs.getD b 0 → False := fun a b hab hb he => by
    refine ((permB_yes h).2 b hb).2 ?_
    rw [← he, List.getD_eq_getElem?_getD, List.getElem?_eq_getElem (by omega)]
    exact List.mem_take_iff_getElem.2 ⟨a, by omega, rfl⟩
  rcases Nat.lt_trichotomy i j with h1 | h1 | h1
  · exact (key i j h1 hj he).elim
  · exact h1
  · exact (key j i h1 hi he.symm).elim
/-- where a card lies in a list that is taken out of a permutation -/
theorem pos_join {zs L : List Int} {n a : Nat} (hz : permB zs = true) (hl : zs.length = n) (ha : a < n) (hL : ∀ i, i < L.length → 0 ≤ L.getD i 0 ∧ L.getD i 0 < (n : Int)) : posF (joinF zs L) (zs.getD a 0) = posF L (a : Int) := by
  obtain ⟨h12, hall⟩ := permB_yes hz
  have hb : ∀ i, i < n → 0 ≤ zs.getD i 0 ∧ zs.getD i 0 < (n : Int) := fun i hi => by
    have := (hall i (by omega)).1
    rw [hl] at this
    exact this
  have key : ∀ f i, i + f = L.length → posFrom (joinF zs L) (zs.getD a 0) f i = posFrom L (a : Int) f i := by
    intro f
    induction f with
    | zero => intro i _; rfl
    | succ f ih =>
      intro i hi
      have hi2 : i < L.length := by omega
      have hx := hL i hi2
      obtain ⟨x, hxe⟩ := Int.eq_ofNat_of_zero_le hx.1
      rw [hxe] at hx
      have hxn : x < n := by omega
      have b1 := hb x hxn
      have b2 := hb a ha
      by_cases e : x = a
      · subst e
        rw [posFrom_hit _ _ _ _ b1.1 (by rw [joinF_get _ _ _ hi2, hxe, show (x : Int).toNat = x from rfl]; exact cardF_down b1.1 (by omega)), posFrom_hit _ _ _ _ (by omega) (by rw [hxe]; exact cardF_down (by omega) (by omega))]
      · rw [posFrom_miss _ _ _ _ (fun h => e (by
            have h2 := h.2
            rw [joinF_get _ _ _ hi2, hxe, show (x : Int).toNat = x from rfl, cardF_down b1.1 (by omega)] at h2
            exact perm_ne hz (by omega) (by omega) h2)),
          posFrom_miss _ _ _ _ (fun h => e (by
            have h2 := h.2
            rw [hxe, cardF_down (by omega) (by omega)] at h2
            omega)), ih (i + 1) (by omega)]
  unfold posF
  rw [joinF_len]
  exact key L.length 0 (by omega)
theorem pile_new_in {n m k : Nat} (hn : n ≤ 12) : ∀ t, t ≤ n → ∀ i, i < (pileT (newF (n : Int)) m k t).length → 0 ≤ (pileT (newF (n : Int)) m k t).getD i 0 ∧ (pileT (newF (n : Int)) m k t).getD i 0 < (n : Int)
  | 0, _, i, hi => by simp [pileT] at hi
  | t + 1, h, i, hi => by
    have ih := pile_new_in hn (m := m) (k := k) t (by omega)
    rw [pileT] at hi ⊢
    split at hi
    · next hc =>
      rw [if_pos hc]
      match i with
      | 0 => rw [new_get hn (by omega)]; exact ⟨by simp, by simp; omega⟩
      | j + 1 => exact ih j (by simpa using hi)
    · next hc =>
      rw [if_neg hc]
      exact ih i hi
theorem fst_join {zs : List Int} {n m a : Nat} (hz : permB zs = true) (hl : zs.length = n) (hn : n ≤ 12) (ha : a < n) : fstF (pilesF zs m n) (zs.getD a 0) = fstF (pilesF (newF (n : Int)) m n) (a : Int) := by
  have key : ∀ f i, fstFrom (pilesF zs m n) (zs.getD a 0) f i = fstFrom (pilesF (newF (n : Int)) m n) (a : Int) f i := by
    intro f
    induction f with
    | zero => intro i; rfl
    | succ f ih =>
      intro i
      have e : posF ((pilesF zs m n).getD i []) (zs.getD a 0) = posF ((pilesF (newF (n : Int)) m n).getD i []) (a : Int) := by
        rw [piles_map hl hn, getD_join]
        refine pos_join hz hl ha ?_
        by_cases hi : i < m
        · rw [piles_get _ _ _ _ hi]
          exact pile_new_in hn n (Nat.le_refl _)
        · rw [List.getD_eq_getElem?_getD, List.getElem?_eq_none (by rw [piles_len]; omega)]
          exact fun j hj => by simp at hj
      rw [fstFrom, fstFrom, e, ih (i + 1)]
  unfold fstF
  rw [piles_len, piles_len]
  exact key m 0
/-- what is checked of the new packet -/
def chkP (n m a pl : Nat) : Bool :=
  let L := gatF (pilesF (newF (n : Int)) m n) (a % m) pl
  decide (fstF (pilesF (newF (n : Int)) m n) (a : Int) = ((a % m : Nat) : Int)) && permB L && decide (L.length = n) && decide (L.getD (idxN n m a pl) 0 = (a : Int)) && (List.range n).all (fun i => decide (0 ≤ posF L (i : Int)))
set_option maxHeartbeats 4000000 in
theorem chkP_all : ([2, 3, 4].all fun m => (List.range 13).all fun n => if m ≤ n ∧ n % m = 0 then (List.range n).all (fun a => (List.range m).all fun pl => chkP n m a pl) else true) = true := by kernel_rfl
theorem new_round {n m a pl : Nat} (hm : m = 2 ∨ m = 3 ∨ m = 4) (h1 : m ≤ n) (h2 : n ≤ 12) (h3 : n % m = 0) (ha : a < n) (hp : pl < m) :
    fstF (pilesF (newF (n : Int)) m n) (a : Int) = ((a % m : Nat) : Int) ∧ permB (gatF (pilesF (newF (n : Int)) m n) (a % m) pl) = true ∧ (gatF (pilesF (newF (n : Int)) m n) (a % m) pl).length = n ∧ (gatF (pilesF (newF (n : Int)) m n) (a % m) pl).getD (idxN n m a pl) 0 = (a : Int) ∧
      ∀ i, i < n → 0 ≤ posF (gatF (pilesF (newF (n : Int)) m n) (a % m) pl) (i : Int) := by
  have h := List.all_eq_true.1 (List.all_eq_true.1 chkP_all m (by rcases hm with rfl | rfl | rfl <;> decide)) n (List.mem_range.2 (by omega))
  rw [if_pos ⟨h1, h3⟩] at h
  have h := List.all_eq_true.1 (List.all_eq_true.1 h a (List.mem_range.2 ha)) pl (List.mem_range.2 hp)
  unfold chkP at h
  simp only [Bool.and_eq_true, decide_eq_true_eq, List.all_eq_true, List.mem_range] at h
  exact ⟨h.1.1.1.1, h.1.1.1.2, h.1.1.2, h.1.2, h.2⟩
/-- all that the law asks -/
theorem piles_law {zs : List Int} {n m a pl : Nat} (hz : permB zs = true) (hl : zs.length = n) (hm : m = 2 ∨ m = 3 ∨ m = 4) (h1 : m ≤ n) (h2 : n ≤ 12) (h3 : n % m = 0) (ha : a < n) (hp : pl < m) :
    ∃ R, (pilesI zs (m : Int)).length = m ∧ rndL zs (m : Int) (zs.getD a 0) (pl : Int) = R ∧ rndB zs (m : Int) (zs.getD a 0) (pl : Int) = true ∧ R.length = n ∧ R.getD (idxN n m a pl) 0 = zs.getD a 0 ∧ arrB zs R = true ∧ gatL (pilesI zs (m : Int)) ((a % m : Nat) : Int) (pl : Int) = R ∧ gatB (pilesI zs (m : Int)) ((a % m : Nat) : Int) (pl : Int) = true ∧ Fits R := by
  obtain ⟨c1, c2, c3, c4, c5⟩ := new_round hm h1 h2 h3 ha hp
  have hok := Mkq.perm_ok hz
  have hP : pilesI zs (m : Int) = pilesF zs m n := by
    unfold pilesI
    rw [hok, hl, ok_yes hm h1 h2 h3]
    rfl
  have ham : a % m < m := Nat.mod_lt _ (by omega)
  generalize hL : gatF (pilesF (newF (n : Int)) m n) (a % m) pl = L at *
  have hG : gatF (pilesF zs m n) (a % m) pl = joinF zs L := by rw [piles_map hl h2, gat_join, hL]
  have hperm : permB (joinF zs L) = true := Grp.comp_perm hz c2 (by rw [hl, c3])
  have hok2 := Mkq.perm_ok hperm
  have hB : gatB (pilesF zs m n) ((a % m : Nat) : Int) (pl : Int) = true := by
    unfold gatB placeB Plk.inB
    rw [piles_len, decide_eq_true (show (2 : Int) ≤ (m : Int) ∧ (m : Int) ≤ 4 by omega), decide_eq_true (show (0 : Int) ≤ ((a % m : Nat) : Int) ∧ ((a % m : Nat) : Int) < (m : Int) by omega), decide_eq_true (show (0 : Int) ≤ (pl : Int) ∧ (pl : Int) < (m : Int) by omega)]
    rw [show ((a % m : Nat) : Int).toNat = a % m from rfl, show (pl : Int).toNat = pl from rfl, hG, hok2]
    rfl
  have hLn : gatL (pilesF zs m n) ((a % m : Nat) : Int) (pl : Int) = joinF zs L := by
    rw [gat_yes hB, show ((a % m : Nat) : Int).toNat = a % m from rfl, show (pl : Int).toNat = pl from rfl, hG]
  have hF : fstF (pilesF zs m n) (zs.getD a 0) = ((a % m : Nat) : Int) := by rw [fst_join hz hl h2 ha, c1]
  have hlen : (joinF zs L).length = n := by rw [joinF_len, c3]
  obtain ⟨_, hinL⟩ := permB_yes c2
  have hin : ∀ i, i < L.length → 0 ≤ L.getD i 0 ∧ L.getD i 0 < (n : Int) := fun i hi => by
    have := (hinL i hi).1
    rw [c3] at this
    exact this
  have hidx := (chk_at hm h1 h2 h3 ha hp).2.2.2.2
  refine ⟨joinF zs L, by rw [hP, piles_len], by rw [rndL, hP, hF, hLn], by rw [rndB, hP, hF, hB], hlen, ?_, ?_, by rw [hP, hLn], by rw [hP, hB], ?_⟩
  · rw [joinF_get _ _ _ (by rw [c3]; exact hidx), c4]
    rfl
  · rw [arr_in hok hok2 (by rw [hl, hlen])]
    refine in_all hok hok2 (by rw [hl, hlen]) fun i hi => ?_
    have hb := ((permB_yes hz).2 i hi).1
    rw [hl] at hb hi
    rw [cardF_down hb.1 (by omega), pos_join hz hl hi hin]
    exact c5 i hi
  · intro i hi
    have := ((permB_yes hperm).2 i hi).1
    have h12 := (permB_yes hperm).1
    omega
end Go.Proofs.Ytpfbjbakcfmngaa.Plx
