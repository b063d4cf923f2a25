/- Facts for FnLearns: the lists of packets that come of choices, what a move and a cut make of them, and that the first packet fits with its own sides. The lists of packets that the laws draw (l15Draw, MakeKnown), and laws.find. -/
import Derived.Test.YthcggkhpamjjbaaGreatRfc
import Derived.Test.YthcggkhpamjjbaaGreatMkm
import Derived.Test.YthcggkhpamjjbaaGreatAfm
import Derived.Test.YthcggkhpamjjbaaGreatAfc
set_option linter.unusedVariables false
set_option maxRecDepth 20000
namespace Go.Proofs.YthcggkhpamjjbaaGreat.Lnf
open Go.RowKit Fr _root_.Go.Proofs.YthcggkhpamjjbaaGreat.Own Pk Ins Pok Arr Rws Lb Cat Srt Mvp Pf Kno Kns Ck Mkr Raf Itr Wv

/-- a list of packets that choices can make -/
structure GK (m N : Nat) (l : List (List Int)) : Prop where
  srt : SortedL l
  pos : 1 ≤ l.length
  ok : ∀ p ∈ l, okB p = true ∧ p.length = m
  arr : ∀ p ∈ l, ∀ q ∈ l, arrB p q = true
  few : l.length ≤ N
theorem arr_symm {p q : List Int} (h : arrB p q = true) : arrB q p = true := by
  unfold arrB at h ⊢
  rw [Bool.and_eq_true, Bool.and_eq_true, Bool.and_eq_true] at h
  obtain ⟨⟨⟨h1, h2⟩, h3⟩, h4⟩ := h
  have h3' := of_decide_eq_true h3
  have hs := of_decide_eq_true h4
  have hb := sub_back _ _ (dist_nodup q q.length) (dist_nodup p p.length) (by rw [(okB_yes h1).2, (okB_yes h2).2]; omega) hs
  rw [h1, h2, decide_eq_true h3'.symm, Bool.true_and, Bool.true_and, Bool.true_and]
  exact decide_eq_true hb
theorem GK.one {p : List Int} {m : Nat} (h : okB p = true) (hm : p.length = m) : GK m 1 [p] := by
  refine ⟨sorted_short (by simp), by simp, ?_, ?_, by simp⟩
  · intro q hq
    rw [List.mem_singleton] at hq
    subst hq
    exact ⟨h, hm⟩
  · intro q hq r hr
    rw [List.mem_singleton] at hq hr
    subst hq hr
    exact Rfc.arr_perm h (List.Perm.refl _)
theorem rows16 {k : Int} {zs : List Int} (h : goodB k zs = true) (h4 : zs.length ≤ 4) : (rowsF k zs).length ≤ 16 := by
  have hp := good_parts h
  obtain ⟨h1, h2, h3, h4', h5⟩ := hp
  rcases (show k = 0 ∨ k = 1 ∨ k = 2 ∨ k = 3 ∨ k = 4 by omega) with rfl | rfl | rfl | rfl | rfl
  · rw [rowsF_0]; simp
  · rw [rowsF_1]; simp [cutsF]; omega
  · rw [rowsF_2]
    simp only [rifI, List.length_map, List.length_range]
    exact Nat.le_trans (Nat.pow_le_pow_right (by decide) h4) (by decide)
  · obtain ⟨f1, f2, f3⟩ := flip_good h rfl
    rw [rowsF_3]; simp [cutsF]; omega
  · rw [rowsF_4]; simp [picksF]; omega
theorem flatK (f : List Int → List (List Int)) (K : Nat) : ∀ l : List (List Int), (∀ p ∈ l, (f p).length ≤ K) → (l.flatMap f).length ≤ K * l.length
  | [], _ => Nat.zero_le _
  | p :: l, h => by
    have h1 := h p (List.mem_cons_self ..)
    have ih := flatK f K l fun q hq => h q (List.mem_cons_of_mem _ hq)
    rw [List.flatMap_cons, List.length_append, List.length_cons, Nat.mul_succ]
    omega
theorem ra_four {l : List (List Int)} (h : ∀ p ∈ l, p.length ≤ 4) : (raF 1 l).length ≤ 4 * l.length := by
  unfold raF
  have h1 := (cano_size ((cano l).flatMap (rowsF 1))).1
  have h2 := flatK (rowsF 1) 4 (cano l) fun p hp => by
    rw [rowsF_1]
    unfold cutsF
    rw [List.length_map, List.length_range]
    exact h p ((cano_mem l p).1 hp)
  have h3 := (cano_size l).1
  omega
theorem ra_few {k : Int} {l : List (List Int)} (h : ∀ p ∈ l, goodB k p = true ∧ p.length ≤ 4) : (raF k l).length ≤ 16 * l.length := by
  unfold raF
  have h1 := (cano_size ((cano l).flatMap (rowsF k))).1
  have h2 := flatK (rowsF k) 16 (cano l) fun p hp => rows16 (h p ((cano_mem l p).1 hp)).1 (h p ((cano_mem l p).1 hp)).2
  have h3 := (cano_size l).1
  omega
theorem ra_mem {k : Int} {l : List (List Int)} {x : List Int} : x ∈ raF k l ↔ ∃ p ∈ l, x ∈ rowsF k p := by
  unfold raF
  rw [cano_mem, List.mem_flatMap]
  constructor
  · rintro ⟨p, hp, hx⟩; exact ⟨p, (cano_mem l p).1 hp, hx⟩
  · rintro ⟨p, hp, hx⟩; exact ⟨p, (cano_mem l p).2 hp, hx⟩
theorem row_arr {k : Int} {p x : List Int} (hg : goodB k p = true) (hx : x ∈ rowsF k p) : arrB p x = true := by
  obtain ⟨h1, h2, h3, h4, h5⟩ := good_parts hg
  obtain ⟨j, rfl⟩ := Int.eq_ofNat_of_zero_le h1.1
  refine Rfc.res_arr h2 h4 (by omega) ?_ hx
  rintro rfl
  have : (2 : Int) ≤ (p.length : Int) := h3
  omega
theorem rows_pos {k : Int} {p : List Int} (hg : goodB k p = true) : ∃ x, x ∈ rowsF k p := by
  obtain ⟨h1, h2, h3, h4, h5⟩ := good_parts hg
  have hpos : ∀ (q : List Int), 1 ≤ q.length → ∃ x, x ∈ cutsF q := fun q hq => ⟨moveF 1 0 q, List.mem_map.2 ⟨0, List.mem_range.2 hq, rfl⟩⟩
  rcases (show k = 0 ∨ k = 1 ∨ k = 2 ∨ k = 3 ∨ k = 4 by omega) with rfl | rfl | rfl | rfl | rfl
  · rw [rowsF_0]; exact ⟨p, by simp⟩
  · rw [rowsF_1]; exact hpos p h4
  · rw [rowsF_2]; exact ⟨_, List.mem_map.2 ⟨0, List.mem_range.2 (Nat.pow_pos (by decide)), rfl⟩⟩
  · obtain ⟨f1, f2, f3⟩ := flip_good hg rfl
    rw [rowsF_3]; exact hpos _ f3
  · rw [rowsF_4]; exact ⟨_, List.mem_map.2 ⟨0, List.mem_range.2 h4, rfl⟩⟩
theorem GK.step {m N : Nat} {l : List (List Int)} {k : Int} (h : GK m N l) (hm : m ≤ 4) (hg : ∀ p ∈ l, goodB k p = true) : GK m (16 * N) (raF k l) := by
  have hmem : ∀ x ∈ raF k l, ∃ p ∈ l, arrB p x = true := fun x hx => by
    obtain ⟨p, hp, hxp⟩ := ra_mem.1 hx
    exact ⟨p, hp, row_arr (hg p hp) hxp⟩
  have hsrt : SortedL (raF k l) := by unfold raF; exact cano_sorted _
  refine ⟨hsrt, ?_, ?_, ?_, ?_⟩
  · obtain ⟨p, r, rfl⟩ : ∃ p r, l = p :: r := by
      cases l with
      | nil => have := h.pos; simp at this
      | cons p r => exact ⟨p, r, rfl⟩
    obtain ⟨x, hx⟩ := rows_pos (hg p (List.mem_cons_self ..))
    exact List.length_pos_of_mem (ra_mem.2 ⟨p, List.mem_cons_self .., hx⟩)
  · intro x hx
    obtain ⟨p, hp, ha⟩ := hmem x hx
    obtain ⟨q1, q2, q3⟩ := Kns.arr_parts ha
    exact ⟨q2, by rw [← q3]; exact (h.ok p hp).2⟩
  · intro x hx y hy
    obtain ⟨p, hp, ha⟩ := hmem x hx
    obtain ⟨q, hq, hb⟩ := hmem y hy
    exact Rfc.arr_trans (arr_symm ha) (Rfc.arr_trans (h.arr p hp q hq) hb)
  · have := ra_few (k := k) fun p hp => ⟨hg p hp, by have := (h.ok p hp).2; omega⟩
    have := h.few
    omega
theorem GK.more {m N N' : Nat} {l : List (List Int)} (h : GK m N l) (hN : N ≤ N') : GK m N' l := ⟨h.srt, h.pos, h.ok, h.arr, Nat.le_trans h.few hN⟩
theorem GK.get {m N : Nat} {l : List (List Int)} (h : GK m N l) {i : Nat} (hi : i < l.length) : l.getD i [] ∈ l := by
  rw [List.getD_eq_getElem?_getD, List.getElem?_eq_getElem hi]
  exact List.getElem_mem _
theorem GK.know {m N : Nat} {l : List (List Int)} (h : GK m N l) (hm : 1 ≤ m) (hN : N ≤ 3000) : knowB l = true := by
  refine know_yes h.pos (Nat.le_trans h.few hN) (by rw [(h.ok _ (h.get h.pos)).2]; exact hm) fun i hi => ?_
  unfold stepB
  rw [h.arr _ (h.get h.pos) _ (h.get hi), Bool.true_and]
  by_cases h0 : i = 0
  · rw [decide_eq_true h0]; rfl
  · rw [decide_eq_false h0, Bool.false_or]
    have hs := h.srt
    unfold SortedL at hs
    rw [List.pairwise_iff_getElem] at hs
    have := hs (i - 1) i (by omega) hi (by omega)
    rw [List.getD_eq_getElem?_getD, List.getElem?_eq_getElem (by omega), List.getD_eq_getElem?_getD, List.getElem?_eq_getElem hi]
    exact this
theorem GK.nodup {m N : Nat} {l : List (List Int)} (h : GK m N l) : l.Nodup := by
  rw [List.nodup_iff_pairwise_ne]
  exact h.srt.imp fun {a b} h e => by rw [e, less_irr] at h; cases h
/-- two moved packets are equal only if the packets are -/
theorem turn_inj {x y : Int} (hx : -12 ≤ x ∧ x ≤ 11) (hy : -12 ≤ y ∧ y ≤ 11) (h : turnF x = turnF y) : x = y := by
  unfold turnF at h
  rw [if_pos hx, if_pos hy] at h
  omega
theorem move_inj {kd k m : Nat} {a b : List Int} (hk : kOk kd k m = true) (hm : 1 ≤ m) (hm2 : m ≤ 12) (ha : okB a = true ∧ a.length = m) (hb : okB b = true ∧ b.length = m) (h : moveF kd k a = moveF kd k b) : a = b := by
  have hg : ∀ v, v < m → a.getD v 0 = b.getD v 0 := by
    intro v hv
    obtain ⟨j, hj, rfl⟩ := src_onto hk hm hm2 hv
    have e1 := move_get (zs := a) (j := j) (by rw [ha.2]; exact hk) (by omega) (by omega) (by omega)
    have e2 := move_get (zs := b) (j := j) (by rw [hb.2]; exact hk) (by omega) (by omega) (by omega)
    rw [h, e2, ha.2, hb.2] at e1
    have r1 := ok_mem ha.1 _ (Rfc.mem_get (q := a) (j := srcA kd k m j) (by omega))
    have r2 := ok_mem hb.1 _ (Rfc.mem_get (q := b) (j := srcA kd k m j) (by omega))
    split at e1
    · exact (turn_inj r2 r1 e1).symm
    · exact e1.symm
  apply List.ext_getElem (by omega)
  intro i h1 h2
  have := hg i (by omega)
  rw [List.getD_eq_getElem?_getD, List.getElem?_eq_getElem h1, List.getD_eq_getElem?_getD, List.getElem?_eq_getElem h2] at this
  exact this
theorem mv_of {kd k m : Nat} (hk : kOk kd k m = true) (hm : 1 ≤ m) (hm2 : m ≤ 12) : mvB (m : Int) (kd : Int) (k : Int) = true := by
  unfold mvB
  rw [decide_eq_true ⟨by omega, by omega⟩, decide_eq_true ⟨by omega, by omega⟩]
  simpa using hk
theorem aft_all {m N kd k : Nat} {l : List (List Int)} (h : GK m N l) (hm : 1 ≤ m) (hm4 : m ≤ 4) (hN : N ≤ 3000) (hk : kOk kd k m = true) :
    Afm.aftB l (kd : Int) (k : Int) = true ∧ (Afm.aftF l (kd : Int) (k : Int)).length = l.length ∧ GK m N (Afm.aftF l (kd : Int) (k : Int)) ∧ ∀ p ∈ l, perfF p (kd : Int) (k : Int) ∈ Afm.aftF l (kd : Int) (k : Int) ∧ perfB p (kd : Int) (k : Int) = true := by
  have hkn := h.know hm hN
  have hB : Afm.aftB l (kd : Int) (k : Int) = true := by
    unfold Afm.aftB
    rw [hkn, (h.ok _ (h.get h.pos)).2, mv_of hk hm (by omega)]
    rfl
  have hF : Afm.aftF l (kd : Int) (k : Int) = cano (l.map (moveF kd k)) := by
    rw [Afm.aft_yes hB]
    simp
  have hlen : (cano (l.map (moveF kd k))).length = l.length := by
    rw [Rfc.len_map fun a ha b hb e => move_inj hk hm (by omega) (h.ok a ha) (h.ok b hb) e, Rfc.len_nodup h.nodup]
  have hpB : ∀ p ∈ l, perfB p (kd : Int) (k : Int) = true := fun p hp => by
    unfold perfB
    rw [(h.ok p hp).1, (h.ok p hp).2, mv_of hk hm (by omega)]
    rfl
  have hmo : ∀ p ∈ l, arrB p (moveF kd k p) = true := fun p hp => move_arr (by rw [(h.ok p hp).2]; exact hk) (by rw [(h.ok p hp).2]; exact hm) (h.ok p hp).1
  have hmem : ∀ x ∈ cano (l.map (moveF kd k)), ∃ p ∈ l, moveF kd k p = x := fun x hx => List.mem_map.1 ((cano_mem _ x).1 hx)
  rw [hF]
  refine ⟨hB, hlen, ⟨cano_sorted _, by rw [hlen]; exact h.pos, ?_, ?_, by rw [hlen]; exact h.few⟩, fun p hp => ⟨?_, hpB p hp⟩⟩
  · intro x hx
    obtain ⟨p, hp, rfl⟩ := hmem x hx
    obtain ⟨q1, q2, q3⟩ := Kns.arr_parts (hmo p hp)
    exact ⟨q2, by rw [← q3]; exact (h.ok p hp).2⟩
  · intro x hx y hy
    obtain ⟨p, hp, rfl⟩ := hmem x hx
    obtain ⟨q, hq, rfl⟩ := hmem y hy
    exact Rfc.arr_trans (arr_symm (hmo p hp)) (Rfc.arr_trans (h.arr p hp q hq) (hmo q hq))
  · rw [perfF_yes (hpB p hp), cano_mem]
    exact List.mem_map.2 ⟨p, hp, by simp⟩
theorem good1 {m : Nat} {p : List Int} (h : okB p = true ∧ p.length = m) (hm : 1 ≤ m) : goodB 1 p = true := by
  unfold goodB
  rw [h.1, decide_eq_true (show (0 : Int) ≤ 1 ∧ (1 : Int) ≤ 4 by omega), Bool.true_and, Bool.true_and]
  refine decide_eq_true ?_
  have : Ck.leastN 1 = 1 := rfl
  rw [this, h.2]
  omega
theorem cut_zero (p : List Int) : moveF 1 0 p = p := by
  have : moveF 1 0 p = p.drop 0 ++ p.take 0 := rfl
  rw [this]; simp
theorem cut_all {m N : Nat} {l : List (List Int)} (h : GK m N l) (hm : 1 ≤ m) (hm4 : m ≤ 4) (hN : 4 * N ≤ 3000) :
    Afc.choB 1 l = true ∧ GK m (4 * N) (Afc.choF 1 l) ∧ l.length ≤ (Afc.choF 1 l).length ∧ ∀ p ∈ l, p ∈ Afc.choF 1 l := by
  have hkn := h.know hm (by omega)
  have hgd : ∀ p ∈ l, goodB 1 p = true := fun p hp => good1 (h.ok p hp) hm
  have hG0 := h.step hm4 hgd
  have h4N : (raF 1 l).length ≤ 4 * N := Nat.le_trans (ra_four fun p hp => by have := (h.ok p hp).2; omega) (by have := h.few; omega)
  have hG : GK m (4 * N) (raF 1 l) := ⟨hG0.srt, hG0.pos, hG0.ok, hG0.arr, h4N⟩
  have hra : raB 1 l = true := by
    unfold raB
    rw [Bool.and_eq_true, List.all_eq_true]
    exact ⟨hgd, decide_eq_true (Nat.le_trans hG.few hN)⟩
  have hF : Afc.choF 1 l = raF 1 l := by unfold Afc.choF; rw [if_pos hkn]; unfold raR; rw [if_pos hra]
  have hsub : ∀ p ∈ l, p ∈ raF 1 l := fun p hp => by
    refine ra_mem.2 ⟨p, hp, ?_⟩
    rw [rowsF_1]
    exact List.mem_map.2 ⟨0, List.mem_range.2 (by rw [(h.ok p hp).2]; exact hm), cut_zero p⟩
  rw [hF]
  exact ⟨by unfold Afc.choB; rw [hkn, hra]; rfl, hG, h.nodup.length_le_of_subset hsub, hsub⟩
/-- the indices of the cards that lie face up -/
def upI (p : List Int) (k : Nat) : List Int := ((List.range k).filter fun i => upB (p.getD i 0)).map fun (i : Nat) => (i : Int)
theorem up_zero (p : List Int) : upI p 0 = [] := rfl
theorem up_yes {p : List Int} {k : Nat} (h : upB (p.getD k 0) = true) : upI p (k + 1) = upI p k ++ [(k : Int)] := by
  unfold upI
  rw [List.range_succ, List.filter_append, List.map_append, List.filter_cons, h, List.filter_nil]
  rfl
theorem up_no {p : List Int} {k : Nat} (h : upB (p.getD k 0) = false) : upI p (k + 1) = upI p k := by
  unfold upI
  rw [List.range_succ, List.filter_append, List.map_append, List.filter_cons, h, List.filter_nil]
  simp
theorem up_len (p : List Int) (k : Nat) : (upI p k).length ≤ k := by
  unfold upI
  rw [List.length_map]
  have := List.length_filter_le (fun i => upB (p.getD i 0)) (List.range k)
  rw [List.length_range] at this
  exact this
theorem up_fits (p : List Int) (k : Nat) (hk : k ≤ 100) : Ins.Fits (upI p k) := by
  intro i hi
  have hm : (upI p k).getD i 0 ∈ upI p k := by rw [List.getD_eq_getElem?_getD, List.getElem?_eq_getElem hi]; exact List.getElem_mem _
  unfold upI at hm
  obtain ⟨j, hj, e⟩ := List.mem_map.1 hm
  have hj2 := (List.mem_filter.1 hj).1
  rw [List.mem_range] at hj2
  have e2 : (upI p k).getD i 0 = (j : Int) := e.symm
  rw [e2]
  omega
theorem up_sides (p : List Int) : sidesB (upI p p.length) p = true := by
  refine sides_yes fun i hi => ?_
  unfold Pok.hasB
  rw [Bool.eq_iff_iff, decide_eq_true_iff]
  unfold upI
  rw [List.mem_map]
  constructor
  · intro h
    exact ⟨i, List.mem_filter.2 ⟨List.mem_range.2 hi, h⟩, rfl⟩
  · rintro ⟨j, hj, e⟩
    have : j = i := by omega
    subst this
    exact (List.mem_filter.1 hj).2
theorem see_own {m N : Nat} {l : List (List Int)} (h : GK m N l) (hm : 1 ≤ m) (hN : N ≤ 3000) : l.getD 0 [] ∈ seeF (sidesB (upI (l.getD 0 []) (l.getD 0 []).length)) l := by
  rw [see_yes (h.know hm hN), List.mem_filter]
  exact ⟨h.get h.pos, up_sides _⟩
end Go.Proofs.YthcggkhpamjjbaaGreat.Lnf

namespace Go.Proofs.YthcggkhpamjjbaaGreat.Mkn
open Go.RowKit Fr _root_.Go.Proofs.YthcggkhpamjjbaaGreat.Own Pk Ins Pfn Pok Arr Rws Lb Cat Srt Sst Mvp Cur Mkp Mkq Kno Kns Ck Mkr Raf Lnf

theorem good_of {k : Int} {l : List (List Int)} (h : raB k l = true) : ∀ p ∈ l, goodB k p = true := by
  unfold raB at h
  rw [Bool.and_eq_true, List.all_eq_true] at h
  exact h.1
theorem raR_yes {k : Int} {l : List (List Int)} (h : raB k l = true) : raR k l = raF k l := by unfold raR; rw [if_pos h]
theorem row_one {W : World} {lo : Nat} {A : Option Addr} {m c : Nat} {zs : List Int} (hlo : lo ≤ W.heap.size) (hl : zs.length = m) (h : W.ownsRow lo 3 1 (.slice A m c) m (vals zs)) :
    SSRow (W.alloc (.cells #[.slice A m c] 28)) lo (W.alloc (.cells #[.slice A m c] 28)).heap.size (some ⟨W.heap.size, 0, none⟩) 1 1 [(⟨A, c, zs⟩ : RD)] := by
  subst hl
  have h0 : SSRow W lo lo none 0 0 [] := ⟨World.ownsRow_nil _ _ _ _, fun i hi => absurd hi (Nat.not_lt_zero _), fun i j hi => absurd hi (Nat.not_lt_zero _), (fun a e => by cases e), hlo⟩
  exact SSRow.snoc h0 (Nat.le_refl _) h (World.ownsRow_lit W #[.slice A zs.length c] 1 hlo (by unfold maxLen; omega) rfl) (World.grownBy_alloc W _ none)
def KnownDrawn (B c : Nat) (A : Option Addr) (n cap : Nat) (w : World) (e : Ending) (w' : World) : Prop :=
  ∃ (Al : Option Addr) (N c2 : Nat) (ls : List RD) (m : Nat), e = .returned (.slice Al N c2) ∧ 1 ≤ m ∧ m ≤ 4 ∧ ls.length = N ∧ GK m 256 (ls.map RD.zs) ∧ SSRow w' w.heap.size w'.heap.size Al N c2 ls ∧ Below B w w'
theorem lo_down {W : World} {lo lo' hi : Nat} {A : Option Addr} {n c : Nat} {rs : List RD} (h : SSRow W lo' hi A n c rs) (hl : lo ≤ lo') : SSRow W lo hi A n c rs :=
  ⟨own_mono h.1 hl, fun i hi => ⟨own_mono (h.2.1 i hi).1 hl, (h.2.1 i hi).2⟩, h.2.2⟩
theorem gk_fits {m N : Nat} {ls : List RD} (h : GK m N (ls.map RD.zs)) (i : Nat) (hi : i < ls.length) : Fits (ls.getD i rd0).zs ∧ (ls.getD i rd0).zs.length = m ∧ okB (ls.getD i rd0).zs = true := by
  have hm := h.get (i := i) (by rw [List.length_map]; exact hi)
  rw [map_getD] at hm
  have hk := h.ok _ hm
  exact ⟨Mvp.ok_fits hk.1, hk.2, hk.1⟩
set_option maxHeartbeats 2000000 in
theorem draw_known (B c : Nat) (A : Option Addr) (n cap : Nat) (w : World) (hn : n ≤ 1048576) (hB : B ≤ c) (hcur : IsCur w c A n cap) (hbytes : BytesAt w B A n) :
    Calls Tryz.prog 20 #[.pointer (some ⟨c, 0, none⟩)] w (KnownDrawn B c A n cap w) := by
  have hcw := hcur.lt
  go_enter Tryz.func20, Tryz.ntmps20
  go_wp2_with fail
  refine (draw_any B c A n cap 4 _ (by omega) (by omega) hn hB hcur hbytes).mono ?_
  rintro e w1 ⟨A2, m, c2, zs, rfl, hl, h1, h4, hok, hown, hcur1, hg1⟩
  have hb1 : Below B w w1 := (Below.refl B w).grown hg1 (by omega) (fun k hk => by simp only [Option.some.injEq] at hk; omega)
  have hs1 := hg1.size
  have HR1 := Lib.hid (row_one hs1 hl hown)
  have HK := Lib.hid (GK.one hok hl)
  have hbA := (Below.refl w1.heap.size w1).alloc (Nat.le_refl _) (.cells #[.slice A2 m c2] 28)
  have HB2 := Lib.hid (hb1.trans (hbA.mono (by omega)))
  have HC2 := Lib.hid (hcur1.below hbA (by omega))
  have HSZ := Lib.hid (show w.heap.size ≤ (w1.alloc (.cells #[.slice A2 m c2] 28)).heap.size from Nat.le_trans hs1 hbA.size)
  clear hl hok hown hcur1 hg1 hb1 hcur hbA hs1
  go_wp2_with fail
  generalize hW2 : w1.alloc (.cells #[.slice A2 m c2] 28) = W2 at *
  refine (below_any B c A n cap 2 _ (by omega) (by omega) hn hB HC2.out (hbytes.below HB2.out)).mono ?_
  rintro e w3 ⟨x, rfl, hx0, hx1, hcur3, hon3⟩
  obtain ⟨y, rfl⟩ : ∃ y : Nat, x = y := ⟨x.toNat, by omega⟩
  have hy1 : y ≤ 1 := by omega
  have HR3 := Lib.hid ((HR1.out.grown (only_grown hon3) (fun k hk => Or.inl (by simp only [Option.some.injEq] at hk; omega))).higher (only_grown hon3).size (Nat.le_refl _))
  have HB3 := Lib.hid (HB2.out.trans (hon3.below hB))
  have HC3 := Lib.hid hcur3
  have HS3 := Lib.hid (Nat.le_trans HSZ.out (only_grown hon3).size)
  have hyp : (1 : Int) + (y : Int) = ((y + 1 : Nat) : Int) := by omega
  have HYP := Lib.hid hyp
  clear hcur3 hon3 HR1 HB2 HC2 HSZ hx0 hx1 hyp
  go_wp2_with fail
  rw [HYP.out]
  go_loopg [3, 4, 5, 6, 17] (y + 1) (fun g s3 s4 _ _ _ wr => ∃ (k N cl : Nat) (Al : Option Addr) (ls : List RD), k ≤ 2 ∧ g = k ∧ s4 = .int .i64 (k : Int) ∧ s3 = .slice Al N cl ∧ ls.length = N ∧
    Hid (GK m (16 ^ (2 - k)) (ls.map RD.zs)) ∧ Hid (SSRow wr w.heap.size wr.heap.size Al N cl ls) ∧ Hid (IsCur wr c A n cap) ∧ Hid (Below B w wr) ∧ w.heap.size ≤ wr.heap.size)
  case atStart => exact ⟨y + 1, 1, 1, _, _, by omega, rfl, rfl, rfl, rfl, Lib.hid (HK.out.more (Nat.one_le_pow _ _ (by decide))), HR3, HC3, HB3, HS3.out⟩
  case round =>
    clear HK HR3 HB3 HC3 HYP
    obtain ⟨k, N, cl, Al, ls, hk2, hg, rfl, rfl, hln, HG, HR, HC, HBW, hsz⟩ := hrel
    by_cases hk0 : 0 < k
    · obtain ⟨j, rfl⟩ : ∃ j, k = j + 1 := ⟨k - 1, by omega⟩
      have HLN := Lib.hid hln
      have hN3 : N ≤ 256 := by
        have h := HG.out.few
        rw [List.length_map, hln] at h
        have : 16 ^ (2 - (j + 1)) ≤ 16 ^ 2 := Nat.pow_le_pow_right (by decide) (by omega)
        omega
      have hjk : decide ((0 : Int) < (j : Int) + 1) = true := decide_eq_true (by omega)
      clear hln
      go_wp2_with fail
      refine (below_any B c A n cap 5 _ (by omega) (by omega) hn hB HC.out (hbytes.below HBW.out)).mono ?_
      rintro e w5 ⟨x, rfl, hx0, hx1, hcur5, hon5⟩
      have HR5 := Lib.hid ((HR.out.grown (only_grown hon5) (fun k hk => Or.inl (by simp only [Option.some.injEq] at hk; omega))).higher (only_grown hon5).size (Nat.le_refl _))
      have HB5 := Lib.hid (HBW.out.trans (hon5.below hB))
      have HC5 := Lib.hid hcur5
      have hsz5 : w.heap.size ≤ w5.heap.size := Nat.le_trans hsz (by have := hon5.size; omega)
      have CR := Lib.hid (Rcw.spec_ra Al N cl ls x w5 HLN.out (at_of HR5.out) (fun i hi => (gk_fits HG.out i (by rw [HLN.out]; exact hi)).1) (fun i hi => by have := (gk_fits HG.out i (by rw [HLN.out]; exact hi)).2.1; omega) (Afm.caps_of HR5.out) (by omega))
      clear hcur5 hon5 HR HC HBW hsz hx0 hx1
      go_wp2_with fail
      refine CR.out.mono ?_
      rintro e w6 ⟨A6, c6, rs6, rfl, hz6, ho6, hb6⟩
      have hs6 := hb6.size
      have HB6 := Lib.hid (HB5.out.trans (hb6.mono (by omega)))
      have HC6 := Lib.hid (HC5.out.below hb6 (by have := HC5.out.lt; omega))
      cases hra : raB x (ls.map RD.zs) with
      | true =>
        have HG6 := Lib.hid (HG.out.step h4 (good_of hra))
        rw [raR_yes hra] at hz6 ho6 ⊢
        generalize raF x (ls.map RD.zs) = L at *
        have HG7 := Lib.hid (show GK m (16 ^ (2 - j)) (rs6.map RD.zs) by rw [hz6]; exact HG6.out.more (by rw [show 2 - j = (2 - (j + 1)) + 1 by omega, Nat.pow_succ, Nat.mul_comm]; exact Nat.le_refl _))
        have HL6 := Lib.hid (show rs6.length = L.length by rw [← hz6, List.length_map])
        have HR6 := Lib.hid (lo_down ho6 hsz5)
        clear hz6 ho6 hb6 HR5 HB5 HC5 HG HG6 CR hra
        generalize L.length = N6 at *
        go_wp2
        go_roundg j
        case rel => exact ⟨j, N6, c6, A6, rs6, by omega, rfl, by go_num, rfl, HL6.out, HG7, HR6, HC6, HB6, by omega⟩
        case measure => omega
      | false =>
        have HG7 := Lib.hid (HG.out.more (show 16 ^ (2 - (j + 1)) ≤ 16 ^ (2 - j) from Nat.pow_le_pow_right (by decide) (by omega)))
        have HR6 := Lib.hid ((HR5.out.below hb6).higher hs6 (Nat.le_refl _))
        clear hz6 ho6 hb6 HR5 HB5 HC5 HG CR hra
        generalize (raR x (ls.map RD.zs)).length = N6 at *
        go_wp2
        go_roundg j
        case rel => exact ⟨j, N, cl, Al, ls, by omega, rfl, by go_num, rfl, HLN.out, HG7, HR6, HC6, HB6, by omega⟩
        case measure => omega
    · obtain rfl : k = 0 := by omega
      have HLN := Lib.hid hln
      clear hln
      go_wp2
      go_ret
      exact ⟨Al, N, cl, ls, m, rfl, h1, h4, HLN.out, HG.out.more (by decide), HR.out, HBW.out⟩
def KnownMade (w : World) (e : Ending) (w' : World) : Prop :=
  ∃ (Al : Option Addr) (N c2 : Nat) (ls : List RD) (m : Nat), e = .returned (.slice Al N c2) ∧ 1 ≤ m ∧ m ≤ 4 ∧ ls.length = N ∧ GK m 256 (ls.map RD.zs) ∧ SSRow w' w.heap.size w'.heap.size Al N c2 ls ∧ Below w.heap.size w w'
theorem make_known (A : Option Addr) (n cap : Nat) (w : World) (hn : n ≤ 1048576) (hbytes : BytesAt w w.heap.size A n) :
    Calls Tryz.prog 5 #[.slice A n cap] w (KnownMade w) := by
  go_enter Tryz.func5, Tryz.ntmps5
  go_wp2_with fail
  refine (new_any A n cap _ hn hbytes).mono ?_
  rintro e w1 ⟨c, rfl, hwc, hcur, hb1⟩
  have hby := hbytes.below hb1
  have hsz := hb1.size
  go_wp2_with fail
  refine (draw_known w.heap.size c A n cap _ hn hwc hcur hby).mono ?_
  rintro e w2 ⟨Al, N, c2, ls, m, rfl, h1, h4, hl, hG, hR, hb2⟩
  have HB := Lib.hid (hb1.trans hb2)
  have HR := Lib.hid (lo_down hR hsz)
  have HL := Lib.hid hl
  have HG := Lib.hid hG
  clear hl hG hR hb1 hb2 hcur hby
  go_wp2
  go_ret
  exact ⟨Al, N, c2, ls, m, rfl, h1, h4, HL.out, HG.out, HR.out, HB.out⟩
set_option maxHeartbeats 1000000 in
theorem find_any (Al : Option Addr) (N cl : Nat) (ls : List RD) (Ax : Option Addr) (m cx : Nat) (x : List Int) (w : World) (hn : ls.length = N) (hn2 : N ≤ 1048576) (hat : SSAt w w.heap.size Al ls) (hz : ∀ i, i < N → (ls.getD i rd0).zs.length ≤ 1048576)
    (hm : x.length = m) (hm2 : m ≤ 1048576) (hx : IntsAt w w.heap.size .i64 Ax x) :
    Calls Tryz.prog 11 #[.slice Al N cl, .slice Ax m cx] w fun e w' => e = .returned (.bool (decide (x ∈ ls.map RD.zs))) ∧ w = w' := by
  have HN := Lib.hid hn
  have HM := Lib.hid hm
  obtain ⟨R, hR⟩ : ∃ R, R = decide (x ∈ ls.map RD.zs) := ⟨_, rfl⟩
  rw [← hR]
  have HR := Lib.hid hR
  clear hn hm hR
  go_enter Tryz.func11, Tryz.ntmps11
  go_wp2
  go_loop [6, 9] (fun _ i => ∃ k : Nat, k ≤ N ∧ i = .int .i64 k ∧ Hid (∀ i, i < k → (ls.getD i rd0).zs ≠ x)) (fun _ i => N - (intOf i).toNat)
  case atStart => exact ⟨0, Nat.zero_le _, rfl, (fun i hi => absurd hi (Nat.not_lt_zero _))⟩
  case round =>
    obtain ⟨k, hk, rfl, HE⟩ := hrel
    by_cases hlt : k < N
    · obtain ⟨b, o, hA, hbb, hc, hi⟩ := hat k (by rw [HN.out]; exact hlt)
      subst hA
      have hz2 := hz k hlt
      obtain ⟨m2, hm2'⟩ : ∃ m2, (ls.getD k rd0).zs.length = m2 := ⟨_, rfl⟩
      simp only [RD.v, hm2'] at hc
      have CS := same_any (ls.getD k rd0).A Ax m2 m (ls.getD k rd0).c cx (ls.getD k rd0).zs x w hm2' HM.out (by omega) (by omega) hi hx
      have HY := Lib.hid (fun e : (ls.getD k rd0).zs = x => (show true = R by
        rw [HR.out]
        refine (decide_eq_true ?_).symm
        rw [← e, ← map_getD]
        rw [List.getD_eq_getElem?_getD, List.getElem?_eq_getElem (by rw [List.length_map, HN.out]; exact hlt)]
        exact List.getElem_mem _))
      have HNO := Lib.hid (fun e : (ls.getD k rd0).zs ≠ x => (show ∀ i, i < k + 1 → (ls.getD i rd0).zs ≠ x from fun i hi => by
        by_cases hik : i = k
        · rw [hik]; exact e
        · exact HE.out i (by omega)))
      generalize (ls.getD k rd0).A = A1 at *
      generalize (ls.getD k rd0).c = c1 at *
      generalize (ls.getD k rd0).zs = us at *
      clear HE hi hm2' hz2
      by_cases e : us = x
      · have HS := Lib.hid (HY.out e)
        rw [show Sam.sameB us x = true from decide_eq_true e] at CS
        clear HY HNO e
        go_wp2_with fail
        refine CS.mono ?_
        rintro e w' ⟨rfl, rfl⟩
        go_wp2
        go_ret
        exact ⟨ret_b HS.out, rfl⟩
      · have HS := Lib.hid (HNO.out e)
        rw [show Sam.sameB us x = false from decide_eq_false e] at CS
        clear HY HNO e
        go_wp2_with fail
        refine CS.mono ?_
        rintro e w' ⟨rfl, rfl⟩
        go_wp2
        go_round
        case rel => exact ⟨k + 1, by omega, by go_num, HS⟩
        case measure => simp [intOf]; omega
    · have hkn : k = N := by omega
      have HS := Lib.hid (show false = R by
        rw [HR.out]
        refine (decide_eq_false ?_).symm
        intro hm
        obtain ⟨r, hr, e⟩ := List.mem_map.1 hm
        obtain ⟨i, hi, rfl⟩ := List.mem_iff_getElem.1 hr
        refine HE.out i (by rw [hkn, ← HN.out]; exact hi) ?_
        rw [List.getD_eq_getElem?_getD, List.getElem?_eq_getElem hi]
        exact e)
      clear hkn HE
      go_wp2
      go_ret
      exact ⟨ret_b HS.out, rfl⟩
end Go.Proofs.YthcggkhpamjjbaaGreat.Mkn
