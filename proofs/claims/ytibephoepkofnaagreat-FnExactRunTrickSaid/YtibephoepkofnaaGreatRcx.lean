/- A riffle of 12 different cards has more than 3000 results; the program's and the model's results are the same. The model's contracts of the results in the program's terms. Rows of arguments: their elements, their capacities. -/
import Derived.Test.YtibephoepkofnaaGreatSo6
import Derived.Test.YtibephoepkofnaaGreatRo
set_option linter.unusedVariables false
set_option maxRecDepth 20000
namespace Go.Proofs.YtibephoepkofnaaGreat.Rcn
open Fr _root_.Go.Proofs.YtibephoepkofnaaGreat.Own Pk Ins Pfn Rws Mvp Wv Itr Srt Raf Sof So2 So5 So6 Mkr

theorem ril_map (f : Int → Int) : ∀ (l : List Bool) (xs ys : List Int), ril l (xs.map f) (ys.map f) = (ril l xs ys).map f := by
  intro l
  induction l with
  | nil => intro xs ys; simp [ril]
  | cons b l ih =>
    intro xs ys
    cases b <;> cases xs <;> cases ys <;> simp [ril, ← ih]
theorem rif_map (f : Int → Int) (xs : List Int) (l : List Bool) : rifOf (xs.map f) l = (rifOf xs l).map f := by
  unfold rifOf
  rw [← List.map_take, ← List.map_drop, ril_map]
def idx12 : List Int := [0, 1, 2, 3, 4, 5, 6, 7, 8, 9, 10, 11]
def dec12 (q : List Int) : Nat :=
  let c := if q.getD 0 0 = 0 then q.getD 11 0 + 1 else q.getD 0 0
  (List.range 12).foldl (fun s i => if q.getD i 0 < c then s + 2 ^ i else s) 0
def pick12 (w : Nat) : Bool := (w % 2 == 0 && w != 0) || (w % 2 == 1 && decide (2048 ≤ w))
def ways12 : List Nat := (List.range 4096).filter pick12
theorem dec_ok : ways12.all (fun w => dec12 (rifOf idx12 (bitsN w 12)) == w) = true := by kernel_rfl
theorem ways_len : ways12.length = 3071 := by kernel_rfl
theorem ways_lt {w : Nat} (h : w ∈ ways12) : w < 4096 := List.mem_range.1 (List.mem_filter.1 h).1
theorem idx_mem {x : Int} (h : x ∈ idx12) : 0 ≤ x ∧ x < 12 := by
  simp [idx12] at h
  omega
theorem zs_idx {zs : List Int} (h : zs.length = 12) : idx12.map (fun i => zs.getD i.toNat 0) = zs := by
  refine List.ext_getElem (by simp [idx12, h]) fun i h1 h2 => ?_
  have hi : i < 12 := by simpa [idx12] using h1
  have hi2 : i < idx12.length := by simpa using h1
  have e : idx12[i]'hi2 = (i : Int) := by
    have h3 : ∀ j : Nat, j < 12 → idx12.getD j 0 = (j : Int) := by decide
    have := h3 i hi
    rwa [List.getD_eq_getElem?_getD, List.getElem?_eq_getElem hi2, Option.getD_some] at this
  rw [List.getElem_map, e]
  simp [List.getD_eq_getElem?_getD, List.getElem?_eq_getElem h2]
theorem map_inj {f : Int → Int} {a b : List Int} (hf : ∀ x y, 0 ≤ x ∧ x < 12 → 0 ≤ y ∧ y < 12 → f x = f y → x = y) (ha : ∀ x ∈ a, 0 ≤ x ∧ x < 12) (hb : ∀ x ∈ b, 0 ≤ x ∧ x < 12) (h : a.map f = b.map f) : a = b := by
  have hl : a.length = b.length := by have := congrArg List.length h; simpa using this
  refine List.ext_getElem hl fun i h1 h2 => ?_
  have e := congrArg (fun l => l[i]?) h
  simp only [List.getElem?_map, List.getElem?_eq_getElem h1, List.getElem?_eq_getElem h2, Option.map_some, Option.some.injEq] at e
  exact hf _ _ (ha _ (List.getElem_mem _)) (hb _ (List.getElem_mem _)) e
theorem ok_inj {zs : List Int} (h : Pok.okB zs = true) (hl : zs.length = 12) : ∀ x y : Int, 0 ≤ x ∧ x < 12 → 0 ≤ y ∧ y < 12 → zs.getD x.toNat 0 = zs.getD y.toNat 0 → x = y := by
  intro x y hx hy e
  have := (ok_parts h).2.2 x.toNat y.toNat (by omega) (by omega) (by rw [e])
  omega
/-- more than 3000 results -/
theorem rif_many {zs : List Int} (h : Pok.okB zs = true) (hl : zs.length = 12) {m : List (List Int)} (hm : ∀ x ∈ rifI zs, x ∈ m) : 3000 < m.length := by
  have hnd : (ways12.map fun w => rifOf zs (bitsN w 12)).Nodup := by
    rw [List.nodup_iff_pairwise_ne, List.pairwise_map]
    have hr : ways12.Nodup := List.nodup_range.sublist List.filter_sublist
    rw [List.nodup_iff_pairwise_ne] at hr
    refine hr.imp_of_mem fun {a b} ha hb hne e => hne ?_
    have q := dec_ok
    rw [List.all_eq_true] at q
    have qa := q a ha
    have qb := q b hb
    rw [beq_iff_eq] at qa qb
    rw [← zs_idx hl, rif_map, rif_map] at e
    have hp : ∀ w, ∀ x ∈ rifOf idx12 (bitsN w 12), 0 ≤ x ∧ x < 12 := fun w x hx => idx_mem ((rif_perm (zs := idx12) (bitsN_len _ _)).mem_iff.1 hx)
    have e2 := map_inj (ok_inj h hl) (hp a) (hp b) e
    rw [← qa, e2, qb]
  have := hnd.length_le_of_subset (l₂ := m) (fun x hx => by
    obtain ⟨w, hw, rfl⟩ := List.mem_map.1 hx
    refine hm _ ?_
    unfold rifI
    rw [hl]
    exact List.mem_map.2 ⟨w, List.mem_range.2 (ways_lt hw), rfl⟩)
  rw [List.length_map, ways_len] at this
  omega
theorem okM_good {k : Int} {zs : List Int} (h : okM k zs = true) : goodB k zs = true := by
  obtain ⟨h1, h2, h3, h4, h5, h6⟩ := okM_parts h
  unfold goodB
  rw [decide_eq_true h4, h1]
  have : Ck.leastN k ≤ zs.length := by
    unfold Ck.leastN
    split
    · have := h5 (by assumption); omega
    · omega
  rw [decide_eq_true this]
  rfl
theorem good_okM {k : Int} {zs : List Int} (h : goodB k zs = true) (h2 : okM k zs = false) : k = 2 ∧ zs.length = 12 := by
  obtain ⟨h1, h3, h4, h5, h6⟩ := good_parts h
  unfold okM at h2
  rw [h3, decide_eq_true h5, decide_eq_true h1] at h2
  have h7 : k = 3 → 2 ≤ zs.length := fun e => by
    subst e
    have : Ck.leastN 3 = 2 := rfl
    omega
  by_cases e3 : k = 3
  · have := h7 e3
    subst e3
    simp at h2
    omega
  · by_cases e2 : k = 2
    · subst e2
      simp at h2
      omega
    · simp [e3, e2] at h2
theorem maF_raF {k : Int} {l : List (List Int)} (h : ∀ y ∈ l, okM k y = true) : maF k l = raF k l := by
  unfold maF raF
  refine cano_same fun z => ?_
  constructor
  · intro hz
    obtain ⟨y, hy, hz⟩ := List.mem_flatMap.1 hz
    exact List.mem_flatMap.2 ⟨y, (cano_mem _ _).2 hy, (ofM_mem (okM_parts (h y hy)).2.2.2.1 z).1 hz⟩
  · intro hz
    obtain ⟨y, hy, hz⟩ := List.mem_flatMap.1 hz
    have hy2 := (cano_mem _ _).1 hy
    exact List.mem_flatMap.2 ⟨y, hy2, (ofM_mem (okM_parts (h y hy2)).2.2.2.1 z).2 hz⟩
theorem maB_raB (k : Int) (l : List (List Int)) : maB k l = raB k l := by
  by_cases hall : ∀ y ∈ l, okM k y = true
  · unfold maB raB
    rw [maF_raF hall, List.all_eq_true.2 hall, List.all_eq_true.2 fun y hy => okM_good (hall y hy)]
  · have hm : maB k l = false := by
      unfold maB
      have : l.all (okM k) = false := by
        rw [Bool.eq_false_iff]
        intro e
        exact hall (List.all_eq_true.1 e)
      rw [this]
      rfl
    rw [hm]
    symm
    unfold raB
    by_cases hg : l.all (goodB k) = true
    · rw [hg, Bool.true_and]
      rw [decide_eq_false_iff_not]
      intro hle
      refine hall fun y hy => ?_
      cases hok : okM k y with
      | true => rfl
      | false =>
        have hgy := List.all_eq_true.1 hg y hy
        obtain ⟨rfl, hl⟩ := good_okM hgy hok
        have := rif_many (good_parts hgy).2.1 hl (m := raF 2 l) fun x hx => by
          unfold raF
          exact (cano_mem _ _).2 (List.mem_flatMap.2 ⟨y, (cano_mem _ _).2 hy, hx⟩)
        omega
    · rw [Bool.eq_false_iff.2 hg]
      rfl
theorem maR_raR (k : Int) (l : List (List Int)) : maR k l = raR k l := by
  unfold maR raR
  rw [maB_raB]
  by_cases hb : raB k l = true
  · rw [if_pos hb, if_pos hb]
    have hb2 := hb
    rw [← maB_raB] at hb2
    unfold maB at hb2
    rw [Bool.and_eq_true, List.all_eq_true] at hb2
    exact maF_raF hb2.1
  · rw [if_neg hb, if_neg hb]
theorem one_len {k : Int} {zs : List Int} (h : okM k zs = true) : (cano (ofM k zs)).length ≤ 3000 := by
  obtain ⟨h1, h2, h3, h4, h5, h6⟩ := okM_parts h
  have e : cano (ofM k zs) = cano (rowsF k zs) := cano_same fun z => ofM_mem h4 z
  rw [e]
  refine Nat.le_trans (cano_size _).1 ?_
  rcases (show k = 0 ∨ k = 1 ∨ k = 2 ∨ k = 3 ∨ k = 4 by omega) with rfl | rfl | rfl | rfl | rfl
  · rw [rowsF_0]; simp
  · rw [rowsF_1]; simp [cutsF]; omega
  · rw [rowsF_2]
    have := h6 rfl
    simp only [rifI, List.length_map, List.length_range]
    exact Nat.le_trans (Nat.pow_le_pow_right (by decide) this) (by decide)
  · obtain ⟨f1, f2, f3⟩ := flip_good (okM_good h) rfl
    rw [rowsF_3]; simp [cutsF]; omega
  · rw [rowsF_4]; simp [picksF]; omega
theorem okM_raB (k : Int) (zs : List Int) : okM k zs = raB k [zs] := by
  rw [← maB_raB]
  unfold maB maF
  cases h : okM k zs with
  | false => simp [h]
  | true =>
    have := one_len h
    simp [h, this]
theorem roM_raR (k : Int) (zs : List Int) : roM k zs = raR k [zs] := by
  rw [← maR_raR]
  unfold maR roM maF
  rw [maB_raB, ← okM_raB]
  simp
theorem cntM_cntI (k : Int) (zs : List Int) : cntM k zs = Ro.cntI k zs := by
  unfold cntM Ro.cntI
  rw [okM_raB, roM_raR]
theorem isrM_isrB (k : Int) (zs q : List Int) : isrM k zs q = Ro.isrB k zs q := by
  unfold isrM Ro.isrB
  rw [roM_raR]
end Go.Proofs.YtibephoepkofnaaGreat.Rcn

namespace Go.Proofs.YtibephoepkofnaaGreat.Rcw
open Go.RowKit Fr _root_.Go.Proofs.YtibephoepkofnaaGreat.Own Ins Rws Sst Big Srt Raf Sof So5 So6 Rcn

theorem raR_big (k : Int) (l : List (List Int)) : BigSS (raR k l) := by
  refine big_small ?_ ?_
  · unfold raR
    split
    next hb =>
      unfold raB at hb
      rw [Bool.and_eq_true, decide_eq_true_eq] at hb
      omega
    next => simp
  · intro x hx
    unfold raR at hx
    split at hx
    next hb =>
      unfold raB at hb
      rw [Bool.and_eq_true, List.all_eq_true] at hb
      unfold raF at hx
      obtain ⟨y, hy, hx⟩ := List.mem_flatMap.1 ((cano_mem _ _).1 hx)
      have := (rows_card (hb.1 y ((cano_mem _ _).1 hy)) x hx).2
      omega
    next => cases hx
end Go.Proofs.YtibephoepkofnaaGreat.Rcw

namespace Go.Proofs.YtibephoepkofnaaGreat.Rcx
open Go.RowKit Fr _root_.Go.Proofs.YtibephoepkofnaaGreat.Own Ins Rws Sst

theorem caps_of {W : World} {lo hi : Nat} {A : Option Addr} {n c : Nat} {rs : List RD} (h : SSRow W lo hi A n c rs) : ∀ i, i < n → (rs.getD i rd0).zs.length ≤ (rs.getD i rd0).c := by
  intro i hi
  have hr := (h.2.1 i (by rw [h.len]; exact hi)).1
  rcases hr.2 with ⟨hv, h0⟩ | ⟨g, cap, cur, hv, hg, hh, q1, q2, q3, q4⟩
  · omega
  · simp only [Value.slice.injEq] at hv
    omega
end Go.Proofs.YtibephoepkofnaaGreat.Rcx
