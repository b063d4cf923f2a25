/- The rising sequences as the model has them; where a card lies. -/
import Derived.Test.YtceolmihglhijaaGreatRsc
set_option linter.unusedVariables false
set_option maxRecDepth 20000
namespace Go.Proofs.YtceolmihglhijaaGreat.Rss
open Go.RowKit Fr _root_.Go.Proofs.YtceolmihglhijaaGreat.Own Pk Ins Pl Prm Pfn Rws Orb Cyc Rsm Rsc

theorem posFrom_to (zs : List Int) (card : Int) : ∀ (d f i : Nat), (∀ j, i ≤ j → j < i + d → ¬ (0 ≤ card ∧ cardF (zs.getD j 0) = card)) → posFrom zs card (d + f) i = posFrom zs card f (i + d) := by
  intro d
  induction d with
  | zero => intro f i _; rw [Nat.zero_add]; rfl
  | succ d ih =>
    intro f i h
    rw [show d + 1 + f = (d + f) + 1 by omega, posFrom_miss zs card _ i (h i (Nat.le_refl _) (by omega)), ih f (i + 1) fun j h1 h2 => h j (by omega) (by omega)]
    rw [show i + 1 + d = i + (d + 1) by omega]
theorem pos_pv {zs : List Int} (h : permB zs = true) {v : Nat} (hv : v < zs.length) : posF zs (v : Int) = (pv zs v : Nat) := by
  have h12 := (permB_yes h).1
  have hp := pv_lt h hv
  have hc : ∀ j, j < zs.length → cardF (zs.getD j 0) = (fOf zs j : Nat) := by
    intro j hj
    have := (bij_of h).lt j hj
    rw [fOf_get h hj, cardF_down (by omega) (by omega)]
  unfold posF
  have e : zs.length = pv zs v + (zs.length - pv zs v - 1 + 1) := by omega
  rw [e, posFrom_to zs v (pv zs v) _ 0, posFrom_hit zs v _ _ (by omega)]
  · rw [Nat.zero_add]
  · rw [Nat.zero_add, hc _ hp, at_pv h hv]
  · intro j _ hj q
    rw [hc j (by omega)] at q
    have e1 : fOf zs j = v := by omega
    have := pv_at h (show j < zs.length by omega)
    rw [e1] at this
    omega
theorem own_raise {W : World} {B B' : Nat} {e : TypeId} {size : Nat} {A : Option Addr} {n c m : Nat} {xs : List Value} (h : W.ownsRow B e size (.slice A n c) m xs) (hb : ∀ k, A.map (·.block) = some k → B' ≤ k) : W.ownsRow B' e size (.slice A n c) m xs := by
  refine ⟨h.1, ?_⟩
  rcases h.2 with h2 | ⟨g, cap, cur, hv, hg, r⟩
  · exact Or.inl h2
  · refine Or.inr ⟨g, cap, cur, hv, hb g ?_, r⟩
    simp only [Value.slice.injEq] at hv
    rw [hv.1]; rfl
theorem getD_left {rs : List RD} {r : RD} {i : Nat} (h : i < rs.length) : (rs ++ [r]).getD i rd0 = rs.getD i rd0 := by
  simp only [List.getD_eq_getElem?_getD]
  rw [List.getElem?_append_left h]
theorem getD_last (rs : List RD) (r : RD) : (rs ++ [r]).getD rs.length rd0 = r := by
  simp [List.getD_eq_getElem?_getD]
/-- the last list has grown, and lies anew in the outer row -/
theorem setlast {W W1 : World} {lo b0 : Nat} {g n c : Nat} {rs : List RD} {r : RD} {A' : Option Addr} {c' : Nat} {zs' : List Int}
    (h : SSRow W lo W.heap.size (some ⟨g, 0, none⟩) n c (rs ++ [r])) (ho : W1.ownsRow b0 3 1 (.slice A' zs'.length c') zs'.length (zs'.map (Value.int .i64))) (hg : W.grownBy W1 r.b)
    (hlow : ∀ i, i < rs.length → ∀ b, (rs.getD i rd0).b = some b → b < b0) (hlo : lo ≤ b0) :
    SSRow (W1.setCell ⟨g, rs.length, none⟩ (.slice A' zs'.length c')) lo (W1.setCell ⟨g, rs.length, none⟩ (.slice A' zs'.length c')).heap.size (some ⟨g, 0, none⟩) n c (rs ++ [⟨A', c', zs'⟩]) := by
  have hl := h.len
  have hlast := h.2.1 rs.length (by simp)
  rw [getD_last] at hlast
  have hout1 : W1.ownsRow lo 23 1 (.slice (some ⟨g, 0, none⟩) n c) n ((rs ++ [r]).map RD.v) := own_gr h.1 hg fun k hk e => own_diff h.1 hlast.1 (by decide) k hk e
  have hst := hout1.stored rs.length (.slice A' zs'.length c')
  have hgs : W1.grownBy (W1.setCell ⟨g, rs.length, none⟩ (.slice A' zs'.length c')) (some g) := hst.2
  have hs1 := hg.size
  have hs2 := hgs.size
  have hgl := (own_lo hout1 g rfl).2
  have hA' := fun k hk => own_lo ho k hk
  refine ⟨?_, ?_, ?_, ?_, Nat.le_refl _⟩
  · have e : ((rs ++ [r]).map RD.v).set rs.length (.slice A' zs'.length c') = (rs ++ [(⟨A', c', zs'⟩ : RD)]).map RD.v := by
      rw [List.map_append, List.map_append]
      have : rs.length = (rs.map RD.v).length := by simp
      rw [this, List.set_append_right _ _ (Nat.le_refl _)]
      simp [RD.v]
    rw [← e]
    exact hst.1
  · intro i hi
    rw [List.length_append] at hi
    simp only [List.length_cons, List.length_nil] at hi
    by_cases e : i < rs.length
    · rw [getD_left e]
      have hr := h.2.1 i (by simp; omega)
      have hdis := h.2.2.1 i rs.length (by simp; omega) (by simp) (by omega)
      rw [getD_left e] at hr hdis
      rw [getD_last] at hdis
      have h1 : W1.ownsRow lo 3 1 (.slice (rs.getD i rd0).A (rs.getD i rd0).zs.length (rs.getD i rd0).c) (rs.getD i rd0).zs.length ((rs.getD i rd0).zs.map (Value.int .i64)) := own_gr hr.1 hg fun k hk e2 => hdis k hk e2
      refine ⟨own_gr h1 hgs fun k hk e2 => own_diff h1 hout1 (by decide) k hk e2, fun a ha => ?_, Nat.le_refl _⟩
      have := hr.2.1 a ha
      omega
    · have ei : i = rs.length := by omega
      subst ei
      rw [getD_last]
      refine ⟨own_mono (own_gr ho hgs fun k hk e2 => own_diff ho hout1 (by decide) k hk e2) hlo, fun a ha => ?_, Nat.le_refl _⟩
      have := hA' a.block (by rw [show A' = some a from ha]; rfl)
      omega
  · intro i j hi hj hne b hb
    rw [List.length_append] at hi hj
    simp only [List.length_cons, List.length_nil] at hi hj
    by_cases ei : i < rs.length
    · rw [getD_left ei] at hb
      by_cases ej : j < rs.length
      · rw [getD_left ej]
        have := h.2.2.1 i j (by simp; omega) (by simp; omega) hne b
        rw [getD_left ei, getD_left ej] at this
        exact this hb
      · have e : j = rs.length := by omega
        subst e
        rw [getD_last]
        intro e2
        have h1 := hlow i ei b hb
        have h2 := (hA' b e2).1
        omega
    · have e : i = rs.length := by omega
      subst e
      rw [getD_last] at hb
      rw [getD_left (by omega)]
      intro e2
      have h1 := hlow j (by omega) b e2
      have h2 := (hA' b hb).1
      omega
  · intro a ha
    simp only [Option.some.injEq] at ha
    subst ha
    show g < _
    omega
/-- the lists that there are, the last of them above all others -/
def Top (rs : List RD) (b0 : Nat) : Prop := (∀ i, i + 1 < rs.length → ∀ b, (rs.getD i rd0).b = some b → b < b0) ∧ (∀ b, (rs.getD (rs.length - 1) rd0).b = some b → b0 ≤ b)
end Go.Proofs.YtceolmihglhijaaGreat.Rss
