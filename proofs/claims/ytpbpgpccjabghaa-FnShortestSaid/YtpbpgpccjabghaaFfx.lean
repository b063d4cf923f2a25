/- Facts on perfect shuffles: what a list of them does to a packet; the digits of an index bring the top card there; orders and centres. -/
import Derived.Test.YtpbpgpccjabghaaFrn
import Derived.Test.YtpbpgpccjabghaaFto
import Derived.Test.YtpbpgpccjabghaaCen
import Derived.Test.YtpbpgpccjabghaaGrp
set_option linter.unusedVariables false
set_option maxRecDepth 20000
namespace Go.Proofs.Ytpbpgpccjabghaa.Ffx
open Go.RowKit Pk Pok Arr Prm Pfn Ins Nwp Mvp Pf Pa Pal Fsz Fpm Fto Frn Cen Grp Cyc _root_.Go.Proofs.Ytpbpgpccjabghaa.Ord

section
variable {α β : Type}
def faL (ks : List Int) (l : List α) : List α := ks.foldl (fun q k => faroL q k.toNat) l
theorem faL_map (g : α → β) : ∀ (ks : List Int) (l : List α), faL ks (l.map g) = (faL ks l).map g
  | [], l => rfl
  | k :: r, l => by
    show faL r (faroL (l.map g) k.toNat) = (faL r (faroL l k.toNat)).map g
    rw [faro_map, faL_map g r]
end
theorem all_faros : ∀ (ks zs : List Int), okB zs = true → szB zs.length = true → (∀ k ∈ ks, 0 ≤ k ∧ k ≤ 1) → allGo (mvs ks) zs = some (faL ks zs) ∧ (faL ks zs).length = zs.length ∧ okB (faL ks zs) = true
  | [], zs, h1, h2, h3 => ⟨rfl, rfl, h1⟩
  | k :: r, zs, h1, h2, h3 => by
    obtain ⟨e1, e2⟩ := faro_perf (q := zs) (x := k) h1 h2
    have hk := h3 k (List.mem_cons_self ..)
    obtain ⟨p1, p2, _⟩ := sz_parts h2
    obtain ⟨e3, e4⟩ := faro_len (q := zs) (k := k.toNat) (by omega) (by omega) (by omega) h1
    obtain ⟨q1, q2, q3⟩ := all_faros r (faroL zs k.toNat) e4 (by rw [e3]; exact h2) (fun x hx => h3 x (List.mem_cons_of_mem _ hx))
    refine ⟨?_, by rw [← e3]; exact q2, q3⟩
    show allGo ((4, k) :: mvs r) zs = _
    rw [allGo]
    dsimp only
    rw [e1, decide_eq_true hk, if_pos rfl, e2 hk]
    exact q1
theorem run_yes {ks zs : List Int} (h1 : okB zs = true) (h2 : szB zs.length = true) (h3 : ∀ k ∈ ks, 0 ≤ k ∧ k ≤ 1) (h4 : ks.length ≤ 20) : frB zs ks = true ∧ frF zs ks = faL ks zs ∧ (faL ks zs).length = zs.length := by
  obtain ⟨e1, e2⟩ := fr_is (zs := zs) (ks := ks) h2
  obtain ⟨q1, q2, q3⟩ := all_faros ks zs h1 h2 h3
  obtain ⟨a1, a2⟩ := all_at (ms := mvs ks) h1 (by rw [mvs_len]; exact h4) q1
  exact ⟨e1.trans a1, e2.trans a2, q2⟩
/-- an element behind a list of shuffles -/
theorem run_get (ks zs : List Int) (i : Nat) (hi : i < (faL ks zs).length) : (faL ks zs).getD i 0 = zs.getD ((faL ks (List.range zs.length)).getD i 0) 0 := by
  have e : faL ks zs = (faL ks (List.range zs.length)).map fun j => zs.getD j 0 := by rw [← faL_map, ← as_range]
  have hi2 : i < (faL ks (List.range zs.length)).length := by rw [e, List.length_map] at hi; exact hi
  rw [e]
  simp [List.getD_eq_getElem?_getD, List.getElem?_map, List.getElem?_eq_getElem hi2]
theorem top_chk : ([2, 4, 6, 8, 10, 12].all fun n => (List.range n).all fun a => (faL (bhi a 0) (List.range n)).getD a 1 == 0) = true := by kernel_rfl
theorem dig_chk : ((List.range 12).all fun a => (bhi a 0).all fun k => decide (0 ≤ k ∧ k ≤ 1)) = true := by kernel_rfl
theorem evn {n : Nat} (h1 : 2 ≤ n) (h2 : n ≤ 12) (h3 : n % 2 = 0) : n ∈ [2, 4, 6, 8, 10, 12] := by
  have : n = 2 ∨ n = 4 ∨ n = 6 ∨ n = 8 ∨ n = 10 ∨ n = 12 := by omega
  rcases this with rfl | rfl | rfl | rfl | rfl | rfl <;> decide
theorem top_at {n a : Nat} {zs : List Int} (h1 : 2 ≤ n) (h2 : n ≤ 12) (h3 : n % 2 = 0) (ha : a < n) (hl : zs.length = n) (hok : okB zs = true) :
    toB n a = true ∧ toF n a = bhi a 0 ∧ (bhi a 0).length ≤ 4 ∧ frB zs (bhi a 0) = true ∧ (frF zs (bhi a 0)).length = n ∧ (frF zs (bhi a 0)).getD a 0 = zs.getD 0 0 := by
  have hs : szB (n : Int) = true := decide_eq_true (by omega)
  have hb : toB (n : Int) (a : Int) = true := by unfold toB; rw [hs]; exact decide_eq_true (by omega)
  have h4 : (bhi a 0).length ≤ 4 := by rw [bhi_len]; have := blen_le a; omega
  have hd : ∀ k ∈ bhi a 0, 0 ≤ k ∧ k ≤ 1 := fun k hk => of_decide_eq_true (List.all_eq_true.1 (List.all_eq_true.1 dig_chk a (List.mem_range.2 (by omega))) k hk)
  obtain ⟨q1, q2, q3⟩ := run_yes (ks := bhi a 0) hok (by rw [hl]; exact hs) hd (by omega)
  refine ⟨hb, toF_yes hb, h4, q1, by rw [q2, q3, hl], ?_⟩
  rw [q2, run_get _ _ _ (by rw [q3]; omega), hl]
  have ht := List.all_eq_true.1 (List.all_eq_true.1 top_chk n (evn h1 h2 h3)) a (List.mem_range.2 ha)
  have e : (faL (bhi a 0) (List.range n)).length = n := by
    have h := congrArg List.length (show faL (bhi a 0) zs = (faL (bhi a 0) (List.range zs.length)).map fun j => zs.getD j 0 by rw [← faL_map, ← as_range])
    rw [q3, List.length_map, hl] at h
    exact h.symm
  have h0 : (faL (bhi a 0) (List.range n)).getD a 0 = 0 := by
    have ha2 : a < (faL (bhi a 0) (List.range n)).length := by omega
    rw [List.getD_eq_getElem?_getD, List.getElem?_eq_getElem ha2] at ht ⊢
    exact eq_of_beq ht
  rw [h0]
theorem fro_chk : (([2, 4, 6, 8, 10, 12] : List Nat).all fun n => ((List.range 2).all fun k => cenB (pomF (n : Int) 4 (k : Int)) && decide (1 ≤ ordF (pomF (n : Int) 4 (k : Int))) && decide (ordF (pomF (n : Int) 4 (k : Int)) ≤ 1000)) && (n == 12 || ordF (pomF ((n : Int) + 2) 4 0) == ordF (pomF (n : Int) 4 1))) = true := by kernel_rfl
theorem fro_at {n k : Nat} (h1 : 2 ≤ n) (h2 : n ≤ 12) (h3 : n % 2 = 0) (hk : k ≤ 1) :
    fpB n k = true ∧ fpF n k = pomF n 4 k ∧ (pomF (n : Int) 4 (k : Int)).length = n ∧ permB (pomF (n : Int) 4 (k : Int)) = true ∧ foF n k = ordF (pomF n 4 k) ∧ 1 ≤ ordF (pomF n 4 k) ∧ ordF (pomF (n : Int) 4 (k : Int)) ≤ 1000 ∧ cenB (pomF (n : Int) 4 (k : Int)) = true ∧
      powB (pomF n 4 k) (ordF (pomF (n : Int) 4 (k : Int)) : Nat) = true ∧ powF (pomF n 4 k) (ordF (pomF (n : Int) 4 (k : Int)) : Nat) = imarks 0 n := by
  have hs : szB (n : Int) = true := decide_eq_true (by omega)
  have hb : fpB (n : Int) (k : Int) = true := by unfold fpB; rw [hs, mv_k hs, decide_eq_true (by omega)]; rfl
  obtain ⟨p1, p2⟩ := pom_good (n := n) (k := k) (by omega) h2 hk
  have hc := List.all_eq_true.1 fro_chk n (evn h1 h2 h3)
  rw [Bool.and_eq_true] at hc
  have hc2 := List.all_eq_true.1 hc.1 k (List.mem_range.2 (by omega))
  simp only [Bool.and_eq_true, decide_eq_true_eq] at hc2
  obtain ⟨⟨c1, c2⟩, c3⟩ := hc2
  have hpb : powB (pomF n 4 k) (ordF (pomF (n : Int) 4 (k : Int)) : Nat) = true := by unfold powB; rw [p1]; exact decide_eq_true (by omega)
  exact ⟨hb, fpF_yes hb, p2, p1, foF_yes hb, c2, c3, c1, hpb, by rw [powF_yes hpb]; exact law_pow p1 p2⟩
theorem fro_next {n : Nat} (h1 : 2 ≤ n) (h2 : n < 12) (h3 : n % 2 = 0) : foF ((n : Int) + 2) 0 = foF n 1 := by
  have hc := List.all_eq_true.1 fro_chk n (evn h1 (by omega) h3)
  rw [Bool.and_eq_true] at hc
  have hc2 := hc.2
  simp only [Bool.or_eq_true, beq_iff_eq] at hc2
  have e1 := (fro_at (n := n) (k := 1) h1 (by omega) h3 (by omega)).2.2.2.2.1
  have e2 := (fro_at (n := n + 2) (k := 0) (by omega) (by omega) (by omega) (by omega)).2.2.2.2.1
  rcases hc2 with hc2 | hc2
  · omega
  · have e3 : (((n + 2 : Nat) : Int)) = (n : Int) + 2 := by omega
    rw [e3] at e2
    exact (e2.trans hc2).trans e1.symm
end Go.Proofs.Ytpbpgpccjabghaa.Ffx
