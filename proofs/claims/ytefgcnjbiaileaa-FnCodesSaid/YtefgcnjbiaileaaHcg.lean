/- CodeOk of both sides for a copied code. -/
import Derived.Test.YtefgcnjbiaileaaHcf
import Derived.Test.YtefgcnjbiaileaaCde
set_option linter.unusedVariables false
set_option maxRecDepth 20000
namespace Go.Proofs.Ytefgcnjbiaileaa.Hcg
open Go.RowKit Fr _root_.Go.Proofs.Ytefgcnjbiaileaa.Own Pk Ins Rws Srt Sst Fnd Hco Hcp Hcf Cde

theorem impl_cok {lo hi : Nat} {ls l2 : List RD} (D : Int) (A : Option Addr) (n c : Nat) (A2 : Option Addr) (m c2 : Nat) (rs r2 : List RD) (w : World) (h1 : -9223372036854775808 ≤ D) (h2 : D ≤ 9223372036854775807) (h : CR w lo hi A n c rs A2 m c2 r2) (hz : rs.map RD.zs = ls.map RD.zs) (hy : r2.map RD.zs = l2.map RD.zs) (hc : ∀ i, i < m → (r2.getD i rd0).zs.length ≤ (r2.getD i rd0).c)
    (hb1 : Big.BigSS (ls.map RD.zs)) (hb2 : Big.BigSS (l2.map RD.zs)) (hf : ∀ q ∈ l2.map RD.zs, Fits q) (hn : n ≤ 1048576) (hm : m ≤ c2) :
    Calls Try.prog 10 #[coV D A n c A2 m c2] w fun e w' => e = .returned (.bool (codeB D (ls.map RD.zs) (l2.map RD.zs))) ∧ Below w.heap.size w w' := by
  obtain ⟨mid, r1, rr2, _⟩ := h
  have hfi : ∀ i, i < m → Fits (r2.getD i rd0).zs := fun i hi => by
    refine hf _ ?_
    rw [← hy, List.getD_eq_getElem?_getD, List.getElem?_eq_getElem (by rw [rr2.len]; exact hi)]
    exact List.mem_map.2 ⟨_, List.getElem_mem _, rfl⟩
  rw [← hz, ← hy]
  exact impl_code D A n c A2 m c2 rs r2 w h1 h2 r1.len rr2.len (ll_of_ss r1) (ll_of_ss rr2) (fun i _ => Big.big_len hz hb1 i) (fun i hi => ⟨Big.big_len hy hb2 i, hfi i hi⟩) hn
end Go.Proofs.Ytefgcnjbiaileaa.Hcg
