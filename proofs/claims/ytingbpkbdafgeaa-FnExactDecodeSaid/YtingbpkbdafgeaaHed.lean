/- Encode and Decode of both sides for a copied code. -/
import Derived.Test.YtingbpkbdafgeaaHde
set_option linter.unusedVariables false
set_option maxRecDepth 20000
namespace Go.Proofs.Ytingbpkbdafgeaa.Hed
open Go.RowKit Fr _root_.Go.Proofs.Ytingbpkbdafgeaa.Own Pk Ins Rws Srt Sst Fnd Hix Hco Hcp Hcf Cde Hen Hde

theorem fits_i {lo hi : Nat} {l2 : List RD} {A A2 : Option Addr} {n c m c2 : Nat} {rs r2 : List RD} {w : World} (hr : CR w lo hi A n c rs A2 m c2 r2) (hy : r2.map RD.zs = l2.map RD.zs) (hf : ∀ q ∈ l2.map RD.zs, Fits q) (i : Nat) (hi : i < m) : Fits (r2.getD i rd0).zs := by
  obtain ⟨mid, q1, q2, _⟩ := hr
  refine hf _ ?_
  rw [← hy, List.getD_eq_getElem?_getD, List.getElem?_eq_getElem (by rw [q2.len]; exact hi)]
  exact List.mem_map.2 ⟨_, List.getElem_mem _, rfl⟩
theorem impl_enc {lo hi : Nat} {ls l2 : List RD} (D : Int) (A : Option Addr) (n c : Nat) (A2 : Option Addr) (m c2 : Nat) (rs r2 : List RD) (Ah : Option Addr) (nh ch : Nat) (h : List Int) (w : World) (h1 : -9223372036854775808 ≤ D) (h2 : D ≤ 9223372036854775807) (hr : CR w lo hi A n c rs A2 m c2 r2) (hz : rs.map RD.zs = ls.map RD.zs) (hy : r2.map RD.zs = l2.map RD.zs) (hc : ∀ i, i < m → (r2.getD i rd0).zs.length ≤ (r2.getD i rd0).c)     (hb1 : Big.BigSS (ls.map RD.zs)) (hb2 : Big.BigSS (l2.map RD.zs)) (hf : ∀ q ∈ l2.map RD.zs, Fits q) (hn : n ≤ 1048576) (hm : m ≤ c2) (hm3 : m ≤ 1048576) (hh : h.length = nh) (hh2 : nh ≤ 1048576) (hat : IntsAt w w.heap.size .i64 Ah h) : Calls Try.prog 19 #[coV D A n c A2 m c2, .slice Ah nh ch] w (Pfn.IsILB w.heap.size (encV D (ls.map RD.zs) (l2.map RD.zs) h) (encB D (ls.map RD.zs) (l2.map RD.zs) h) w) := by
  have hfi := fun i hi => fits_i hr hy hf i hi
  rw [← hz, ← hy]
  exact Hen.impl_enc D A n c A2 m c2 rs r2 Ah nh ch h w h1 h2 hr (fun i _ => Big.big_len hz hb1 i) (fun i hi => ⟨Big.big_len hy hb2 i, hfi i hi⟩) hn hh hh2 hat
theorem spec_enc {lo hi : Nat} {ls l2 : List RD} (D : Int) (A : Option Addr) (n c : Nat) (A2 : Option Addr) (m c2 : Nat) (rs r2 : List RD) (Ah : Option Addr) (nh ch : Nat) (h : List Int) (w : World) (h1 : -9223372036854775808 ≤ D) (h2 : D ≤ 9223372036854775807) (hr : CR w lo hi A n c rs A2 m c2 r2) (hz : rs.map RD.zs = ls.map RD.zs) (hy : r2.map RD.zs = l2.map RD.zs) (hc : ∀ i, i < m → (r2.getD i rd0).zs.length ≤ (r2.getD i rd0).c)     (hb1 : Big.BigSS (ls.map RD.zs)) (hb2 : Big.BigSS (l2.map RD.zs)) (hf : ∀ q ∈ l2.map RD.zs, Fits q) (hn : n ≤ 1048576) (hm : m ≤ c2) (hm3 : m ≤ 1048576) (hh : h.length = nh) (hh2 : nh ≤ 1048576) (hat : IntsAt w w.heap.size .i64 Ah h) : Calls Try.prog 35 #[coV D A n c A2 m c2, .slice Ah nh ch] w (Pfn.IsILB w.heap.size (encV D (ls.map RD.zs) (l2.map RD.zs) h) (encB D (ls.map RD.zs) (l2.map RD.zs) h) w) := by
  rw [← hz, ← hy]
  exact Hen.spec_enc D A n c A2 m c2 rs r2 Ah nh ch h w h1 h2 hr (fun i _ => Big.big_len hz hb1 i) (fun i hi => ⟨Big.big_len hy hb2 i, hc i hi⟩) hm hn hh hh2 hat
theorem impl_dec {lo hi : Nat} {ls l2 : List RD} (D : Int) (A : Option Addr) (n c : Nat) (A2 : Option Addr) (m c2 : Nat) (rs r2 : List RD) (Ah : Option Addr) (nh ch : Nat) (h : List Int) (w : World) (h1 : -9223372036854775808 ≤ D) (h2 : D ≤ 9223372036854775807) (hr : CR w lo hi A n c rs A2 m c2 r2) (hz : rs.map RD.zs = ls.map RD.zs) (hy : r2.map RD.zs = l2.map RD.zs) (hc : ∀ i, i < m → (r2.getD i rd0).zs.length ≤ (r2.getD i rd0).c)     (hb1 : Big.BigSS (ls.map RD.zs)) (hb2 : Big.BigSS (l2.map RD.zs)) (hf : ∀ q ∈ l2.map RD.zs, Fits q) (hn : n ≤ 1048576) (hm : m ≤ c2) (hm3 : m ≤ 1048576) (hh : h.length = nh) (hh2 : nh ≤ 1048576) (hat : IntsAt w w.heap.size .i64 Ah h) : Calls Try.prog 20 #[coV D A n c A2 m c2, .slice Ah nh ch] w (IsTB (decI D (ls.map RD.zs) (l2.map RD.zs) h) (decB D (ls.map RD.zs) (l2.map RD.zs) h) w) := by
  have hfi := fun i hi => fits_i hr hy hf i hi
  rw [← hz, ← hy]
  exact Hde.impl_dec D A n c A2 m c2 rs r2 Ah nh ch h w h1 h2 hr (fun i _ => Big.big_len hz hb1 i) (fun i hi => ⟨Big.big_len hy hb2 i, hfi i hi⟩) hn hm3 hh hh2 hat
theorem spec_dec {lo hi : Nat} {ls l2 : List RD} (D : Int) (A : Option Addr) (n c : Nat) (A2 : Option Addr) (m c2 : Nat) (rs r2 : List RD) (Ah : Option Addr) (nh ch : Nat) (h : List Int) (w : World) (h1 : -9223372036854775808 ≤ D) (h2 : D ≤ 9223372036854775807) (hr : CR w lo hi A n c rs A2 m c2 r2) (hz : rs.map RD.zs = ls.map RD.zs) (hy : r2.map RD.zs = l2.map RD.zs) (hc : ∀ i, i < m → (r2.getD i rd0).zs.length ≤ (r2.getD i rd0).c)     (hb1 : Big.BigSS (ls.map RD.zs)) (hb2 : Big.BigSS (l2.map RD.zs)) (hf : ∀ q ∈ l2.map RD.zs, Fits q) (hn : n ≤ 1048576) (hm : m ≤ c2) (hm3 : m ≤ 1048576) (hh : h.length = nh) (hh2 : nh ≤ 1048576) (hat : IntsAt w w.heap.size .i64 Ah h) : Calls Try.prog 40 #[coV D A n c A2 m c2, .slice Ah nh ch] w (IsTB (decI D (ls.map RD.zs) (l2.map RD.zs) h) (decB D (ls.map RD.zs) (l2.map RD.zs) h) w) := by
  rw [← hz, ← hy]
  exact Hde.spec_dec D A n c A2 m c2 rs r2 Ah nh ch h w h1 h2 hr (fun i _ => Big.big_len hz hb1 i) (fun i hi => ⟨Big.big_len hy hb2 i, hc i hi⟩) hm hn hm3 hh hh2 hat
end Go.Proofs.Ytingbpkbdafgeaa.Hed
