/- GatherPiles in laws: what the lists of an argument are. -/
import Derived.Test.YtpfbjbakcfmngaaGas
import Derived.Test.YtpfbjbakcfmngaaBig
set_option linter.unusedVariables false
set_option maxRecDepth 20000
namespace Go.Proofs.Ytpfbjbakcfmngaa.Gaw
open Go.RowKit Fr _root_.Go.Proofs.Ytpfbjbakcfmngaa.Own Ins Rws

theorem big_each {zss : List (List Int)} (h : Big.BigSS zss) : ∀ l ∈ zss, l.length ≤ 1048576 := Big.big_lens h
theorem wf_fits {ls : List RD} (h : Sst.WfSS ls) : ∀ l ∈ ls.map RD.zs, Fits l := by
  intro l hl
  obtain ⟨i, hi, e⟩ := List.mem_iff_getElem.1 hl
  rw [List.length_map] at hi
  have := (h i hi).2
  rw [List.getD_eq_getElem?_getD, List.getElem?_eq_getElem hi] at this
  rw [← e, List.getElem_map]
  exact this
end Go.Proofs.Ytpfbjbakcfmngaa.Gaw
