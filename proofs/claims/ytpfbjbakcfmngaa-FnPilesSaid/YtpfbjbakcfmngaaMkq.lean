/- How the laws draw a packet (l01Once, l02Draw, MakePacket). -/
import Derived.Test.YtpfbjbakcfmngaaMkp
import Derived.Test.YtpfbjbakcfmngaaMvp
set_option linter.unusedVariables false
set_option maxRecDepth 20000
namespace Go.Proofs.Ytpfbjbakcfmngaa.Mkq
open Go.RowKit Fr Own Pk Pok Ins Prm Pfn Rws Grp Cur Mkp Mvp

theorem perm_ok {zs : List Int} (h : permB zs = true) : okB zs = true := by
  obtain ⟨h12, hall⟩ := permB_yes h
  have hb : ∀ i, i < zs.length → 0 ≤ zs.getD i 0 ∧ zs.getD i 0 < (zs.length : Nat) := fun i hi => (hall i hi).1
  have hne : ∀ i j, i < j → j < zs.length → zs.getD i 0 ≠ zs.getD j 0 := by
    intro i j hij hj e
    apply (hall j hj).2
    rw [← e, List.getD_eq_getElem?_getD, List.getElem?_eq_getElem (by omega)]
    have hi : i < (zs.take j).length := by rw [List.length_take]; omega
    have e2 : (zs.take j)[i] = zs[i] := by rw [List.getElem_take]
    rw [Option.getD_some, ← e2]
    exact List.getElem_mem _
  refine ok_of h12 (fun i hi => ?_) (fun i j hi hj e => ?_)
  · have := hb i hi
    rw [cardF_down (by omega) (by omega)]; omega
  · have h1 := hb i hi
    have h2 := hb j hj
    rw [cardF_down (by omega) (by omega), cardF_down (by omega) (by omega)] at e
    rcases Nat.lt_trichotomy i j with hij | hij | hij
    · exact absurd e (hne i j hij hj)
    · exact hij
    · exact absurd e.symm (hne j i hij hi)
theorem flip_ok {zs : List Int} {i : Nat} (h : okB zs = true) (hi : i < zs.length) : okB (zs.set i (-1 - zs.getD i 0)) = true := by
  have hp := ok_parts h
  have hc := cardF_pos (hp.2.1 i hi)
  have e : -1 - zs.getD i 0 = turnF (zs.getD i 0) := by unfold turnF; rw [if_pos hc]
  rw [e]
  have hk : kOk 8 i zs.length = true := by unfold kOk; simp [hi]
  have hm := move_ok hk (by omega) h
  exact hm
end Go.Proofs.Ytpfbjbakcfmngaa.Mkq
