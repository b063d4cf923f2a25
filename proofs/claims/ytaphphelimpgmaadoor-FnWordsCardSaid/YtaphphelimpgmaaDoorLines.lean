/- The contracts of the two functions SplitLines. -/
import Derived.Test.YtaphphelimpgmaaDoorSplit
set_option linter.unusedVariables false
namespace Go.Proofs.YtaphphelimpgmaaDoor.Lin
open Go.RowKit Fr Own Spl

def nl : ByteArray := ⟨#[10]⟩
def lines (s : ByteArray) : List ByteArray :=
  if (s.extract (splitTo s nl s.size).2 s.size).toList.isEmpty then (splitTo s nl s.size).1 else parts s nl

theorem lines_len (s : ByteArray) : (lines s).length ≤ s.size + 1 := by
  have h := splitTo_len s nl s.size
  have h2 := parts_len s nl
  unfold lines
  split <;> omega


set_option maxHeartbeats 1000000 in
theorem impl_any (s : ByteArray) (w : World) (hs : s.size ≤ 1048576) :
    Calls Tryd.prog 13 #[.string s] w (IsParts w.heap.size (lines s) w) := by
  have hp : parts s nl = (splitTo s nl s.size).1 ++ [s.extract (splitTo s nl s.size).2 s.size] := rfl
  have hl := (splitTo_len s nl s.size).1
  have hnl : nl.size ≤ 1048576 := by decide
  by_cases he : (s.extract (splitTo s nl s.size).2 s.size).toList.isEmpty = true
  · have hln : lines s = (splitTo s nl s.size).1 := by unfold lines; rw [if_pos he]
    generalize s.extract (splitTo s nl s.size).2 s.size = y at hp he
    generalize (splitTo s nl s.size).1 = l0 at hp hl hln
    have hpl : (parts s nl).length = l0.length + 1 := by rw [hp]; simp
    have HP := Lib.hid hp
    have HL := Lib.hid hln
    have HPL := Lib.hid hpl
    clear hp hln hpl
    go_enter Tryd.func13, Tryd.ntmps13
    go_wp2_with fail
    refine (Spl.impl_any s nl _ hs hnl).mono ?_
    rintro e w1 ⟨g, c, rfl, hown, hb1⟩
    rw [HPL.out] at hown
    rw [HPL.out]
    rw [HP.out, List.map_append, List.map_cons, List.map_nil] at hown
    have hc : w1.cell? ⟨g, l0.length, none⟩ = some (.string y) := by
      rw [hown.cellAt l0.length (by omega)]
      rw [List.getElem?_append_right (by simp)]
      simp
    have hown2 := own_init hown
    have hcap : l0.length + 1 ≤ c := by
      rcases hown.2 with ⟨h2, _⟩ | ⟨g', cap, cur, hv, _, _, h3, _⟩
      · simp at h2
      · simp only [Value.slice.injEq, Option.some.injEq, Addr.mk.injEq, and_true, true_and] at hv
        omega
    have HO := Lib.hid hown2
    clear hown hown2
    go_wp2
    go_ret
    exact ⟨g, c, by rw [HL.out]; rfl, by rw [HL.out]; exact HO.out, hb1⟩
  · have he' : (s.extract (splitTo s nl s.size).2 s.size).toList.isEmpty = false := Bool.eq_false_iff.2 he
    have hln : lines s = parts s nl := by unfold lines; rw [if_neg he]
    generalize s.extract (splitTo s nl s.size).2 s.size = y at hp he'
    generalize (splitTo s nl s.size).1 = l0 at hp hl
    have hpl : (parts s nl).length = l0.length + 1 := by rw [hp]; simp
    have HP := Lib.hid hp
    have HL := Lib.hid hln
    have HPL := Lib.hid hpl
    clear hp hln hpl he
    go_enter Tryd.func13, Tryd.ntmps13
    go_wp2_with fail
    refine (Spl.impl_any s nl _ hs hnl).mono ?_
    rintro e w1 ⟨g, c, rfl, hown, hb1⟩
    have HO := Lib.hid hown
    rw [HPL.out] at hown
    rw [HPL.out]
    rw [HP.out, List.map_append, List.map_cons, List.map_nil] at hown
    have hc : w1.cell? ⟨g, l0.length, none⟩ = some (.string y) := by
      rw [hown.cellAt l0.length (by omega)]
      rw [List.getElem?_append_right (by simp)]
      simp
    clear hown
    go_wp2
    go_ret
    exact ⟨g, c, by rw [HL.out, HPL.out]; rfl, by rw [HL.out]; exact HO.out, hb1⟩

end Go.Proofs.YtaphphelimpgmaaDoor.Lin
