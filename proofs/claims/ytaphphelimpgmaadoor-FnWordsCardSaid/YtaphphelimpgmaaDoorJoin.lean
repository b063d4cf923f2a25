/- The contracts of the two functions Join. -/
import Derived.Test.YtaphphelimpgmaaDoorJoinParts
import Derived.Test.YtaphphelimpgmaaDoorOwn
set_option linter.unusedVariables false
namespace Go.Proofs.YtaphphelimpgmaaDoor.Jn
open Go.RowKit Joi Fr Own

theorem cat_mk (x y : List UInt8) (b : ByteArray) (h : b.data.toList = y) : (ByteArray.mk x.toArray ++ b) = ⟨(x ++ y).toArray⟩ := by
  rw [← h]
  obtain ⟨⟨l⟩⟩ := b
  exact ByteArray.mk_append_mk x l
theorem size_mk (l : List UInt8) : (ByteArray.mk l.toArray).size = l.length := by simp [ByteArray.size]


theorem impl_any (by_ : ByteArray) (A : Option Addr) (n c : Nat) (ss : List ByteArray) (w : World) (hn : ss.length = n) (hn2 : n ≤ 9223372036854775807)
    (hss : StrsAt w w.heap.size A ss) (hlen : (joinTo by_.data.toList ss n).length ≤ 70368744177664) :
    Calls Tryd.prog 10 #[.slice A n c, .string by_] w fun e w' => e = .returned (.string ⟨(joinTo by_.data.toList ss n).toArray⟩) ∧ Below w.heap.size w w' := by
  go_enter Tryd.func10, Tryd.ntmps10
  go_wp2_with fail
  refine (parts_any by_ A n c ss _ hn hn2 hss hlen).mono ?_
  rintro e w1 ⟨rfl, hb⟩
  go_wp2
  go_ret
  exact ⟨rfl, hb⟩

end Go.Proofs.YtaphphelimpgmaaDoor.Jn
