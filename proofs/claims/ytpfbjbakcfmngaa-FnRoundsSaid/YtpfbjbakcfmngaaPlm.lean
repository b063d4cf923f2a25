/- How the laws draw numbers of cards and piles (MakePiles). -/
import Derived.Test.YtpfbjbakcfmngaaMkp
import Derived.Test.YtpfbjbakcfmngaaPlk
set_option linter.unusedVariables false
set_option maxRecDepth 20000
namespace Go.Proofs.Ytpfbjbakcfmngaa.Plm
open Go.RowKit Fr _root_.Go.Proofs.Ytpfbjbakcfmngaa.Own Pk Ins Pok Prm Rws Pfn Cur

def PilesMade (w : World) (e : Ending) (w' : World) : Prop := ∃ N M : Nat, e = .returned (.tuple #[.int .i64 (N : Int), .int .i64 (M : Int)]) ∧ (M = 2 ∨ M = 3 ∨ M = 4) ∧ M ≤ N ∧ N ≤ 12 ∧ N % M = 0 ∧ Below w.heap.size w w'
set_option maxHeartbeats 1000000 in
theorem make_piles (A : Option Addr) (n cap : Nat) (w : World) (hn : n ≤ 1048576) (hbytes : BytesAt w w.heap.size A n) :
    Calls Try.prog 13 #[.slice A n cap] w (PilesMade w) := by
  go_enter Try.func13, Try.ntmps13
  go_wp2_with fail
  refine (new_any A n cap _ hn hbytes).mono ?_
  rintro e w1 ⟨c, rfl, hc, hcur, hb⟩
  go_wp2_with fail
  refine (below_any w.heap.size c A n cap 3 _ (by omega) (by omega) hn hc hcur (hbytes.below hb)).mono ?_
  rintro e w2 ⟨x, rfl, hx0, hx1, hcur2, ho2⟩
  have hb2 := hb.trans (ho2.below hc)
  obtain ⟨x, rfl⟩ := Int.eq_ofNat_of_zero_le hx0
  rcases (show x = 0 ∨ x = 1 ∨ x = 2 by omega) with rfl | rfl | rfl
  · go_wp2_with fail
    refine (below_any w.heap.size c A n cap 6 _ (by omega) (by omega) hn hc hcur2 (hbytes.below hb2)).mono ?_
    rintro e w3 ⟨y, rfl, hy0, hy1, hcur3, ho3⟩
    have hb3 := hb2.trans (ho3.below hc)
    obtain ⟨y, rfl⟩ := Int.eq_ofNat_of_zero_le hy0
    go_wp2
    go_ret2
    exact ⟨2 * (1 + y), 2, by simp, by omega, by omega, by omega, by omega, hb3⟩
  · go_wp2_with fail
    refine (below_any w.heap.size c A n cap 4 _ (by omega) (by omega) hn hc hcur2 (hbytes.below hb2)).mono ?_
    rintro e w3 ⟨y, rfl, hy0, hy1, hcur3, ho3⟩
    have hb3 := hb2.trans (ho3.below hc)
    obtain ⟨y, rfl⟩ := Int.eq_ofNat_of_zero_le hy0
    go_wp2
    go_ret2
    exact ⟨3 * (1 + y), 3, by simp, by omega, by omega, by omega, by omega, hb3⟩
  · go_wp2_with fail
    refine (below_any w.heap.size c A n cap 3 _ (by omega) (by omega) hn hc hcur2 (hbytes.below hb2)).mono ?_
    rintro e w3 ⟨y, rfl, hy0, hy1, hcur3, ho3⟩
    have hb3 := hb2.trans (ho3.below hc)
    obtain ⟨y, rfl⟩ := Int.eq_ofNat_of_zero_le hy0
    go_wp2
    go_ret2
    exact ⟨4 * (1 + y), 4, by simp, by omega, by omega, by omega, by omega, hb3⟩
end Go.Proofs.Ytpfbjbakcfmngaa.Plm
