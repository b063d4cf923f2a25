/- NewPacket of the program and of the model: the numbers from 0 on in new memory, or nil. -/
import Derived.Test.YtefgcnjbiaileaaPkt
set_option linter.unusedVariables false
set_option maxRecDepth 20000
namespace Go.Proofs.Ytefgcnjbiaileaa.Nwp
open Go.RowKit Fr Own Pk Ins

/-- the cards from 0 up to n -/
def newF (n : Int) : List Int := if 0 ≤ n ∧ n ≤ 12 then imarks 0 n.toNat else []
theorem newF_yes (m : Nat) (h : m ≤ 12) : newF (m : Int) = imarks 0 m := by unfold newF; rw [if_pos (by omega)]; rfl
theorem newF_no (n : Int) (h : ¬ (0 ≤ n ∧ n ≤ 12)) : newF n = [] := by unfold newF; rw [if_neg h]
theorem newF_len (n : Int) : (newF n).length ≤ 1048576 := by
  unfold newF
  split
  · rw [imarks_length]; omega
  · simp
theorem imarks_snoc (k : Int) (n : Nat) : imarks k (n + 1) = imarks k n ++ [k + (n : Int)] := by simp [imarks, List.range_succ]

set_option maxHeartbeats 1000000 in
theorem impl_new (n : Int) (w : World) (h1 : -9223372036854775808 ≤ n) (h2 : n ≤ 9223372036854775807) :
    Calls Try.prog 20 #[.int .i64 n] w (IsIL w.heap.size (newF n) w) := by
  by_cases h : 0 ≤ n ∧ n ≤ 12
  · obtain ⟨m, rfl⟩ : ∃ m : Nat, n = m := ⟨n.toNat, by omega⟩
    have hm : m ≤ 12 := by omega
    obtain ⟨i0, hi, hz0, hz1, hz2⟩ := info_parts infoInt
    rw [newF_yes m hm]
    have HL := Lib.hid (imarks_length 0 m)
    clear h h1 h2
    go_enter Try.func20, Try.ntmps20
    go_wp2_with (refine wpList_make_full _ rfl (.tmp 11) (.tmp 11) 33 rfl w.heap.size 3 i0 (.int .i64 0) 1 Try.underlying33 hi hz0 hz1 .i64 .i64 m m m rfl rfl rfl rfl (by rw [hz2]; omega) (by unfold maxLen; omega) (Nat.le_refl _) ?_)
    intro w1 hown hgrow
    have hb0 : Below w.heap.size w w1 := (Below.refl _ w).grown hgrow (Nat.le_refl _) (fun k hk => by cases hk)
    have hown0 : w1.ownsRow w.heap.size 3 1 (.slice (some ⟨w.heap.size, 0, none⟩) m m) m (icopied (imarks 0 m) m 0) := by
      have e : (madeCells #[Value.int .i64 0] m).toList = icopied (imarks 0 m) m 0 := by
        rw [toList_madeCells_one]
        rfl
      rw [← e]
      simpa using hown
    clear hown hgrow
    go_wp2
    go_loopw [4, 15] (fun _ i wr => ∃ k : Nat, k ≤ m ∧ i = .int .i64 k ∧ wr.ownsRow w.heap.size 3 1 (.slice (some ⟨w.heap.size, 0, none⟩) m m) m (icopied (imarks 0 m) m k) ∧ Below w.heap.size w wr) (fun _ i _ => m - (intOf i).toNat)
    case atStart => exact ⟨0, Nat.zero_le _, rfl, hown0, hb0⟩
    case round =>
      obtain ⟨k, hk, rfl, hownk, hbk⟩ := hrel
      by_cases hlt : k < m
      · have hnext := icopied_next (imarks 0 m) m k HL.out hlt
        rw [imarks_get 0 m k hlt, Int.zero_add] at hnext
        have hst := hownk.stored k (.int .i64 (k : Int))
        rw [hnext] at hst
        have hlen : (icopied (imarks 0 m) m k).length = m := by have := hownk.1; omega
        have hcell : wr.cell? ⟨w.heap.size, k, none⟩ = some ((icopied (imarks 0 m) m k)[k]'(by omega)) := by
          rw [hownk.cellAt k (by omega)]; exact List.getElem?_eq_getElem (by omega)
        have hfz := hownk.frozenAt k
        generalize (icopied (imarks 0 m) m k)[k]'(by omega) = old at hcell
        have hb2 := hbk.setCell (p := ⟨w.heap.size, k, none⟩) (Nat.le_refl _) (.int .i64 (k : Int))
        have HST := Lib.hid hst
        have HB2 := Lib.hid hb2
        clear hnext hst hlen hb2 hownk hbk
        go_wp2
        go_roundw
        case rel => exact ⟨k + 1, by omega, by go_num, HST.out.1, HB2.out⟩
        case measure => simp [intOf]; omega
      · have hkn : k = m := by omega
        rw [hkn, icopied_all (imarks 0 m) m HL.out] at hownk
        have HO := Lib.hid hownk
        clear hownk hkn
        go_wp2
        go_ret
        exact ⟨_, m, by rw [HL.out]; rfl, by rw [HL.out]; exact HO.out, hbk⟩
  · rw [newF_no n h]
    by_cases h3 : n < 0
    · go_enter Try.func20, Try.ntmps20
      clear h
      go_wp2
      go_ret
      exact nil_il w _
    · have h4 : 12 < n := by omega
      go_enter Try.func20, Try.ntmps20
      clear h
      go_wp2
      go_ret
      exact nil_il w _

end Go.Proofs.Ytefgcnjbiaileaa.Nwp
