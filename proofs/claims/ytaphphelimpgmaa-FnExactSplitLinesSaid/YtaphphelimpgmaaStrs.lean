/- What the laws' helpers over lists of strings do: szStringS, toStringS, eqStringS; and the two functions Join. -/
import Derived.Test.YtaphphelimpgmaaJoinParts
import Derived.BigQuiet
import Derived.Deep.QuietTactic
set_option linter.unusedVariables false
namespace Go.Proofs.Ytaphphelimpgmaa.Str
open Go.RowKit Joi Fr

theorem len_size (s : ByteArray) : s.data.toList.length = s.size := Array.length_toList

/-- the bytes of the first k strings -/
def sumTo (ss : List ByteArray) : Nat → Nat
  | 0 => 0
  | k + 1 => sumTo ss k + (ss.getD k ByteArray.empty).size
theorem sumTo_le (ss : List ByteArray) (j k : Nat) (h : j ≤ k) : sumTo ss j ≤ sumTo ss k := by
  induction k with
  | zero => obtain rfl : j = 0 := by omega
            exact Nat.le_refl _
  | succ k ih =>
    by_cases e : j = k + 1
    · subst e; exact Nat.le_refl _
    · have := ih (by omega)
      simp only [sumTo]
      omega
def szRes (ss : List ByteArray) (left : Int) : Int := if (ss.length : Int) + sumTo ss ss.length ≤ left then left - ss.length - sumTo ss ss.length else -1

theorem getD_map (ss : List ByteArray) (k : Nat) (h : k < ss.length) : (ss.map Value.string)[k]? = some (.string (ss.getD k ByteArray.empty)) := by
  simp [List.getElem?_map, List.getElem?_eq_getElem h]

/-- a row of the call's own reads as its list -/
theorem own_strs {w : World} {base g n cap : Nat} {ss : List ByteArray} (h : w.ownsRow base 9 1 (.slice (some ⟨g, 0, none⟩) n cap) n (ss.map Value.string)) : StrsAt w (g + 1) (some ⟨g, 0, none⟩) ss := by
  intro k hk
  have hl : ss.length = n := by simpa using h.1
  exact ⟨g, 0, rfl, by omega, by rw [Nat.zero_add, h.cellAt k (by omega)]; exact getD_map ss k hk⟩

set_option maxHeartbeats 1000000 in
theorem sz_any (A : Option Addr) (n c : Nat) (ss : List ByteArray) (left : Int) (w : World) (hn : ss.length = n) (hn2 : n ≤ 9223372036854775807) (hl : left ≤ 1048576) (hl0 : 0 ≤ left)
    (hsz : ∀ s ∈ ss, s.size ≤ maxLen) (hss : StrsAt w w.heap.size A ss) :
    Calls Try.prog 20 #[.slice A n c, .int .i64 left] w fun e w' => e = .returned (.int .i64 (szRes ss left)) ∧ w = w' := by
  have HN := Lib.hid hn
  clear hn
  by_cases h0 : left < (n : Int)
  · have hr : szRes ss left = -1 := by rw [szRes, if_neg (by rw [HN.out]; omega)]
    have HR := Lib.hid hr
    clear hr
    go_enter Try.func20, Try.ntmps20
    go_wp2
    go_ret
    exact ⟨by rw [HR.out]; rfl, rfl⟩
  · have h0' : decide (left - (n : Int) < 0) = false := decide_eq_false (by omega)
    go_enter Try.func20, Try.ntmps20
    go_wp2
    go_loop [1, 5] (fun l i => ∃ k : Nat, k ≤ n ∧ i = .int .i64 k ∧ ∃ t : Int, 0 ≤ t ∧ Hid (t = left - n - sumTo ss k) ∧ l = .int .i64 t) (fun _ i => n - (intOf i).toNat)
    case atStart => exact ⟨0, Nat.zero_le _, rfl, left - n, by omega, by simp [Hid, sumTo], rfl⟩
    case round =>
      obtain ⟨k, hk, rfl, t, ht0, HT, rfl⟩ := hrel
      by_cases hlt : k < n
      · obtain ⟨b, o, rfl, hbb, hc⟩ := hss k (by rw [HN.out]; exact hlt)
        have hs1 : sumTo ss (k + 1) = sumTo ss k + (ss.getD k ByteArray.empty).size := rfl
        have hmx : (ss.getD k ByteArray.empty).size ≤ maxLen := by
          rw [List.getD_eq_getElem?_getD, List.getElem?_eq_getElem (by rw [HN.out]; exact hlt)]
          exact hsz _ (List.getElem_mem _)
        unfold maxLen at hmx
        generalize ss.getD k ByteArray.empty = x at hs1 hc hmx
        have htl : t ≤ 1048576 := by have := HT.out; omega
        by_cases hx : t < x.size
        · have hle := sumTo_le ss (k + 1) n (by omega)
          have hr : szRes ss left = -1 := by
            rw [szRes, if_neg (by rw [HN.out]; have := HT.out; omega)]
          have HR := Lib.hid hr
          clear hr hs1 hle
          have h9 : decide (t - (x.size : Int) < 0) = true := decide_eq_true (by omega)
          go_wp2
          go_ret
          exact ⟨by rw [HR.out]; rfl, rfl⟩
        · have HS := Lib.hid hs1
          clear hs1
          have h9 : decide (t - (x.size : Int) < 0) = false := decide_eq_false (by omega)
          go_wp2
          go_round
          case rel =>
            have h3 := HS.out
            have h4 := HT.out
            refine ⟨k + 1, by omega, by go_num, _, ?_, ?_, rfl⟩
            · omega
            · show t - (x.size : Int) = _
              omega
          case measure => simp [intOf]; omega
      · have hkn : k = n := by omega
        have hr : szRes ss left = t := by
          have h4 := HT.out
          rw [szRes, HN.out, ← hkn, if_pos (by omega)]
          omega
        have HR := Lib.hid hr
        clear hr hkn
        go_wp2
        go_ret
        exact ⟨by rw [HR.out]; rfl, rfl⟩

theorem infoString : (Try.prog.info? 9).map (fun i => (i.zero, i.size, i.bytes)) = some (some (.string ⟨#[]⟩), 1, 16) := by kernel_rfl

/-- what the copy holds after k rounds -/
def copied (ss : List ByteArray) (n k : Nat) : List Value := (ss.take k).map Value.string ++ List.replicate (n - k) (.string ⟨#[]⟩)
theorem copied_all (ss : List ByteArray) (n : Nat) (h : ss.length = n) : copied ss n n = ss.map Value.string := by
  unfold copied
  rw [Nat.sub_self, List.replicate_zero, List.append_nil, List.take_of_length_le (by omega)]
theorem copied_next (ss : List ByteArray) (n k : Nat) (h : ss.length = n) (hk : k < n) : (copied ss n k).set k (.string (ss.getD k ByteArray.empty)) = copied ss n (k + 1) := by
  have hl : ((ss.take k).map Value.string).length = k := by simp; omega
  unfold copied
  rw [List.set_append_right (h := by omega), hl, Nat.sub_self]
  obtain ⟨m, hm⟩ : ∃ m, n - k = m + 1 := ⟨n - k - 1, by omega⟩
  rw [hm, List.replicate_succ, List.set_cons_zero, show n - (k + 1) = m from by omega, List.take_succ_eq_append_getElem (show k < ss.length by omega)]
  simp only [List.map_append, List.map_cons, List.map_nil, List.append_assoc, List.cons_append, List.nil_append, List.getD_eq_getElem?_getD, List.getElem?_eq_getElem (show k < ss.length by omega), Option.getD_some]

def IsCopy (B : Nat) (n : Nat) (ss : List ByteArray) (w : World) (e : Ending) (w' : World) : Prop :=
  ∃ g, e = .returned (.slice (some ⟨g, 0, none⟩) n n) ∧ B ≤ g ∧ w'.ownsRow B 9 1 (.slice (some ⟨g, 0, none⟩) n n) n (ss.map Value.string) ∧ Below B w w'

set_option maxHeartbeats 1000000 in
theorem to_any (A : Option Addr) (n c : Nat) (ss : List ByteArray) (w : World) (hn : ss.length = n) (hn2 : n ≤ 1048576) (hss : StrsAt w w.heap.size A ss) :
    Calls Try.prog 22 #[.slice A n c] w (IsCopy w.heap.size n ss w) := by
  have HN := Lib.hid hn
  clear hn
  obtain ⟨i0, hi, hz0, hz1, hz2⟩ := info_parts infoString
  go_enter Try.func22, Try.ntmps22
  go_wp2_with (refine wpList_make_full _ rfl (.tmp 6) (.tmp 6) 23 rfl w.heap.size 9 i0 (.string ⟨#[]⟩) 1 Try.underlying23 hi hz0 hz1 .i64 .i64 n n n rfl rfl rfl rfl (by rw [hz2]; omega) (by unfold maxLen; omega) (Nat.le_refl _) ?_)
  intro w1 hown hgrow
  have hb0 : Below w.heap.size w w1 := (Below.refl _ w).grown hgrow (Nat.le_refl _) (fun k hk => by cases hk)
  have hown0 : w1.ownsRow w.heap.size 9 1 (.slice (some ⟨w.heap.size, 0, none⟩) n n) n (copied ss n 0) := by
    have e : (madeCells #[Value.string ⟨#[]⟩] n).toList = copied ss n 0 := by
      rw [toList_madeCells_one]
      rfl
    rw [← e]
    simpa using hown
  clear hown hgrow
  go_wp2
  go_loopw [4] (fun i wr => ∃ k : Nat, k ≤ n ∧ i = .int .i64 k ∧ wr.ownsRow w.heap.size 9 1 (.slice (some ⟨w.heap.size, 0, none⟩) n n) n (copied ss n k) ∧ Below w.heap.size w wr) (fun i _ => n - (intOf i).toNat)
  case atStart => exact ⟨0, Nat.zero_le _, rfl, hown0, hb0⟩
  case round =>
    obtain ⟨k, hk, rfl, hownk, hbk⟩ := hrel
    by_cases hlt : k < n
    · obtain ⟨b, o, rfl, hbb, hc⟩ := hss.below hbk k (by rw [HN.out]; exact hlt)
      have hnext := copied_next ss n k HN.out hlt
      generalize ss.getD k ByteArray.empty = x at hnext hc
      have hst := hownk.stored k (.string x)
      rw [hnext] at hst
      have hlen : (copied ss n k).length = n := by have := hownk.1; omega
      have hcell : wr.cell? ⟨w.heap.size, k, none⟩ = some ((copied ss n k)[k]'(by omega)) := by
        rw [hownk.cellAt k (by omega)]; exact List.getElem?_eq_getElem (by omega)
      have hfz := hownk.frozenAt k
      generalize (copied ss n k)[k]'(by omega) = old at hcell
      have hb2 := hbk.setCell (p := ⟨w.heap.size, k, none⟩) (Nat.le_refl _) (.string x)
      have HST := Lib.hid hst
      have HB2 := Lib.hid hb2
      clear hnext hst hlen hb2 hownk hbk
      go_wp2
      go_roundw
      case rel => exact ⟨k + 1, by omega, by go_num, HST.out.1, HB2.out⟩
      case measure => simp [intOf]; omega
    · have hkn : k = n := by omega
      rw [hkn, copied_all ss n HN.out] at hownk
      have HO := Lib.hid hownk
      clear hownk hkn
      go_wp2
      go_ret
      exact ⟨w.heap.size, rfl, Nat.le_refl _, HO.out, hbk⟩

set_option maxHeartbeats 1000000 in
theorem eq_same (A1 A2 : Option Addr) (n c1 c2 : Nat) (ss : List ByteArray) (w : World) (hn : ss.length = n) (hn2 : n ≤ 4194304) (h1 : StrsAt w w.heap.size A1 ss) (h2 : StrsAt w w.heap.size A2 ss) :
    Calls Try.prog 15 #[.slice A1 n c1, .slice A2 n c2] w fun e w' => e = .returned (.bool true) ∧ Below w.heap.size w w' := by
  have HN := Lib.hid hn
  clear hn
  go_enter Try.func15, Try.ntmps15
  go_wp2
  go_loopw [5] (fun i wr => ∃ k : Nat, k ≤ n ∧ i = .int .i64 k ∧ ∃ d, wr = w.drewN d) (fun i _ => n - (intOf i).toNat)
  case atStart => exact ⟨0, Nat.zero_le _, rfl, 0, rfl⟩
  case round =>
    obtain ⟨k, hk, rfl, d, rfl⟩ := hrel
    by_cases hlt : k < n
    · obtain ⟨b1, o1, rfl, hbb1, hc1⟩ := h1 k (by rw [HN.out]; exact hlt)
      obtain ⟨b2, o2, rfl, hbb2, hc2⟩ := h2 k (by rw [HN.out]; exact hlt)
      generalize ss.getD k ByteArray.empty = x at hc1 hc2
      go_wp2
      go_quiet (fail)
      go_wp2
      go_roundw
      case rel => exact ⟨k + 1, by omega, by go_num, _, rfl⟩
      case measure => simp [intOf]; omega
    · go_wp2
      go_ret
      exact ⟨rfl, below_drewN (Below.refl _ w) d⟩

end Go.Proofs.Ytaphphelimpgmaa.Str
