/- The contracts of the two functions PadZeros: leading zeros up to n bytes, for every string of at most 2^20 bytes and every int. -/
import Derived.Test.YtaphphelimpgmaaJoinParts
set_option linter.unusedVariables false
namespace Go.Proofs.Ytaphphelimpgmaa.Pad
open Go.RowKit

def pad (l : List UInt8) (n : Int) : List UInt8 := if 2000 < n then l else List.replicate (n - l.length).toNat 48 ++ l

theorem str_eta (s : ByteArray) : s = ⟨s.data.toList.toArray⟩ := by obtain ⟨⟨l⟩⟩ := s; rfl
theorem size_mk (l : List UInt8) : (ByteArray.mk l.toArray).size = l.length := by simp [ByteArray.size]
theorem len_size (s : ByteArray) : s.data.toList.length = s.size := Array.length_toList

def strSize : Value → Int | .string t => t.size | _ => 0
theorem strSize_mk (t : ByteArray) : strSize (.string t) = t.size := rfl
theorem one_zero (t : ByteArray) (l : List UInt8) (h : (⟨l.toArray⟩ : ByteArray) = t) : (ByteArray.mk #[48] ++ t) = ⟨(48 :: l).toArray⟩ := by
  rw [← h]
  exact ByteArray.mk_append_mk [48] l

set_option maxHeartbeats 400000 in
theorem spec_any (s : ByteArray) (n : Int) (w : World) (hs : s.size ≤ 1048576) (h0 : -9223372036854775808 ≤ n) (h1 : n ≤ 9223372036854775807) :
    Calls Try.prog 24 #[.string s, .int .i64 n] w fun e w' => e = .returned (.string ⟨(pad s.data.toList n).toArray⟩) ∧ w = w' := by
  by_cases hn : 2000 < n
  · have hp : s = ⟨(pad s.data.toList n).toArray⟩ := by rw [pad, if_pos hn]
    have HP := Lib.hid hp
    clear hp
    go_enter Try.func24, Try.ntmps24
    go_wp2
    go_ret
    exact ⟨congrArg (fun x => Ending.returned (.string x)) HP.out, rfl⟩
  · have hn' : decide (2000 < n) = false := decide_eq_false hn
    go_enter Try.func24, Try.ntmps24
    go_wp2
    go_loop [0] (fun v => ∃ k : Nat, (k = 0 ∨ (k : Int) + s.size ≤ n) ∧ v = .string ⟨(List.replicate k 48 ++ s.data.toList).toArray⟩) (fun v => (n - strSize v).toNat)
    case atStart => exact ⟨0, Or.inl rfl, by rw [List.replicate_zero, List.nil_append, ← str_eta]⟩
    case round =>
      obtain ⟨k, hk, rfl⟩ := hrel
      generalize ht : (⟨(List.replicate k 48 ++ s.data.toList).toArray⟩ : ByteArray) = t
      have htl : t.size = k + s.size := by rw [← ht, size_mk, List.length_append, List.length_replicate, len_size]
      have HT := Lib.hid ht
      have HTL := Lib.hid htl
      by_cases hlt : (t.size : Int) < n
      · have hb : t.size ≤ 2000 := by omega
        have hz := one_zero t _ ht
        have HZ := Lib.hid hz
        clear ht htl hz
        go_wp2
        go_round
        case rel =>
          have h3 := HTL.out
          exact ⟨k + 1, Or.inr (by omega), by rw [HZ.out]; rfl⟩
        case measure =>
          have h3 := HTL.out
          have h4 : (ByteArray.mk #[48] ++ t).size = k + 1 + s.size := by rw [HZ.out, size_mk, List.length_cons, List.length_append, List.length_replicate, len_size]; omega
          simp only [strSize_mk, h4]
          omega
      · have hp : pad s.data.toList n = List.replicate k 48 ++ s.data.toList := by
          rw [pad, if_neg (by omega), len_size, show (n - (s.size : Int)).toNat = k by omega]
        have HP := Lib.hid hp
        clear ht htl hp
        go_wp2
        go_ret
        exact ⟨congrArg (fun x => Ending.returned (.string x)) (by rw [HP.out, HT.out]), rfl⟩

/-- two strings behind each other, nothing between them -/
theorem join_two (a b : ByteArray) : Joi.joinTo [] [a, b] 2 = a.data.toList ++ b.data.toList := by simp [Joi.joinTo]

set_option maxHeartbeats 1000000 in
theorem impl_any (s : ByteArray) (n : Int) (w : World) (hs : s.size ≤ 1048576) (h0 : -9223372036854775808 ≤ n) (h1 : n ≤ 9223372036854775807) :
    Calls Try.prog 25 #[.string s, .int .i64 n] w fun e w' => e = .returned (.string ⟨(pad s.data.toList n).toArray⟩) ∧ Below w.heap.size w w' := by
  by_cases hc : n ≤ s.size
  · have hp : s = ⟨(pad s.data.toList n).toArray⟩ := by
      unfold pad
      split
      · exact str_eta s
      · rw [len_size, show (n - (s.size : Int)).toNat = 0 by omega]; exact str_eta s
    have HP := Lib.hid hp
    clear hp
    go_enter Try.func25, Try.ntmps25
    go_wp2
    go_ret
    exact ⟨congrArg (fun x => Ending.returned (.string x)) HP.out, Below.refl _ w⟩
  · have hc' : decide (n ≤ (s.size : Int)) = false := decide_eq_false hc
    by_cases hn : 2000 < n
    · have hp : s = ⟨(pad s.data.toList n).toArray⟩ := by rw [pad, if_pos hn]
      have HP := Lib.hid hp
      clear hp
      go_enter Try.func25, Try.ntmps25
      go_wp2
      go_ret
      exact ⟨congrArg (fun x => Ending.returned (.string x)) HP.out, Below.refl _ w⟩
    · have hn' : decide (2000 < n) = false := decide_eq_false hn
      have hpos : 0 ≤ n := by omega
      have hle : n ≤ 2000 := by omega
      obtain ⟨c, hcc⟩ : ∃ c : Nat, n = c + s.size := ⟨(n - s.size).toNat, by omega⟩
      go_enter Try.func25, Try.ntmps25
      have HC := Lib.hid hcc
      clear hcc
      go_wp2_with fail
      rw [show n - (s.size : Int) = (c : Int) from by have := HC.out; omega]
      have hc2 : c ≤ 2000 := by have := HC.out; omega
      have h1c : (ByteArray.mk #[48]).size * c ≤ 140737488355328 := by
        have e1 : (ByteArray.mk #[48]).size = 1 := rfl
        rw [e1]; omega
      refine (Try.strings_Repeat _ c _ (by omega) h1c).mono ?_
      rintro e w1 ⟨rfl, hb1⟩
      generalize hz : (ByteArray.mk (Lib.repeatL (ByteArray.mk #[48]).data.toList c).toArray) = z
      have hzl : z.data.toList = List.replicate c 48 := by
        rw [← hz]
        show Lib.repeatL [48] c = _
        have := Lib.repeatL_replicate 48 1 c
        simpa using this
      have HZ := Lib.hid hzl
      clear hz hzl
      go_wp2_with fail
      have hst : Joi.StrsAt (w1.alloc (.cells #[.string z, .string s] 9)) (w1.alloc (.cells #[.string z, .string s] 9)).heap.size (some ⟨w1.heap.size, 0, none⟩) [z, s] := by
        intro k hk
        refine ⟨w1.heap.size, 0, rfl, by simp, ?_⟩
        have hh : (w1.alloc (.cells #[.string z, .string s] 9)).heap[w1.heap.size]? = some (.cells #[.string z, .string s] 9 (0, 0)) := heap_alloc_new w1 _
        rw [Lib.cell_of_heap hh]
        match k, hk with
        | 0, _ => rfl
        | 1, _ => rfl
      have hjt := join_two z s
      have hjl : (Joi.joinTo [] [z, s] 2).length ≤ 70368744177664 := by rw [hjt, List.length_append, HZ.out, List.length_replicate, len_size]; omega
      have hfin : pad s.data.toList n = Joi.joinTo [] [z, s] 2 := by
        rw [hjt, HZ.out, pad, if_neg (by omega), len_size, show (n - (s.size : Int)).toNat = c from by have := HC.out; omega]
      have HF := Lib.hid hfin
      clear hfin hjt
      refine (Joi.parts_any ⟨#[]⟩ _ 2 2 [z, s] _ rfl (by omega) hst hjl).mono ?_
      rintro e w2 ⟨rfl, hb2⟩
      have hb3 : Below w.heap.size w w2 := by
        have h4 := hb1.size
        exact (hb1.alloc h4 _).trans (hb2.mono (by simp; omega))
      go_wp2
      go_ret
      exact ⟨Joi.ret_str HF.out.symm, hb3⟩

end Go.Proofs.Ytaphphelimpgmaa.Pad
