/- A string that is split at one byte and joined by that byte is the string again. -/
import Derived.Test.YtaphphelimpgmaaDoorJoinParts
import Derived.Test.YtaphphelimpgmaaDoorSplit
import Derived.Test.YtaphphelimpgmaaDoorNumP
set_option linter.unusedVariables false
namespace Go.Proofs.YtaphphelimpgmaaDoor.Wor
open Go.RowKit Fr Own Spl Joi

theorem joinTo_append (by_ : List UInt8) (ss ts : List ByteArray) (k : Nat) (h : k ≤ ss.length) : joinTo by_ (ss ++ ts) k = joinTo by_ ss k := by
  induction k with
  | zero => rfl
  | succ k ih =>
    have e : (ss ++ ts).getD k ByteArray.empty = ss.getD k ByteArray.empty := by
      rw [List.getD_eq_getElem?_getD, List.getD_eq_getElem?_getD, List.getElem?_append_left (by omega)]
    simp only [joinTo, ih (by omega), e]
theorem joinTo_snoc (by_ : List UInt8) (ss : List ByteArray) (x : ByteArray) : joinTo by_ (ss ++ [x]) (ss.length + 1) = joinTo by_ ss ss.length ++ (if ss.length = 0 then [] else by_) ++ x.data.toList := by
  have e : (ss ++ [x]).getD ss.length ByteArray.empty = x := by
    rw [List.getD_eq_getElem?_getD, List.getElem?_append_right (by omega)]; simp
  simp only [joinTo, joinTo_append by_ ss [x] ss.length (Nat.le_refl _), e]

theorem extract_more (s : ByteArray) (a i : Nat) (h : i < s.size) (ha : a ≤ i) : (s.extract a (i + 1)).data.toList = (s.extract a i).data.toList ++ [s[i]] := by
  rw [Lib.extract_data, Lib.extract_data, show i + 1 - a = (i - a) + 1 from by omega]
  have hl : i - a < (s.data.toList.drop a).length := by rw [List.length_drop, len_size]; omega
  rw [List.take_succ_eq_append_getElem hl]
  congr 2
  rw [List.getElem_drop]
  have e : a + (i - a) = i := by omega
  simp only [e]
  rfl

theorem split_join (s : ByteArray) (b : UInt8) (i : Nat) (h : i ≤ s.size) :
    joinTo [b] (splitTo s ⟨#[b]⟩ i).1 (splitTo s ⟨#[b]⟩ i).1.length ++ (if (splitTo s ⟨#[b]⟩ i).1.length = 0 then [] else [b]) ++ (s.extract (splitTo s ⟨#[b]⟩ i).2 i).data.toList = s.data.toList.take i := by
  induction i with
  | zero => simp [splitTo, joinTo]
  | succ i ih =>
    have ih := ih (by omega)
    have hlt : i < s.size := by omega
    have ht : s.data.toList.take (i + 1) = s.data.toList.take i ++ [s[i]] := by
      rw [List.take_succ_eq_append_getElem (by rw [len_size]; exact hlt)]; rfl
    by_cases hh : hit (ByteArray.mk #[b]).data.toList s[i] = true
    · have hb : s[i] = b := by simpa [hit] using hh
      rw [splitTo_yes s ⟨#[b]⟩ i hlt hh, ht, ← ih]
      simp only [List.length_append, List.length_cons, List.length_nil]
      rw [joinTo_snoc, if_neg (Nat.succ_ne_zero _), Lib.extract_data]
      simp [hb]
    · have hh' : hit (ByteArray.mk #[b]).data.toList s[i] = false := Bool.eq_false_iff.2 hh
      have hl := (splitTo_len s ⟨#[b]⟩ i).2
      rw [splitTo_no s ⟨#[b]⟩ i hlt hh', ht, ← ih, extract_more s _ i hlt hl]
      simp

theorem parts_join (s : ByteArray) (b : UInt8) : joinTo [b] (parts s ⟨#[b]⟩) (parts s ⟨#[b]⟩).length = s.data.toList := by
  have h := split_join s b s.size (Nat.le_refl _)
  rw [List.take_of_length_le (by rw [len_size]; exact Nat.le_refl _)] at h
  rw [parts_len, parts, joinTo_snoc]
  exact h

theorem reads_itoa (n : Int) (h0 : -9223372036854775808 ≤ n) (h1 : n ≤ 9223372036854775807) : Num.Reads (Lib.itoa n) n true := Or.inl ⟨rfl, ⟨h0, h1⟩, rfl⟩
theorem itoa_small (n : Int) (h0 : -9223372036854775808 ≤ n) (h1 : n ≤ 9223372036854775807) : (ByteArray.mk (Lib.itoa n).toArray).size ≤ 20 := by
  have e : (ByteArray.mk (Lib.itoa n).toArray).size = (Lib.itoa n).length := by simp [ByteArray.size]
  rw [e]
  by_cases hn : n < 0
  · rw [Lib.itoa, if_pos hn, List.length_cons, Lib.decDigits_length]
    have := Num.nd_le 18 n.natAbs (by omega)
    omega
  · rw [Lib.itoa, if_neg hn, Lib.decDigits_length]
    have := Num.nd_le 18 n.toNat (by omega)
    omega

theorem joined (s : ByteArray) : (ByteArray.mk (joinTo (ByteArray.mk #[32]).data.toList (parts s ⟨#[32]⟩) (parts s ⟨#[32]⟩).length).toArray) = s := by
  have h := parts_join s 32
  rw [show (ByteArray.mk #[32]).data.toList = [32] from rfl, h]
theorem joined_len (s : ByteArray) : (joinTo (ByteArray.mk #[32]).data.toList (parts s ⟨#[32]⟩) (parts s ⟨#[32]⟩).length).length = s.size := by
  have h := parts_join s 32
  rw [show (ByteArray.mk #[32]).data.toList = [32] from rfl, h, len_size]

theorem parts_small (s : ByteArray) : (parts s ⟨#[32]⟩).length ≤ s.size + 1 := by
  rw [parts_len]
  have := (splitTo_len s ⟨#[32]⟩ s.size).1
  omega

end Go.Proofs.YtaphphelimpgmaaDoor.Wor
