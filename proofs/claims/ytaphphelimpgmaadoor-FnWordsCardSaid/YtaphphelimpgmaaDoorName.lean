/- The contracts of the two functions IsName, of isLetter and of l01In: what they return for every string of at most 2^63 - 1 bytes. -/
import Derived.Test.YtaphphelimpgmaaDoorDigits
set_option linter.unusedVariables false
namespace Go.Proofs.YtaphphelimpgmaaDoor.Nam
open Go.RowKit Dig

def lowB (c : UInt8) : Bool := decide (97 ≤ (c.toNat : Int) ∧ (c.toNat : Int) ≤ 122)
/-- a byte that a name may have at place k -/
def okAt (k : Nat) (c : UInt8) : Bool := lowB c || (k != 0 && digB c)
def okFrom : Nat → List UInt8 → Bool
  | _, [] => true
  | k, c :: r => okAt k c && okFrom (k + 1) r
def nameB (l : List UInt8) : Bool := okFrom 0 l && (decide (1 ≤ l.length) && decide (l.length ≤ 8))

theorem okFrom_append (j : Nat) (a b : List UInt8) : okFrom j (a ++ b) = (okFrom j a && okFrom (j + a.length) b) := by
  induction a generalizing j with
  | nil => simp [okFrom]
  | cons c r ih => simp [okFrom, ih, Bool.and_assoc, Nat.add_assoc, Nat.add_comm 1]

theorem len_take (s : ByteArray) (k : Nat) (h : k ≤ s.size) : (s.data.toList.take k).length = k := by
  rw [List.length_take, ← size_len s]; omega

theorem ok_next (s : ByteArray) (k : Nat) (h : k < s.size) (ha : okFrom 0 (s.data.toList.take k) = true) (hd : okAt k s[k] = true) : okFrom 0 (s.data.toList.take (k + 1)) = true := by
  rw [take_snoc s k h, okFrom_append, ha, len_take s k (by omega)]
  simp [okFrom, hd]

theorem name_no (s : ByteArray) (k : Nat) (h : k < s.size) (hd : okAt k s[k] = false) : nameB s.data.toList = false := by
  have e : okFrom 0 (s.data.toList.take (k + 1)) = false := by
    rw [take_snoc s k h, okFrom_append, len_take s k (by omega)]
    simp [okFrom, hd]
  have e2 : okFrom 0 s.data.toList = false := by
    have := okFrom_append 0 (s.data.toList.take (k + 1)) (s.data.toList.drop (k + 1))
    rw [List.take_append_drop, e, Bool.false_and] at this
    exact this
  simp [nameB, e2]

theorem name_end (s : ByteArray) (k : Nat) (h : ¬ k < s.size) (ha : okFrom 0 (s.data.toList.take k) = true) : nameB s.data.toList = (decide (1 ≤ s.size) && decide (s.size ≤ 8)) := by
  rw [take_all s k h] at ha
  rw [nameB, ha, Bool.true_and, size_len s]


/-- how the tests at a place come out -/
theorem ok_ways (k : Nat) (c : UInt8) (h : okAt k c = true) :
    (97 ≤ (c.toNat : Int) ∧ (c.toNat : Int) ≤ 122) ∨ ((c.toNat : Int) < 97 ∧ 0 < k ∧ 48 ≤ (c.toNat : Int) ∧ (c.toNat : Int) ≤ 57) := by
  simp only [okAt, lowB, digB, Bool.or_eq_true, Bool.and_eq_true, decide_eq_true_eq, bne_iff_ne] at h
  omega
theorem no_ways (k : Nat) (c : UInt8) (h : okAt k c = false) :
    ¬ (97 ≤ (c.toNat : Int) ∧ (c.toNat : Int) ≤ 122) ∧ (k = 0 ∨ (0 < k ∧ ¬ (48 ≤ (c.toNat : Int) ∧ (c.toNat : Int) ≤ 57))) := by
  have h' : ¬ okAt k c = true := by simp [h]
  simp only [okAt, lowB, digB, Bool.or_eq_true, Bool.and_eq_true, decide_eq_true_eq, bne_iff_ne] at h'
  omega


theorem isLetter_yes (r : Int) (w : World) (h1 : 97 ≤ r) (h2 : r ≤ 122) :
    Calls Tryd.prog 24 #[.int .i32 r] w fun e w' => e = .returned (.bool true) ∧ w = w' := by
  go_enter Tryd.func24, Tryd.ntmps24
  go_wp2
  go_ret
  exact ⟨rfl, rfl⟩

theorem isLetter_no (r : Int) (w : World) (h : ¬ (97 ≤ r ∧ r ≤ 122)) :
    Calls Tryd.prog 24 #[.int .i32 r] w fun e w' => e = .returned (.bool false) ∧ w = w' := by
  by_cases h1 : 97 ≤ r
  · have h3 : decide (r ≤ 122) = false := by simp; omega
    clear h
    go_enter Tryd.func24, Tryd.ntmps24
    go_wp2
    go_ret
    exact ⟨rfl, rfl⟩
  · clear h
    go_enter Tryd.func24, Tryd.ntmps24
    go_wp2
    go_ret
    exact ⟨rfl, rfl⟩

/-- a rune that is neither a small letter nor a digit, where the byte is neither -/
theorem rune_no (s : ByteArray) (p : Nat) (h : p < s.size) (lo hi : Int) (hhi : hi < 128) (hd : ¬ (lo ≤ (s[p].toNat : Int) ∧ (s[p].toNat : Int) ≤ hi)) : ¬ (lo ≤ ((Utf8.decode s p).1 : Int) ∧ ((Utf8.decode s p).1 : Int) ≤ hi) := by
  by_cases ha : s[p].toNat < 128
  · rw [decode_ascii s p h ha]; exact hd
  · have := (decode_high s p h (by omega)).1
    omega

theorem name_empty (s : ByteArray) (h : s.size = 0) : nameB s.data.toList = false := by
  rw [size_len s] at h
  simp [nameB, h]
theorem name_long (s : ByteArray) (h : 8 < s.size) : nameB s.data.toList = false := by
  rw [size_len s] at h
  have : decide (s.data.toList.length ≤ 8) = false := by simp at h ⊢; omega
  rw [nameB, this]; simp
theorem bytes_empty (s : ByteArray) (h : s.size = 0) : s.toList.isEmpty = true := by
  rw [size_len s] at h
  rw [ByteArray.toList_eq]
  exact List.isEmpty_iff_length_eq_zero.2 h
theorem bytes_some (s : ByteArray) (h : ¬ s.size = 0) : s.toList.isEmpty = false := by
  rw [size_len s] at h
  rw [ByteArray.toList_eq]
  cases hl : s.data.toList with
  | nil => simp [hl] at h
  | cons a b => rfl

set_option maxHeartbeats 1000000 in
theorem impl_any (s : ByteArray) (w : World) (hs : s.size ≤ maxLen) :
    Calls Tryd.prog 12 #[.string s] w fun e w' => e = .returned (.bool (nameB s.data.toList)) ∧ Below w.heap.size w w' := by
  unfold maxLen at hs
  by_cases h0 : s.size = 0
  · have Hno := Lib.hid (name_empty s h0)
    have he := bytes_empty s h0
    clear h0
    go_enter Tryd.func12, Tryd.ntmps12
    go_wp2
    go_ret
    exact ⟨ret_bool Hno.out.symm, Below.refl _ w⟩
  · have he := bytes_some s h0
    by_cases h8 : 8 < s.size
    · have Hno := Lib.hid (name_long s h8)
      have h8' : (8 : Int) < (s.size : Int) := by omega
      clear h0 h8
      go_enter Tryd.func12, Tryd.ntmps12
      go_wp2
      go_ret
      exact ⟨ret_bool Hno.out.symm, Below.refl _ w⟩
    · have h8' : ¬ (8 : Int) < (s.size : Int) := by omega
      have h8d : decide ((8 : Int) < (s.size : Int)) = false := by simp; omega
      have h8e : decide (8 < s.size) = false := by simp; omega
      have h1 : 1 ≤ s.size := by omega
      have h8n : s.size ≤ 8 := by omega
      clear h0 h8
      go_enter Tryd.func12, Tryd.ntmps12
      go_wp2
      go_loopw [] (fun wr => ∃ k : Nat, k ≤ s.size ∧ wr = w.iter s k ∧ Hid (okFrom 0 (s.data.toList.take k) = true)) (fun wr => s.size - wr.iterPos w.heap.size)
      case atStart => exact ⟨0, Nat.zero_le _, rfl, by simp [Hid, okFrom]⟩
      case round =>
        obtain ⟨k, hk, rfl, hall⟩ := hrel
        by_cases hlt : k < s.size
        · by_cases hd : okAt k s[k] = true
          · have hn := ok_next s k hlt hall.out hd
            have Hn := Lib.hid hn
            have hw := ok_ways k s[k] hd
            clear hn hd
            rcases hw with ⟨hb1, hb2⟩ | ⟨hb0, hk0, hb1, hb2⟩
            · have hnx : ∀ ty, (Instr.next (.pointer (some ⟨w.heap.size, 0, none⟩)) true ty).run Tryd.prog (w.iter s k) = _ := fun ty => run_next_ascii w s k ty hlt (by omega)
              go_wp2_with (go_at_call 24; refine (isLetter_yes _ _ hb1 hb2).mono ?_; rintro e w' ⟨rfl, rfl⟩)
              go_roundw
              case rel => exact ⟨k + 1, by omega, rfl, Hn⟩
              case measure => simp; omega
            · have hnx : ∀ ty, (Instr.next (.pointer (some ⟨w.heap.size, 0, none⟩)) true ty).run Tryd.prog (w.iter s k) = _ := fun ty => run_next_ascii w s k ty hlt (by omega)
              have hz : ((k : Int) == 0) = false := by simp; omega
              go_wp2_with (first | (go_at_call 24; refine (isLetter_no _ _ (by omega)).mono ?_; rintro e w' ⟨rfl, rfl⟩) | (go_at_call 25; refine (isDigit_yes _ _ hb1 hb2).mono ?_; rintro e w' ⟨rfl, rfl⟩))
              go_roundw
              case rel => exact ⟨k + 1, by omega, rfl, Hn⟩
              case measure => simp; omega
          · have hd' : okAt k s[k] = false := Bool.eq_false_iff.2 hd
            have hno := name_no s k hlt hd'
            have Hno := Lib.hid hno
            have hw := no_ways k s[k] hd'
            have hnx : ∀ ty, (Instr.next (.pointer (some ⟨w.heap.size, 0, none⟩)) true ty).run Tryd.prog (w.iter s k) = _ := fun ty => run_next_any w s k ty hlt
            have hr1 := rune_no s k hlt 97 122 (by omega) hw.1
            clear hd hd' hno
            rcases hw with ⟨hw1, hz0 | ⟨hk0, hw3⟩⟩
            · have hz : ((k : Int) == 0) = true := by simp; omega
              clear hz0
              go_wp2_with (go_at_call 24; refine (isLetter_no _ _ hr1).mono ?_; rintro e w' ⟨rfl, rfl⟩)
              go_ret
              exact ⟨ret_bool Hno.out.symm, iter_below w s _⟩
            · have hz : ((k : Int) == 0) = false := by simp; omega
              have hr2 := rune_no s k hlt 48 57 (by omega) hw3
              go_wp2_with (first | (go_at_call 24; refine (isLetter_no _ _ hr1).mono ?_; rintro e w' ⟨rfl, rfl⟩) | (go_at_call 25; refine (isDigit_no _ _ hr2).mono ?_; rintro e w' ⟨rfl, rfl⟩))
              go_ret
              exact ⟨ret_bool Hno.out.symm, iter_below w s _⟩
        · have hy := name_end s k hlt hall.out
          have Hy := Lib.hid hy
          clear hy
          have hnx : ∀ ty, (Instr.next (.pointer (some ⟨w.heap.size, 0, none⟩)) true ty).run Tryd.prog (w.iter s k) = _ := fun ty => run_next_end w s k ty hlt
          go_wp2
          go_ret
          exact ⟨ret_bool (by rw [Hy.out]; simp; omega), iter_below w s _⟩

end Go.Proofs.YtaphphelimpgmaaDoor.Nam
