/- What the laws' helpers markText, markStringS and heldStringS do. -/
import Derived.Test.YtaphphelimpgmaaStrs
import Derived.Deep.RegionHeld3
import Derived.Laws.BytesArg
set_option linter.unusedVariables false
namespace Go.Proofs.Ytaphphelimpgmaa.Mrk
open Go.RowKit Joi Fr Str

/-- decimal digits in front of what is there -/
def decF : Nat → Nat → List UInt8 → List UInt8
  | 0, _, acc => acc
  | f + 1, k, acc => if k = 0 then acc else decF f (k / 10) (UInt8.ofNat (48 + k % 10) :: acc)
def markL (k : Nat) : List UInt8 := 109 :: decF k k []

theorem decF_zero (f : Nat) (acc : List UInt8) : decF f 0 acc = acc := by cases f <;> simp [decF]
theorem decF_len (f k : Nat) (acc : List UInt8) : (decF f k acc).length ≤ f + acc.length := by
  induction f generalizing k acc with
  | zero => simp [decF]
  | succ f ih =>
    unfold decF
    split
    · omega
    · have := ih (k / 10) (UInt8.ofNat (48 + k % 10) :: acc)
      simp only [List.length_cons] at this
      omega

/-- a string of one byte, out of a slice of one byte that has just been made -/
theorem run_one_byte (w : World) (n : Int) : (convert 39 9 (.slice (some ⟨w.heap.size, 0, none⟩) 1 1)).run Try.prog (w.alloc (.cells #[.int .u8 n] 5)) = .ok (.string ⟨#[UInt8.ofNat n.toNat]⟩) (w.alloc (.cells #[.int .u8 n] 5)) := by
  have := run_convert_bytes_arg (P := Try.prog) (w.alloc (.cells #[.int .u8 n] 5)) 39 5 Try.underlying39 Try.underlying5 w.heap.size 0 1 1 [n] rfl
    (fun i hi => by
      obtain rfl : i = 0 := by omega
      rw [Lib.cell_of_heap (heap_alloc_new w _)]; rfl) 9 Try.underlying9
  exact this

theorem byte_cat (c : UInt8) (t : ByteArray) (acc : List UInt8) (h : t = ⟨acc.toArray⟩) : (ByteArray.mk #[c] ++ t) = ⟨(c :: acc).toArray⟩ := by
  rw [h]; exact ByteArray.mk_append_mk [c] acc

set_option maxHeartbeats 1000000 in
theorem text_any (k : Nat) (w : World) (h0 : 0 < k) (h1 : k ≤ 4194304) :
    Calls Try.prog 29 #[.int .i64 (k : Int)] w fun e w' => e = .returned (.string ⟨(markL k).toArray⟩) ∧ Below w.heap.size w w' := by
  go_enter Try.func29, Try.ntmps29
  go_wp2
  go_loopw [0, 3] (fun n out wr => ∃ (f j : Nat) (acc : List UInt8), j ≤ k ∧ j ≤ f ∧ acc.length + f ≤ k ∧ Hid (decF f j acc = decF k k []) ∧ n = .int .i64 (j : Int) ∧ (∃ t : ByteArray, Hid (t = ⟨acc.toArray⟩) ∧ out = .string t) ∧ Below w.heap.size w wr) (fun n _ _ => (intOf n).toNat)
  case atStart => exact ⟨k, k, [], Nat.le_refl _, Nat.le_refl _, by simp, rfl, rfl, ⟨_, rfl, rfl⟩, Below.refl _ w⟩
  case round =>
    obtain ⟨f, j, acc, hjk, hjf, hacc, HD, rfl, ⟨t, HT, rfl⟩, hb⟩ := hrel
    have hts : t.size = acc.length := by rw [HT.out]; simp [ByteArray.size]
    by_cases hj : 0 < j
    · obtain ⟨f, rfl⟩ : ∃ g, f = g + 1 := ⟨f - 1, by omega⟩
      have hone := run_one_byte wr (48 + (j : Int) % 10)
      have hd : decF f (j / 10) (UInt8.ofNat (48 + j % 10) :: acc) = decF k k [] := by
        rw [← HD.out]
        conv => rhs; unfold decF
        rw [if_neg (by omega)]
      have hc : UInt8.ofNat (48 + (j : Int) % 10).toNat = UInt8.ofNat (48 + j % 10) := by congr 1
      rw [hc] at hone
      generalize UInt8.ofNat (48 + j % 10) = x at hone hd
      have hcat := byte_cat x t acc HT.out
      have hxs : (ByteArray.mk #[x]).size = 1 := rfl
      have HC := Lib.hid hcat
      have HDD := Lib.hid hd
      have HTS := Lib.hid hts
      have htb : t.size ≤ 4194304 := by omega
      have hxb : (ByteArray.mk #[x]).size + t.size ≤ 9223372036854775807 := by rw [hxs]; omega
      have hb2 := hb.alloc hb.size (.cells #[.int .u8 (48 + (j : Int) % 10)] 5)
      have HB2 := Lib.hid hb2
      clear hcat hd hts hc hxs hb2
      go_wp2
      go_roundw
      case rel =>
        refine ⟨f, j / 10, x :: acc, by omega, by omega, by simp only [List.length_cons]; omega, HDD.out, by go_num, ⟨_, HC.out, rfl⟩, HB2.out⟩
      case measure => simp [intOf]; omega
    · have hj0 : j = 0 := by omega
      have hfin : ByteArray.mk #[109] ++ t = ⟨(markL k).toArray⟩ := by
        rw [byte_cat 109 t acc HT.out, markL, ← HD.out, hj0, decF_zero]
      have HF := Lib.hid hfin
      have htb : (ByteArray.mk #[109]).size + t.size ≤ 9223372036854775807 := by
        have : (ByteArray.mk #[109]).size = 1 := rfl
        omega
      clear hfin hj0 hts
      go_wp2
      go_ret
      exact ⟨congrArg (fun x => Ending.returned (.string x)) HF.out, hb⟩

def markS (k : Nat) : ByteArray := ⟨(markL k).toArray⟩
/-- the marks from k on -/
def marks (k : Nat) : Nat → List ByteArray
  | 0 => []
  | n + 1 => markS k :: marks (k + 1) n
theorem marks_length (k n : Nat) : (marks k n).length = n := by
  induction n generalizing k with
  | zero => rfl
  | succ n ih => simp [marks, ih]
theorem marks_get (k n i : Nat) (h : i < n) : (marks k n).getD i ByteArray.empty = markS (k + i) := by
  induction n generalizing k i with
  | zero => omega
  | succ n ih =>
    cases i with
    | zero => rfl
    | succ i =>
      have := ih (k + 1) i (by omega)
      simp only [marks, List.getD_cons_succ]
      rw [this]
      congr 1
      omega

/-- what the row holds after i rounds -/
def marked (k n i : Nat) (xs : List Value) : List Value := ((marks k n).take i).map Value.string ++ xs.drop i
theorem marked_zero (k n : Nat) (xs : List Value) : marked k n 0 xs = xs := by simp [marked]
theorem marked_all (k n : Nat) (xs : List Value) (h : xs.length = n) : marked k n n xs = (marks k n).map Value.string := by
  unfold marked
  rw [List.take_of_length_le (by rw [marks_length]; omega), List.drop_eq_nil_of_le (by omega), List.append_nil]
theorem marked_next (k n i : Nat) (xs : List Value) (h : xs.length = n) (hi : i < n) : (marked k n i xs).set i (.string (markS (k + i))) = marked k n (i + 1) xs := by
  have hm := marks_length k n
  have hl : (((marks k n).take i).map Value.string).length = i := by simp; omega
  unfold marked
  rw [List.set_append_right (h := by omega), hl, Nat.sub_self, List.drop_eq_getElem_cons (by omega), List.set_cons_zero, List.take_succ_eq_append_getElem (show i < (marks k n).length by omega)]
  have hg := marks_get k n i hi
  rw [List.getD_eq_getElem?_getD, List.getElem?_eq_getElem (show i < (marks k n).length by omega), Option.getD_some] at hg
  simp only [List.map_append, List.map_cons, List.map_nil, List.append_assoc, List.cons_append, List.nil_append, hg]

theorem own_below {w w' : World} {base : Nat} {e : TypeId} {size : Nat} {v : Value} {n : Nat} {xs : List Value} (h : w.ownsRow base e size v n xs) (hb : Below w.heap.size w w') : w'.ownsRow base e size v n xs := by
  refine h.kept (row := none) ⟨hb.os, hb.tape, hb.output, hb.size, fun k hk _ => hb.block k hk⟩ ?_
  cases hv : v.ownBlock with
  | none => exact Or.inl rfl
  | some g => exact Or.inr (by simp)

def Marked (B k n g c : Nat) (w : World) (e : Ending) (w' : World) : Prop :=
  e = .returned (.int .i64 ((k + n : Nat) : Int)) ∧ w'.ownsRow B 9 1 (.slice (some ⟨g, 0, none⟩) n c) n ((marks k n).map Value.string) ∧ Below B w w'

set_option maxHeartbeats 1000000 in
theorem mark_any (B k n g c : Nat) (xs : List Value) (w : World) (hk0 : 0 < k) (hkn : k + n ≤ 4194304) (hB : B ≤ w.heap.size) (hown : w.ownsRow B 9 1 (.slice (some ⟨g, 0, none⟩) n c) n xs) :
    Calls Try.prog 16 #[.slice (some ⟨g, 0, none⟩) n c, .int .i64 (k : Int)] w (Marked B k n g c w) := by
  have hxl : xs.length = n := by have := hown.1; omega
  have hgB : B ≤ g := (hown.lt g rfl).1
  have HXL := Lib.hid hxl
  clear hxl
  have hown0 : w.ownsRow B 9 1 (.slice (some ⟨g, 0, none⟩) n c) n (marked k n 0 xs) := by rw [marked_zero]; exact hown
  go_enter Try.func16, Try.ntmps16
  go_wp2
  go_loopw [1, 5] (fun q i wr => ∃ j : Nat, j ≤ n ∧ i = .int .i64 j ∧ q = .int .i64 ((k + j : Nat) : Int) ∧ wr.ownsRow B 9 1 (.slice (some ⟨g, 0, none⟩) n c) n (marked k n j xs) ∧ Below B w wr) (fun _ i _ => n - (intOf i).toNat)
  case atStart => exact ⟨0, Nat.zero_le _, rfl, rfl, hown0, Below.refl _ w⟩
  case round =>
    obtain ⟨j, hj, rfl, rfl, hownj, hbj⟩ := hrel
    by_cases hlt : j < n
    · have hnext := marked_next k n j xs HXL.out hlt
      have hlen : (marked k n j xs).length = n := by have := hownj.1; omega
      have hszj := hbj.size
      have HN := Lib.hid hnext
      have HL := Lib.hid hlen
      clear hnext hlen
      go_wp2_with fail
      refine (text_any (k + j) _ (by omega) (by omega)).mono ?_
      rintro e w1 ⟨rfl, hb1⟩
      have hown1 := own_below hownj hb1
      have hst := hown1.stored j (.string (markS (k + j)))
      rw [HN.out] at hst
      have hcell : w1.cell? ⟨g, j, none⟩ = some ((marked k n j xs)[j]'(by rw [HL.out]; exact hlt)) := by
        rw [hown1.cellAt j (by omega)]; exact List.getElem?_eq_getElem (by rw [HL.out]; exact hlt)
      have hfz := hown1.frozenAt j
      generalize (marked k n j xs)[j]'(by rw [HL.out]; exact hlt) = old at hcell
      have hb2 := (hbj.trans (hb1.mono (by omega))).setCell (p := ⟨g, j, none⟩) hgB (.string (markS (k + j)))
      have HST := Lib.hid hst
      have HB2 := Lib.hid hb2
      clear hst hb2 hownj hown1 hown hown0
      go_wp2
      go_roundw
      case rel => exact ⟨j + 1, by omega, by go_num, by go_num, HST.out.1, HB2.out⟩
      case measure => simp [intOf]; omega
    · have hjn : j = n := by omega
      rw [hjn, marked_all k n xs HXL.out] at hownj
      have HO := Lib.hid hownj
      have e1 : k + j = k + n := by omega
      have E1 := Lib.hid e1
      clear hownj hjn e1 hown hown0
      go_wp2
      go_ret
      exact ⟨by rw [E1.out]; rfl, HO.out, hbj⟩

theorem keep_step {W w1 w0 : World} {p : Addr} {v : Value} (hb1 : Below W.heap.size W w1) (h1 : W.cell? p = some v) (h2 : Below w0.heap.size w0 W) (hp : p.block < w0.heap.size) : w1.cell? p = some v ∧ Below w0.heap.size w0 w1 :=
  ⟨(hb1.cell (by have := h2.size; omega)).trans h1, h2.trans (hb1.mono h2.size)⟩

set_option maxHeartbeats 1000000 in
theorem held_any (k n c : Nat) (A : Option Addr) (w : World) (hk0 : 0 < k) (hkn : k + n ≤ 4194304) (hss : StrsAt w w.heap.size A (marks k n)) :
    Calls Try.prog 17 #[.slice A n c, .int .i64 (k : Int)] w fun e w' => e = .returned (.int .i64 ((k + n : Nat) : Int)) ∧ Below w.heap.size w w' := by
  go_enter Try.func17, Try.ntmps17
  go_wp2
  go_loopw [1, 5] (fun q i wr => ∃ j : Nat, j ≤ n ∧ i = .int .i64 j ∧ q = .int .i64 ((k + j : Nat) : Int) ∧ Below w.heap.size w wr) (fun _ i _ => n - (intOf i).toNat)
  case atStart => exact ⟨0, Nat.zero_le _, rfl, rfl, Below.refl _ w⟩
  case round =>
    obtain ⟨j, hj, rfl, rfl, hbj⟩ := hrel
    by_cases hlt : j < n
    · obtain ⟨b, o, rfl, hbb, hc⟩ := hss.below hbj j (by rw [marks_length]; exact hlt)
      rw [marks_get k n j hlt] at hc
      change wr.cell? _ = some (.string ⟨(markL (k + j)).toArray⟩) at hc
      have hszj := hbj.size
      have hj0 : (0 : Int) ≤ (j : Int) := Int.natCast_nonneg _
      have hj1 : (j : Int) < (n : Int) := by omega
      go_wp2_with fail
      go_region_held3 (fun w' => w'.cell? ⟨b, o + j, none⟩ = some (.string ⟨(markL (k + j)).toArray⟩) ∧ Below w.heap.size w w') ((first | exact ⟨hc, hbj.drew⟩ | exact keep_step hb1 (by assumption) (by assumption) hbb | (go_split_ands; exact keep_step hb1 (by assumption) (by assumption) hbb)))
        ((first | (go_at_call 29; refine (text_any (k + j) _ (by omega) (by omega)).mono ?_; rintro e w1 ⟨rfl, hb1⟩)))
      have hbz : Below w.heap.size w w1 := hbj.drew.trans (hb1.mono hszj)
      have HBZ := Lib.hid hbz
      clear hbz
      go_wp2
      go_roundw
      case rel => exact ⟨j + 1, by omega, by go_num, by go_num, HBZ.out⟩
      case measure => simp [intOf]; omega
    · have hjn : j = n := by omega
      have e1 : k + j = k + n := by omega
      have E1 := Lib.hid e1
      clear hjn e1
      go_wp2
      go_ret
      exact ⟨by rw [E1.out]; rfl, hbj⟩

end Go.Proofs.Ytaphphelimpgmaa.Mrk
