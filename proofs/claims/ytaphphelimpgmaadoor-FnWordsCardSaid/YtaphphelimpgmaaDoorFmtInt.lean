/- The contracts of the two functions FormatInt: the decimal numeral, for every int. -/
import Derived.Test.YtaphphelimpgmaaDoorShelf
import Derived.Test.YtaphphelimpgmaaDoorNum
import Derived.Test.YtaphphelimpgmaaDoorFrame
import Derived.WalkKit
import Derived.WalkSpells
import Derived.WalkLawsBesides
import Derived.BigQuiet
import Derived.Deep.QuietTactic
import Derived.Deep.RegionWith
import Derived.Lib.Hide
import Derived.Laws.BytesArg
set_option linter.unusedVariables false
namespace Go.Proofs.YtaphphelimpgmaaDoor.Fmt
open Go.RowKit Num Go.Lib

theorem run_one_byte (w : World) (n : Int) : (convert 22 9 (.slice (some ⟨w.heap.size, 0, none⟩) 1 1)).run Tryd.prog (w.alloc (.cells #[.int .u8 n] 5)) = .ok (.string ⟨#[UInt8.ofNat n.toNat]⟩) (w.alloc (.cells #[.int .u8 n] 5)) := by
  have := run_convert_bytes_arg (P := Tryd.prog) (w.alloc (.cells #[.int .u8 n] 5)) 22 5 Tryd.underlying22 Tryd.underlying5 w.heap.size 0 1 1 [n] rfl
    (fun i hi => by
      obtain rfl : i = 0 := by omega
      rw [Lib.cell_of_heap (heap_alloc_new w _)]; rfl) 9 Tryd.underlying9
  exact this

theorem run_byte_at (W : World) (g : Nat) (n : Int) (h : W.cell? ⟨g, 0, none⟩ = some (.int .u8 n)) : (convert 22 9 (.slice (some ⟨g, 0, none⟩) 1 1)).run Tryd.prog W = .ok (.string ⟨#[UInt8.ofNat n.toNat]⟩) W := by
  have := run_convert_bytes_arg (P := Tryd.prog) W 22 5 Tryd.underlying22 Tryd.underlying5 g 0 1 1 [n] rfl
    (fun i hi => by
      obtain rfl : i = 0 := by omega
      rw [h]; rfl) 9 Tryd.underlying9
  exact this
theorem cell_new (w : World) (v : Value) (t : TypeId) : (w.alloc (.cells #[v] t)).cell? ⟨w.heap.size, 0, none⟩ = some v := by
  rw [Lib.cell_of_heap (heap_alloc_new w _)]; rfl

theorem byte_cat (c : UInt8) (t : ByteArray) (acc : List UInt8) (h : t = ⟨acc.toArray⟩) : (ByteArray.mk #[c] ++ t) = ⟨(c :: acc).toArray⟩ := by
  rw [h]; exact ByteArray.mk_append_mk [c] acc

theorem dd_next (j : Nat) (acc : List UInt8) (h : 9 < j) : decDigits (j / 10) ++ (UInt8.ofNat (48 + j % 10) :: acc) = decDigits j ++ acc := by
  conv => rhs; rw [decDigits, dif_neg (by omega)]
  simp

set_option maxHeartbeats 1000000 in
theorem spec_pos (k : Nat) (w : World) (h1 : k ≤ 9223372036854775807) :
    Calls Tryd.prog 14 #[.int .i64 (k : Int)] w fun e w' => e = .returned (.string ⟨(decDigits k).toArray⟩) ∧ Below w.heap.size w w' := by
  have hk0 : decide ((k : Int) < 0) = false := decide_eq_false (by omega)
  have hlen : (decDigits k).length ≤ 21 := by rw [decDigits_length]; have := nDigits_le20 k (by omega); omega
  have HLEN := Lib.hid hlen
  clear hlen
  go_enter Tryd.func14, Tryd.ntmps14
  go_wp2
  go_loopw [0, 3] (fun n out wr => ∃ (j : Nat) (acc : List UInt8), j ≤ k ∧ Hid (decDigits j ++ acc = decDigits k) ∧ n = .int .i64 (j : Int) ∧ (∃ t : ByteArray, Hid (t = ⟨acc.toArray⟩) ∧ out = .string t) ∧ Below w.heap.size w wr) (fun n _ _ => (RowKit.intOf n).toNat)
  case atStart => exact ⟨k, [], Nat.le_refl _, by simp [Hid], rfl, ⟨_, rfl, rfl⟩, Below.refl _ w⟩
  case round =>
    obtain ⟨j, acc, hjk, HD, rfl, ⟨t, HT, rfl⟩, hb⟩ := hrel
    have hts : t.size = acc.length := by rw [HT.out]; simp [ByteArray.size]
    have hal : acc.length ≤ 21 := by
      have h2 := congrArg List.length HD.out
      have h3 := HLEN.out
      rw [List.length_append] at h2
      omega
    have htb : t.size ≤ 21 := by omega
    by_cases hj : 9 < j
    · have hone := run_one_byte wr (48 + (j : Int) % 10)
      have hc : UInt8.ofNat (48 + (j : Int) % 10).toNat = UInt8.ofNat (48 + j % 10) := by congr 1
      rw [hc] at hone
      have hd := (dd_next j acc hj).trans HD.out
      generalize UInt8.ofNat (48 + j % 10) = x at hone hd
      have hcat := byte_cat x t acc HT.out
      have HC := Lib.hid hcat
      have HDD := Lib.hid hd
      have hxb : (ByteArray.mk #[x]).size + t.size ≤ 9223372036854775807 := by
        have hxs : (ByteArray.mk #[x]).size = 1 := rfl
        omega
      have hb2 := hb.alloc hb.size (.cells #[.int .u8 (48 + (j : Int) % 10)] 5)
      have HB2 := Lib.hid hb2
      clear hcat hd hc hb2 hts hal
      go_wp2
      go_roundw
      case rel => exact ⟨j / 10, x :: acc, by omega, HDD.out, by go_num, ⟨_, HC.out, rfl⟩, HB2.out⟩
      case measure => simp [RowKit.intOf]; omega
    · have hone := run_one_byte wr (48 + (j : Int))
      have hc : UInt8.ofNat (48 + (j : Int)).toNat = UInt8.ofNat (48 + j) := by congr 1
      rw [hc] at hone
      have hd : UInt8.ofNat (48 + j) :: acc = decDigits k := by
        rw [← HD.out, decDigits, dif_pos (by omega)]; rfl
      generalize UInt8.ofNat (48 + j) = x at hone hd
      have hcat := byte_cat x t acc HT.out
      rw [hd] at hcat
      have HC := Lib.hid hcat
      have hxb : (ByteArray.mk #[x]).size + t.size ≤ 9223372036854775807 := by
        have hxs : (ByteArray.mk #[x]).size = 1 := rfl
        omega
      have hb2 := hb.alloc hb.size (.cells #[.int .u8 (48 + (j : Int))] 5)
      have HB2 := Lib.hid hb2
      clear hcat hd hc hb2 hts hal
      go_wp2
      go_ret
      exact ⟨congrArg (fun x => Ending.returned (.string x)) HC.out, HB2.out⟩

set_option maxHeartbeats 1000000 in
theorem spec_neg (u : Nat) : ∀ (w : World), 1 ≤ u → u ≤ 9223372036854775808 →
    Calls Tryd.prog 14 #[.int .i64 (-(u : Int))] w fun e w' => e = .returned (.string ⟨(45 :: decDigits u).toArray⟩) ∧ Below w.heap.size w w' := by
  induction u using Nat.strongRecOn with
  | _ u ih =>
    intro w h1 h2
    have hk0 : decide (-(u : Int) < 0) = true := decide_eq_true (by omega)
    have hq : (-(u : Int)).tdiv 10 = -((u / 10 : Nat) : Int) := by rw [Int.neg_tdiv]; rfl
    have hm : (-(u : Int)).tmod 10 = -((u % 10 : Nat) : Int) := by rw [Int.neg_tmod]; rfl
    by_cases hs : u < 10
    · have hone := run_one_byte w (48 + (u : Int))
      have hc : UInt8.ofNat (48 + (u : Int)).toNat = UInt8.ofNat (48 + u) := by congr 1
      rw [hc] at hone
      have hd : [UInt8.ofNat (48 + u)] = decDigits u := by rw [decDigits, dif_pos hs]
      generalize UInt8.ofNat (48 + u) = x at hone hd
      have hz : (-((u : Int) / 10) == 0) = true := by
        rw [beq_iff_eq]; omega
      have hcat : ByteArray.mk #[45] ++ ByteArray.mk #[x] = ⟨(45 :: decDigits u).toArray⟩ := by
        rw [byte_cat 45 _ [x] rfl, hd]
      have HC := Lib.hid hcat
      have hxb : (ByteArray.mk #[45]).size + (ByteArray.mk #[x]).size ≤ 9223372036854775807 := by
        have e1 : (ByteArray.mk #[45]).size = 1 := rfl
        have e2 : (ByteArray.mk #[x]).size = 1 := rfl
        omega
      clear hcat hd hc ih
      go_enter Tryd.func14, Tryd.ntmps14
      go_wp2
      go_ret
      exact ⟨congrArg (fun x => Ending.returned (.string x)) HC.out, (Below.refl _ w).alloc (Nat.le_refl _) _⟩
    · have ihq : ∀ w : World, Calls Tryd.prog 14 #[.int .i64 (-((u : Int) / 10))] w fun e w' => e = .returned (.string ⟨(45 :: decDigits (u / 10)).toArray⟩) ∧ Below w.heap.size w w' := fun w => ih (u / 10) (by omega) w (by omega) (by omega)
      have hone := fun w => run_one_byte w (48 + (u : Int) % 10)
      have hat := fun W => run_byte_at W w.heap.size (48 + (u : Int) % 10)
      have hc : UInt8.ofNat (48 + (u : Int) % 10).toNat = UInt8.ofNat (48 + u % 10) := by congr 1
      rw [hc] at hone hat
      have hd : decDigits (u / 10) ++ [UInt8.ofNat (48 + u % 10)] = decDigits u := by
        conv => rhs; rw [decDigits, dif_neg hs]
      generalize UInt8.ofNat (48 + u % 10) = x at hone hat hd
      have hlen : (decDigits (u / 10)).length ≤ 21 := by rw [decDigits_length]; have := nDigits_le20 (u / 10) (by omega); omega
      generalize hl : decDigits (u / 10) = l at hd hlen ihq
      have HL := Lib.hid hl
      have hcat : ByteArray.mk (45 :: l).toArray ++ ByteArray.mk #[x] = ⟨(45 :: decDigits u).toArray⟩ := by
        rw [← hd]; exact ByteArray.mk_append_mk (45 :: l) [x]
      have e1 : (ByteArray.mk (45 :: l).toArray).size = l.length + 1 := by simp [ByteArray.size]
      have e2 : (ByteArray.mk #[x]).size = 1 := rfl
      generalize ByteArray.mk (45 :: l).toArray = y at hcat e1 ihq
      generalize ByteArray.mk #[x] = z at hcat e2 hone hat
      have HC := Lib.hid hcat
      have hyb : y.size ≤ 22 := by omega
      have hzb : z.size ≤ 22 := by omega
      have hxb : y.size + z.size ≤ 9223372036854775807 := by omega
      clear e1 e2
      have hz : (-((u : Int) / 10) == 0) = false := by
        rw [beq_eq_false_iff_ne]; omega
      have hw1 : IntKind.i64.wrap (-((u : Int) / 10)) = -((u : Int) / 10) := IntWalk.i64_in _ (by omega)
      have hw2 : IntKind.i64.wrap (48 + (u : Int) % 10) = 48 + (u : Int) % 10 := IntWalk.i64_in _ (by omega)
      have hw3 : IntKind.u8.wrap (48 + (u : Int) % 10) = 48 + (u : Int) % 10 := by
        simp only [IntKind.wrap, IntKind.signed, IntKind.bits]
        simp
        omega
      clear hcat hd hc ih hl hlen
      have IHQ := Lib.hid ihq
      clear ihq
      go_enter Tryd.func14, Tryd.ntmps14
      go_wp2_with fail
      go_region_with ((go_at_call 14; refine (IHQ.out _).mono ?_; rintro e w' ⟨rfl, hb⟩; first | (have hcell : w'.cell? ⟨w.heap.size, 0, none⟩ = some (.int .u8 (48 + (u : Int) % 10)) := (hb.cell (p := ⟨w.heap.size, 0, none⟩) (by simp)).trans (cell_new w _ _)) | skip))
      all_goals
        go_wp2
        go_ret
        refine ⟨congrArg (fun x => Ending.returned (.string x)) HC.out, ?_⟩
        first
          | exact ((Below.refl _ w).drew.trans hb).alloc ((Below.refl w.heap.size w).drew.trans hb).size _
          | exact (((Below.refl _ w).alloc (Nat.le_refl _) _).drew).trans (hb.mono (by simp))

/-- every int -/
theorem spec_any (n : Int) (w : World) (h0 : -9223372036854775808 ≤ n) (h1 : n ≤ 9223372036854775807) :
    Calls Tryd.prog 14 #[.int .i64 n] w fun e w' => e = .returned (.string ⟨(itoa n).toArray⟩) ∧ Below w.heap.size w w' := by
  by_cases hn : n < 0
  · obtain ⟨u, rfl⟩ : ∃ u : Nat, n = -(u : Int) := ⟨n.natAbs, by omega⟩
    have e : itoa (-(u : Int)) = 45 :: decDigits u := by rw [itoa, if_pos hn]; congr 2; omega
    rw [e]
    exact spec_neg u w (by omega) (by omega)
  · obtain ⟨u, rfl⟩ : ∃ u : Nat, n = (u : Int) := ⟨n.toNat, by omega⟩
    have e : itoa (u : Int) = decDigits u := by rw [itoa, if_neg hn]; rfl
    rw [e]
    exact spec_pos u w (by omega)

theorem below_more (w : World) (k : Nat) (os : Array Obj) : Below w.heap.size w (Sort.grow (w.drewN k) os) := by
  refine ⟨rfl, rfl, rfl, ?_, ?_⟩
  · show w.heap.size ≤ (w.heap ++ os).size
    simp
  · intro i hi
    show (w.heap ++ os)[i]? = _
    rw [Array.getElem?_append_left hi]

theorem impl_any (n : Int) (w : World) (h0 : -9223372036854775808 ≤ n) (h1 : n ≤ 9223372036854775807) (htab : Lib.TabIs Tryd.prog w "internal/strconv.uint64pow10" .u64 Lib.pow10Tab) :
    Calls Tryd.prog 8 #[.int .i64 n] w fun e w' => e = .returned (.string ⟨(itoa n).toArray⟩) ∧ Below w.heap.size w w' := by
  go_enter Tryd.func8, Tryd.ntmps8
  go_wp2_with fail
  refine (Tryd.strconv_Itoa n h0 h1 _ htab).mono ?_
  rintro e w' ⟨rfl, k, os, rfl⟩
  have hb := below_more w k os
  go_wp2
  go_ret
  exact ⟨rfl, hb⟩

end Go.Proofs.YtaphphelimpgmaaDoor.Fmt
