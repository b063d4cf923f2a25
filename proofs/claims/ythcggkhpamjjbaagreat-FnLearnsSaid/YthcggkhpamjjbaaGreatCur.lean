/- The drawing cursor of the laws: a byte drawn lies from 0 to 255, a number drawn below n lies below n, and nothing but the cursor's own block is written. -/
import Derived.Test.YthcggkhpamjjbaaGreatFrame
import Derived.WalkKit
import Derived.WalkSpells
import Derived.WalkLawsBesides
import Derived.BigQuiet
import Derived.Deep.QuietTactic
import Derived.Lib.Hide
import Derived.Lib.Builder
set_option linter.unusedVariables false
set_option maxRecDepth 20000
namespace Go.Proofs.YthcggkhpamjjbaaGreat.Cur
open Go.RowKit

/-- bytes in memory, below block B -/
def BytesAt (w : World) (B : Nat) (A : Option Addr) (n : Nat) : Prop :=
  ∀ k, k < n → ∃ b o x, A = some ⟨b, o, none⟩ ∧ b < B ∧ 0 ≤ x ∧ x ≤ 255 ∧ w.cell? ⟨b, o + k, none⟩ = some (.int .u8 x)
theorem BytesAt.below {w w' : World} {B : Nat} {A : Option Addr} {n : Nat} (h : BytesAt w B A n) (hb : Below B w w') : BytesAt w' B A n := by
  intro k hk
  obtain ⟨b, o, x, hA, hlt, h0, h1, hc⟩ := h k hk
  exact ⟨b, o, x, hA, hlt, h0, h1, (hb.cell (p := ⟨b, o + k, none⟩) hlt).trans hc⟩

theorem bytes_of {w : World} {A : Option Addr} {zs : List Int} {n : Nat} (hn : zs.length = n) (hz : ∀ z ∈ zs, (Lit.int .u8 z).wf = true) (h : Fr.IntsAt w w.heap.size .u8 A zs) : BytesAt w w.heap.size A n := by
  intro k hk
  obtain ⟨b, o, hA, hlt, hc⟩ := h k (by omega)
  have hm : zs.getD k 0 ∈ zs := by
    rw [List.getD_eq_getElem?_getD, List.getElem?_eq_getElem (by omega)]
    exact List.getElem_mem _
  have hw := hz _ hm
  have hb : 0 ≤ zs.getD k 0 ∧ zs.getD k 0 ≤ 255 := by simpa [Lit.wf, IntKind.min, IntKind.max, IntKind.signed, IntKind.bits] using hw
  exact ⟨b, o, _, hA, hlt, hb.1, hb.2, hc⟩

/-- a cursor over n bytes, in block c -/
def IsCur (w : World) (c : Nat) (A : Option Addr) (n cap : Nat) : Prop :=
  ∃ (i : Nat) (h : Int), i ≤ n ∧ w.heap[c]? = some (.cells #[.slice A n cap, .int .i64 (i : Int), .int .i64 h] 66 (0, 0))

theorem IsCur.lt {w : World} {c : Nat} {A : Option Addr} {n cap : Nat} (h : IsCur w c A n cap) : c < w.heap.size := by
  obtain ⟨i, x, _, hh⟩ := h
  exact (Array.getElem?_eq_some_iff.1 hh).1
theorem IsCur.below {w w' : World} {c B : Nat} {A : Option Addr} {n cap : Nat} (h : IsCur w c A n cap) (hb : Below B w w') (hc : c < B) : IsCur w' c A n cap := by
  obtain ⟨i, x, hi, hh⟩ := h
  exact ⟨i, x, hi, (hb.block c hc).trans hh⟩

/-- nothing but block c is other than it was, and no block has come -/
structure Only (c : Nat) (w w' : World) : Prop where
  os : w'.os = w.os
  tape : w'.tape = w.tape
  output : w'.output = w.output
  size : w'.heap.size = w.heap.size
  block : ∀ k, k ≠ c → w'.heap[k]? = w.heap[k]?
theorem Only.refl (c : Nat) (w : World) : Only c w w := ⟨rfl, rfl, rfl, rfl, fun _ _ => rfl⟩
theorem Only.trans {c : Nat} {a b d : World} (h : Only c a b) (k : Only c b d) : Only c a d :=
  ⟨k.os.trans h.os, k.tape.trans h.tape, k.output.trans h.output, k.size.trans h.size, fun i hi => (k.block i hi).trans (h.block i hi)⟩
theorem Only.drewN {c : Nat} {a b : World} (h : Only c a b) (n : Nat) : Only c a (b.drewN n) := ⟨h.os, h.tape, h.output, h.size, h.block⟩
theorem Only.store {c : Nat} {a b : World} (h : Only c a b) (j : Nat) (x : Value) : Only c a (b.setCell ⟨c, j, none⟩ x) :=
  h.trans ⟨rfl, rfl, rfl, by simp [World.setCell], fun k hk => Below.heap_setCell _ _ _ _ hk⟩
theorem Only.below {c B : Nat} {a b : World} (h : Only c a b) (hB : B ≤ c) : Below B a b :=
  ⟨h.os, h.tape, h.output, by rw [h.size]; exact Nat.le_refl _, fun k hk => h.block k (by omega)⟩
theorem Only.cell {c : Nat} {a b : World} (h : Only c a b) {p : Addr} (hp : p.block ≠ c) : b.cell? p = a.cell? p := World.cell?_of_block (w := a) (h.block p.block hp)

theorem and_mask (x : Int) (m : Nat) (hm : m < 9223372036854775808) : 0 ≤ bits .and .i64 x (m : Int) ∧ bits .and .i64 x (m : Int) ≤ m := by
  have hb : (BitVec.ofInt 64 (m : Int)).toNat = m := by
    rw [BitVec.toNat_ofInt]
    omega
  have hle : (BitVec.ofInt 64 x &&& BitVec.ofInt 64 (m : Int)).toNat ≤ m := by
    rw [BitVec.toNat_and, hb]
    exact Nat.and_le_right
  show 0 ≤ IntKind.i64.wrap ((BitVec.ofInt 64 x &&& BitVec.ofInt 64 (m : Int)).toNat : Int) ∧ IntKind.i64.wrap ((BitVec.ofInt 64 x &&& BitVec.ofInt 64 (m : Int)).toNat : Int) ≤ m
  rw [IntWalk.i64_in _ (by omega)]
  omega

/-- a store into the cursor's own block -/
theorem cur_store {w : World} {c : Nat} {v0 v1 v2 : Value} (hh : w.heap[c]? = some (.cells #[v0, v1, v2] 66 (0, 0))) (x : Value) :
    (w.setCell ⟨c, 1, none⟩ x).heap[c]? = some (.cells #[v0, x, v2] 66 (0, 0)) ∧ (w.setCell ⟨c, 2, none⟩ x).heap[c]? = some (.cells #[v0, v1, x] 66 (0, 0)) := by
  constructor <;> simp [World.setCell, Array.getElem?_modify, hh]

def ByteDrawn (c : Nat) (A : Option Addr) (n cap : Nat) (w : World) (e : Ending) (w' : World) : Prop :=
  ∃ x : Int, e = .returned (.int .i64 x) ∧ 0 ≤ x ∧ x ≤ 255 ∧ IsCur w' c A n cap ∧ Only c w w'

set_option maxHeartbeats 1000000 in
theorem byte_any (B c : Nat) (A : Option Addr) (n cap : Nat) (w : World) (hn : n ≤ 1048576) (hB : B ≤ c) (hcur : IsCur w c A n cap) (hbytes : BytesAt w B A n) :
    Calls Tryz.prog 45 #[.pointer (some ⟨c, 0, none⟩)] w (ByteDrawn c A n cap w) := by
  obtain ⟨i, h, hi, hh⟩ := hcur
  have c0 : w.cell? ⟨c, 0, none⟩ = some (.slice A n cap) := by rw [Lib.cell_of_heap hh]; rfl
  have c1 : w.cell? ⟨c, 1, none⟩ = some (.int .i64 (i : Int)) := by rw [Lib.cell_of_heap hh]; rfl
  have c2 : w.cell? ⟨c, 2, none⟩ = some (.int .i64 h) := by rw [Lib.cell_of_heap hh]; rfl
  have f1 : w.frozen? ⟨c, 1, none⟩ = false := Lib.frozen_of_heap hh 1
  have f2 : w.frozen? ⟨c, 2, none⟩ = false := Lib.frozen_of_heap hh 2
  by_cases hlt : i < n
  · obtain ⟨b, o, x, rfl, hbB, hx0, hx1, hx⟩ := hbytes i hlt
    go_enter Tryz.func45, Tryz.ntmps45
    go_wp2
    generalize wrap64 (wrap64 (h * 6364136223846793005) + 1442695040888963407) = h2
    have hh1 := (cur_store hh (.int .i64 h2)).2
    have hb1 := (Below.refl B w).setCell (p := ⟨c, 2, none⟩) hB (.int .i64 h2)
    have ho1 := (Only.refl c w).store 2 (.int .i64 h2)
    generalize w.setCell ⟨c, 2, none⟩ (.int .i64 h2) = w1 at hh1 hb1 ho1 ⊢
    have d0 : w1.cell? ⟨c, 0, none⟩ = some (.slice (some ⟨b, o, none⟩) n cap) := by rw [Lib.cell_of_heap hh1]; rfl
    have d1 : w1.cell? ⟨c, 1, none⟩ = some (.int .i64 (i : Int)) := by rw [Lib.cell_of_heap hh1]; rfl
    have d2 : w1.cell? ⟨c, 2, none⟩ = some (.int .i64 h2) := by rw [Lib.cell_of_heap hh1]; rfl
    have g1 : w1.frozen? ⟨c, 1, none⟩ = false := Lib.frozen_of_heap hh1 1
    have dx : w1.cell? ⟨b, o + i, none⟩ = some (.int .u8 x) := (hb1.cell (p := ⟨b, o + i, none⟩) hbB).trans hx
    clear c0 c1 c2 f1 f2 hh hx
    go_quiet (fail)
    generalize bits BinOp.and IntKind.i64 _ 255 = y
    go_wp2
    have hi0 : (0 : Int) ≤ (i : Int) := by omega
    have hi1 : (i : Int) < (n : Int) := by omega
    have ht : decide ((i : Int) < (n : Int)) = true := decide_eq_true hi1
    go_quiet (fail)
    go_wp2
    go_quiet (fail)
    generalize hz : bits BinOp.and IntKind.i64 _ 255 = z
    have hz2 : 0 ≤ z ∧ z ≤ 255 := by rw [← hz]; exact and_mask _ 255 (by decide)
    clear hz
    go_wp2
    go_ret
    refine ⟨z, rfl, hz2.1, hz2.2, ⟨i + 1, h2, by omega, ?_⟩, ?_⟩
    · rw [show ((i + 1 : Nat) : Int) = (i : Int) + 1 from by omega]
      exact (cur_store hh1 _).1
    · exact (ho1.store 1 _).drewN _
  · go_enter Tryz.func45, Tryz.ntmps45
    go_wp2
    generalize wrap64 (wrap64 (h * 6364136223846793005) + 1442695040888963407) = h2
    have hh1 := (cur_store hh (.int .i64 h2)).2
    have hb1 := (Below.refl B w).setCell (p := ⟨c, 2, none⟩) hB (.int .i64 h2)
    have ho1 := (Only.refl c w).store 2 (.int .i64 h2)
    generalize w.setCell ⟨c, 2, none⟩ (.int .i64 h2) = w1 at hh1 hb1 ho1 ⊢
    have d0 : w1.cell? ⟨c, 0, none⟩ = some (.slice A n cap) := by rw [Lib.cell_of_heap hh1]; rfl
    have d1 : w1.cell? ⟨c, 1, none⟩ = some (.int .i64 (i : Int)) := by rw [Lib.cell_of_heap hh1]; rfl
    have d2 : w1.cell? ⟨c, 2, none⟩ = some (.int .i64 h2) := by rw [Lib.cell_of_heap hh1]; rfl
    clear c0 c1 c2 f1 f2 hh
    go_quiet (fail)
    generalize hz : bits BinOp.and IntKind.i64 _ 255 = z
    have hz2 : 0 ≤ z ∧ z ≤ 255 := by rw [← hz]; exact and_mask _ 255 (by decide)
    clear hz
    go_wp2
    have ht : decide ((i : Int) < (n : Int)) = false := decide_eq_false (by omega)
    go_quiet (fail)
    go_wp2
    go_ret
    exact ⟨z, rfl, hz2.1, hz2.2, ⟨i, h2, hi, hh1⟩, (ho1.drewN _).drewN _⟩

def NewCur (A : Option Addr) (n cap : Nat) (w : World) (e : Ending) (w' : World) : Prop :=
  ∃ c, e = .returned (.pointer (some ⟨c, 0, none⟩)) ∧ w.heap.size ≤ c ∧ IsCur w' c A n cap ∧ Below w.heap.size w w'

set_option maxHeartbeats 1000000 in
theorem new_any (A : Option Addr) (n cap : Nat) (w : World) (hn : n ≤ 1048576) (hbytes : BytesAt w w.heap.size A n) :
    Calls Tryz.prog 21 #[.slice A n cap] w (NewCur A n cap w) := by
  go_enter Tryz.func21, Tryz.ntmps21
  go_wp2
  go_loop [3, 4] (fun h i => ∃ (k : Nat) (x : Int), k ≤ n ∧ i = .int .i64 (k : Int) ∧ h = .int .i64 x ∧ 0 ≤ x ∧ x ≤ 1073741823) (fun _ i => n - (intOf i).toNat)
  case atStart => exact ⟨0, 2070 + n, Nat.zero_le _, rfl, by go_num, by omega, by omega⟩
  case round =>
    obtain ⟨k, x, hk, rfl, rfl, hx0, hx1⟩ := hrel
    by_cases hlt : k < n
    · obtain ⟨b, o, y, rfl, hbB, hy0, hy1, hy⟩ := hbytes k hlt
      by_cases h4 : (k : Int) < 4000
      · have hm := and_mask (x * 101 + y + 7) 1073741823 (by decide)
        go_wp2
        go_round
        case rel => exact ⟨k + 1, _, by omega, by go_num, rfl, hm.1, hm.2⟩
        case measure => simp [intOf]; omega
      · have h4' : decide ((k : Int) < 4000) = false := decide_eq_false h4
        go_wp2
        go_ret
        exact ⟨w.heap.size, rfl, Nat.le_refl _, ⟨0, x, Nat.zero_le _, heap_alloc_new w _⟩, (Below.refl _ w).alloc (Nat.le_refl _) _⟩
    · go_wp2
      go_ret
      exact ⟨w.heap.size, rfl, Nat.le_refl _, ⟨0, x, Nat.zero_le _, heap_alloc_new w _⟩, (Below.refl _ w).alloc (Nat.le_refl _) _⟩

def NumDrawn (c : Nat) (A : Option Addr) (n cap : Nat) (m : Int) (w : World) (e : Ending) (w' : World) : Prop :=
  ∃ x : Int, e = .returned (.int .i64 x) ∧ 0 ≤ x ∧ x < m ∧ IsCur w' c A n cap ∧ Only c w w'

set_option maxHeartbeats 1000000 in
theorem below_any (B c : Nat) (A : Option Addr) (n cap : Nat) (m : Int) (w : World) (hm0 : 1 ≤ m) (hm1 : m ≤ 256) (hn : n ≤ 1048576) (hB : B ≤ c) (hcur : IsCur w c A n cap) (hbytes : BytesAt w B A n) :
    Calls Tryz.prog 44 #[.pointer (some ⟨c, 0, none⟩), .int .i64 m] w (NumDrawn c A n cap m w) := by
  have h0 : decide (m ≤ 0) = false := decide_eq_false (by omega)
  have h1 : decide (m ≤ 256) = true := decide_eq_true (by omega)
  go_enter Tryz.func44, Tryz.ntmps44
  go_wp2_with fail
  refine (byte_any B c A n cap _ hn hB hcur hbytes).mono ?_
  rintro e w1 ⟨x, rfl, hx0, hx1, hc1, ho1⟩
  have hr0 := Int.emod_nonneg x (show m ≠ 0 by omega)
  have hr1 := Int.emod_lt_of_pos x (show 0 < m by omega)
  go_wp2
  go_ret
  exact ⟨x % m, rfl, hr0, hr1, hc1, ho1⟩


set_option maxHeartbeats 1000000 in
theorem new23_any (A : Option Addr) (n cap m : Nat) (w : World) (hn : n ≤ 1048576) (hm : m ≤ 1000) (hbytes : BytesAt w w.heap.size A n) :
    Calls Tryz.prog 23 #[.slice A n cap, .int .i64 (m : Int)] w (NewCur A n cap w) := by
  go_enter Tryz.func23, Tryz.ntmps23
  go_wp2_with fail
  refine (new_any A n cap _ hn hbytes).mono ?_
  rintro e w1 ⟨c, rfl, hwc, hc1, hb1⟩
  have hby1 := hbytes.below hb1
  go_wp2
  go_loopw [6] (fun i wr => ∃ k : Nat, k ≤ m ∧ i = .int .i64 (k : Int) ∧ IsCur wr c A n cap ∧ Only c w1 wr) (fun i _ => m - (intOf i).toNat)
  case atStart => exact ⟨0, Nat.zero_le _, rfl, hc1, Only.refl _ _⟩
  case round =>
    obtain ⟨k, hk, rfl, hck, hok⟩ := hrel
    by_cases hlt : k < m
    · have hby2 := hby1.below (hok.below hwc)
      go_wp2_with fail
      refine (byte_any w.heap.size c A n cap _ hn hwc hck hby2).mono ?_
      rintro e w2 ⟨x, rfl, hx0, hx1, hc2, ho2⟩
      have ho3 := hok.trans ho2
      go_wp2
      go_roundw
      case rel => exact ⟨k + 1, by omega, by go_num, hc2, ho3⟩
      case measure => simp [intOf]; omega
    · go_wp2
      go_ret
      exact ⟨c, rfl, hwc, hck, hb1.trans (hok.below hwc)⟩

def SomeNum (lo hi : Int) (w : World) (e : Ending) (w' : World) : Prop := ∃ x : Int, e = .returned (.int .i64 x) ∧ lo ≤ x ∧ x ≤ hi ∧ Below w.heap.size w w'
def SomeStr (k : Nat) (w : World) (e : Ending) (w' : World) : Prop := ∃ s : ByteArray, e = .returned (.string s) ∧ s.size ≤ k ∧ Below w.heap.size w w'



end Go.Proofs.YthcggkhpamjjbaaGreat.Cur
