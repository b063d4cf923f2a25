/- slices.Chunk as a function that is ranged over: the blocks of a list. -/
import Derived.Test.YtpmfiflpipcojaaRfv
import Derived.Test.YtpmfiflpipcojaaGib
import Derived.Shelf.Abstract
import Derived.Shelf.RegionOpen
import Derived.WalkKit
import Derived.OwnWalkIn
import Derived.TacticsInMore
import Derived.LoopNIn
import Derived.LoopIn
import Derived.Sort.LoopGhostIn
import Derived.Sort.CutIn
import Derived.Sort.QuietIn
set_option linter.unusedVariables false
set_option maxRecDepth 20000
namespace Go.Proofs.Ytpmfiflpipcojaa.Gih
open Go.RowKit Go.Shelf Fr _root_.Go.Proofs.Ytpmfiflpipcojaa.Own Pk Ins Prm Rws Rfn Rfv Gib

attribute [local go_sem] Oper.semAt_some

/-- how many blocks -/
def chK (n S : Nat) : Nat := (n + S - 1) / S
theorem chK_lt {n S j : Nat} (hS : 1 ≤ S) : j < chK n S ↔ j * S < n := by
  unfold chK
  rw [Nat.lt_iff_add_one_le, Nat.le_div_iff_mul_le (by omega), Nat.succ_mul]
  omega
/-- block j -/
def chV (b o n S j : Nat) : Value := .slice (some ⟨b, o + j * S, none⟩) (min S (n - j * S)) (min S (n - j * S))
def chVs (b o n S : Nat) : List Value := (List.range (chK n S)).map (chV b o n S)
theorem chVs_len (b o n S : Nat) : (chVs b o n S).length = chK n S := by simp [chVs]
theorem chVs_get {b o n S j : Nat} (h : j < chK n S) : (chVs b o n S).getD j undef = chV b o n S j := by
  simp [chVs, List.getD_eq_getElem?_getD, h]
/-- the captured list and size -/
def KPc (bs bn : Nat) (b o n c S : Nat) (W : World) : Prop := W.cell? ⟨bs, 0, none⟩ = some (.slice (some ⟨b, o, none⟩) n c) ∧ W.cell? ⟨bn, 0, none⟩ = some (.int .i64 S)

theorem chunk_any (A : Option Addr) (n c S : Nat) (w : World) (hS : 1 ≤ S) :
    Calls Try.prog 47 #[.slice A n c, .int .i64 S] w fun e w' => e = .returned (.func (.func 71) #[] #[.pointer (some ⟨w.heap.size, 0, none⟩), .pointer (some ⟨w.heap.size + 1, 0, none⟩)]) ∧ (w.alloc (.cells #[.slice A n c] 23)).alloc (.cells #[.int .i64 S] 3) = w' := by
  have h0 : decide ((S : Int) < 1) = false := decide_eq_false (by omega)
  have h1 : decide (S < 1) = false := decide_eq_false (by omega)
  have h2 : ¬ S < 1 := by omega
  clear hS
  go_enter Try.func47, Try.ntmps47
  go_wp2
  go_ret
  exact ⟨by simp, rfl⟩

set_option maxHeartbeats 2000000 in
theorem chunk_iter (bs bn b o n c S : Nat) (hS : 1 ≤ S) (hSn : S ≤ 12) (hn2 : n ≤ 12) (hnc : n ≤ c) :
    IterV 71 #[.pointer (some ⟨bs, 0, none⟩), .pointer (some ⟨bn, 0, none⟩)] (KPc bs bn b o n c S) (chVs b o n S) := by
  intro l J Jx hKP hst hY W h0
  have HKP := Lib.hid hKP
  have HST := Lib.hid hst
  have HK := Lib.hid (fun j => @chK_lt n S j hS)
  have HL := Lib.hid (chVs_len b o n S)
  obtain ⟨hc1, hc2⟩ := hKP 0 W h0
  refine callsIn_of_wp Try.func71 rfl trivial ?_ rfl
  simp only [Try.ntmps71, List.size_toArray, List.length_cons, List.length_nil, Nat.reduceAdd, Nat.reduceSub, Array.replicate_succ, Array.replicate_zero, List.push_toArray, List.append_toArray, List.nil_append, List.cons_append]
  gi_wp2
  gi_loopw [4, 5] (fun i _ wr => ∃ j q : Nat, j ≤ chK n S ∧ Hid (q = j * S) ∧ q ≤ 24 ∧ i = .int .i64 (q : Int) ∧ J j wr) (fun i _ _ => 24 - (intOf i).toNat)
  case atStart => exact ⟨0, 0, Nat.zero_le _, by show _ = _; simp, by omega, rfl, h0⟩
  case round =>
    obtain ⟨j, q, hj, HQ, hq24, rfl, hjw⟩ := hrel
    obtain ⟨hc1, hc2⟩ := HKP.out j wr hjw
    by_cases hlt : q < n
    · have hjK : j < chK n S := (HK.out j).2 (by rw [← HQ.out]; exact hlt)
      have HV := Lib.hid (chVs_get (b := b) (o := o) hjK)
      have hjd := HST.out j wr wr.drew hjw ⟨rfl, rfl, rfl, Nat.le_refl _, fun _ _ _ => rfl⟩
      have HY := Lib.hid (fun W2 hg => hY j wr W2 (by rw [HL.out]; exact hjK) hjw hg)
      have hqc : ¬ c = q := by omega
      have hqc1 : (q : Int) ≤ (c : Int) := by omega
      have hqn1 : (q : Int) ≤ (n : Int) := by omega
      have hq0 : (0 : Int) ≤ (q : Int) := by omega
      gi_wp2
      gi_quiet (fail)
      obtain ⟨M, hM⟩ : ∃ M, M = min S (n - q) := ⟨_, rfl⟩
      have hmn : min (S : Int) ((n - q : Nat) : Int) = (M : Int) := by omega
      rw [hmn]
      have hM0 : ¬ M = 0 := by omega
      have hMc : q + M ≤ c := by omega
      have hMc2 : (q : Int) + (M : Int) ≤ (c : Int) := by omega
      have hMq : (q : Int) ≤ (q : Int) + (M : Int) := by omega
      have hM12 : M ≤ 12 := by omega
      have hd1 := cell_drewN hc1 nq
      have hd2 := cell_drewN hc2 nq
      have hgr : wr.grownBy (wr.drewN nq) none := ⟨rfl, rfl, rfl, Nat.le_refl _, fun _ _ _ => rfl⟩
      have hYY := HY.out _ hgr
      rw [HV.out] at hYY
      unfold chV at hYY
      rw [← HQ.out, ← hM] at hYY
      have HYY := Lib.hid hYY
      clear hYY hgr hmn hM hc1 hc2 hjd
      generalize wr.drewN nq = W2 at *
      obtain ⟨fn, tmps, assign, body, hy, hR⟩ := HYY.out
      have HR := Lib.hid hR
      clear hR
      gi_wp2
      refine HR.out.mono ?_
      rintro e W3 (⟨rfl, h3⟩ | ⟨rfl, h3⟩)
      · obtain ⟨hc1, hc2⟩ := HKP.out (j + 1) W3 h3
        have HQ2 := Lib.hid (show q + S = (j + 1) * S by rw [HQ.out, Nat.succ_mul])
        gi_wp2
        go_roundw
        case rel => exact ⟨j + 1, q + S, by omega, HQ2.out, by omega, by go_num, h3⟩
        case measure => simp [intOf]; omega
      · gi_wp2
        refine bodyPost_ret (results_none rfl _ _ _) rfl ?_
        exact ⟨⟨_, rfl⟩, .inr h3⟩
    · have hjK : j = chK n S := by
        by_cases e : j < chK n S
        · have := (HK.out j).1 e
          rw [← HQ.out] at this
          omega
        · omega
      have HJ := Lib.hid (show J (chVs b o n S).length wr by rw [HL.out, ← hjK]; exact hjw)
      clear hjK
      gi_wp2
      go_end0
      exact ⟨⟨_, rfl⟩, .inl HJ.out⟩
end Go.Proofs.Ytpmfiflpipcojaa.Gih
