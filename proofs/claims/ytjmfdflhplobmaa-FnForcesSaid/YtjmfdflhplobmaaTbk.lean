/- slices.Backward over nodes as a function that is ranged over. -/
import Derived.Test.YtjmfdflhplobmaaRfw
import Derived.Test.YtjmfdflhplobmaaNob
import Derived.Shelf.Abstract
import Derived.Shelf.RegionOpen
import Derived.WalkKit
import Derived.OwnWalkIn
import Derived.TacticsInMore
import Derived.LoopNIn
import Derived.LoopIn
import Derived.Sort.LoopGhostIn
import Derived.Sort.CutIn
import Derived.Sort.QuietIn
set_option linter.unusedVariables false
set_option maxRecDepth 20000
namespace Go.Proofs.Ytjmfdflhplobmaa.Tbk
open Go.RowKit Go.Shelf Fr _root_.Go.Proofs.Ytjmfdflhplobmaa.Own Pk Ins Rws Rfn Rfw Fpl Nod Nob

attribute [local go_sem] Oper.semAt_some

/-- what is handed over in round j -/
def bkV (rs : List NR) (n j : Nat) : Array Value := #[.int .i64 (((n - 1 - j : Nat) : Nat) : Int), nodV (rs.getD (n - 1 - j) nr0).say (rs.getD (n - 1 - j) nr0).A (rs.getD (n - 1 - j) nr0).zs.length (rs.getD (n - 1 - j) nr0).c (rs.getD (n - 1 - j) nr0).fin]
def bkVs (rs : List NR) (n : Nat) : List (Array Value) := (List.range n).map (bkV rs n)
theorem bkVs_len (rs : List NR) (n : Nat) : (bkVs rs n).length = n := by simp [bkVs]
theorem bkVs_get {rs : List NR} {n j : Nat} (h : j < n) : (bkVs rs n).getD j #[] = bkV rs n j := by
  simp [bkVs, List.getD_eq_getElem?_getD, h]
/-- the captured list -/
def KPb (bs : Nat) (b o n c B : Nat) (rs : List NR) (W : World) : Prop := W.cell? ⟨bs, 0, none⟩ = some (.slice (some ⟨b, o, none⟩) n c) ∧ NodesAt W B (some ⟨b, o, none⟩) rs
theorem back_any (A : Option Addr) (n c : Nat) (w : World) :
    Calls Try.prog 69 #[.slice A n c] w fun e w' => e = .returned (.func (.func 77) #[] #[.pointer (some ⟨w.heap.size, 0, none⟩)]) ∧ w.alloc (.cells #[.slice A n c] 23) = w' := by
  go_enter Try.func69, Try.ntmps69
  go_wp2
  go_ret
  exact ⟨by simp, rfl⟩
theorem back_ent : ∀ args w, (callFunc 77 args).run Try.prog w = .ok (.enter 77 args) w := enters_of Try.func77 (by kernel_rfl) rfl

set_option maxHeartbeats 2000000 in
theorem back_iter (bs b o n c B : Nat) (rs : List NR) (hn : rs.length = n) (hn2 : n ≤ 1048576) :
    IterW 77 #[.pointer (some ⟨bs, 0, none⟩)] (KPb bs b o n c B rs) (bkVs rs n) := by
  intro l J Jx hKP hst hY W h0
  have HKP := Lib.hid hKP
  have HST := Lib.hid hst
  have HN := Lib.hid hn
  have HL := Lib.hid (bkVs_len rs n)
  obtain ⟨hc1, _⟩ := hKP 0 W h0
  clear hn
  refine callsIn_of_wp Try.func77 rfl trivial ?_ rfl
  simp only [Try.ntmps77, List.size_toArray, List.length_cons, List.length_nil, Nat.reduceAdd, Nat.reduceSub, Array.replicate_succ, Array.replicate_zero, List.push_toArray, List.append_toArray, List.nil_append, List.cons_append]
  gi_wp2
  gi_loopw [3] (fun i wr => ∃ j : Nat, j ≤ n ∧ i = .int .i64 ((n : Int) - 1 - (j : Int)) ∧ J j wr) (fun i _ => (intOf i + 1).toNat)
  case atStart => exact ⟨0, Nat.zero_le _, by simp, h0⟩
  case round =>
    obtain ⟨j, hj, rfl, hjw⟩ := hrel
    obtain ⟨hc1, hat⟩ := HKP.out j wr hjw
    by_cases hlt : j < n
    · obtain ⟨b2, o2, e, hbb, k0, k1, k2, _⟩ := hat (n - 1 - j) (by rw [HN.out]; omega)
      simp only [Option.some.injEq, Addr.mk.injEq, and_true] at e
      obtain ⟨rfl, rfl⟩ := e
      obtain ⟨q, hq⟩ : ∃ q, q = n - 1 - j := ⟨_, rfl⟩
      have HV := Lib.hid (bkVs_get (rs := rs) hlt)
      have HY := Lib.hid (hY j wr wr (by rw [HL.out]; exact hlt) hjw (World.grownBy.refl wr _))
      rw [HV.out] at HY
      unfold bkV at HY
      rw [← hq] at HY k0 k1 k2
      have hqi : (n : Int) - 1 - (j : Int) = (q : Int) := by omega
      rw [hqi]
      have hqn : q < n := by omega
      have HQ := Lib.hid (show (q : Int) - 1 = (n : Int) - 1 - ((j + 1 : Nat) : Int) by omega)
      unfold NR.sv at k1
      clear hat hq hqi
      generalize (rs.getD q nr0).A = A1 at *
      generalize (rs.getD q nr0).c = c1 at *
      generalize (rs.getD q nr0).say = s1 at *
      generalize (rs.getD q nr0).zs.length = m at *
      generalize (rs.getD q nr0).fin = fin at *
      have hq0 : (0 : Int) ≤ (q : Int) := by omega
      obtain ⟨fn, tmps, assign, body, hy, hR⟩ := HY.out
      have HR := Lib.hid hR
      clear hR HY HV
      gi_wp2
      refine HR.out.mono ?_
      rintro e W3 (⟨rfl, h3⟩ | ⟨rfl, h3⟩)
      · gi_wp2
        go_roundw
        case rel => exact ⟨j + 1, by omega, by rw [HQ.out], h3⟩
        case measure => simp [intOf]
      · gi_wp2
        refine bodyPost_ret (results_none rfl _ _ _) rfl ?_
        exact ⟨⟨_, rfl⟩, .inr h3⟩
    · have hjn : j = n := by omega
      have HJ := Lib.hid (show J (bkVs rs n).length wr by rw [HL.out, ← hjn]; exact hjw)
      have hneg : ¬ (0 : Int) ≤ (n : Int) - 1 - (j : Int) := by omega
      have hneg' : decide ((0 : Int) ≤ (n : Int) - 1 - (j : Int)) = false := decide_eq_false hneg
      clear hjn
      gi_wp2
      go_end0
      exact ⟨⟨_, rfl⟩, .inl HJ.out⟩
end Go.Proofs.Ytjmfdflhplobmaa.Tbk
