/- MoveName and MoveNamed of the program and of the model. -/
import Derived.Test.YthcggkhpamjjbaaGreatMok
set_option linter.unusedVariables false
set_option maxRecDepth 20000
namespace Go.Proofs.YthcggkhpamjjbaaGreat.Nm
open Go.RowKit Fr Own Pk Ins Pfn Rws Lb Cat Mvp Mv1 Mk Mo Mok

def names : List ByteArray := [⟨#[]⟩, ⟨#[99, 117, 116]⟩, ⟨#[100, 101, 97, 108]⟩, ⟨#[102, 108, 105, 112]⟩, ⟨#[102, 97, 114, 111]⟩, ⟨#[109, 111, 110, 103, 101]⟩, ⟨#[109, 105, 108, 107]⟩, ⟨#[100, 117, 99, 107]⟩, ⟨#[116, 117, 114, 110]⟩, ⟨#[117, 110, 100, 101, 114]⟩]
def nmN (i : Nat) : ByteArray := names.getD i ⟨#[]⟩
/-- the name of a kind -/
def nmF (kd : Int) : ByteArray := if 1 ≤ kd ∧ kd ≤ 9 then nmN kd.toNat else ⟨#[]⟩
def namedFrom (s : ByteArray) : Nat → Nat → Nat
  | 0, _ => 0
  | f + 1, i => if nmN i = s then i else namedFrom s f (i + 1)
def namedF (s : ByteArray) : Nat := namedFrom s 9 1
theorem named_hit {s : ByteArray} {f i : Nat} (h : nmN i = s) : namedFrom s (f + 1) i = i := by rw [namedFrom, if_pos h]
theorem named_miss {s : ByteArray} {f i : Nat} (h : ¬ nmN i = s) : namedFrom s (f + 1) i = namedFrom s f (i + 1) := by rw [namedFrom, if_neg h]
theorem named_empty : namedF ⟨#[]⟩ = 0 := by decide
theorem nmF_at (j : Nat) (h1 : 1 ≤ j) (h2 : j ≤ 9) : nmF (j : Int) = nmN j := by unfold nmF; rw [if_pos (by omega)]; rfl
theorem nmF_no {kd : Int} (h : ¬ (1 ≤ kd ∧ kd ≤ 9)) : nmF kd = ⟨#[]⟩ := by unfold nmF; rw [if_neg h]
theorem bytes_eq {a b : ByteArray} (h : a = b) : (a.toList == b.toList) = true := by rw [h]; exact beq_self_eq_true _
theorem bytes_ne {a b : ByteArray} (h : ¬ a = b) : (a.toList == b.toList) = false := by
  rw [beq_eq_false_iff_ne]
  intro e
  rw [ByteArray.toList_eq, ByteArray.toList_eq] at e
  apply h
  cases a; cases b
  simp only at e
  rw [Array.toList_inj.1 e]
theorem ret_s {a b : ByteArray} (h : a = b) : Ending.returned (.string a) = .returned (.string b) := by rw [h]
end Go.Proofs.YthcggkhpamjjbaaGreat.Nm
