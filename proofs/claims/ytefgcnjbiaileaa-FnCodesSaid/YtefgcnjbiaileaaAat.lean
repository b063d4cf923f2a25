/- Appending one element to a row of the call's own, with where the new row lies. -/
import Derived.Test.YtefgcnjbiaileaaWid
import Derived.Maps.AppendAt
set_option linter.unusedVariables false
set_option maxRecDepth 20000
namespace Go.Proofs.Ytefgcnjbiaileaa.Aat
open Go.RowKit Fr Own

theorem app_at {P : Program} {w : World} {ops : Array Oper} {rest : List Oper} {o : Oper} {a : Act} {Q : Exit → Act → World → Prop} (hgd : o.guard = none) (s x : Operand) (t : TypeId)
    (ho : o.op = .call { callee := .builtin .append, args := #[s, x], argTypes := #[t, t] })
    (B : Nat) (e : TypeId) (i : TypeInfo) (z : Value) (bytes : Nat) (ht : P.underlying t = some (.slice e)) (hi : P.info? e = some i) (hz : i.zero = some z)
    (hsize : i.size = 1) (hby : i.bytes = bytes) (hby2 : bytes ≤ 64) (hzs : z.cells.size = 1) (A : Option Addr) (c : Nat) (n : Nat) (xs : List Value) (hs : a.eval s = .slice A n c) (hown : w.ownsRow B e 1 (.slice A n c) n xs)
    (y : Value) (h1 : y.oneCell' = true) (N : Nat) (hx : a.eval x = .slice (some ⟨N, 0, none⟩) 1 1) (hN : N = w.heap.size) (hn : n ≤ 1048576) (hB : B ≤ w.heap.size)
    (h : ∀ g c' w', w'.ownsRow B e 1 (.slice (some ⟨g, 0, none⟩) (n + 1) c') (n + 1) (xs ++ [y]) → w.grownBy w' (A.map (·.block)) → (A.map (·.block) = some g ∨ w.heap.size ≤ g) → wpList P ops Q rest (a.put o.dst (.slice (some ⟨g, 0, none⟩) (n + 1) c')) w') :
    wpList P ops Q (o :: rest) a (w.alloc (.cells #[y] e)) := by
  subst hN
  refine wpList_append_own_at _ hgd s x t ho B e i z 1 bytes ht hi hz hsize hby hzs (by decide) _ n xs hs (hown.alloc _) ⟨w.heap.size, 0, none⟩ 1 1 [y] hx rfl (Wid.wide_cell w #[y] e) (by intro u hu; simp at hu; subst hu; exact h1) (by unfold maxLen; omega) ?_ (by simp; omega) ?_
  · have : (n + 1) * bytes ≤ (1048576 + 1) * 64 := Nat.mul_le_mul (by omega) hby2
    omega
  · intro v' w' hown' hgrow _ hat
    have hg0 : w.grownBy (w.alloc (.cells #[y] e)) (A.map (·.block)) := World.grownBy_alloc w _ _
    rcases hown'.2 with ⟨_, h0⟩ | ⟨g, cap, cur, hv, _⟩
    · omega
    · subst hv
      refine h g cap w' hown' (hg0.trans ?_) ?_
      · cases A <;> exact hgrow
      · rcases hat with hat | hat
        · left
          cases A with
          | none => simp [Value.ownBlock] at hat
          | some a2 => simp only [Value.ownBlock, Option.some.injEq] at hat; simp [hat]
        · right
          simp only [Value.ownBlock, Option.some.injEq] at hat
          have hsz := hg0.size
          omega
end Go.Proofs.Ytefgcnjbiaileaa.Aat
