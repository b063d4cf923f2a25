/- A region that draws its order, without calls of functions, inside a fence with a round: by the same region in the wide fence. -/
import Derived.Test.YtjmfdflhplobmaaRfw
import Derived.OwnWalkIn
import Derived.OrdersIn
set_option linter.unusedVariables false
set_option maxRecDepth 20000
namespace Go.Proofs.Ytjmfdflhplobmaa.Trn
open Go.RowKit

/-- the next step is no call -/
def Next.tame : Next → Bool
  | .value _ => true
  | .skip => true
  | _ => false
def Tame (o : Oper) : Prop := (∀ c, o.op ≠ .defer c) ∧ (∀ P w ρ, o.about P w ρ = none) ∧ ∀ P w ρ x w', (execOp ρ o).run P w = .ok x w' → Next.tame x = true
theorem then_ok {α β : Type} {r : Result α} {f : α → World → Result β} {y : β} {w' : World} (h : r.andThen f = .ok y w') : ∃ a w1, r = .ok a w1 ∧ f a w1 = .ok y w' := by
  cases r with
  | ok a w1 => exact ⟨a, w1, rfl, h⟩
  | halt a w1 => simp [Result.andThen] at h
theorem v_tame {P : Program} {w w' : World} {s : Sem Value} {x : Next} (h : (do let y ← s; pure (Next.value y) : Sem Next).run P w = .ok x w') : Next.tame x = true := by
  rw [Sem.run_bind] at h
  cases hs : s.run P w with
  | ok y w1 =>
    rw [hs] at h
    simp [Result.andThen] at h
    rw [← h.1]; rfl
  | halt y w1 => rw [hs] at h; simp [Result.andThen] at h
theorem u_tame {P : Program} {w w' : World} {s : Sem Unit} {x : Next} (h : (do s; pure Next.skip : Sem Next).run P w = .ok x w') : Next.tame x = true := by
  rw [Sem.run_bind] at h
  cases hs : s.run P w with
  | ok y w1 =>
    rw [hs] at h
    simp [Result.andThen] at h
    rw [← h.1]; rfl
  | halt y w1 => rw [hs] at h; simp [Result.andThen] at h
theorem tame_move {o : Oper} {x : Operand} (h : o.op = .move x) : Tame o :=
  ⟨fun c e => (by rw [h] at e; cases e), fun P w ρ => (by unfold Oper.about; rw [h]), fun P w ρ y w' hr => by
    unfold execOp at hr; rw [h] at hr; simp at hr; rw [← hr.1]; rfl⟩
theorem tame_load {o : Oper} {t : TypeId} {x : Operand} (h : o.op = .load t x) : Tame o :=
  ⟨fun c e => (by rw [h] at e; cases e), fun P w ρ => (by unfold Oper.about; rw [h]), fun P w ρ y w' hr => by
    unfold execOp at hr; rw [h] at hr; exact v_tame hr⟩
theorem tame_store {o : Oper} {t : TypeId} {x y : Operand} (h : o.op = .store t x y) : Tame o :=
  ⟨fun c e => (by rw [h] at e; cases e), fun P w ρ => (by unfold Oper.about; rw [h]), fun P w ρ y w' hr => by
    unfold execOp at hr; rw [h] at hr; exact u_tame hr⟩
theorem tame_field {o : Oper} {t : TypeId} {x : Operand} {i : Nat} (h : o.op = .fieldAddr t x i) : Tame o :=
  ⟨fun c e => (by rw [h] at e; cases e), fun P w ρ => (by unfold Oper.about; rw [h]), fun P w ρ y w' hr => by
    unfold execOp at hr; rw [h] at hr; exact v_tame hr⟩
theorem tame_index {o : Oper} {t : TypeId} {x y : Operand} (h : o.op = .indexAddr t x y) : Tame o :=
  ⟨fun c e => (by rw [h] at e; cases e), fun P w ρ => (by unfold Oper.about; rw [h]), fun P w ρ y w' hr => by
    unfold execOp at hr; rw [h] at hr; exact v_tame hr⟩
theorem tame_slice {o : Oper} {t : TypeId} {n : Nat} {ps : Array (Nat × Operand)} (h : o.op = .buildSlice t n ps) : Tame o :=
  ⟨fun c e => (by rw [h] at e; cases e), fun P w ρ => (by unfold Oper.about; rw [h]), fun P w ρ y w' hr => by
    unfold execOp at hr; rw [h] at hr; exact v_tame hr⟩
theorem tame_nil {o : Oper} {x : Operand} (h : o.op = .nilCheck x) : Tame o :=
  ⟨fun c e => (by rw [h] at e; cases e), fun P w ρ => (by unfold Oper.about; rw [h]), fun P w ρ y w' hr => by
    unfold execOp at hr; rw [h] at hr
    simp only at hr
    split at hr
    · simp [go_sem, runtimePanic, goPanic] at hr
    · simp [go_sem, runtimePanic, goPanic] at hr
    · simp [go_sem, runtimePanic, goPanic] at hr
    · split at hr
      · simp [go_sem, runtimePanic, goPanic] at hr
      · rw [Sem.run_bind] at hr
        obtain ⟨p1, w1, e1, hr⟩ := then_ok hr
        rw [Sem.run_bind] at hr
        obtain ⟨p2, w2, e2, hr⟩ := then_ok hr
        split at hr
        · rw [Sem.run_bind] at hr
          obtain ⟨p3, w3, e3, hr⟩ := then_ok hr
          simp at hr; rw [← hr.1]; rfl
        · simp at hr; rw [← hr.1]; rfl
      · simp at hr; rw [← hr.1]; rfl
    · simp at hr; rw [← hr.1]; rfl⟩
theorem tame_app {o : Oper} {s x : Operand} {t : TypeId} (h : o.op = .call { callee := .builtin .append, args := #[s, x], argTypes := #[t, t] }) : Tame o :=
  ⟨fun c e => (by rw [h] at e; cases e), fun P w ρ => (by simp [Oper.about, h, resolve, Target.leads, Sem.run_pure]), fun P w ρ y w' hr => by
    simp [execOp, h, resolve, invoke, builtin] at hr
    obtain ⟨p, w1, e, hr⟩ := then_ok hr
    simp at hr
    rw [← hr.1]; rfl⟩
theorem uponIn_move {P : Program} {F F' : Fence} {n n' : Nat} {o : Oper} {a : Act} {K K' : Act → World → Prop} {Q : Exit → Act → World → Prop} {r : Result Next} (hr : ∀ x w', r = .ok x w' → Next.tame x = true) (hK : ∀ a w, K a w → K' a w)
    (h : o.uponIn F n P a K Q r) : o.uponIn F' n' P a K' Q r := by
  cases r with
  | ok x w' =>
    have := hr x w' rfl
    cases x <;> first | exact hK _ _ h | cases this
  | halt x w' => cases x <;> exact h
theorem op_move {P : Program} {ops : Array Oper} {F F' : Fence} {n n' i : Nat} {Q : Exit → Act → World → Prop} {K K' : Act → World → Prop} {a : Act} {w : World} (hall : ∀ o : Oper, ops[i]? = some o → Tame o) (hK : ∀ a w, K a w → K' a w) (h : wpOpIn F n P ops Q i K a w) : wpOpIn F' n' P ops Q i K' a w := by
  unfold wpOpIn at *
  cases ho : ops[i]? with
  | none => simp only [ho] at h ⊢; exact hK _ _ h
  | some o =>
    obtain ⟨h1, h2, h3⟩ := hall o ho
    simp only [ho] at h ⊢
    split
    · rename_i hw
      rw [if_pos hw] at h
      unfold Oper.wpIn at *
      rw [Oper.semAt_plain _ _ _ h1] at h
      rw [Oper.semAt_plain _ _ _ h1]
      exact ⟨fun f hf => (by rw [h2] at hf; cases hf), uponIn_move (fun x w' e => h3 _ _ _ x w' e) hK h.2⟩
    · rename_i hw
      rw [if_neg hw] at h
      exact ⟨fun f hf => (by rw [h2] at hf; cases hf), hK _ _ h.2⟩
theorem any_move {P : Program} {md : Region.Mode} {ops : Array Oper} {F F' : Fence} {n n' : Nat} {Q : Exit → Act → World → Prop} (hall : ∀ (i : Nat) (o : Oper), ops[i]? = some o → Tame o) : ∀ (fuel : Nat) (listed : Array Bool) (a : Act) (w : World),
    wpAnyIn F n P md ops Q fuel listed a w → wpAnyIn F' n' P md ops Q fuel listed a w
  | 0, listed, a, w, h => h
  | fuel + 1, listed, a, w, h => ⟨h.1, fun i hi => op_move (hall i) (fun a w h' => any_move hall fuel _ a w h') (h.2 i hi)⟩
theorem region_in {P : Program} {F : Fence} {n id : Nat} {ops : Array Oper} {Q : Exit → Act → World → Prop} {a : Act} {w : World} (hm : P.follows .mixedOrders = true) (hall : ∀ (i : Nat) (o : Oper), ops[i]? = some o → Tame o)
    (h : wpAnyIn Fence.wide 5 P .any ops Q ops.size (Array.replicate ops.size false) a w.drew) : (Code.region id ops true).wpIn F n P Q a w :=
  wpIn_region_any hm (any_move hall _ _ _ _ h)
theorem tame_all {l : List Oper} (h : ∀ o ∈ l, Tame o) : ∀ (i : Nat) (o : Oper), l.toArray[i]? = some o → Tame o := fun i o ho => h o (by
  rw [List.getElem?_toArray] at ho
  exact List.mem_of_getElem? ho)
theorem tame_cons {o : Oper} {l : List Oper} (h : Tame o) (hl : ∀ o ∈ l, Tame o) : ∀ x ∈ o :: l, Tame x := fun x hx => by
  rcases List.mem_cons.1 hx with rfl | hx
  · exact h
  · exact hl x hx
theorem tame_none : ∀ x ∈ ([] : List Oper), Tame x := fun x hx => by cases hx
/-- append at its operation, by what it is known to do -/
theorem step_run {P : Program} {ops : Array Oper} {F : Fence} {n : Nat} {o : Oper} {a : Act} {w w' : World} {K : Act → World → Prop} {Q : Exit → Act → World → Prop} {X : Prop} {s x : Operand} {t : TypeId} {v vx v' : Value} (hw : Region.wanted o (yielded ops a.tmps) = true)
    (ho : o.op = .call { callee := .builtin .append, args := #[s, x], argTypes := #[t, t] }) (hs : a.eval s = v) (hx : a.eval x = vx) (hrun : (Builtin.append_ #[t, t] o.type #[v, vx]).run P w = .ok v' w') (h : K (a.put o.dst v') w') :
    if Region.wanted o (yielded ops a.tmps) = true then Oper.wpIn F n P o a w K Q else X := by
  rw [if_pos hw]
  unfold Oper.wpIn
  refine ⟨by simp [Oper.about, ho, resolve, Target.leads, Sem.run_pure], ?_⟩
  rw [Oper.semAt_plain F _ _ (by rw [ho]; intro c hc'; cases hc')]
  simp [execOp, ho, resolve, invoke, builtin, hs, hx, hrun, Result.andThen]
  exact h
end Go.Proofs.Ytjmfdflhplobmaa.Trn
