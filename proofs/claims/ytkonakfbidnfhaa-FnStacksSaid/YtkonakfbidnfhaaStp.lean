/- Appending a list to a row of the call's own, as a step of a region that draws its order. -/
import Derived.Test.YtkonakfbidnfhaaCut
import Derived.BigQuiet
import Derived.Deep.RegionHeld3
import Derived.Deep.RegionHeldLaw
import Derived.Deep.RegionLaw
set_option linter.unusedVariables false
set_option maxRecDepth 20000
namespace Go.Proofs.Ytkonakfbidnfhaa.Stp
open Go.RowKit Fr _root_.Go.Proofs.Ytkonakfbidnfhaa.Own Pk Ins Pfn Rws Lb Cat Cut

theorem wp_app_any {P : Program} {w : World} {o : Oper} {a : Act} {K : Act → World → Prop} {Q : Exit → Act → World → Prop} (s x : Operand) (t : TypeId)
    (ho : o.op = .call { callee := .builtin .append, args := #[s, x], argTypes := #[t, t] })
    (B : Nat) (e : TypeId) (i : TypeInfo) (bytes : Nat) (ht : P.underlying t = some (.slice e)) (hi : P.info? e = some i) (hz : i.zero = some (.int .i64 0))
    (hsize : i.size = 1) (hby : i.bytes = bytes) (hby2 : bytes ≤ 32) (A : Option Addr) (c : Nat) (n : Nat) (xs : List Int) (hs : a.eval s = .slice A n c) (hown : w.ownsRow B e 1 (.slice A n c) n (vals xs))
    (A2 : Option Addr) (m c2 : Nat) (zs : List Int) (hx : a.eval x = .slice A2 m c2) (hm : zs.length = m) (hnil : A2 = none → c2 = 0) (B2 : Nat) (hat : IntsAt w B2 .i64 A2 zs) (hn : n ≤ 4294967296) (hm2 : m ≤ 4294967296) (hB : B ≤ w.heap.size)
    (hspot : ∀ a, A2 = some a → a.spot = none)
    (h : ∀ A' c' w', w'.ownsRow B e 1 (.slice A' (n + m) c') (n + m) (vals (xs ++ zs)) → w.grownBy w' (A.map (·.block)) → K (a.put o.dst (.slice A' (n + m) c')) w') :
    o.wp P a w K Q := by
  cases A2 with
  | none =>
    have h0 : m = 0 := by
      rcases Nat.eq_zero_or_pos m with h | h
      · exact h
      · obtain ⟨b, o, e, _⟩ := hat 0 (by omega)
        cases e
    have hz : zs = [] := List.eq_nil_of_length_eq_zero (by omega)
    have hc := hnil rfl
    subst hz h0 hc
    have hrun := run_append_owned_none (P := P) (w := w) B t o.type e i 1 ht hi _ n (vals xs) hown
    unfold Oper.wp
    simp [execOp, ho, resolve, invoke, builtin, hs, hx, hrun, Result.andThen]
    exact h A c w (by rw [List.append_nil]; exact hown) (World.grownBy.refl w _)
  | some ad =>
    obtain ⟨b, f, sp⟩ := ad
    have hsp := hspot _ rfl
    simp only at hsp
    subst hsp
    subst hm
    refine wp_append_own _ s x t ho B e i (.int .i64 0) 1 bytes ht hi hz hsize hby rfl (by decide) _ n (vals xs) hs hown ⟨b, f, none⟩ zs.length c2 (vals zs) hx (by simp [vals]) ?_ (vals_one zs) (by unfold maxLen; omega) ?_ hB ?_
    · intro j u hu
      obtain ⟨hj, e⟩ := List.getElem?_eq_some_iff.1 hu
      have hj' : j < zs.length := by rw [vals_len] at hj; exact hj
      obtain ⟨b', o', hA, hlt, hc⟩ := hat j hj'
      simp only [Option.some.injEq, Addr.mk.injEq, and_true] at hA
      obtain ⟨rfl, rfl⟩ := hA
      show w.cell? (Addr.add ⟨b, f, none⟩ j) = some u
      rw [Go.WideShapes.add_plain, hc, ← hu, vals_get hj']
    · have : (n + zs.length) * bytes ≤ (4294967296 + 4294967296) * 32 := Nat.mul_le_mul (by omega) hby2
      omega
    · intro v' w' h2 h3 _
      obtain ⟨A', c', rfl⟩ := own_slice h2
      have hg : w.grownBy w' ((some (⟨b, f, none⟩ : Addr)).map (·.block)) ∨ True := Or.inr trivial
      refine h A' c' w' (by unfold vals at h2 ⊢; rw [List.map_append]; exact h2) ?_
      cases A with
      | none => exact h3
      | some a2 => exact h3
theorem step_app_any {P : Program} {w : World} {ops : Array Oper} {o : Oper} {a : Act} {K : Act → World → Prop} {Q : Exit → Act → World → Prop} {E : Prop} (hgd : o.guard = none) (s x : Operand) (t : TypeId)
    (ho : o.op = .call { callee := .builtin .append, args := #[s, x], argTypes := #[t, t] })
    (B : Nat) (e : TypeId) (i : TypeInfo) (bytes : Nat) (ht : P.underlying t = some (.slice e)) (hi : P.info? e = some i) (hz : i.zero = some (.int .i64 0))
    (hsize : i.size = 1) (hby : i.bytes = bytes) (hby2 : bytes ≤ 32) (A : Option Addr) (c : Nat) (n : Nat) (xs : List Int) (hs : a.eval s = .slice A n c) (hown : w.ownsRow B e 1 (.slice A n c) n (vals xs))
    (A2 : Option Addr) (m c2 : Nat) (zs : List Int) (hx : a.eval x = .slice A2 m c2) (hm : zs.length = m) (hnil : A2 = none → c2 = 0) (B2 : Nat) (hat : IntsAt w B2 .i64 A2 zs) (hn : n ≤ 4294967296) (hm2 : m ≤ 4294967296) (hB : B ≤ w.heap.size)
    (hspot : ∀ a, A2 = some a → a.spot = none)
    (h : ∀ A' c' w', w'.ownsRow B e 1 (.slice A' (n + m) c') (n + m) (vals (xs ++ zs)) → w.grownBy w' (A.map (·.block)) → K (a.put o.dst (.slice A' (n + m) c')) w') :
    if Region.wanted o (yielded ops a.tmps) = true then Oper.wp P o a w K Q else E := by
  have hw : Region.wanted o (yielded ops a.tmps) = true := by simp [Region.wanted, hgd]
  rw [if_pos hw]
  exact wp_app_any s x t ho B e i bytes ht hi hz hsize hby hby2 A c n xs hs hown A2 m c2 zs hx hm hnil B2 hat hn hm2 hB hspot h
theorem step_app_r {P : Program} {w : World} {ops : Array Oper} {o : Oper} {a : Act} {K : Act → World → Prop} {Q : Exit → Act → World → Prop} {E : Prop} (hgd : o.guard = none) (s x : Operand) (t : TypeId)
    (ho : o.op = .call { callee := .builtin .append, args := #[s, x], argTypes := #[t, t] })
    (B : Nat) (e : TypeId) (i : TypeInfo) (ht : P.underlying t = some (.slice e)) (hi : P.info? e = some i) (hz : i.zero = some (.int .i64 0))
    (hsize : i.size = 1) (hby : i.bytes = 8) (A : Option Addr) (c : Nat) (n : Nat) (xs : List Int) (hs : a.eval s = .slice A n c) (hown : w.ownsRow B e 1 (.slice A n c) n (vals xs))
    (A2 : Option Addr) (m c2 : Nat) (zs : List Int) (hx : a.eval x = .slice A2 m c2) (hm : zs.length = m) (hnil : A2 = none → c2 = 0) (hat : IntsAt w w.heap.size .i64 A2 zs) (hn : n ≤ 1048576) (hm2 : m ≤ 1048576) (hB : B ≤ w.heap.size)
    (hspot : ∀ a, A2 = some a → a.spot = none) (r : Nat) (hr : n + m = r)
    (h : ∀ A' c' w', w'.ownsRow B e 1 (.slice A' r c') r (vals (xs ++ zs)) → w.grownBy w' (A.map (·.block)) → K (a.put o.dst (.slice A' r c')) w') :
    if Region.wanted o (yielded ops a.tmps) = true then Oper.wp P o a w K Q else E := by
  subst hr
  exact step_app_any hgd s x t ho B e i 8 ht hi hz hsize hby (by decide) A c n xs hs hown A2 m c2 zs hx hm hnil _ hat (by omega) (by omega) hB hspot h
theorem keep_alloc {W : World} {p : Addr} {v : Value} {o : Obj} (h : W.cell? p = some v) : (W.alloc o).cell? p = some v :=
  (((Below.refl W.heap.size W).alloc (Nat.le_refl _) o).cell (World.block_lt_of_cell? W p h)).trans h
theorem keepA {W : World} {p : Addr} {v : Value} {o : Obj} (h : W.drew.cell? p = some v) : (W.alloc o).drew.cell? p = some v := keep_alloc (W := W) h
theorem lit0 (V : World) : (V.alloc (.cells #[] 3)).drew.ownsRow V.heap.size 3 1 (.slice (some ⟨V.heap.size, 0, none⟩) 0 0) 0 (vals []) :=
  World.ownsRow_lit (base := V.heap.size) (e := 3) (size := 1) V #[] 0 (Nat.le_refl _) (Nat.zero_le _) rfl
theorem lit0_size (V : World) (o : Obj) : V.heap.size ≤ (V.alloc o).drew.heap.size := (below_new V o).size
theorem row_len {W : World} {B : Nat} {A : Option Addr} {n c : Nat} {R : List Int} (h : W.ownsRow B 3 1 (.slice A n c) n (vals R)) : R.length = n := by
  have := h.1
  rw [vals_len, Nat.mul_one] at this
  exact this
theorem row_end {w w' : World} {A : Option Addr} {n c : Nat} {R : List Int} (h : w'.ownsRow w.heap.size 3 1 (.slice A n c) n (vals R)) (hb : Below w.heap.size w w') : IsIL w.heap.size R w (.returned (.slice A n c)) w' := by
  have hl := row_len h
  subst hl
  exact ⟨A, c, rfl, h, hb⟩
end Go.Proofs.Ytkonakfbidnfhaa.Stp
