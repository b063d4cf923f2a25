/- slices.Concat of lists of integers: the lists one after another, in memory of the call's own. -/
import Derived.Test.YtefgcnjbiaileaaLb
set_option linter.unusedVariables false
set_option maxRecDepth 20000
namespace Go.Proofs.Ytefgcnjbiaileaa.Cat
open Go.RowKit Fr Own Ins Pfn Rws Lb

/-- the first k lists, one after another -/
def cat (zs : Nat → List Int) : Nat → List Int
  | 0 => []
  | k + 1 => cat zs k ++ zs k
def tot (n : Nat → Nat) : Nat → Nat
  | 0 => 0
  | k + 1 => tot n k + n k
theorem cat_len (zs : Nat → List Int) (n : Nat → Nat) (m : Nat) (h : ∀ k, k < m → (zs k).length = n k) : ∀ k, k ≤ m → (cat zs k).length = tot n k
  | 0, _ => rfl
  | k + 1, hk => by rw [cat, tot, List.length_append, cat_len zs n m h k (by omega), h k (by omega)]
theorem tot_le (n : Nat → Nat) (m : Nat) (h : ∀ k, k < m → n k ≤ 4096) : ∀ k, k ≤ m → tot n k ≤ 4096 * k
  | 0, _ => Nat.zero_le _
  | k + 1, hk => by have h1 := tot_le n m h k (by omega); have h2 := h k (by omega); rw [tot]; omega

theorem app_any {P : Program} {w : World} {ops : Array Oper} {rest : List Oper} {o : Oper} {a : Act} {Q : Exit → Act → World → Prop} (hgd : o.guard = none) (s x : Operand) (t : TypeId)
    (ho : o.op = .call { callee := .builtin .append, args := #[s, x], argTypes := #[t, t] })
    (B : Nat) (e : TypeId) (i : TypeInfo) (bytes : Nat) (ht : P.underlying t = some (.slice e)) (hi : P.info? e = some i) (hz : i.zero = some (.int .i64 0))
    (hsize : i.size = 1) (hby : i.bytes = bytes) (hby2 : bytes ≤ 32) (A : Option Addr) (c : Nat) (n : Nat) (xs : List Int) (hs : a.eval s = .slice A n c) (hown : w.ownsRow B e 1 (.slice A n c) n (vals xs))
    (A2 : Option Addr) (m c2 : Nat) (zs : List Int) (hx : a.eval x = .slice A2 m c2) (hm : zs.length = m) (hnil : A2 = none → c2 = 0) (B2 : Nat) (hat : IntsAt w B2 .i64 A2 zs) (hn : n ≤ 4294967296) (hm2 : m ≤ 4294967296) (hB : B ≤ w.heap.size)
    (hspot : ∀ a, A2 = some a → a.spot = none)
    (h : ∀ A' c' w', w'.ownsRow B e 1 (.slice A' (n + m) c') (n + m) (vals (xs ++ zs)) → w.grownBy w' (A.map (·.block)) → wpList P ops Q rest (a.put o.dst (.slice A' (n + m) c')) w') :
    wpList P ops Q (o :: rest) a w := by
  cases A2 with
  | none =>
    have h0 : m = 0 := by
      rcases Nat.eq_zero_or_pos m with h | h
      · exact h
      · obtain ⟨b, o, e, _⟩ := hat 0 (by omega)
        cases e
    have hz : zs = [] := List.eq_nil_of_length_eq_zero (by omega)
    have hc := hnil rfl
    subst hz h0 hc
    refine wpList_append_own_none hgd s x t ho B e i 1 ht hi _ n (vals xs) hs hown hx ?_
    have h2 := h A c w (by rw [List.append_nil]; exact hown) (World.grownBy.refl w _)
    exact h2
  | some ad =>
    obtain ⟨b, f, sp⟩ := ad
    have hsp := hspot _ rfl
    simp only at hsp
    subst hsp
    refine app_list hgd s x t ho B e i bytes ht hi hz hsize hby hby2 A c n (vals xs) hs hown b f m c2 zs hx hm B2 hat hn hm2 hB ?_
    intro A' c' w' h1 h2
    exact h A' c' w' (by unfold vals; rw [List.map_append]; exact h1) h2


end Go.Proofs.Ytefgcnjbiaileaa.Cat
