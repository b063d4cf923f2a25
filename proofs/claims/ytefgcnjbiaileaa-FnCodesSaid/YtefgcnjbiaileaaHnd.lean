/- Hands and messages, plainly: all ascending lists, all lists of different elements; and the model's l12Hands, HandsOf. -/
import Derived.Test.YtefgcnjbiaileaaRws
import Derived.Test.YtefgcnjbiaileaaPkt
import Derived.Test.YtefgcnjbiaileaaOwn
import Derived.Test.YtefgcnjbiaileaaAat
import Derived.Test.YtefgcnjbiaileaaPok
import Derived.Laws.AppendOwnNone
set_option linter.unusedVariables false
set_option maxRecDepth 20000
namespace Go.Proofs.Ytefgcnjbiaileaa.Hnd
open Go.RowKit Fr _root_.Go.Proofs.Ytefgcnjbiaileaa.Own Pk Ins Rws

/-- all ascending lists of k of the d numbers from x on -/
def handsF : Nat → Nat → Nat → List (List Int)
  | _, 0, _ => [[]]
  | 0, _ + 1, _ => []
  | d + 1, k + 1, x => (handsF d k (x + 1)).map ((x : Int) :: ·) ++ handsF d (k + 1) (x + 1)
theorem hands_zero (d x : Nat) : handsF d 0 x = [[]] := by cases d <;> rfl
theorem hands_none (k x : Nat) : handsF 0 (k + 1) x = [] := rfl
theorem hands_len : ∀ (d k x : Nat), (handsF d k x).length ≤ 2 ^ d
  | d, 0, x => by rw [hands_zero]; exact Nat.one_le_two_pow
  | 0, k + 1, x => Nat.zero_le _
  | d + 1, k + 1, x => by
    rw [handsF, List.length_append, List.length_map, Nat.pow_succ]
    have h1 := hands_len d k (x + 1)
    have h2 := hands_len d (k + 1) (x + 1)
    omega
theorem hands_each : ∀ (d k x : Nat), ∀ l ∈ handsF d k x, l.length = k
  | d, 0, x, l, h => by rw [hands_zero] at h; rw [List.mem_singleton.1 h]; rfl
  | 0, k + 1, x, l, h => by cases h
  | d + 1, k + 1, x, l, h => by
    rw [handsF] at h
    rcases List.mem_append.1 h with h | h
    · obtain ⟨q, hq, rfl⟩ := List.mem_map.1 h
      rw [List.length_cons, hands_each d k (x + 1) q hq]
    · exact hands_each d (k + 1) (x + 1) l h
/-- all lists of k different elements -/
def ordersF : Nat → List Int → List (List Int)
  | 0, _ => [[]]
  | k + 1, l => (List.range l.length).flatMap fun i => (ordersF k (l.take i ++ l.drop (i + 1))).map (l.getD i 0 :: ·)
def vals (zs : List Int) : List Value := zs.map (Value.int .i64)
theorem app_any {P : Program} {w : World} {ops : Array Oper} {rest : List Oper} {o : Oper} {a : Act} {Q : Exit → Act → World → Prop} (hgd : o.guard = none) (s x : Operand) (t : TypeId)
    (ho : o.op = .call { callee := .builtin .append, args := #[s, x], argTypes := #[t, t] })
    (B : Nat) (e : TypeId) (i : TypeInfo) (bytes : Nat) (ht : P.underlying t = some (.slice e)) (hi : P.info? e = some i) (hz : i.zero = some (.int .i64 0))
    (hsize : i.size = 1) (hby : i.bytes = bytes) (hby2 : bytes ≤ 32) (A : Option Addr) (c : Nat) (n : Nat) (xs : List Int) (hs : a.eval s = .slice A n c) (hown : w.ownsRow B e 1 (.slice A n c) n (vals xs))
    (A2 : Option Addr) (m c2 : Nat) (zs : List Int) (hx : a.eval x = .slice A2 m c2) (hm : zs.length = m) (hnil : A2 = none → c2 = 0) (B2 : Nat) (hat : IntsAt w B2 .i64 A2 zs) (hn : n ≤ 4294967296) (hm2 : m ≤ 4294967296) (hB : B ≤ w.heap.size)
    (hspot : ∀ a, A2 = some a → a.spot = none)
    (h : ∀ A' c' w', w'.ownsRow B e 1 (.slice A' (n + m) c') (n + m) (vals (xs ++ zs)) → w.grownBy w' (A.map (·.block)) → wpList P ops Q rest (a.put o.dst (.slice A' (n + m) c')) w') :
    wpList P ops Q (o :: rest) a w := by
  cases A2 with
  | none =>
    have h0 : m = 0 := by
      rcases Nat.eq_zero_or_pos m with h | h
      · exact h
      · obtain ⟨b, o, e, _⟩ := hat 0 (by omega)
        cases e
    have hz : zs = [] := List.eq_nil_of_length_eq_zero (by omega)
    have hc := hnil rfl
    subst hz h0 hc
    refine wpList_append_own_none hgd s x t ho B e i 1 ht hi _ n (vals xs) hs hown hx ?_
    have h2 := h A c w (by rw [List.append_nil]; exact hown) (World.grownBy.refl w _)
    exact h2
  | some ad =>
    obtain ⟨b, f, sp⟩ := ad
    have hsp := hspot _ rfl
    simp only at hsp
    subst hsp
    refine app_list hgd s x t ho B e i bytes ht hi hz hsize hby hby2 A c n (vals xs) hs hown b f m c2 zs hx hm B2 hat hn hm2 hB ?_
    intro A' c' w' h1 h2
    exact h A' c' w' (by unfold vals; rw [List.map_append]; exact h1) h2

theorem own_nil {W : World} {lo : Nat} {e : TypeId} {A : Option Addr} {n c : Nat} {xs : List Value} (h : W.ownsRow lo e 1 (.slice A n c) n xs) : (A = none → c = 0) ∧ ∀ a, A = some a → a.spot = none := by
  rcases h.2 with ⟨h2, h0⟩ | ⟨g, cap, cur, hv, _⟩
  · simp only [Value.slice.injEq] at h2
    refine ⟨fun _ => h2.2.2, fun a ha => ?_⟩
    rw [h2.1] at ha
    cases ha
  · simp only [Value.slice.injEq] at hv
    refine ⟨fun ha => ?_, fun a ha => ?_⟩
    · rw [hv.1] at ha
      cases ha
    · rw [hv.1] at ha
      injection ha with ha
      rw [← ha]
theorem box_below' (w : World) (o : Obj) : Below w.heap.size w (w.alloc o) := (Below.refl _ w).alloc (Nat.le_refl _) o
/-- HandsOf, plainly -/
def handsI (n k : Int) : List (List Int) := if 1 ≤ n ∧ n ≤ 8 ∧ 1 ≤ k ∧ k ≤ n then handsF n.toNat k.toNat 0 else []
theorem nil_ss (w : World) (lo : Nat) (hlo : lo ≤ w.heap.size) : IsSS lo [] w (.returned (.slice none 0 0)) w := ⟨none, 0, [], rfl, rfl, SSRow.none_ w lo, Below.refl _ _⟩
end Go.Proofs.Ytefgcnjbiaileaa.Hnd
