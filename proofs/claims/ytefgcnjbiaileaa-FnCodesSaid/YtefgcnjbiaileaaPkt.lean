/- What an element of a packet stands for: the functions CardOf, IsUp and TurnCard of the program and of the model, and l01In, for every integer. What the laws' helpers over lists of integers do: toIntS copies, eqIntS compares, markIntS writes marks and heldIntS looks whether they are still there. Lists of elements: CountUp, PositionOf and SamePacket of the program and of the model, for every list of ints. -/
import Derived.Test.YtefgcnjbiaileaaOwn
import Derived.BigQuiet
import Derived.Deep.QuietTactic
set_option linter.unusedVariables false
set_option maxRecDepth 20000
namespace Go.Proofs.Ytefgcnjbiaileaa.Pk
open Go.RowKit Fr Own

/-- the card that an element stands for, or -1 -/
def cardF (x : Int) : Int := if 0 ≤ x ∧ x ≤ 11 then x else if -12 ≤ x ∧ x ≤ -1 then -1 - x else -1
def upB (x : Int) : Bool := decide (-12 ≤ x ∧ x ≤ -1)
def turnF (x : Int) : Int := if -12 ≤ x ∧ x ≤ 11 then -1 - x else x
theorem cardF_down {x : Int} (h1 : 0 ≤ x) (h2 : x ≤ 11) : cardF x = x := by unfold cardF; rw [if_pos (by omega)]
theorem cardF_up {x : Int} (h1 : -12 ≤ x) (h2 : x < 0) : cardF x = -1 - x := by unfold cardF; rw [if_neg (by omega), if_pos (by omega)]
theorem cardF_none {x : Int} (h : ¬ (-12 ≤ x ∧ x ≤ 11)) : cardF x = -1 := by unfold cardF; rw [if_neg (by omega), if_neg (by omega)]
theorem cardF_bd (x : Int) : -1 ≤ cardF x ∧ cardF x ≤ 11 := by unfold cardF; split <;> (try split) <;> omega
theorem cardF_pos {x : Int} (h : 0 ≤ cardF x) : -12 ≤ x ∧ x ≤ 11 := by
  by_cases h1 : -12 ≤ x ∧ x ≤ 11
  · exact h1
  · rw [cardF_none h1] at h; omega

theorem ret_i {a b : Int} (h : a = b) : Ending.returned (.int .i64 a) = .returned (.int .i64 b) := by rw [h]
theorem ret_b {a b : Bool} (h : a = b) : Ending.returned (.bool a) = .returned (.bool b) := by rw [h]


theorem impl_card (x : Int) (w : World) (h1 : -9223372036854775808 ≤ x) (h2 : x ≤ 9223372036854775807) :
    Calls Try.prog 43 #[.int .i64 x] w fun e w' => e = .returned (.int .i64 (cardF x)) ∧ w = w' := by
  by_cases h : x < 0
  · by_cases h3 : -12 ≤ x
    · have E := Lib.hid (cardF_up h3 h)
      go_enter Try.func43, Try.ntmps43
      go_wp2
      go_ret
      exact ⟨ret_i E.out.symm, rfl⟩
    · have E := Lib.hid (cardF_none (x := x) (by omega))
      go_enter Try.func43, Try.ntmps43
      go_wp2
      go_ret
      exact ⟨ret_i E.out.symm, rfl⟩
  · by_cases h3 : x ≤ 11
    · have E := Lib.hid (cardF_down (by omega) h3)
      go_enter Try.func43, Try.ntmps43
      go_wp2
      go_ret
      exact ⟨ret_i E.out.symm, rfl⟩
    · have E := Lib.hid (cardF_none (x := x) (by omega))
      go_enter Try.func43, Try.ntmps43
      go_wp2
      go_ret
      exact ⟨ret_i E.out.symm, rfl⟩

end Go.Proofs.Ytefgcnjbiaileaa.Pk

namespace Go.Proofs.Ytefgcnjbiaileaa.Ins
open Go.RowKit Fr Own

theorem infoInt : (Try.prog.info? 3).map (fun i => (i.zero, i.size, i.bytes)) = some (some (.int .i64 0), 1, 8) := by kernel_rfl

/-- every element is an int -/
def Fits (zs : List Int) : Prop := ∀ i, i < zs.length → -9223372036854775808 ≤ zs.getD i 0 ∧ zs.getD i 0 ≤ 9223372036854775807
theorem wf_lo {n : Int} (h : (Lit.int .i64 n).wf = true) : -9223372036854775808 ≤ n ∧ n ≤ 9223372036854775807 := by
  simpa [Lit.wf, IntKind.min, IntKind.max, IntKind.signed, IntKind.bits] using h
theorem wf_hi {n : Int} (h1 : -9223372036854775808 ≤ n) (h2 : n ≤ 9223372036854775807) : (Lit.int .i64 n).wf = true := by
  simp [Lit.wf, IntKind.min, IntKind.max, IntKind.signed, IntKind.bits]; omega
theorem fits_of {zs : List Int} (h : ∀ z ∈ zs, (Lit.int .i64 z).wf = true) : Fits zs := by
  intro i hi
  have e : zs.getD i 0 = zs[i] := by rw [List.getD_eq_getElem?_getD, List.getElem?_eq_getElem hi]; rfl
  rw [e]
  exact wf_lo (h _ (List.getElem_mem _))

/-- a row of the call's own reads as its list -/
theorem own_ints {w : World} {base g n cap : Nat} {zs : List Int} (h : w.ownsRow base 3 1 (.slice (some ⟨g, 0, none⟩) n cap) n (zs.map (Value.int .i64))) : IntsAt w (g + 1) .i64 (some ⟨g, 0, none⟩) zs := by
  intro k hk
  have hl : zs.length = n := by simpa using h.1
  refine ⟨g, 0, rfl, by omega, ?_⟩
  rw [Nat.zero_add, h.cellAt k (by omega)]
  simp [List.getElem?_map, List.getElem?_eq_getElem hk, List.getD_eq_getElem?_getD]
theorem own_ilen {w : World} {B g n c : Nat} {zs : List Int} (h : w.ownsRow B 3 1 (.slice (some ⟨g, 0, none⟩) n c) n (zs.map (Value.int .i64))) : zs.length = n := by
  have := h.1; simpa using this

/-- the value of a row that one owns: nil, or at the start of a block -/
theorem own_shape {w : World} {B : Nat} {e : TypeId} {A : Option Addr} {n c : Nat} {xs : List Value} (h : w.ownsRow B e 1 (.slice A n c) n xs) (hn : 0 < n) : ∃ g, A = some ⟨g, 0, none⟩ := by
  rcases h.2 with ⟨_, h0⟩ | ⟨g, cap, cur, hv, _⟩
  · omega
  · simp only [Value.slice.injEq] at hv
    exact ⟨g, hv.1⟩
/-- an owned row reads as its list -/
theorem ints_of {w : World} {B : Nat} {A : Option Addr} {n c : Nat} {zs : List Int} (h : w.ownsRow B 3 1 (.slice A n c) n (zs.map (Value.int .i64))) : IntsAt w w.heap.size .i64 A zs := by
  intro k hk
  have hl : zs.length = n := by simpa using h.1
  obtain ⟨g, rfl⟩ := own_shape h (by omega)
  have hg := h.lt g rfl
  obtain ⟨b, o, e, hb, hc⟩ := own_ints h k hk
  exact ⟨b, o, e, by simp only [Option.some.injEq, Addr.mk.injEq] at e; omega, hc⟩
/-- a call hands back a list of ints in memory of its own (or nil) and writes nothing below B -/
def IsIL (B : Nat) (zs : List Int) (w : World) (e : Ending) (w' : World) : Prop :=
  ∃ A c, e = .returned (.slice A zs.length c) ∧ w'.ownsRow B 3 1 (.slice A zs.length c) zs.length (zs.map (Value.int .i64)) ∧ Below B w w'
theorem nil_il (w : World) (B : Nat) : IsIL B [] w (.returned (.slice none 0 0)) w := ⟨none, 0, rfl, World.ownsRow_nil _ _ _ _, Below.refl _ _⟩

/-- what the copy holds after k rounds -/
def icopied (zs : List Int) (n k : Nat) : List Value := (zs.take k).map (Value.int .i64) ++ List.replicate (n - k) (.int .i64 0)
theorem icopied_all (zs : List Int) (n : Nat) (h : zs.length = n) : icopied zs n n = zs.map (Value.int .i64) := by
  unfold icopied
  rw [Nat.sub_self, List.replicate_zero, List.append_nil, List.take_of_length_le (by omega)]
theorem icopied_next (zs : List Int) (n k : Nat) (h : zs.length = n) (hk : k < n) : (icopied zs n k).set k (.int .i64 (zs.getD k 0)) = icopied zs n (k + 1) := by
  have hl : ((zs.take k).map (Value.int .i64)).length = k := by simp; omega
  unfold icopied
  rw [List.set_append_right (h := by omega), hl, Nat.sub_self]
  obtain ⟨m, hm⟩ : ∃ m, n - k = m + 1 := ⟨n - k - 1, by omega⟩
  rw [hm, List.replicate_succ, List.set_cons_zero, show n - (k + 1) = m from by omega, List.take_succ_eq_append_getElem (show k < zs.length by omega)]
  simp only [List.map_append, List.map_cons, List.map_nil, List.append_assoc, List.cons_append, List.nil_append, List.getD_eq_getElem?_getD, List.getElem?_eq_getElem (show k < zs.length by omega), Option.getD_some]

def IsICopy (B : Nat) (n : Nat) (zs : List Int) (w : World) (e : Ending) (w' : World) : Prop :=
  ∃ g, e = .returned (.slice (some ⟨g, 0, none⟩) n n) ∧ B ≤ g ∧ w'.ownsRow B 3 1 (.slice (some ⟨g, 0, none⟩) n n) n (zs.map (Value.int .i64)) ∧ Below B w w'



/-! ### marks -/

/-- the numbers from k on -/
def imarks (k : Int) (n : Nat) : List Int := (List.range n).map fun i : Nat => k + (i : Int)
theorem imarks_length (k : Int) (n : Nat) : (imarks k n).length = n := by simp [imarks]
theorem imarks_get (k : Int) (n i : Nat) (h : i < n) : (imarks k n).getD i 0 = k + (i : Int) := by
  simp [imarks, List.getD_eq_getElem?_getD, h]
def imarked (k : Int) (n i : Nat) (xs : List Value) : List Value := ((imarks k n).take i).map (Value.int .i64) ++ xs.drop i
theorem imarked_zero (k : Int) (n : Nat) (xs : List Value) : imarked k n 0 xs = xs := by simp [imarked]
theorem imarked_all (k : Int) (n : Nat) (xs : List Value) (h : xs.length = n) : imarked k n n xs = (imarks k n).map (Value.int .i64) := by
  unfold imarked
  rw [List.take_of_length_le (by rw [imarks_length]; omega), List.drop_eq_nil_of_le (by omega), List.append_nil]
theorem imarked_next (k : Int) (n i : Nat) (xs : List Value) (h : xs.length = n) (hi : i < n) : (imarked k n i xs).set i (.int .i64 (k + (i : Int))) = imarked k n (i + 1) xs := by
  have hm := imarks_length k n
  have hl : (((imarks k n).take i).map (Value.int .i64)).length = i := by simp; omega
  unfold imarked
  rw [List.set_append_right (h := by omega), hl, Nat.sub_self, List.drop_eq_getElem_cons (by omega), List.set_cons_zero, List.take_succ_eq_append_getElem (show i < (imarks k n).length by omega)]
  have hg := imarks_get k n i hi
  rw [List.getD_eq_getElem?_getD, List.getElem?_eq_getElem (show i < (imarks k n).length by omega), Option.getD_some] at hg
  simp only [List.map_append, List.map_cons, List.map_nil, List.append_assoc, List.cons_append, List.nil_append, hg]

theorem grown_trans {a b c : World} {row : Option Nat} (h : a.grownBy b row) (k : b.grownBy c row) : a.grownBy c row :=
  ⟨k.os.trans h.os, k.tape.trans h.tape, k.output.trans h.output, Nat.le_trans h.size k.size, fun i hi hr => (k.block i (Nat.lt_of_lt_of_le hi h.size) hr).trans (h.block i hi hr)⟩

def IMarked (B : Nat) (k : Int) (n : Nat) (A : Option Addr) (c : Nat) (w : World) (e : Ending) (w' : World) : Prop :=
  e = .returned (.int .i64 (k + (n : Int))) ∧ w'.ownsRow B 3 1 (.slice A n c) n ((imarks k n).map (Value.int .i64)) ∧ w.grownBy w' (A.map (·.block))


/-! ### a row of the call's own between two blocks; what a later step leaves of it -/

/-- a list of ints of the call's own, in a block from lo on and below hi (or nil) -/
def Row (W : World) (lo hi : Nat) (A : Option Addr) (n c : Nat) (zs : List Int) : Prop :=
  W.ownsRow lo 3 1 (.slice A n c) n (zs.map (Value.int .i64)) ∧ (∀ a, A = some a → a.block < hi) ∧ hi ≤ W.heap.size
theorem Row.mk {W : World} {lo : Nat} {A : Option Addr} {n c : Nat} {zs : List Int} (h : W.ownsRow lo 3 1 (.slice A n c) n (zs.map (Value.int .i64))) : Row W lo W.heap.size A n c zs :=
  ⟨h, fun a e => (h.lt a.block (by subst e; rfl)).2, Nat.le_refl _⟩
theorem Row.own {W : World} {lo hi : Nat} {A : Option Addr} {n c : Nat} {zs : List Int} (h : Row W lo hi A n c zs) : W.ownsRow lo 3 1 (.slice A n c) n (zs.map (Value.int .i64)) := h.1
theorem Row.at_ {W : World} {lo hi : Nat} {A : Option Addr} {n c : Nat} {zs : List Int} (h : Row W lo hi A n c zs) : IntsAt W W.heap.size .i64 A zs := ints_of h.1
theorem Row.below {W W' : World} {lo hi : Nat} {A : Option Addr} {n c : Nat} {zs : List Int} (h : Row W lo hi A n c zs) (hb : Below W.heap.size W W') : Row W' lo hi A n c zs :=
  ⟨own_below h.1 hb, h.2.1, Nat.le_trans h.2.2 hb.size⟩
theorem Row.lo {W : World} {lo hi : Nat} {A : Option Addr} {n c : Nat} {zs : List Int} (h : Row W lo hi A n c zs) : ∀ k, A.map (·.block) = some k → lo ≤ k := by
  intro k hk
  cases A with
  | none => cases hk
  | some a =>
    simp only [Option.map_some, Option.some.injEq] at hk
    subst hk
    exact (h.1.lt a.block rfl).1
theorem Row.hi {W : World} {lo hi : Nat} {A : Option Addr} {n c : Nat} {zs : List Int} (h : Row W lo hi A n c zs) : ∀ k, A.map (·.block) = some k → k < hi := by
  intro k hk
  cases A with
  | none => cases hk
  | some a =>
    simp only [Option.map_some, Option.some.injEq] at hk
    subst hk
    exact h.2.1 a rfl
/-- another row is written -/
theorem Row.grown {W W' : World} {lo hi : Nat} {A : Option Addr} {n c : Nat} {zs : List Int} {row : Option Nat} (h : Row W lo hi A n c zs) (hg : W.grownBy W' row) (hr : ∀ k, row = some k → k < lo ∨ hi ≤ k) : Row W' lo hi A n c zs := by
  refine ⟨h.1.kept hg ?_, h.2.1, Nat.le_trans h.2.2 hg.size⟩
  cases A with
  | none => exact Or.inl rfl
  | some a =>
    refine Or.inr fun e => ?_
    have h1 := h.1.lt a.block rfl
    have h2 := h.2.1 a rfl
    have := hr a.block e.symm
    omega
/-- this row is written -/
theorem Row.marked {W W' : World} {lo hi : Nat} {A : Option Addr} {n c : Nat} {zs ys : List Int} {row : Option Nat} (h : Row W lo hi A n c zs) (ho : W'.ownsRow lo 3 1 (.slice A n c) n (ys.map (Value.int .i64))) (hg : W.grownBy W' row) : Row W' lo hi A n c ys :=
  ⟨ho, h.2.1, Nat.le_trans h.2.2 hg.size⟩
theorem at_below {W W' : World} {B : Nat} {A : Option Addr} {zs : List Int} (h : IntsAt W B .i64 A zs) (hb : Below W.heap.size W W') (hB : B ≤ W.heap.size) : IntsAt W' B .i64 A zs := h.below (hb.mono hB)
theorem at_grown {W W' : World} {B : Nat} {A : Option Addr} {zs : List Int} {row : Option Nat} (h : IntsAt W B .i64 A zs) (hg : W.grownBy W' row) (hB : B ≤ W.heap.size) (hr : ∀ k, row = some k → B ≤ k) : IntsAt W' B .i64 A zs :=
  h.below ((Below.refl B W).grown hg hB hr)

end Go.Proofs.Ytefgcnjbiaileaa.Ins

namespace Go.Proofs.Ytefgcnjbiaileaa.Pl
open Go.RowKit Fr Own Pk Ins

/-- how many of the first k elements lie face up -/
def upTo (zs : List Int) : Nat → Nat
  | 0 => 0
  | k + 1 => upTo zs k + (if upB (zs.getD k 0) then 1 else 0)
theorem upTo_le (zs : List Int) (k : Nat) : upTo zs k ≤ k := by
  induction k with
  | zero => exact Nat.le_refl _
  | succ k ih => simp only [upTo]; split <;> omega
theorem upTo_yes (zs : List Int) (k : Nat) (h : upB (zs.getD k 0) = true) : upTo zs (k + 1) = upTo zs k + 1 := by simp only [upTo, h, if_true]
theorem upTo_no (zs : List Int) (k : Nat) (h : upB (zs.getD k 0) = false) : upTo zs (k + 1) = upTo zs k := by simp only [upTo, h]; simp


/-! ### PositionOf -/
/-- the first place from i on, of at most f, that bears the card, or -1 -/
def posFrom (zs : List Int) (card : Int) : Nat → Nat → Int
  | 0, _ => -1
  | f + 1, i => if 0 ≤ card ∧ cardF (zs.getD i 0) = card then (i : Int) else posFrom zs card f (i + 1)
def posF (zs : List Int) (card : Int) : Int := posFrom zs card zs.length 0
theorem posFrom_hit (zs : List Int) (card : Int) (f i : Nat) (h0 : 0 ≤ card) (h : cardF (zs.getD i 0) = card) : posFrom zs card (f + 1) i = i := by
  simp only [posFrom]; rw [if_pos ⟨h0, h⟩]
theorem posFrom_miss (zs : List Int) (card : Int) (f i : Nat) (h : ¬ (0 ≤ card ∧ cardF (zs.getD i 0) = card)) : posFrom zs card (f + 1) i = posFrom zs card f (i + 1) := by
  simp only [posFrom]; rw [if_neg h]
theorem posFrom_range (zs : List Int) (card : Int) (f i : Nat) : -1 ≤ posFrom zs card f i ∧ posFrom zs card f i < (i + f : Nat) := by
  induction f generalizing i with
  | zero => simp only [posFrom]; omega
  | succ f ih =>
    simp only [posFrom]
    split
    · omega
    · have := ih (i + 1); omega
theorem posF_range (zs : List Int) (card : Int) : -1 ≤ posF zs card ∧ posF zs card < zs.length := by
  have := posFrom_range zs card zs.length 0
  unfold posF; omega
theorem posFrom_neg (zs : List Int) (card : Int) (f i : Nat) : posFrom zs card f i < 0 ↔ ∀ j, i ≤ j → j < i + f → ¬ (0 ≤ card ∧ cardF (zs.getD j 0) = card) := by
  induction f generalizing i with
  | zero => simp only [posFrom]; constructor
            · intro _ j h1 h2; omega
            · intro _; omega
  | succ f ih =>
    by_cases h : 0 ≤ card ∧ cardF (zs.getD i 0) = card
    · rw [posFrom_hit zs card f i h.1 h.2]
      constructor
      · intro h1; omega
      · intro h1; exact absurd h (h1 i (Nat.le_refl _) (by omega))
    · rw [posFrom_miss zs card f i h, ih]
      constructor
      · intro h1 j hj1 hj2
        by_cases e : j = i
        · rw [e]; exact h
        · exact h1 j (by omega) (by omega)
      · intro h1 j hj1 hj2
        exact h1 j (by omega) (by omega)
theorem posF_neg (zs : List Int) (card : Int) : posF zs card < 0 ↔ ∀ j, j < zs.length → ¬ (0 ≤ card ∧ cardF (zs.getD j 0) = card) := by
  unfold posF
  rw [posFrom_neg]
  constructor
  · intro h j hj; exact h j (Nat.zero_le _) (by omega)
  · intro h j _ hj; exact h j (by omega)


end Go.Proofs.Ytefgcnjbiaileaa.Pl
