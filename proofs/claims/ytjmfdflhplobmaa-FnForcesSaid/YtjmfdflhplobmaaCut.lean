/- Two lists one after another (slices.Concat), and the program's cut of a list. -/
import Derived.Test.YtjmfdflhplobmaaCat
import Derived.Deep.RegionWith
set_option linter.unusedVariables false
set_option maxRecDepth 20000
namespace Go.Proofs.Ytjmfdflhplobmaa.Cut
open Go.RowKit Fr _root_.Go.Proofs.Ytjmfdflhplobmaa.Own Pk Ins Pfn Rws Lb Cat

theorem ints_drop {w : World} {B b o k : Nat} {zs : List Int} (h : IntsAt w B .i64 (some ⟨b, o, none⟩) zs) : IntsAt w B .i64 (some ⟨b, o + k, none⟩) (zs.drop k) := by
  intro j hj
  rw [List.length_drop] at hj
  obtain ⟨b2, o2, e, hlt, hc⟩ := h (k + j) (by omega)
  simp only [Option.some.injEq, Addr.mk.injEq, and_true] at e
  obtain ⟨rfl, rfl⟩ := e
  refine ⟨b, o + k, rfl, hlt, ?_⟩
  rw [Nat.add_assoc, hc]
  simp [List.getD_eq_getElem?_getD, List.getElem?_drop]
theorem ints_addr {w : World} {B : Nat} {A : Option Addr} {zs : List Int} (h : IntsAt w B .i64 A zs) (h0 : 1 ≤ zs.length) : ∃ b o, A = some ⟨b, o, none⟩ := by
  obtain ⟨b, o, e, _⟩ := h 0 (by omega)
  exact ⟨b, o, e⟩
/-- a family of two and of three -/
def two {α : Type} (x y : α) : Nat → α
  | 0 => x
  | _ => y
def three {α : Type} (x y z : α) : Nat → α
  | 0 => x
  | 1 => y
  | _ => z
/-- Concat of two parts -/
theorem concat_two (g cap : Nat) (A1 A2 : Option Addr) (n1 n2 c1 c2 : Nat) (us vs : List Int) (w : World) (hh : w.heap[g]? = some (.cells #[.slice A1 n1 c1, .slice A2 n2 c2] 26 (0, 0)))
    (h1 : us.length = n1) (h2 : vs.length = n2) (hs1 : n1 ≤ 4096) (hs2 : n2 ≤ 4096) (hc1 : A1 = none → c1 = 0) (hc2 : A2 = none → c2 = 0) (hp1 : ∀ a, A1 = some a → a.spot = none) (hp2 : ∀ a, A2 = some a → a.spot = none)
    (ha1 : IntsAt w w.heap.size .i64 A1 us) (ha2 : IntsAt w w.heap.size .i64 A2 vs) :
    Calls Try.prog 72 #[.slice (some ⟨g, 0, none⟩) 2 cap] w (IsIL w.heap.size (us ++ vs) w) := by
  have h := concat_any g 2 cap (two A1 A2) (two n1 n2) (two c1 c2) (two us vs) w (by omega) (fun k hk => ?_) (Array.getElem?_eq_some_iff.1 hh).1 (fun k hk => ?_) (fun k hk => ?_) (fun k hk => ?_) (fun k hk => ?_) (fun k hk => ?_)
  · have e : cat (two us vs) 2 = us ++ vs := by simp [cat, two]
    rw [e] at h
    exact h
  all_goals
    rcases Nat.lt_or_ge k 1 with h0 | h0
    · obtain rfl : k = 0 := by omega
      first | exact h1 | exact hs1 | exact hc1 | exact hp1 | exact ha1 | (unfold World.cell?; simp [hh, two])
    · obtain rfl : k = 1 := by omega
      first | exact h2 | exact hs2 | exact hc2 | exact hp2 | exact ha2 | (unfold World.cell?; simp [hh, two])
theorem concat_three (g cap : Nat) (A1 A2 A3 : Option Addr) (n1 n2 n3 c1 c2 c3 : Nat) (us vs ts : List Int) (w : World) (hh : w.heap[g]? = some (.cells #[.slice A1 n1 c1, .slice A2 n2 c2, .slice A3 n3 c3] 26 (0, 0)))
    (h1 : us.length = n1) (h2 : vs.length = n2) (h3 : ts.length = n3) (hs1 : n1 ≤ 4096) (hs2 : n2 ≤ 4096) (hs3 : n3 ≤ 4096) (hc1 : A1 = none → c1 = 0) (hc2 : A2 = none → c2 = 0) (hc3 : A3 = none → c3 = 0)
    (hp1 : ∀ a, A1 = some a → a.spot = none) (hp2 : ∀ a, A2 = some a → a.spot = none) (hp3 : ∀ a, A3 = some a → a.spot = none)
    (ha1 : IntsAt w w.heap.size .i64 A1 us) (ha2 : IntsAt w w.heap.size .i64 A2 vs) (ha3 : IntsAt w w.heap.size .i64 A3 ts) :
    Calls Try.prog 72 #[.slice (some ⟨g, 0, none⟩) 3 cap] w (IsIL w.heap.size (us ++ (vs ++ ts)) w) := by
  have h := concat_any g 3 cap (three A1 A2 A3) (three n1 n2 n3) (three c1 c2 c3) (three us vs ts) w (by omega) (fun k hk => ?_) (Array.getElem?_eq_some_iff.1 hh).1 (fun k hk => ?_) (fun k hk => ?_) (fun k hk => ?_) (fun k hk => ?_) (fun k hk => ?_)
  · have e : cat (three us vs ts) 3 = us ++ (vs ++ ts) := by simp [cat, three]
    rw [e] at h
    exact h
  all_goals
    rcases Nat.lt_or_ge k 1 with h0 | h0
    · obtain rfl : k = 0 := by omega
      first | exact h1 | exact hs1 | exact hc1 | exact hp1 | exact ha1 | (unfold World.cell?; simp [hh, three])
    rcases Nat.lt_or_ge k 2 with h0 | h0
    · obtain rfl : k = 1 := by omega
      first | exact h2 | exact hs2 | exact hc2 | exact hp2 | exact ha2 | (unfold World.cell?; simp [hh, three])
    · obtain rfl : k = 2 := by omega
      first | exact h3 | exact hs3 | exact hc3 | exact hp3 | exact ha3 | (unfold World.cell?; simp [hh, three])
theorem spot_some {b o : Nat} : ∀ a, (some (⟨b, o, none⟩ : Addr)) = some a → a.spot = none := by
  intro a h
  simp only [Option.some.injEq] at h
  subst h
  rfl
theorem il_below {w w1 w2 : World} {zs : List Int} {e : Ending} (h : IsIL w1.heap.size zs w1 e w2) (hb : Below w.heap.size w w1) : IsIL w.heap.size zs w e w2 := by
  obtain ⟨A, c, rfl, ho, hb2⟩ := h
  exact ⟨A, c, rfl, own_mono ho hb.size, hb.trans (hb2.mono hb.size)⟩

theorem ints_none (w : World) (B : Nat) (A : Option Addr) {zs : List Int} (h : zs.length = 0) : IntsAt w B .i64 A zs := fun j hj => by omega
theorem ints_take2 {w : World} {B : Nat} {A : Option Addr} {zs : List Int} (k : Nat) (h : IntsAt w B .i64 A zs) : IntsAt w B .i64 A (zs.take k) := Prm.ints_take k h
/-- below and more at once -/
theorem ints_on {w w' : World} {A : Option Addr} {zs : List Int} (h : IntsAt w w.heap.size .i64 A zs) (hb : Below w.heap.size w w') : IntsAt w' w'.heap.size .i64 A zs := (h.below hb).more hb.size
theorem below_new (w : World) (o : Obj) : Below w.heap.size w (w.alloc o).drew := ((Below.refl w.heap.size w).alloc (Nat.le_refl _) o).drew

end Go.Proofs.Ytjmfdflhplobmaa.Cut
