/- All lists of k different elements of a list, as the model makes them, and MessagesOf. -/
import Derived.Test.YtefgcnjbiaileaaHnd
import Derived.Test.YtefgcnjbiaileaaNewp
import Derived.BigQuiet
import Derived.Deep.RegionHeld3
import Derived.Deep.RegionHeldLaw
import Derived.Deep.RegionLaw
set_option linter.unusedVariables false
set_option maxRecDepth 20000
namespace Go.Proofs.Ytefgcnjbiaileaa.Hno
open Go.RowKit Fr _root_.Go.Proofs.Ytefgcnjbiaileaa.Own Pk Ins Rws Hnd

theorem vals_len (zs : List Int) : (vals zs).length = zs.length := by simp [vals]
theorem vals_get {zs : List Int} {k : Nat} (h : k < zs.length) : (vals zs)[k]? = some (.int .i64 (zs.getD k 0)) := by
  simp [vals, List.getElem?_map, List.getElem?_eq_getElem h, List.getD_eq_getElem?_getD]
theorem own_slice {w : World} {B : Nat} {e : TypeId} {s : Nat} {v : Value} {n : Nat} {xs : List Value} (h : w.ownsRow B e s v n xs) : ∃ A c, v = .slice A n c := by
  rcases h.2 with ⟨h2, h3⟩ | ⟨g, cap, cur, hv, _⟩
  · exact ⟨none, 0, by rw [h2, h3]⟩
  · exact ⟨_, _, hv⟩
theorem vals_one (zs : List Int) : ∀ v ∈ vals zs, v.oneCell' = true := by
  intro v hv
  obtain ⟨x, _, rfl⟩ := List.mem_map.1 hv
  rfl
theorem ints_take {w : World} {B : Nat} {A : Option Addr} {zs : List Int} (k : Nat) (h : IntsAt w B .i64 A zs) : IntsAt w B .i64 A (zs.take k) := by
  intro j hj
  rw [List.length_take] at hj
  obtain ⟨b, o, hA, hlt, hc⟩ := h j (by omega)
  refine ⟨b, o, hA, hlt, hc.trans ?_⟩
  simp only [List.getD_eq_getElem?_getD]
  rw [List.getElem?_take, if_pos (by omega)]
theorem ints_drop {w : World} {B b o k : Nat} {zs : List Int} (h : IntsAt w B .i64 (some ⟨b, o, none⟩) zs) : IntsAt w B .i64 (some ⟨b, o + k, none⟩) (zs.drop k) := by
  intro j hj
  rw [List.length_drop] at hj
  obtain ⟨b2, o2, e, hlt, hc⟩ := h (k + j) (by omega)
  simp only [Option.some.injEq, Addr.mk.injEq, and_true] at e
  obtain ⟨rfl, rfl⟩ := e
  refine ⟨b, o + k, rfl, hlt, ?_⟩
  rw [Nat.add_assoc, hc]
  simp [List.getD_eq_getElem?_getD, List.getElem?_drop]
theorem spot_some {b o : Nat} : ∀ a, (some (⟨b, o, none⟩ : Addr)) = some a → a.spot = none := by
  intro a h
  simp only [Option.some.injEq] at h
  subst h
  rfl
theorem own_cap {w : World} {B : Nat} {e : TypeId} {size : Nat} {A : Option Addr} {n c : Nat} {xs : List Value} (h : w.ownsRow B e size (.slice A n c) n xs) : n ≤ c := by
  rcases h.2 with ⟨h1, h2⟩ | ⟨g, cap, cur, hv, _, _, hc, _⟩
  · omega
  · simp only [Value.slice.injEq] at hv
    omega

/-- the elements of ls at the places that zs names -/
def joinF (ls zs : List Int) : List Int := zs.map fun x => ls.getD x.toNat 0
theorem wp_app_any {P : Program} {w : World} {o : Oper} {a : Act} {K : Act → World → Prop} {Q : Exit → Act → World → Prop} (s x : Operand) (t : TypeId)
    (ho : o.op = .call { callee := .builtin .append, args := #[s, x], argTypes := #[t, t] })
    (B : Nat) (e : TypeId) (i : TypeInfo) (bytes : Nat) (ht : P.underlying t = some (.slice e)) (hi : P.info? e = some i) (hz : i.zero = some (.int .i64 0))
    (hsize : i.size = 1) (hby : i.bytes = bytes) (hby2 : bytes ≤ 32) (A : Option Addr) (c : Nat) (n : Nat) (xs : List Int) (hs : a.eval s = .slice A n c) (hown : w.ownsRow B e 1 (.slice A n c) n (vals xs))
    (A2 : Option Addr) (m c2 : Nat) (zs : List Int) (hx : a.eval x = .slice A2 m c2) (hm : zs.length = m) (hnil : A2 = none → c2 = 0) (B2 : Nat) (hat : IntsAt w B2 .i64 A2 zs) (hn : n ≤ 4294967296) (hm2 : m ≤ 4294967296) (hB : B ≤ w.heap.size)
    (hspot : ∀ a, A2 = some a → a.spot = none)
    (h : ∀ A' c' w', w'.ownsRow B e 1 (.slice A' (n + m) c') (n + m) (vals (xs ++ zs)) → w.grownBy w' (A.map (·.block)) → K (a.put o.dst (.slice A' (n + m) c')) w') :
    o.wp P a w K Q := by
  cases A2 with
  | none =>
    have h0 : m = 0 := by
      rcases Nat.eq_zero_or_pos m with h | h
      · exact h
      · obtain ⟨b, o, e, _⟩ := hat 0 (by omega)
        cases e
    have hz : zs = [] := List.eq_nil_of_length_eq_zero (by omega)
    have hc := hnil rfl
    subst hz h0 hc
    have hrun := run_append_owned_none (P := P) (w := w) B t o.type e i 1 ht hi _ n (vals xs) hown
    unfold Oper.wp
    simp [execOp, ho, resolve, invoke, builtin, hs, hx, hrun, Result.andThen]
    exact h A c w (by rw [List.append_nil]; exact hown) (World.grownBy.refl w _)
  | some ad =>
    obtain ⟨b, f, sp⟩ := ad
    have hsp := hspot _ rfl
    simp only at hsp
    subst hsp
    subst hm
    refine wp_append_own _ s x t ho B e i (.int .i64 0) 1 bytes ht hi hz hsize hby rfl (by decide) _ n (vals xs) hs hown ⟨b, f, none⟩ zs.length c2 (vals zs) hx (by simp [vals]) ?_ (vals_one zs) (by unfold maxLen; omega) ?_ hB ?_
    · intro j u hu
      obtain ⟨hj, e⟩ := List.getElem?_eq_some_iff.1 hu
      have hj' : j < zs.length := by rw [vals_len] at hj; exact hj
      obtain ⟨b', o', hA, hlt, hc⟩ := hat j hj'
      simp only [Option.some.injEq, Addr.mk.injEq, and_true] at hA
      obtain ⟨rfl, rfl⟩ := hA
      show w.cell? (Addr.add ⟨b, f, none⟩ j) = some u
      rw [Go.WideShapes.add_plain, hc, ← hu, vals_get hj']
    · have : (n + zs.length) * bytes ≤ (4294967296 + 4294967296) * 32 := Nat.mul_le_mul (by omega) hby2
      omega
    · intro v' w' h2 h3 _
      obtain ⟨A', c', rfl⟩ := own_slice h2
      have hg : w.grownBy w' ((some (⟨b, f, none⟩ : Addr)).map (·.block)) ∨ True := Or.inr trivial
      refine h A' c' w' (by unfold vals at h2 ⊢; rw [List.map_append]; exact h2) ?_
      cases A with
      | none => exact h3
      | some a2 => exact h3
theorem step_app_any {P : Program} {w : World} {ops : Array Oper} {o : Oper} {a : Act} {K : Act → World → Prop} {Q : Exit → Act → World → Prop} {E : Prop} (hgd : o.guard = none) (s x : Operand) (t : TypeId)
    (ho : o.op = .call { callee := .builtin .append, args := #[s, x], argTypes := #[t, t] })
    (B : Nat) (e : TypeId) (i : TypeInfo) (bytes : Nat) (ht : P.underlying t = some (.slice e)) (hi : P.info? e = some i) (hz : i.zero = some (.int .i64 0))
    (hsize : i.size = 1) (hby : i.bytes = bytes) (hby2 : bytes ≤ 32) (A : Option Addr) (c : Nat) (n : Nat) (xs : List Int) (hs : a.eval s = .slice A n c) (hown : w.ownsRow B e 1 (.slice A n c) n (vals xs))
    (A2 : Option Addr) (m c2 : Nat) (zs : List Int) (hx : a.eval x = .slice A2 m c2) (hm : zs.length = m) (hnil : A2 = none → c2 = 0) (B2 : Nat) (hat : IntsAt w B2 .i64 A2 zs) (hn : n ≤ 4294967296) (hm2 : m ≤ 4294967296) (hB : B ≤ w.heap.size)
    (hspot : ∀ a, A2 = some a → a.spot = none)
    (h : ∀ A' c' w', w'.ownsRow B e 1 (.slice A' (n + m) c') (n + m) (vals (xs ++ zs)) → w.grownBy w' (A.map (·.block)) → K (a.put o.dst (.slice A' (n + m) c')) w') :
    if Region.wanted o (yielded ops a.tmps) = true then Oper.wp P o a w K Q else E := by
  have hw : Region.wanted o (yielded ops a.tmps) = true := by simp [Region.wanted, hgd]
  rw [if_pos hw]
  exact wp_app_any s x t ho B e i bytes ht hi hz hsize hby hby2 A c n xs hs hown A2 m c2 zs hx hm hnil B2 hat hn hm2 hB hspot h
theorem step_app_r {P : Program} {w : World} {ops : Array Oper} {o : Oper} {a : Act} {K : Act → World → Prop} {Q : Exit → Act → World → Prop} {E : Prop} (hgd : o.guard = none) (s x : Operand) (t : TypeId)
    (ho : o.op = .call { callee := .builtin .append, args := #[s, x], argTypes := #[t, t] })
    (B : Nat) (e : TypeId) (i : TypeInfo) (ht : P.underlying t = some (.slice e)) (hi : P.info? e = some i) (hz : i.zero = some (.int .i64 0))
    (hsize : i.size = 1) (hby : i.bytes = 8) (A : Option Addr) (c : Nat) (n : Nat) (xs : List Int) (hs : a.eval s = .slice A n c) (hown : w.ownsRow B e 1 (.slice A n c) n (vals xs))
    (A2 : Option Addr) (m c2 : Nat) (zs : List Int) (hx : a.eval x = .slice A2 m c2) (hm : zs.length = m) (hnil : A2 = none → c2 = 0) (hat : IntsAt w w.heap.size .i64 A2 zs) (hn : n ≤ 1048576) (hm2 : m ≤ 1048576) (hB : B ≤ w.heap.size)
    (hspot : ∀ a, A2 = some a → a.spot = none) (r : Nat) (hr : n + m = r)
    (h : ∀ A' c' w', w'.ownsRow B e 1 (.slice A' r c') r (vals (xs ++ zs)) → w.grownBy w' (A.map (·.block)) → K (a.put o.dst (.slice A' r c')) w') :
    if Region.wanted o (yielded ops a.tmps) = true then Oper.wp P o a w K Q else E := by
  subst hr
  exact step_app_any hgd s x t ho B e i 8 ht hi hz hsize hby (by decide) A c n xs hs hown A2 m c2 zs hx hm hnil _ hat (by omega) (by omega) hB hspot h
theorem ints_none (w : World) (B : Nat) (A : Option Addr) {zs : List Int} (h : zs.length = 0) : IntsAt w B .i64 A zs := fun j hj => by omega
theorem ints_on {w w' : World} {A : Option Addr} {zs : List Int} (h : IntsAt w w.heap.size .i64 A zs) (hb : Below w.heap.size w w') : IntsAt w' w'.heap.size .i64 A zs := (h.below hb).more hb.size
theorem below_new (w : World) (o : Obj) : Below w.heap.size w (w.alloc o).drew := ((Below.refl w.heap.size w).alloc (Nat.le_refl _) o).drew
theorem lit0 (V : World) : (V.alloc (.cells #[] 3)).drew.ownsRow V.heap.size 3 1 (.slice (some ⟨V.heap.size, 0, none⟩) 0 0) 0 (vals []) :=
  World.ownsRow_lit (base := V.heap.size) (e := 3) (size := 1) V #[] 0 (Nat.le_refl _) (Nat.zero_le _) rfl
/-- a list without its element i -/
def restF (l : List Int) (i : Nat) : List Int := l.take i ++ l.drop (i + 1)
theorem rest_len {l : List Int} {i : Nat} (h : i < l.length) : (restF l i).length = l.length - 1 := by
  rw [restF, List.length_append, List.length_take, List.length_drop]
  omega
def oStep (k : Nat) (l : List Int) (i : Nat) : List (List Int) := (ordersF k (restF l i)).map (l.getD i 0 :: ·)
def oPart (k : Nat) (l : List Int) (j : Nat) : List (List Int) := (List.range j).flatMap (oStep k l)
theorem orders_zero (l : List Int) : ordersF 0 l = [[]] := rfl
theorem orders_succ (k : Nat) (l : List Int) : ordersF (k + 1) l = oPart k l l.length := rfl
theorem part_next (k : Nat) (l : List Int) (j : Nat) : oPart k l (j + 1) = oPart k l j ++ oStep k l j := by
  unfold oPart
  rw [List.range_succ, List.flatMap_append]
  simp
theorem orders_len : ∀ (k : Nat) (l : List Int), (ordersF k l).length ≤ l.length ^ k
  | 0, l => by rw [orders_zero]; simp
  | k + 1, l => by
    have hp : ∀ j, j ≤ l.length → (oPart k l j).length ≤ j * l.length ^ k := by
      intro j
      induction j with
      | zero => intro _; simp [oPart]
      | succ j ih =>
        intro hj
        rw [part_next, List.length_append, oStep, List.length_map, Nat.succ_mul]
        have h1 := ih (by omega)
        have h2 := orders_len k (restF l j)
        have h3 : (restF l j).length ^ k ≤ l.length ^ k := Nat.pow_le_pow_left (by rw [rest_len (by omega)]; omega) k
        omega
    have h := hp l.length (Nat.le_refl _)
    rw [orders_succ, Nat.pow_succ, Nat.mul_comm]
    exact h
theorem orders_each : ∀ (k : Nat) (l : List Int), ∀ q ∈ ordersF k l, q.length = k
  | 0, l, q, h => by rw [orders_zero] at h; rw [List.mem_singleton.1 h]; rfl
  | k + 1, l, q, h => by
    rw [orders_succ, oPart] at h
    obtain ⟨i, _, h2⟩ := List.mem_flatMap.1 h
    obtain ⟨p, hp, rfl⟩ := List.mem_map.1 h2
    rw [List.length_cons, orders_each k _ p hp]
theorem ss_lower {W : World} {lo lo2 hi n c : Nat} {A : Option Addr} {rs : List RD} (h : SSRow W lo hi A n c rs) (hl : lo2 ≤ lo) : SSRow W lo2 hi A n c rs :=
  ⟨own_mono h.1 hl, fun i hi => ⟨own_mono (h.2.1 i hi).1 hl, (h.2.1 i hi).2⟩, h.2.2.1, h.2.2.2.1, h.2.2.2.2⟩
/-- MessagesOf, plainly -/
def messagesI (n k : Int) : List (List Int) := if 1 ≤ n ∧ n ≤ 8 ∧ 0 ≤ k ∧ k ≤ n ∧ k ≤ 3 then ordersF k.toNat (Nwp.newF n) else []
end Go.Proofs.Ytefgcnjbiaileaa.Hno
