/- All lists of k different elements of a list, as the model makes them, and MessagesOf. -/
import Derived.Test.YtingbpkbdafgeaaHnd
import Derived.Test.YtingbpkbdafgeaaNewp
import Derived.BigQuiet
import Derived.Deep.RegionHeld3
import Derived.Deep.RegionHeldLaw
import Derived.Deep.RegionLaw
set_option linter.unusedVariables false
set_option maxRecDepth 20000
namespace Go.Proofs.Ytingbpkbdafgeaa.Hno
open Go.RowKit Fr _root_.Go.Proofs.Ytingbpkbdafgeaa.Own Pk Ins Rws Hnd

theorem vals_len (zs : List Int) : (vals zs).length = zs.length := by simp [vals]
theorem vals_get {zs : List Int} {k : Nat} (h : k < zs.length) : (vals zs)[k]? = some (.int .i64 (zs.getD k 0)) := by
  simp [vals, List.getElem?_map, List.getElem?_eq_getElem h, List.getD_eq_getElem?_getD]
theorem own_slice {w : World} {B : Nat} {e : TypeId} {s : Nat} {v : Value} {n : Nat} {xs : List Value} (h : w.ownsRow B e s v n xs) : ∃ A c, v = .slice A n c := by
  rcases h.2 with ⟨h2, h3⟩ | ⟨g, cap, cur, hv, _⟩
  · exact ⟨none, 0, by rw [h2, h3]⟩
  · exact ⟨_, _, hv⟩
theorem vals_one (zs : List Int) : ∀ v ∈ vals zs, v.oneCell' = true := by
  intro v hv
  obtain ⟨x, _, rfl⟩ := List.mem_map.1 hv
  rfl
theorem ints_take {w : World} {B : Nat} {A : Option Addr} {zs : List Int} (k : Nat) (h : IntsAt w B .i64 A zs) : IntsAt w B .i64 A (zs.take k) := by
  intro j hj
  rw [List.length_take] at hj
  obtain ⟨b, o, hA, hlt, hc⟩ := h j (by omega)
  refine ⟨b, o, hA, hlt, hc.trans ?_⟩
  simp only [List.getD_eq_getElem?_getD]
  rw [List.getElem?_take, if_pos (by omega)]
theorem ints_drop {w : World} {B b o k : Nat} {zs : List Int} (h : IntsAt w B .i64 (some ⟨b, o, none⟩) zs) : IntsAt w B .i64 (some ⟨b, o + k, none⟩) (zs.drop k) := by
  intro j hj
  rw [List.length_drop] at hj
  obtain ⟨b2, o2, e, hlt, hc⟩ := h (k + j) (by omega)
  simp only [Option.some.injEq, Addr.mk.injEq, and_true] at e
  obtain ⟨rfl, rfl⟩ := e
  refine ⟨b, o + k, rfl, hlt, ?_⟩
  rw [Nat.add_assoc, hc]
  simp [List.getD_eq_getElem?_getD, List.getElem?_drop]
theorem spot_some {b o : Nat} : ∀ a, (some (⟨b, o, none⟩ : Addr)) = some a → a.spot = none := by
  intro a h
  simp only [Option.some.injEq] at h
  subst h
  rfl
theorem own_cap {w : World} {B : Nat} {e : TypeId} {size : Nat} {A : Option Addr} {n c : Nat} {xs : List Value} (h : w.ownsRow B e size (.slice A n c) n xs) : n ≤ c := by
  rcases h.2 with ⟨h1, h2⟩ | ⟨g, cap, cur, hv, _, _, hc, _⟩
  · omega
  · simp only [Value.slice.injEq] at hv
    omega

/-- the elements of ls at the places that zs names -/
def joinF (ls zs : List Int) : List Int := zs.map fun x => ls.getD x.toNat 0
theorem wp_app_any {P : Program} {w : World} {o : Oper} {a : Act} {K : Act → World → Prop} {Q : Exit → Act → World → Prop} (s x : Operand) (t : TypeId)
    (ho : o.op = .call { callee := .builtin .append, args := #[s, x], argTypes := #[t, t] })
    (B : Nat) (e : TypeId) (i : TypeInfo) (bytes : Nat) (ht : P.underlying t = some (.slice e)) (hi : P.info? e = some i) (hz : i.zero = some (.int .i64 0))
    (hsize : i.size = 1) (hby : i.bytes = bytes) (hby2 : bytes ≤ 32) (A : Option Addr) (c : Nat) (n : Nat) (xs : List Int) (hs : a.eval s = .slice A n c) (hown : w.ownsRow B e 1 (.slice A n c) n (vals xs))
    (A2 : Option Addr) (m c2 : Nat) (zs : List Int) (hx : a.eval x = .slice A2 m c2) (hm : zs.length = m) (hnil : A2 = none → c2 = 0) (B2 : Nat) (hat : IntsAt w B2 .i64 A2 zs) (hn : n ≤ 4294967296) (hm2 : m ≤ 4294967296) (hB : B ≤ w.heap.size)
    (hspot : ∀ a, A2 = some a → a.spot = none)
    (h : ∀ A' c' w', w'.ownsRow B e 1 (.slice A' (n + m) c') (n + m) (vals (xs ++ zs)) → w.grownBy w' (A.map (·.block)) → K (a.put o.dst (.slice A' (n + m) c')) w') :
    o.wp P a w K Q := by
  cases A2 with
  | none =>
    have h0 : m = 0 := by
      rcases Nat.eq_zero_or_pos m with h | h
      · exact h
      · obtain ⟨b, o, e, _⟩ := hat 0 (by omega)
        cases e
    have hz : zs = [] := List.eq_nil_of_length_eq_zero (by omega)
    have hc := hnil rfl
    subst hz h0 hc
    have hrun := run_append_owned_none (P := P) (w := w) B t o.type e i 1 ht hi _ n (vals xs) hown
    unfold Oper.wp
    simp [execOp, ho, resolve, invoke, builtin, hs, hx, hrun, Result.andThen]
    exact h A c w (by rw [List.append_nil]; exact hown) (World.grownBy.refl w _)
  | some ad =>
    obtain ⟨b, f, sp⟩ := ad
    have hsp := hspot _ rfl
    simp only at hsp
    subst hsp
    subst hm
    refine wp_append_own _ s x t ho B e i (.int .i64 0) 1 bytes ht hi hz hsize hby rfl (by decide) _ n (vals xs) hs hown ⟨b, f, none⟩ zs.length c2 (vals zs) hx (by simp [vals]) ?_ (vals_one zs) (by unfold maxLen; omega) ?_ hB ?_
    · intro j u hu
      obtain ⟨hj, e⟩ := List.getElem?_eq_some_iff.1 hu
      have hj' : j < zs.length := by rw [vals_len] at hj; exact hj
      obtain ⟨b', o', hA, hlt, hc⟩ := hat j hj'
      simp only [Option.some.injEq, Addr.mk.injEq, and_true] at hA
      obtain ⟨rfl, rfl⟩ := hA
      show w.cell? (Addr.add ⟨b, f, none⟩ j) = some u
      rw [Go.WideShapes.add_plain, hc, ← hu, vals_get hj']
    · have : (n + zs.length) * bytes ≤ (4294967296 + 4294967296) * 32 := Nat.mul_le_mul (by omega) hby2
      omega
    · intro v' w' h2 h3 _
      obtain ⟨A', c', rfl⟩ := own_slice h2
      have hg : w.grownBy w' ((some (⟨b, f, none⟩ : Addr)).map (·.block)) ∨ True := Or.inr trivial
      refine h A' c' w' (by unfold vals at h2 ⊢; rw [List.map_append]; exact h2) ?_
      cases A with
      | none => exact h3
      | some a2 => exact h3
theorem step_app_any {P : Program} {w : World} {ops : Array Oper} {o : Oper} {a : Act} {K : Act → World → Prop} {Q : Exit → Act → World → Prop} {E : Prop} (hgd : o.guard = none) (s x : Operand) (t : TypeId)
    (ho : o.op = .call { callee := .builtin .append, args := #[s, x], argTypes := #[t, t] })
    (B : Nat) (e : TypeId) (i : TypeInfo) (bytes : Nat) (ht : P.underlying t = some (.slice e)) (hi : P.info? e = some i) (hz : i.zero = some (.int .i64 0))
    (hsize : i.size = 1) (hby : i.bytes = bytes) (hby2 : bytes ≤ 32) (A : Option Addr) (c : Nat) (n : Nat) (xs : List Int) (hs : a.eval s = .slice A n c) (hown : w.ownsRow B e 1 (.slice A n c) n (vals xs))
    (A2 : Option Addr) (m c2 : Nat) (zs : List Int) (hx : a.eval x = .slice A2 m c2) (hm : zs.length = m) (hnil : A2 = none → c2 = 0) (B2 : Nat) (hat : IntsAt w B2 .i64 A2 zs) (hn : n ≤ 4294967296) (hm2 : m ≤ 4294967296) (hB : B ≤ w.heap.size)
    (hspot : ∀ a, A2 = some a → a.spot = none)
    (h : ∀ A' c' w', w'.ownsRow B e 1 (.slice A' (n + m) c') (n + m) (vals (xs ++ zs)) → w.grownBy w' (A.map (·.block)) → K (a.put o.dst (.slice A' (n + m) c')) w') :
    if Region.wanted o (yielded ops a.tmps) = true then Oper.wp P o a w K Q else E := by
  have hw : Region.wanted o (yielded ops a.tmps) = true := by simp [Region.wanted, hgd]
  rw [if_pos hw]
  exact wp_app_any s x t ho B e i bytes ht hi hz hsize hby hby2 A c n xs hs hown A2 m c2 zs hx hm hnil B2 hat hn hm2 hB hspot h
theorem step_app_r {P : Program} {w : World} {ops : Array Oper} {o : Oper} {a : Act} {K : Act → World → Prop} {Q : Exit → Act → World → Prop} {E : Prop} (hgd : o.guard = none) (s x : Operand) (t : TypeId)
    (ho : o.op = .call { callee := .builtin .append, args := #[s, x], argTypes := #[t, t] })
    (B : Nat) (e : TypeId) (i : TypeInfo) (ht : P.underlying t = some (.slice e)) (hi : P.info? e = some i) (hz : i.zero = some (.int .i64 0))
    (hsize : i.size = 1) (hby : i.bytes = 8) (A : Option Addr) (c : Nat) (n : Nat) (xs : List Int) (hs : a.eval s = .slice A n c) (hown : w.ownsRow B e 1 (.slice A n c) n (vals xs))
    (A2 : Option Addr) (m c2 : Nat) (zs : List Int) (hx : a.eval x = .slice A2 m c2) (hm : zs.length = m) (hnil : A2 = none → c2 = 0) (hat : IntsAt w w.heap.size .i64 A2 zs) (hn : n ≤ 1048576) (hm2 : m ≤ 1048576) (hB : B ≤ w.heap.size)
    (hspot : ∀ a, A2 = some a → a.spot = none) (r : Nat) (hr : n + m = r)
    (h : ∀ A' c' w', w'.ownsRow B e 1 (.slice A' r c') r (vals (xs ++ zs)) → w.grownBy w' (A.map (·.block)) → K (a.put o.dst (.slice A' r c')) w') :
    if Region.wanted o (yielded ops a.tmps) = true then Oper.wp P o a w K Q else E := by
  subst hr
  exact step_app_any hgd s x t ho B e i 8 ht hi hz hsize hby (by decide) A c n xs hs hown A2 m c2 zs hx hm hnil _ hat (by omega) (by omega) hB hspot h
theorem ints_none (w : World) (B : Nat) (A : Option Addr) {zs : List Int} (h : zs.length = 0) : IntsAt w B .i64 A zs := fun j hj => by omega
theorem ints_on {w w' : World} {A : Option Addr} {zs : List Int} (h : IntsAt w w.heap.size .i64 A zs) (hb : Below w.heap.size w w') : IntsAt w' w'.heap.size .i64 A zs := (h.below hb).more hb.size
theorem below_new (w : World) (o : Obj) : Below w.heap.size w (w.alloc o).drew := ((Below.refl w.heap.size w).alloc (Nat.le_refl _) o).drew
theorem lit0 (V : World) : (V.alloc (.cells #[] 3)).drew.ownsRow V.heap.size 3 1 (.slice (some ⟨V.heap.size, 0, none⟩) 0 0) 0 (vals []) :=
  World.ownsRow_lit (base := V.heap.size) (e := 3) (size := 1) V #[] 0 (Nat.le_refl _) (Nat.zero_le _) rfl
/-- a list without its element i -/
def restF (l : List Int) (i : Nat) : List Int := l.take i ++ l.drop (i + 1)
theorem rest_len {l : List Int} {i : Nat} (h : i < l.length) : (restF l i).length = l.length - 1 := by
  rw [restF, List.length_append, List.length_take, List.length_drop]
  omega
def oStep (k : Nat) (l : List Int) (i : Nat) : List (List Int) := (ordersF k (restF l i)).map (l.getD i 0 :: ·)
def oPart (k : Nat) (l : List Int) (j : Nat) : List (List Int) := (List.range j).flatMap (oStep k l)
theorem orders_zero (l : List Int) : ordersF 0 l = [[]] := rfl
theorem orders_succ (k : Nat) (l : List Int) : ordersF (k + 1) l = oPart k l l.length := rfl
theorem part_next (k : Nat) (l : List Int) (j : Nat) : oPart k l (j + 1) = oPart k l j ++ oStep k l j := by
  unfold oPart
  rw [List.range_succ, List.flatMap_append]
  simp
theorem orders_len : ∀ (k : Nat) (l : List Int), (ordersF k l).length ≤ l.length ^ k
  | 0, l => by rw [orders_zero]; simp
  | k + 1, l => by
    have hp : ∀ j, j ≤ l.length → (oPart k l j).length ≤ j * l.length ^ k := by
      intro j
      induction j with
      | zero => intro _; simp [oPart]
      | succ j ih =>
        intro hj
        rw [part_next, List.length_append, oStep, List.length_map, Nat.succ_mul]
        have h1 := ih (by omega)
        have h2 := orders_len k (restF l j)
        have h3 : (restF l j).length ^ k ≤ l.length ^ k := Nat.pow_le_pow_left (by rw [rest_len (by omega)]; omega) k
        omega
    have h := hp l.length (Nat.le_refl _)
    rw [orders_succ, Nat.pow_succ, Nat.mul_comm]
    exact h
theorem orders_each : ∀ (k : Nat) (l : List Int), ∀ q ∈ ordersF k l, q.length = k
  | 0, l, q, h => by rw [orders_zero] at h; rw [List.mem_singleton.1 h]; rfl
  | k + 1, l, q, h => by
    rw [orders_succ, oPart] at h
    obtain ⟨i, _, h2⟩ := List.mem_flatMap.1 h
    obtain ⟨p, hp, rfl⟩ := List.mem_map.1 h2
    rw [List.length_cons, orders_each k _ p hp]
set_option maxHeartbeats 8000000 in
theorem spec_orders : ∀ (k : Nat) (zs : List Int) (A : Option Addr) (n c : Nat) (w : World), zs.length = n → n ≤ c → n ≤ 8 → k ≤ 3 → IntsAt w w.heap.size .i64 A zs →
    Calls Try.prog 61 #[.slice A n c, .int .i64 (k : Int)] w (IsSS w.heap.size (ordersF k zs) w) := by
  obtain ⟨i0, hi, hz0, hz1, hz2⟩ := info_parts infoInt
  obtain ⟨i1, hj1, hy0, hy1, hy2⟩ := infos_parts
  intro k
  induction k with
  | zero =>
    intro zs A n c w hl hnc hn hk hat
    rw [orders_zero]
    have hb1 := box_below' w (.cells #[] 3)
    have hl := World.ownsRow_lit (base := w.heap.size) (e := 3) (size := 1) w #[] 0 (Nat.le_refl _) (Nat.zero_le _) rfl
    have hs1 : (w.alloc (.cells #[] 3)).heap.size = w.heap.size + 1 := by simp
    have hl2 := World.ownsRow_lit (base := w.heap.size) (e := 33) (size := 1) (w.alloc (.cells #[] 3)) #[.slice (some ⟨w.heap.size, 0, none⟩) 0 0] 1 (by omega) (by decide) rfl
    rw [hs1] at hl2
    have HSS := Lib.hid (SSRow.snoc (zs := []) ((SSRow.none_ w w.heap.size).below hb1) (Nat.le_refl _) hl hl2 (World.grownBy_alloc _ _ none))
    have HB := Lib.hid (hb1.alloc (by omega) (.cells #[.slice (some ⟨w.heap.size, 0, none⟩) 0 0] 33))
    clear hb1 hl hl2 hs1
    go_enter Try.func61, Try.ntmps61
    go_wp2
    go_ret
    exact ⟨_, _, _, rfl, rfl, HSS.out, HB.out⟩
  | succ k ih =>
    intro zs A n c w hl hnc hn hk hat
    have HIH := Lib.hid ih
    have hne2 : ((k : Int) + 1 == 0) = false := beq_eq_false_iff_ne.2 (by omega)
    have HL0 := Lib.hid (SSRow.empty (World.ownsRow_lit (base := w.heap.size) (e := 33) (size := 1) w #[] 0 (Nat.le_refl _) (Nat.zero_le _) rfl))
    have HB0 := Lib.hid (box_below' w (.cells #[] 33))
    have HE0 := Lib.hid (show ([] : List RD).map RD.zs = oPart k zs 0 from rfl)
    have HAT := Lib.hid hat
    have HL := Lib.hid hl
    have HRL := Lib.hid (show ∀ j, j ≤ n → (oPart k zs j).length ≤ 4096 by
      intro j
      have h3 : zs.length ^ k ≤ 512 := Nat.le_trans (Nat.pow_le_pow_left (show zs.length ≤ 8 by omega) k) (Nat.le_trans (Nat.pow_le_pow_right (by decide) (show k ≤ 3 by omega)) (by decide))
      have hp : ∀ j, j ≤ n → (oPart k zs j).length ≤ j * 512 := by
        intro j
        induction j with
        | zero => intro _; simp [oPart]
        | succ j ih =>
          intro hj
          rw [part_next, List.length_append, oStep, List.length_map, Nat.succ_mul]
          have h1 := ih (by omega)
          have h2 := orders_len k (restF zs j)
          have h4 : (restF zs j).length ^ k ≤ zs.length ^ k := Nat.pow_le_pow_left (by rw [rest_len (by omega)]; omega) k
          omega
      intro hj
      have := hp j hj
      omega)
    rw [show ((k + 1 : Nat) : Int) = (k : Int) + 1 by omega, orders_succ, hl]
    clear ih hl hat
    go_enter Try.func61, Try.ntmps61
    go_wp2
    go_loopw [5, 18] (fun v i wr => ∃ j : Nat, j ≤ n ∧ i = .int .i64 (j : Int) ∧ (∃ A' N c' rs, v = .slice A' N c' ∧ Hid (SSRow wr w.heap.size wr.heap.size A' N c' rs) ∧ Hid (rs.map RD.zs = oPart k zs j)) ∧ Hid (Below w.heap.size w wr)) (fun _ i _ => n - (intOf i).toNat)
    case atStart => exact ⟨0, Nat.zero_le _, rfl, ⟨_, _, _, [], rfl, HL0, HE0⟩, HB0⟩
    case round =>
      obtain ⟨y, hy, rfl, ⟨A1, N, c1, rs, rfl, HS, HRS⟩, HB⟩ := hrel
      clear HL0 HB0 HE0
      have hsz := HB.out.size
      by_cases hlt : y < n
      · have HATr := Lib.hid (ints_on HAT.out HB.out)
        obtain ⟨b, o, rfl, hbl, hcx⟩ := HATr.out y (by rw [HL.out]; exact hlt)
        have HYL := Lib.hid (rest_len (l := zs) (i := y) (by rw [HL.out]; exact hlt))
        have HPN := Lib.hid (part_next k zs y)
        have HOE := Lib.hid (orders_each k (restF zs y))
        have HSE := Lib.hid (show oStep k zs y = (ordersF k (restF zs y)).map (zs.getD y 0 :: ·) from rfl)
        obtain ⟨Q, hQ⟩ : ∃ Q, Q = ordersF k (restF zs y) := ⟨_, rfl⟩
        have HQ := Lib.hid hQ
        rw [← hQ] at HOE HSE
        clear hQ
        have hL1 : (zs.take y).length = y := by rw [List.length_take, HL.out]; omega
        have hL2 : (zs.drop (y + 1)).length = n - (y + 1) := by rw [List.length_drop, HL.out]
        have L1 := Lib.hid hL1
        have L2 := Lib.hid hL2
        clear hL1 hL2
        have HK1 := Lib.hid (below_new wr (.cells #[] 3))
        have HT1 := Lib.hid (ints_take y (ints_on HATr.out HK1.out))
        have hys : y ≤ 1048576 := by omega
        have hds : n - (y + 1) ≤ 1048576 := by omega
        have hr2 : y + (n - (y + 1)) = n - 1 := by omega
        have hW : IntKind.i64.wrap ((y : Int) + 1) = (y : Int) + 1 := IntWalk.i64_in _ (by omega)
        have hT : ((y : Int) + 1).toNat = y + 1 := by omega
        have hyc : y ≤ c := by omega
        have hyc1 : y + 1 ≤ c := by omega
        have hyn1 : y + 1 ≤ n := by omega
        have hyc0 : ¬ c = y := by omega
        have hI1 : (y : Int) + 1 ≤ (n : Int) := by omega
        have hI2 : (y : Int) ≤ (y : Int) + 1 := by omega
        have hI4 : (0 : Int) ≤ (y : Int) + 1 := by omega
        have HXZ := Lib.hid (show ∃ x, zs.getD y 0 = x from ⟨_, rfl⟩)
        obtain ⟨x, hx⟩ := HXZ.out
        rw [hx] at hcx HSE
        clear hx HXZ
        rcases Nat.lt_or_ge (y + 1) c with hck | hck
        · have hck2 : ¬ c = y + 1 := by omega
          have hck3 : ¬ ((c : Int) = (y : Int) + 1) := by omega
          have hI3 : (y : Int) + 1 ≤ (c : Int) := by omega
          go_wp2
          go_region_held_law (fun _ => True) (trivial) ((first
            | (refine step_app_r rfl (.tmp 23) (.tmp 26) 33 rfl wr.heap.size 3 i0 Try.underlying33 hi hz0 hz1 hz2 (some ⟨wr.heap.size, 0, none⟩) 0 0 [] rfl (lit0 wr) _ y _ (zs.take y) rfl L1.out (fun h => by cases h) HT1.out (by decide) hys HK1.out.size spot_some y (Nat.zero_add _) ?_; intro A5 c5 w5 hown5 hgr5; have hb5 := Lib.hid (HK1.out.grown hgr5 HK1.out.size (fun b h => (own_lo (lit0 wr) b h).1)))
            | (refine step_app_r rfl (.tmp 27) (.tmp 31) 33 rfl wr.heap.size 3 i0 Try.underlying33 hi hz0 hz1 hz2 A5 c5 y ([] ++ zs.take y) rfl hown5 _ (n - (y + 1)) _ (zs.drop (y + 1)) rfl L2.out (fun h => by cases h) (ints_drop (ints_on HATr.out hb5.out)) hys hds hb5.out.size spot_some (n - 1) hr2 ?_; intro A6 c6 w6 hown6 hgr6; have hb6 := Lib.hid (hb5.out.grown hgr6 hb5.out.size (fun b h => (own_lo hown5 b h).1)))))
          have HR6 := Lib.hid (show w6.ownsRow wr.heap.size 3 1 (.slice A6 (n - 1) c6) (n - 1) ((restF zs y).map (Value.int .i64)) from hown6)
          have hsz6 := hb6.out.size
          have hc6 : n - 1 ≤ c6 := own_cap hown6
          have HCN := Lib.hid (HIH.out (restF zs y) A6 (n - 1) c6 w6 (by rw [HYL.out, HL.out]) hc6 (by omega) (by omega) (ints_of HR6.out))
          have HCQ := Lib.hid (show Calls Try.prog 61 #[.slice A6 (n - 1) c6, .int .i64 (k : Int)] w6 (IsSS w6.heap.size Q w6) by rw [HQ.out]; exact HCN.out)
          clear HCN hown5 hgr5 hown6 hgr6 hb5
          go_wp2_with fail
          refine HCQ.out.mono ?_
          rintro e w7 ⟨A7, c7, rr, rfl, hrr, hrow5, hb5⟩
          obtain ⟨M, hM⟩ : ∃ M, M = Q.length := ⟨_, rfl⟩
          rw [← hM] at hrow5 ⊢
          have hQl : Q.length = rr.length := by rw [← hrr, List.length_map]
          have HQZ := Lib.hid (fun j (hj : j < M) => (show (rr.getD j rd0).zs = Q.getD j [] ∧ (rr.getD j rd0).zs.length = k from by
            have hj2 : j < rr.length := by omega
            have e1 : (rr.getD j rd0).zs = Q.getD j [] := by
              rw [← hrr]
              simp [List.getD_eq_getElem?_getD, List.getElem?_eq_getElem hj2]
            refine ⟨e1, ?_⟩
            rw [e1]
            exact HOE.out _ (by rw [List.getD_eq_getElem?_getD, List.getElem?_eq_getElem (by omega)]; exact List.getElem_mem _)))
          have HQM := Lib.hid hM.symm
          obtain ⟨br, hbr⟩ : ∃ b, b = w6.heap.size := ⟨_, rfl⟩
          obtain ⟨er, her⟩ : ∃ b, b = w7.heap.size := ⟨_, rfl⟩
          have HS5 := Lib.hid (((HS.out.below hb6.out).below hb5).higher (hi' := w7.heap.size) (Nat.le_trans hsz6 hb5.size) (Nat.le_refl _))
          have HPL5 := Lib.hid (show ∀ q, A1.map (·.block) = some q → q < br ∨ er ≤ q from fun q hq => Or.inl (by rw [hbr]; exact Nat.lt_of_lt_of_le (HS.out.outhi q hq) hsz6))
          have HB5 := Lib.hid ((HB.out.trans (hb6.out.mono hsz)).trans (hb5.mono (Nat.le_trans hsz hsz6)))
          have HRR5 := Lib.hid (show SSRow w7 br er A7 M c7 rr by rw [hbr, her]; exact hrow5)
          have hber : br ≤ er := by rw [hbr, her]; exact hb5.size
          have hwbr : w.heap.size ≤ br := by rw [hbr]; exact Nat.le_trans hsz hsz6
          obtain ⟨Z, hZ⟩ : ∃ Z, Z = rs.map RD.zs := ⟨_, rfl⟩
          have HRE := Lib.hid (show oPart k zs (y + 1) = Z ++ Q.map (x :: ·) by rw [HPN.out, HSE.out, hZ, HRS.out])
          have HZ := Lib.hid (show rs.map RD.zs = Z ++ (Q.take 0).map (x :: ·) by rw [hZ]; simp)
          have HRB := Lib.hid (show (oPart k zs (y + 1)).length ≤ 4096 from HRL.out (y + 1) (by omega))
          have her2 : er ≤ w7.heap.size := by omega
          clear hrr hrow5 hb5 hQl hM hbr her hZ HS HB HRS HPN HSE HOE HCQ HR6 hb6 hsz6 hsz HATr HK1 HT1 hcx
          go_wp2
          go_loopw [5, 10, 38] (fun v _ i wr => ∃ j : Nat, j ≤ M ∧ i = .int .i64 (j : Int) ∧ (∃ A' N' c' rs', v = .slice A' N' c' ∧ Hid (SSRow wr w.heap.size wr.heap.size A' N' c' rs') ∧ Hid (rs'.map RD.zs = Z ++ (Q.take j).map (x :: ·)) ∧ Hid (∀ q, A'.map (·.block) = some q → q < br ∨ er ≤ q)) ∧ Hid (SSRow wr br er A7 M c7 rr) ∧ Hid (Below w.heap.size w wr) ∧ er ≤ wr.heap.size) (fun _ _ i _ => M - (intOf i).toNat)
          case atStart => exact ⟨0, Nat.zero_le _, rfl, ⟨A1, N, c1, rs, rfl, HS5, HZ, HPL5⟩, HRR5, HB5, her2⟩
          case round =>
            obtain ⟨j, hj, rfl, ⟨A', N', c', rs', rfl, HS, HZJ, HPL⟩, HRR, HB, her3⟩ := hrel
            clear HS5 HPL5 HRR5 HB5 HZ
            have hsz := HB.out.size
            have hN : N' ≤ 4096 := by
              have h1 := congrArg List.length HZJ.out
              have h2 := congrArg List.length HRE.out
              rw [List.length_map, HS.out.len, List.length_append, List.length_map, List.length_take] at h1
              rw [List.length_append, List.length_map] at h2
              have := HRB.out
              omega
            have hM8 : M ≤ 4096 := by
              have h2 := congrArg List.length HRE.out
              rw [List.length_append, List.length_map, HQM.out] at h2
              have := HRB.out
              omega
            by_cases hjl : j < M
            · obtain ⟨gq, rfl, hcq⟩ := HRR.out.cell j hjl
              have hrj := (HRR.out.2.1 j (by rw [HRR.out.len]; exact hjl)).1
              obtain ⟨hq1, hq2⟩ := HQZ.out j hjl
              have HTK := Lib.hid (show (Q.take (j + 1)).map (x :: ·) = (Q.take j).map (x :: ·) ++ [x :: Q.getD j []] by
                rw [List.take_succ_eq_append_getElem (by rw [HQM.out]; exact hjl), List.map_append, List.getD_eq_getElem?_getD, List.getElem?_eq_getElem (by rw [HQM.out]; exact hjl)]
                rfl)
              rw [← hq1] at HTK
              clear hq1
              generalize rr.getD j rd0 = r at *
              obtain ⟨B1, d1, us⟩ := r
              simp only [RD.v] at hcq hrj hq2 HTK
              rw [hq2] at hcq hrj
              obtain ⟨hnil, hspot⟩ := own_nil hrj
              have HUL := Lib.hid hq2
              have hlit := World.ownsRow_lit (base := wr.heap.size) (e := 3) (size := 1) wr #[.int .i64 x] 1 (Nat.le_refl _) (by decide) rfl
              have hbl := box_below' wr (.cells #[.int .i64 x] 3)
              have HUA := Lib.hid ((ints_of hrj).below hbl)
              have hsl := hbl.size
              have hk2 : k ≤ 4294967296 := by omega
              have hN2 : N' ≤ 1048576 := by omega
              clear hrj hq2
              go_wp2_with (first
                | (at_builtin; refine app_any rfl (.tmp 44) (.tmp 45) 33 rfl wr.heap.size 3 i0 8 Try.underlying33 hi hz0 hz1 hz2 (by decide) (some ⟨wr.heap.size, 0, none⟩) 1 1 [x] rfl hlit B1 k d1 us rfl HUL.out hnil _ HUA.out (by decide) hk2 hsl hspot ?_; intro A6 c6 w6 hown6 hgr6; have hb6 := hbl.grown hgr6 hsl (fun k hk => by simp only [Option.map_some, Option.some.injEq] at hk; omega); have HS6 := Lib.hid (HS.out.below hb6); have HRR6 := Lib.hid (HRR.out.below hb6); have hsz6 : w.heap.size ≤ w6.heap.size := Nat.le_trans hsz hb6.size; have hown6o := HS6.out.1)
                | (at_builtin; refine Aat.app_at rfl (.tmp 42) (.tmp 47) 24 rfl w.heap.size 33 i1 (.slice none 0 0) 24 Try.underlying24 hj1 hy0 hy1 hy2 (by decide) rfl _ _ _ _ rfl hown6o (.slice A6 (1 + k) c6) rfl _ rfl rfl hN2 hsz6 ?_; intro g7 c8 w8 hown7 hgr7 hat7))
              have HZL := Lib.hid (show (x :: us).length = 1 + k by rw [List.length_cons, HUL.out]; omega)
              have HSN := Lib.hid (SSRow.snoc (zs := x :: us) (A1 := A6) (c1 := c6) HS6.out hsz (by rw [HZL.out]; exact hown6) (by rw [HZL.out]; exact hown7) hgr7)
              have HB7 := Lib.hid ((HB.out.trans (hb6.mono hsz)).grown hgr7 hsz6 (fun q hq => (own_lo hown6o q hq).1))
              have hs76 := hgr7.size
              have hs6r := hb6.size
              have HRR7 := Lib.hid (HRR6.out.grown hgr7 (fun q hq => HPL.out q hq))
              have HPL7 := Lib.hid (show ∀ q, (some (⟨g7, 0, none⟩ : Addr)).map (·.block) = some q → q < br ∨ er ≤ q from fun q hq => by
                simp only [Option.map_some, Option.some.injEq] at hq
                subst hq
                rcases hat7 with h | h
                · exact HPL.out _ h
                · exact Or.inr (by omega))
              have HZ7 := Lib.hid (show (rs' ++ [(⟨A6, c6, x :: us⟩ : RD)]).map RD.zs = Z ++ (Q.take (j + 1)).map (x :: ·) by rw [List.map_append, HZJ.out, HTK.out, List.append_assoc]; rfl)
              have her7 : er ≤ w8.heap.size := by omega
              clear hown6 hgr6 hb6 hown7 hgr7 hat7 hown6o hlit hbl
              (try go_roundw)
              all_goals
                first
                  | exact ⟨j + 1, by omega, by go_num, ⟨_, N' + 1, c8, _, rfl, HSN, HZ7, HPL7⟩, HRR7, HB7, her7⟩
                  | (refine ⟨⟨j + 1, by omega, by go_num, ⟨_, N' + 1, c8, _, rfl, HSN, HZ7, HPL7⟩, HRR7, HB7, her7⟩, ?_⟩; simp [intOf]; omega)
                  | (simp [intOf]; omega)
            · have hjM : j = M := by omega
              subst hjM
              have HZE := Lib.hid (show rs'.map RD.zs = oPart k zs (y + 1) by rw [HRE.out, HZJ.out, List.take_of_length_le (by rw [HQM.out]; exact Nat.le_refl _)])
              go_wp2
              (try go_roundw)
              all_goals
                first
                  | exact ⟨y + 1, by omega, by go_num, ⟨A', N', c', rs', rfl, HS, HZE⟩, HB⟩
                  | (refine ⟨⟨y + 1, by omega, by go_num, ⟨A', N', c', rs', rfl, HS, HZE⟩, HB⟩, ?_⟩; simp [intOf]; omega)
                  | (simp [intOf]; omega)
        · obtain rfl : c = y + 1 := by omega
          have hI5 : (0 : Int) ≤ (y : Int) := by omega
          have hI6 : (n : Int) ≤ (y : Int) + 1 := by omega
          have hr20 : y + 0 = n - 1 := by omega
          have hNZ2 := Lib.hid (show (zs.drop (y + 1)).length = 0 by rw [L2.out]; omega)
          go_wp2
          go_region_held_law (fun _ => True) (trivial) ((first
            | (refine step_app_r rfl (.tmp 23) (.tmp 26) 33 rfl wr.heap.size 3 i0 Try.underlying33 hi hz0 hz1 hz2 (some ⟨wr.heap.size, 0, none⟩) 0 0 [] rfl (lit0 wr) _ y _ (zs.take y) rfl L1.out (fun h => by cases h) HT1.out (by decide) hys HK1.out.size spot_some y (Nat.zero_add _) ?_; intro A5 c5 w5 hown5 hgr5; have hb5 := Lib.hid (HK1.out.grown hgr5 HK1.out.size (fun b h => (own_lo (lit0 wr) b h).1)))
            | (refine step_app_r rfl (.tmp 27) (.tmp 31) 33 rfl wr.heap.size 3 i0 Try.underlying33 hi hz0 hz1 hz2 A5 c5 y ([] ++ zs.take y) rfl hown5 _ 0 _ (zs.drop (y + 1)) rfl hNZ2.out (fun h => by cases h) (ints_none _ _ _ hNZ2.out) hys (by decide) hb5.out.size spot_some (n - 1) hr20 ?_; intro A6 c6 w6 hown6 hgr6; have hb6 := Lib.hid (hb5.out.grown hgr6 hb5.out.size (fun b h => (own_lo hown5 b h).1)))))
          have HR6 := Lib.hid (show w6.ownsRow wr.heap.size 3 1 (.slice A6 (n - 1) c6) (n - 1) ((restF zs y).map (Value.int .i64)) from hown6)
          have hsz6 := hb6.out.size
          have hc6 : n - 1 ≤ c6 := own_cap hown6
          have HCN := Lib.hid (HIH.out (restF zs y) A6 (n - 1) c6 w6 (by rw [HYL.out, HL.out]) hc6 (by omega) (by omega) (ints_of HR6.out))
          have HCQ := Lib.hid (show Calls Try.prog 61 #[.slice A6 (n - 1) c6, .int .i64 (k : Int)] w6 (IsSS w6.heap.size Q w6) by rw [HQ.out]; exact HCN.out)
          clear HCN hown5 hgr5 hown6 hgr6 hb5
          go_wp2_with fail
          refine HCQ.out.mono ?_
          rintro e w7 ⟨A7, c7, rr, rfl, hrr, hrow5, hb5⟩
          obtain ⟨M, hM⟩ : ∃ M, M = Q.length := ⟨_, rfl⟩
          rw [← hM] at hrow5 ⊢
          have hQl : Q.length = rr.length := by rw [← hrr, List.length_map]
          have HQZ := Lib.hid (fun j (hj : j < M) => (show (rr.getD j rd0).zs = Q.getD j [] ∧ (rr.getD j rd0).zs.length = k from by
            have hj2 : j < rr.length := by omega
            have e1 : (rr.getD j rd0).zs = Q.getD j [] := by
              rw [← hrr]
              simp [List.getD_eq_getElem?_getD, List.getElem?_eq_getElem hj2]
            refine ⟨e1, ?_⟩
            rw [e1]
            exact HOE.out _ (by rw [List.getD_eq_getElem?_getD, List.getElem?_eq_getElem (by omega)]; exact List.getElem_mem _)))
          have HQM := Lib.hid hM.symm
          obtain ⟨br, hbr⟩ : ∃ b, b = w6.heap.size := ⟨_, rfl⟩
          obtain ⟨er, her⟩ : ∃ b, b = w7.heap.size := ⟨_, rfl⟩
          have HS5 := Lib.hid (((HS.out.below hb6.out).below hb5).higher (hi' := w7.heap.size) (Nat.le_trans hsz6 hb5.size) (Nat.le_refl _))
          have HPL5 := Lib.hid (show ∀ q, A1.map (·.block) = some q → q < br ∨ er ≤ q from fun q hq => Or.inl (by rw [hbr]; exact Nat.lt_of_lt_of_le (HS.out.outhi q hq) hsz6))
          have HB5 := Lib.hid ((HB.out.trans (hb6.out.mono hsz)).trans (hb5.mono (Nat.le_trans hsz hsz6)))
          have HRR5 := Lib.hid (show SSRow w7 br er A7 M c7 rr by rw [hbr, her]; exact hrow5)
          have hber : br ≤ er := by rw [hbr, her]; exact hb5.size
          have hwbr : w.heap.size ≤ br := by rw [hbr]; exact Nat.le_trans hsz hsz6
          obtain ⟨Z, hZ⟩ : ∃ Z, Z = rs.map RD.zs := ⟨_, rfl⟩
          have HRE := Lib.hid (show oPart k zs (y + 1) = Z ++ Q.map (x :: ·) by rw [HPN.out, HSE.out, hZ, HRS.out])
          have HZ := Lib.hid (show rs.map RD.zs = Z ++ (Q.take 0).map (x :: ·) by rw [hZ]; simp)
          have HRB := Lib.hid (show (oPart k zs (y + 1)).length ≤ 4096 from HRL.out (y + 1) (by omega))
          have her2 : er ≤ w7.heap.size := by omega
          clear hrr hrow5 hb5 hQl hM hbr her hZ HS HB HRS HPN HSE HOE HCQ HR6 hb6 hsz6 hsz HATr HK1 HT1 hcx
          go_wp2
          go_loopw [5, 10, 38] (fun v _ i wr => ∃ j : Nat, j ≤ M ∧ i = .int .i64 (j : Int) ∧ (∃ A' N' c' rs', v = .slice A' N' c' ∧ Hid (SSRow wr w.heap.size wr.heap.size A' N' c' rs') ∧ Hid (rs'.map RD.zs = Z ++ (Q.take j).map (x :: ·)) ∧ Hid (∀ q, A'.map (·.block) = some q → q < br ∨ er ≤ q)) ∧ Hid (SSRow wr br er A7 M c7 rr) ∧ Hid (Below w.heap.size w wr) ∧ er ≤ wr.heap.size) (fun _ _ i _ => M - (intOf i).toNat)
          case atStart => exact ⟨0, Nat.zero_le _, rfl, ⟨A1, N, c1, rs, rfl, HS5, HZ, HPL5⟩, HRR5, HB5, her2⟩
          case round =>
            obtain ⟨j, hj, rfl, ⟨A', N', c', rs', rfl, HS, HZJ, HPL⟩, HRR, HB, her3⟩ := hrel
            clear HS5 HPL5 HRR5 HB5 HZ
            have hsz := HB.out.size
            have hN : N' ≤ 4096 := by
              have h1 := congrArg List.length HZJ.out
              have h2 := congrArg List.length HRE.out
              rw [List.length_map, HS.out.len, List.length_append, List.length_map, List.length_take] at h1
              rw [List.length_append, List.length_map] at h2
              have := HRB.out
              omega
            have hM8 : M ≤ 4096 := by
              have h2 := congrArg List.length HRE.out
              rw [List.length_append, List.length_map, HQM.out] at h2
              have := HRB.out
              omega
            by_cases hjl : j < M
            · obtain ⟨gq, rfl, hcq⟩ := HRR.out.cell j hjl
              have hrj := (HRR.out.2.1 j (by rw [HRR.out.len]; exact hjl)).1
              obtain ⟨hq1, hq2⟩ := HQZ.out j hjl
              have HTK := Lib.hid (show (Q.take (j + 1)).map (x :: ·) = (Q.take j).map (x :: ·) ++ [x :: Q.getD j []] by
                rw [List.take_succ_eq_append_getElem (by rw [HQM.out]; exact hjl), List.map_append, List.getD_eq_getElem?_getD, List.getElem?_eq_getElem (by rw [HQM.out]; exact hjl)]
                rfl)
              rw [← hq1] at HTK
              clear hq1
              generalize rr.getD j rd0 = r at *
              obtain ⟨B1, d1, us⟩ := r
              simp only [RD.v] at hcq hrj hq2 HTK
              rw [hq2] at hcq hrj
              obtain ⟨hnil, hspot⟩ := own_nil hrj
              have HUL := Lib.hid hq2
              have hlit := World.ownsRow_lit (base := wr.heap.size) (e := 3) (size := 1) wr #[.int .i64 x] 1 (Nat.le_refl _) (by decide) rfl
              have hbl := box_below' wr (.cells #[.int .i64 x] 3)
              have HUA := Lib.hid ((ints_of hrj).below hbl)
              have hsl := hbl.size
              have hk2 : k ≤ 4294967296 := by omega
              have hN2 : N' ≤ 1048576 := by omega
              clear hrj hq2
              go_wp2_with (first
                | (at_builtin; refine app_any rfl (.tmp 44) (.tmp 45) 33 rfl wr.heap.size 3 i0 8 Try.underlying33 hi hz0 hz1 hz2 (by decide) (some ⟨wr.heap.size, 0, none⟩) 1 1 [x] rfl hlit B1 k d1 us rfl HUL.out hnil _ HUA.out (by decide) hk2 hsl hspot ?_; intro A6 c6 w6 hown6 hgr6; have hb6 := hbl.grown hgr6 hsl (fun k hk => by simp only [Option.map_some, Option.some.injEq] at hk; omega); have HS6 := Lib.hid (HS.out.below hb6); have HRR6 := Lib.hid (HRR.out.below hb6); have hsz6 : w.heap.size ≤ w6.heap.size := Nat.le_trans hsz hb6.size; have hown6o := HS6.out.1)
                | (at_builtin; refine Aat.app_at rfl (.tmp 42) (.tmp 47) 24 rfl w.heap.size 33 i1 (.slice none 0 0) 24 Try.underlying24 hj1 hy0 hy1 hy2 (by decide) rfl _ _ _ _ rfl hown6o (.slice A6 (1 + k) c6) rfl _ rfl rfl hN2 hsz6 ?_; intro g7 c8 w8 hown7 hgr7 hat7))
              have HZL := Lib.hid (show (x :: us).length = 1 + k by rw [List.length_cons, HUL.out]; omega)
              have HSN := Lib.hid (SSRow.snoc (zs := x :: us) (A1 := A6) (c1 := c6) HS6.out hsz (by rw [HZL.out]; exact hown6) (by rw [HZL.out]; exact hown7) hgr7)
              have HB7 := Lib.hid ((HB.out.trans (hb6.mono hsz)).grown hgr7 hsz6 (fun q hq => (own_lo hown6o q hq).1))
              have hs76 := hgr7.size
              have hs6r := hb6.size
              have HRR7 := Lib.hid (HRR6.out.grown hgr7 (fun q hq => HPL.out q hq))
              have HPL7 := Lib.hid (show ∀ q, (some (⟨g7, 0, none⟩ : Addr)).map (·.block) = some q → q < br ∨ er ≤ q from fun q hq => by
                simp only [Option.map_some, Option.some.injEq] at hq
                subst hq
                rcases hat7 with h | h
                · exact HPL.out _ h
                · exact Or.inr (by omega))
              have HZ7 := Lib.hid (show (rs' ++ [(⟨A6, c6, x :: us⟩ : RD)]).map RD.zs = Z ++ (Q.take (j + 1)).map (x :: ·) by rw [List.map_append, HZJ.out, HTK.out, List.append_assoc]; rfl)
              have her7 : er ≤ w8.heap.size := by omega
              clear hown6 hgr6 hb6 hown7 hgr7 hat7 hown6o hlit hbl
              (try go_roundw)
              all_goals
                first
                  | exact ⟨j + 1, by omega, by go_num, ⟨_, N' + 1, c8, _, rfl, HSN, HZ7, HPL7⟩, HRR7, HB7, her7⟩
                  | (refine ⟨⟨j + 1, by omega, by go_num, ⟨_, N' + 1, c8, _, rfl, HSN, HZ7, HPL7⟩, HRR7, HB7, her7⟩, ?_⟩; simp [intOf]; omega)
                  | (simp [intOf]; omega)
            · have hjM : j = M := by omega
              subst hjM
              have HZE := Lib.hid (show rs'.map RD.zs = oPart k zs (y + 1) by rw [HRE.out, HZJ.out, List.take_of_length_le (by rw [HQM.out]; exact Nat.le_refl _)])
              go_wp2
              (try go_roundw)
              all_goals
                first
                  | exact ⟨y + 1, by omega, by go_num, ⟨A', N', c', rs', rfl, HS, HZE⟩, HB⟩
                  | (refine ⟨⟨y + 1, by omega, by go_num, ⟨A', N', c', rs', rfl, HS, HZE⟩, HB⟩, ?_⟩; simp [intOf]; omega)
                  | (simp [intOf]; omega)
      · have hyn : y = n := by omega
        subst hyn
        have hRl : (oPart k zs y).length = N := by rw [← HRS.out, List.length_map, HS.out.len]
        go_wp2
        go_ret
        exact ⟨A1, c1, rs, by rw [hRl]; rfl, HRS.out, by rw [hRl]; exact HS.out, HB.out⟩
theorem ss_lower {W : World} {lo lo2 hi n c : Nat} {A : Option Addr} {rs : List RD} (h : SSRow W lo hi A n c rs) (hl : lo2 ≤ lo) : SSRow W lo2 hi A n c rs :=
  ⟨own_mono h.1 hl, fun i hi => ⟨own_mono (h.2.1 i hi).1 hl, (h.2.1 i hi).2⟩, h.2.2.1, h.2.2.2.1, h.2.2.2.2⟩
/-- MessagesOf, plainly -/
def messagesI (n k : Int) : List (List Int) := if 1 ≤ n ∧ n ≤ 8 ∧ 0 ≤ k ∧ k ≤ n ∧ k ≤ 3 then ordersF k.toNat (Nwp.newF n) else []
set_option maxHeartbeats 2000000 in
theorem spec_messages (n k : Int) (w : World) (h1 : -9223372036854775808 ≤ n) (h2 : n ≤ 9223372036854775807) (h3 : -9223372036854775808 ≤ k) (h4 : k ≤ 9223372036854775807) :
    Calls Try.prog 26 #[.int .i64 n, .int .i64 k] w (IsSS w.heap.size (messagesI n k) w) := by
  by_cases hn : 1 ≤ n ∧ n ≤ 8
  · have HN := Lib.hid (decide_eq_true hn)
    rcases Int.lt_or_le 3 n with hm3 | hm3
    · by_cases hk : 0 ≤ k ∧ k ≤ 3
      · have HK := Lib.hid (decide_eq_true hk)
        obtain ⟨m, rfl⟩ : ∃ m : Nat, n = (m : Int) := ⟨n.toNat, by omega⟩
        obtain ⟨q, rfl⟩ : ∃ q : Nat, k = (q : Int) := ⟨k.toNat, by omega⟩
        have hq : q ≤ m ∧ m ≤ 8 ∧ q ≤ 3 := by omega
        have e : messagesI (m : Int) (q : Int) = ordersF q (Nwp.newF (m : Int)) := by unfold messagesI; rw [if_pos ⟨hn.1, hn.2, by omega, by omega, by omega⟩]; rfl
        have HNW := Lib.hid (Nwp.spec_new (m : Int) w (by omega) (by omega))
        have HML := Lib.hid (show (Nwp.newF (m : Int)).length = m by rw [Nwp.newF_yes m (by omega), imarks_length])
        rw [e]
        clear hn hk e
        go_enter Try.func26, Try.ntmps26
        go_wp2_with fail
        refine (in_any _ 1 8 _).mono ?_
        rintro e w1 ⟨rfl, rfl⟩
        rw [HN.out]
        go_wp2_with fail
        refine (in_any _ 0 _ _).mono ?_
        rintro e w1 ⟨rfl, rfl⟩
        rw [HK.out]
        go_wp2_with fail
        refine HNW.out.mono ?_
        rintro e w1 ⟨A, c, rfl, ho, hb⟩
        rw [HML.out] at ho ⊢
        have HO := Lib.hid ho
        have HC := Lib.hid (spec_orders q (Nwp.newF (m : Int)) A m c w1 HML.out (own_cap ho) hq.2.1 hq.2.2 (ints_of ho))
        have HB := Lib.hid hb
        clear ho hb
        go_wp2_with fail
        refine HC.out.mono ?_
        rintro e w2 ⟨A2, c2, rs, rfl, hrs, hrow, hb2⟩
        have HRS := Lib.hid hrs
        have HROW := Lib.hid (ss_lower hrow HB.out.size)
        have HB2 := Lib.hid (HB.out.trans (hb2.mono HB.out.size))
        clear hrs hrow hb2
        go_wp2
        go_ret
        exact ⟨A2, c2, rs, rfl, HRS.out, HROW.out, HB2.out⟩
      · have HK := Lib.hid (decide_eq_false hk)
        have e : messagesI n k = [] := by unfold messagesI; rw [if_neg (fun h => hk ⟨h.2.2.1, by omega⟩)]
        rw [e]
        clear hn hk e
        go_enter Try.func26, Try.ntmps26
        go_wp2_with fail
        refine (in_any _ 1 8 _).mono ?_
        rintro e w1 ⟨rfl, rfl⟩
        rw [HN.out]
        go_wp2_with fail
        refine (in_any _ 0 _ _).mono ?_
        rintro e w1 ⟨rfl, rfl⟩
        rw [HK.out]
        go_wp2
        go_ret
        exact nil_ss _ _ (Nat.le_refl _)
    · by_cases hk : 0 ≤ k ∧ k ≤ n
      · have HK := Lib.hid (decide_eq_true hk)
        obtain ⟨m, rfl⟩ : ∃ m : Nat, n = (m : Int) := ⟨n.toNat, by omega⟩
        obtain ⟨q, rfl⟩ : ∃ q : Nat, k = (q : Int) := ⟨k.toNat, by omega⟩
        have hq : q ≤ m ∧ m ≤ 8 ∧ q ≤ 3 := by omega
        have e : messagesI (m : Int) (q : Int) = ordersF q (Nwp.newF (m : Int)) := by unfold messagesI; rw [if_pos ⟨hn.1, hn.2, by omega, by omega, by omega⟩]; rfl
        have HNW := Lib.hid (Nwp.spec_new (m : Int) w (by omega) (by omega))
        have HML := Lib.hid (show (Nwp.newF (m : Int)).length = m by rw [Nwp.newF_yes m (by omega), imarks_length])
        rw [e]
        clear hn hk e
        go_enter Try.func26, Try.ntmps26
        go_wp2_with fail
        refine (in_any _ 1 8 _).mono ?_
        rintro e w1 ⟨rfl, rfl⟩
        rw [HN.out]
        go_wp2_with fail
        refine (in_any _ 0 _ _).mono ?_
        rintro e w1 ⟨rfl, rfl⟩
        rw [HK.out]
        go_wp2_with fail
        refine HNW.out.mono ?_
        rintro e w1 ⟨A, c, rfl, ho, hb⟩
        rw [HML.out] at ho ⊢
        have HO := Lib.hid ho
        have HC := Lib.hid (spec_orders q (Nwp.newF (m : Int)) A m c w1 HML.out (own_cap ho) hq.2.1 hq.2.2 (ints_of ho))
        have HB := Lib.hid hb
        clear ho hb
        go_wp2_with fail
        refine HC.out.mono ?_
        rintro e w2 ⟨A2, c2, rs, rfl, hrs, hrow, hb2⟩
        have HRS := Lib.hid hrs
        have HROW := Lib.hid (ss_lower hrow HB.out.size)
        have HB2 := Lib.hid (HB.out.trans (hb2.mono HB.out.size))
        clear hrs hrow hb2
        go_wp2
        go_ret
        exact ⟨A2, c2, rs, rfl, HRS.out, HROW.out, HB2.out⟩
      · have HK := Lib.hid (decide_eq_false hk)
        have e : messagesI n k = [] := by unfold messagesI; rw [if_neg (fun h => hk ⟨h.2.2.1, by omega⟩)]
        rw [e]
        clear hn hk e
        go_enter Try.func26, Try.ntmps26
        go_wp2_with fail
        refine (in_any _ 1 8 _).mono ?_
        rintro e w1 ⟨rfl, rfl⟩
        rw [HN.out]
        go_wp2_with fail
        refine (in_any _ 0 _ _).mono ?_
        rintro e w1 ⟨rfl, rfl⟩
        rw [HK.out]
        go_wp2
        go_ret
        exact nil_ss _ _ (Nat.le_refl _)
  · have HN := Lib.hid (decide_eq_false hn)
    have e : messagesI n k = [] := by unfold messagesI; rw [if_neg (fun h => hn ⟨h.1, h.2.1⟩)]
    rw [e]
    clear hn e
    go_enter Try.func26, Try.ntmps26
    go_wp2_with fail
    refine (in_any _ 1 8 _).mono ?_
    rintro e w1 ⟨rfl, rfl⟩
    rw [HN.out]
    go_wp2
    go_ret
    exact nil_ss _ _ (Nat.le_refl _)
end Go.Proofs.Ytingbpkbdafgeaa.Hno
