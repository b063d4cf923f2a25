/- The program's moves with loops: monge, milk, duck. -/
import Derived.Test.YtioofakdklghpaaMv2
import Derived.ArgAppend
set_option linter.unusedVariables false
set_option maxRecDepth 20000
namespace Go.Proofs.Ytioofakdklghpaa.Mv3
open Go.RowKit Fr Own Pk Ins Pfn Rws Lb Cat Mvp Mv1 Mv2

theorem drop_one {zs : List Int} {j : Nat} (h : j < zs.length) : zs.drop j = zs.getD j 0 :: zs.drop (j + 1) := by
  rw [List.drop_eq_getElem_cons h]
  simp [List.getD_eq_getElem?_getD, List.getElem?_eq_getElem h]
set_option maxHeartbeats 1000000 in
theorem impl_monge_at (A : Option Addr) (n c k : Nat) (kv : Int) (zs : List Int) (w : World) (hn : zs.length = n) (h12 : n ≤ 12) (hkv : (kv = 0 ∧ k = 0) ∨ (kv = 1 ∧ k = 1)) (hss : IntsAt w w.heap.size .i64 A zs) :
    Calls Try.prog 109 #[.slice A n c, .int .i64 kv] w (IsIL w.heap.size (mongeL k 0 zs []) w) := by
  obtain ⟨i0, hi, hz0, hz1, hz2⟩ := info_parts infoInt
  have HN := Lib.hid hn
  obtain ⟨R, hR⟩ : ∃ R, R = mongeL k 0 zs [] := ⟨_, rfl⟩
  have HI0 := Lib.hid (show mongeL k 0 (zs.drop 0) [] = R by rw [List.drop_zero, hR])
  rw [← hR]
  clear hn hR
  rcases hkv with ⟨rfl, hk0⟩ | ⟨rfl, hk0⟩
  all_goals
    have HK := Lib.hid hk0
    clear hk0
    go_enter Try.func109, Try.ntmps109
    go_wp2
    go_loopw [5, 6, 7, 10] (fun s5 s6 s7 i wr => ∃ j : Nat, j ≤ n ∧ i = .int .i64 (j : Int) ∧ ∃ (A3 : Option Addr) (c3 : Nat) (q : List Int), s5 = .slice A3 j c3 ∧ wr.ownsRow w.heap.size 3 1 (.slice A3 j c3) j (vals q) ∧ Hid (mongeL k j (zs.drop j) q = R) ∧ Below w.heap.size w wr) (fun _ _ _ i _ => n - (intOf i).toNat)
    case atStart => exact ⟨0, Nat.zero_le _, rfl, none, 0, [], rfl, World.ownsRow_nil _ _ _ _, HI0, Below.refl _ w⟩
    case round =>
      obtain ⟨j, hj, rfl, A3, c3, q, rfl, hown, HI, hbw⟩ := hrel
      have hszw := hbw.size
      by_cases hlt : j < n
      · obtain ⟨b, o, rfl, hbb, hc⟩ := (hss.below hbw) j (by rw [HN.out]; exact hlt)
        have hd := drop_one (zs := zs) (j := j) (by rw [HN.out]; exact hlt)
        generalize zs.getD j 0 = x at hc hd
        rw [hd, mongeL] at HI
        have hjs : j ≤ 4294967296 := by omega
        have hjs2 : j ≤ 1048576 := by omega
        clear HI0 hd
        by_cases hjk : j % 2 = k
        · have HI2 := Lib.hid HI.out
          rw [if_pos hjk] at HI2
          first
            | have hA : (((j : Int) % 2) == 1) = false := by have := HK.out; rw [beq_eq_false_iff_ne]; omega
            | have hA : ((((j : Int) + 1) % 2) == 1) = false := by have := HK.out; rw [beq_eq_false_iff_ne]; omega
          clear HI hjk
          go_wp2_with (at_builtin; refine app_more rfl (.tmp 24) (.tmp 26) 23 rfl w.heap.size 3 i0 (.int .i64 0) 8 Try.underlying23 hi hz0 hz1 hz2 (by decide) rfl A3 c3 j (vals q) rfl hown (.int .i64 x) rfl _ rfl rfl hjs hszw ?_; intro g c5 w5 hown5 hgr5; have hb5 := Lib.hid (hbw.grown hgr5 hszw (fun k hk => (own_lo hown k hk).1)); have ho5 := Lib.hid (show w5.ownsRow w.heap.size 3 1 (.slice (some ⟨g, 0, none⟩) (j + 1) c5) (j + 1) (vals (q ++ [x])) by unfold vals; rw [List.map_append]; exact hown5); clear hown5 hgr5)
          go_roundw
          case rel => exact ⟨j + 1, by omega, by go_num, _, c5, q ++ [x], rfl, ho5.out, HI2, hb5.out⟩
          case measure => simp [intOf]; omega
        · have HI2 := Lib.hid HI.out
          rw [if_neg hjk] at HI2
          first
            | have hA : (((j : Int) % 2) == 1) = true := by have := HK.out; rw [beq_iff_eq]; omega
            | have hA : ((((j : Int) + 1) % 2) == 1) = true := by have := HK.out; rw [beq_iff_eq]; omega
          have HO := fun o => Lib.hid (hown.alloc o)
          have HBA := fun o => Lib.hid (hbw.alloc hszw o)
          have HLO := Lib.hid (own_lo hown)
          clear HI hjk hown hbw
          go_wp2_with fail
          refine (ins_front w.heap.size A3 j c3 1 wr.heap.size 1 q [x] _ rfl (by decide) (by decide) hjs2 (HO _).out (heap_alloc_new wr _) (fun k hk => by have := (HLO.out k hk).2; omega) (HBA _).out.size).mono ?_
          rintro e w5 ⟨A5, c5, rfl, ho, hg, _⟩
          have HO5 := Lib.hid ho
          have HB5 := Lib.hid ((HBA (.cells #[.int .i64 x] 3)).out.grown hg (HBA _).out.size (fun k hk => (HLO.out k hk).1))
          clear ho hg
          go_wp2
          go_roundw
          case rel => exact ⟨j + 1, by omega, by go_num, A5, c5, x :: q, rfl, HO5.out, HI2, HB5.out⟩
          case measure => simp [intOf]; omega
      · have hjn : j = n := by omega
        subst hjn
        have HE := Lib.hid (show q = R by
          have h := HI.out
          rw [List.drop_eq_nil_of_le (by rw [HN.out]; exact Nat.le_refl _)] at h
          exact h)
        rw [HE.out] at hown
        have HL := Lib.hid (show R.length = j by have := hown.1; rw [vals_len] at this; omega)
        have HO := Lib.hid hown
        clear hown HI
        go_wp2
        go_ret
        exact ⟨A3, c3, by rw [HL.out]; rfl, by rw [HL.out]; exact HO.out, hbw⟩
theorem milk_end {α : Type} : ∀ (f : Nat) (u q : List α), u.length ≤ 1 → u.length < f → milkL f u q = u ++ q
  | 0, u, q, h1, h2 => by omega
  | f + 1, [], q, h1, h2 => rfl
  | f + 1, [x], q, h1, h2 => rfl
  | f + 1, x :: y :: r, q, h1, h2 => by simp at h1
theorem milk_step {bt : Nat} {x : Int} {v q R : List Int} (hb : 1 ≤ bt) (hv : v.length = bt) (h : ∃ f, (x :: v).length < f ∧ milkL f (x :: v) q = R) :
    ∃ f, (v.take (bt - 1)).length < f ∧ milkL f (v.take (bt - 1)) ([x, (x :: v).getD bt 0] ++ q) = R := by
  obtain ⟨f, hf, e⟩ := h
  cases v with
  | nil => simp at hv; omega
  | cons y r =>
    cases f with
    | zero => simp at hf
    | succ f =>
      have hr : r.length = bt - 1 := by simp at hv; omega
      refine ⟨f, by simp at hf ⊢; omega, ?_⟩
      rw [milkL, hr] at e
      have hd : (y :: r).drop (bt - 1) = [(x :: y :: r).getD bt 0] := by
        have h1 : bt - 1 < (y :: r).length := by simp; omega
        rw [List.drop_eq_getElem_cons h1, List.drop_eq_nil_of_le (by simp; omega)]
        have h2 : (x :: y :: r).getD bt 0 = (y :: r)[bt - 1] := by
          obtain ⟨m, rfl⟩ : ∃ m, bt = m + 1 := ⟨bt - 1, by omega⟩
          rw [List.getD_cons_succ, List.getD_eq_getElem?_getD, List.getElem?_eq_getElem (by simpa using h1)]
          rfl
        rw [h2]
      rw [hd] at e
      exact e
set_option maxHeartbeats 1000000 in
theorem impl_milk (A : Option Addr) (n c : Nat) (zs : List Int) (w : World) (hn : zs.length = n) (h0 : 1 ≤ n) (h12 : n ≤ 12) (hnc : n ≤ c) (hss : IntsAt w w.heap.size .i64 A zs) :
    Calls Try.prog 106 #[.slice A n c] w (IsIL w.heap.size (milkL (n + 1) zs []) w) := by
  obtain ⟨i0, hi, hz0, hz1, hz2⟩ := info_parts infoInt
  obtain ⟨b, o, rfl⟩ := ints_addr hss (by omega)
  have HN := Lib.hid hn
  have HS := Lib.hid hss
  obtain ⟨R, hR⟩ : ∃ R, R = milkL (n + 1) zs [] := ⟨_, rfl⟩
  have HI0 := Lib.hid (show ∃ f, zs.length < f ∧ milkL f zs [] = R from ⟨n + 1, by omega, hR.symm⟩)
  rw [← hR]
  clear hn hR hss
  go_enter Try.func106, Try.ntmps106
  go_wp2
  go_loopw [0, 3, 4] (fun s0 s3 s4 wr => ∃ (n1 n3 c1 c3 : Nat) (A1 A3 : Option Addr) (u q : List Int), s0 = .slice A1 n1 c1 ∧ s3 = .slice A3 n3 c3 ∧ Hid (u.length = n1) ∧ n1 ≤ c1 ∧
    Hid (IntsAt w w.heap.size .i64 A1 u) ∧ Hid (∃ b o, A1 = some ⟨b, o, none⟩) ∧ n1 + n3 ≤ 12 ∧ wr.ownsRow w.heap.size 3 1 (.slice A3 n3 c3) n3 (vals q) ∧ Hid (∃ f, u.length < f ∧ milkL f u q = R) ∧ Below w.heap.size w wr) (fun s0 _ _ _ => lenV s0)
  case atStart => exact ⟨n, 0, c, 0, _, none, zs, [], rfl, rfl, HN, hnc, HS, ⟨b, o, rfl⟩, by omega, World.ownsRow_nil _ _ _ _, HI0, Below.refl _ w⟩
  case round =>
    obtain ⟨n1, n3, c1, c3, A1, A3, u, q, rfl, rfl, HLU, hnc1, HA1, HB1, h12s, hown, HI, hbw⟩ := hrel
    clear HS HI0
    have hszw := hbw.size
    obtain ⟨b1, o1, e1⟩ := HB1.out
    subst e1
    by_cases hn1 : n1 ≤ 1
    · have HE := Lib.hid (show u ++ q = R by
        obtain ⟨f, hf, e⟩ := HI.out
        rw [milk_end f u q (by rw [HLU.out]; exact hn1) hf] at e
        exact e)
      have hcond : decide ((1 : Int) < (n1 : Int)) = false := decide_eq_false (by omega)
      have HAT := fun o => Lib.hid ((HA1.out.below (hbw.alloc hszw o)).more (hbw.alloc hszw o).size)
      have hql : q.length = n3 := by have := hown.1; rw [vals_len] at this; omega
      have HQL := Lib.hid hql
      have HOA := fun o => Lib.hid (hown.alloc o)
      have HQ := fun o => Lib.hid (ints_of (HOA o).out)
      have HBA := fun o => Lib.hid (hbw.alloc hszw o)
      have HNIL := Lib.hid (show A3 = none → c3 = 0 by
        intro e
        rcases own_full hown with ⟨_, _, h⟩ | ⟨_, _, h, _⟩
        · exact h
        · rw [e] at h; cases h)
      have HSP := Lib.hid (show ∀ a, A3 = some a → a.spot = none by
        intro a e
        rcases own_full hown with ⟨h, _, _⟩ | ⟨_, _, h, _⟩
        · rw [e] at h; cases h
        · rw [e] at h; simp only [Option.some.injEq] at h; rw [h])
      have h1s : n1 ≤ 4096 := by omega
      have h3s : n3 ≤ 4096 := by omega
      clear hown HI hql
      go_wp2_with fail
      refine (concat_two _ _ _ _ _ _ _ _ u q _ (heap_alloc_new wr _) HLU.out HQL.out h1s h3s (fun h => by cases h) HNIL.out spot_some HSP.out (HAT _).out (HQ _).out).mono ?_
      rintro e w2 h
      replace h := il_after h (HBA _).out (HBA _).out.size
      rw [HE.out] at h
      obtain ⟨A5, c5, rfl, ho, hb⟩ := h
      go_wp2
      go_ret
      exact ⟨A5, c5, rfl, ho, hb⟩
    · obtain ⟨bt, rfl⟩ : ∃ bt, n1 = bt + 1 := ⟨n1 - 1, by omega⟩
      have hbt : 1 ≤ bt := by omega
      obtain ⟨x, v, e2⟩ : ∃ x v, u = x :: v := by
        cases u with
        | nil => have := HLU.out; simp at this
        | cons x v => exact ⟨x, v, rfl⟩
      subst e2
      have HLV := Lib.hid (show v.length = bt by have := HLU.out; simpa using this)
      have HI2 := Lib.hid (milk_step hbt HLV.out HI.out)
      have hat := HA1.out.below hbw
      have hc1 : wr.cell? ⟨b1, o1, none⟩ = some (.int .i64 x) := by
        obtain ⟨b2, o2, e, hlt, hcc⟩ := hat 0 (by simp)
        simp only [Option.some.injEq, Addr.mk.injEq, and_true] at e
        rw [e.1, e.2]; exact hcc
      have hc2 : wr.cell? ⟨b1, o1 + bt, none⟩ = some (.int .i64 ((x :: v).getD bt 0)) := by
        obtain ⟨b2, o2, e, hlt, hcc⟩ := hat bt (by simp [HLV.out])
        simp only [Option.some.injEq, Addr.mk.injEq, and_true] at e
        rw [e.1, e.2]; exact hcc
      have HA2 : Hid (IntsAt w w.heap.size .i64 (some ⟨b1, o1 + 1, none⟩) (v.take (bt - 1))) := by
        have h := ints_take2 (bt - 1) (ints_drop (k := 1) HA1.out)
        exact h
      have HLT := Lib.hid (show (v.take (bt - 1)).length = bt - 1 by rw [List.length_take, HLV.out]; omega)
      generalize (x :: v).getD bt 0 = y at hc2 HI2
      have hcond : (1 : Int) < (bt : Int) + 1 := by omega
      have hcc1 : ¬ c1 = 1 := by omega
      have hcc2 : ¬ (c1 : Int) = 1 := by omega
      have hbc : bt ≤ c1 := by omega
      have hbi : (1 : Int) ≤ (bt : Int) := by omega
      have hn3s : n3 ≤ 1048576 := by omega
      have HO := fun o => Lib.hid (hown.alloc o)
      have HBA := fun o => Lib.hid (hbw.alloc hszw o)
      have HLO := Lib.hid (own_lo hown)
      clear HI HA1 HB1 HLU hown hbw hat hn1
      go_wp2
      go_region_with (go_at_call 111; refine (ins_front w.heap.size A3 n3 c3 2 wr.heap.size 2 q [x, y] (wr.alloc _).drew rfl (by decide) (by decide) hn3s (HO _).out (heap_alloc_new wr _) (fun k hk => by have := (HLO.out k hk).2; omega) (HBA _).out.size).mono ?_; rintro e w5 ⟨A5, c5, rfl, ho, hg, _⟩; have HO5 := Lib.hid ho; have HB5 := Lib.hid (((HBA (.cells #[.int .i64 x, .int .i64 y] 3)).out.drew).grown hg (HBA _).out.size (fun k hk => (HLO.out k hk).1)); clear ho hg)
      all_goals
        go_wp2
        exact ⟨⟨bt - 1, n3 + 2, c1 - 1, c5, _, A5, v.take (bt - 1), [x, y] ++ q, rfl, rfl, HLT, by omega, HA2, ⟨_, _, rfl⟩, by omega, HO5.out, HI2, HB5.out⟩, by simp [lenV]; omega⟩

/-! ### a queue: a row of the call's own of which the first elements are gone -/
def QRow (w : World) (B g off n c : Nat) (zs : List Int) : Prop :=
  zs.length = n ∧ n ≤ c ∧ ∃ m ys, w.ownsRow B 3 1 (.slice (some ⟨g, 0, none⟩) m m) m ys ∧ off + c = m ∧ (ys.drop off).take n = vals zs
theorem q_of_own {w : World} {B g n c : Nat} {zs : List Int} (h : w.ownsRow B 3 1 (.slice (some ⟨g, 0, none⟩) n c) n (vals zs)) : QRow w B g 0 n c zs := by
  have hl : zs.length = n := by have := h.1; rw [vals_len] at this; omega
  rcases own_full h with ⟨h1, _⟩ | ⟨g', ys, hg, hB, _, hnc, _, hyl, hyt, hf, _⟩
  · cases h1
  · simp only [Option.some.injEq, Addr.mk.injEq, and_true] at hg
    subst hg
    exact ⟨hl, hnc, c, ys, hf, by omega, by rw [List.drop_zero]; exact hyt⟩
theorem q_pop {w : World} {B g off n c : Nat} {x : Int} {zs : List Int} (h : QRow w B g off (n + 1) c (x :: zs)) : QRow w B g (off + 1) n (c - 1) zs := by
  obtain ⟨h1, h2, m, ys, ho, hm, ht⟩ := h
  refine ⟨by simpa using h1, by omega, m, ys, ho, by omega, ?_⟩
  have e := congrArg List.tail ht
  rw [← List.drop_one, List.drop_take, List.drop_drop] at e
  simp only [Nat.add_sub_cancel] at e
  rw [e]
  rfl
theorem q_cell {w : World} {B g off n c : Nat} {zs : List Int} (h : QRow w B g off n c zs) (j : Nat) (hj : j < n) : w.cell? ⟨g, off + j, none⟩ = some (.int .i64 (zs.getD j 0)) := by
  obtain ⟨h1, h2, m, ys, ho, hm, ht⟩ := h
  rw [ho.cellAt (off + j) (by omega)]
  have e := congrArg (fun l => l[j]?) ht
  rw [List.getElem?_take_of_lt hj, List.getElem?_drop, vals_get (by omega)] at e
  exact e
theorem q_lt {w : World} {B g off n c : Nat} {zs : List Int} (h : QRow w B g off n c zs) : B ≤ g ∧ g < w.heap.size := by
  obtain ⟨_, _, m, ys, ho, _⟩ := h
  exact own_lo ho g rfl
theorem q_at {w : World} {B g off n c : Nat} {zs : List Int} (h : QRow w B g off n c zs) : IntsAt w w.heap.size .i64 (some ⟨g, off, none⟩) zs := by
  intro j hj
  exact ⟨g, off, rfl, (q_lt h).2, q_cell h j (by have := h.1; omega)⟩
theorem q_kept {w w' : World} {B g off n c : Nat} {zs : List Int} {row : Option Nat} (h : QRow w B g off n c zs) (hg : w.grownBy w' row) (hr : row ≠ some g) : QRow w' B g off n c zs := by
  obtain ⟨h1, h2, m, ys, ho, hm, ht⟩ := h
  exact ⟨h1, h2, m, ys, own_gr ho hg (fun k hk => by simp only [Option.map_some, Option.some.injEq] at hk; subst hk; exact hr), hm, ht⟩
theorem q_put {w : World} {B g off n c : Nat} {zs : List Int} (x : Int) (h : QRow w B g off n c zs) (hc : n + 1 ≤ c) : QRow (w.setCells g (off + n) [.int .i64 x]) B g off (n + 1) c (zs ++ [x]) ∧ w.grownBy (w.setCells g (off + n) [.int .i64 x]) (some g) := by
  obtain ⟨h1, h2, m, ys, ho, hm, ht⟩ := h
  have hs := ho.stored (off + n) (.int .i64 x)
  have hyl : ys.length = m := by have := ho.1; omega
  refine ⟨⟨by simp [h1], hc, m, _, hs.1, hm, ?_⟩, hs.2⟩
  rw [List.drop_set, if_neg (by omega), Nat.add_sub_cancel_left, List.take_succ_eq_append_getElem (by rw [List.length_set, List.length_drop]; omega), List.take_set_of_le (Nat.le_refl _), ht, List.getElem_set_self]
  simp [vals]
theorem app_queue {P : Program} {w : World} {ops : Array Oper} {rest : List Oper} {o : Oper} {a : Act} {Q : Exit → Act → World → Prop} (hgd : o.guard = none) (s x : Operand) (t : TypeId)
    (ho : o.op = .call { callee := .builtin .append, args := #[s, x], argTypes := #[t, t] })
    (B : Nat) (i : TypeInfo) (ht : P.underlying t = some (.slice 3)) (hi : P.info? 3 = some i) (hz : i.zero = some (.int .i64 0)) (hsize : i.size = 1) (hby : i.bytes = 8)
    (g off n c : Nat) (zs : List Int) (hs : a.eval s = .slice (some ⟨g, off, none⟩) n c) (hq : QRow w B g off n c zs) (y : Int) (N : Nat) (hx : a.eval x = .slice (some ⟨N, 0, none⟩) 1 1) (hN : N = w.heap.size) (hn : n ≤ 1048576) (hB : B ≤ w.heap.size)
    (h : ∀ g' off' c' w', QRow w' B g' off' (n + 1) c' (zs ++ [y]) → w.grownBy w' (some g) → (g' = g ∨ w.heap.size ≤ g') → wpList P ops Q rest (a.put o.dst (.slice (some ⟨g', off', none⟩) (n + 1) c')) w') :
    wpList P ops Q (o :: rest) a (w.alloc (.cells #[.int .i64 y] 3)) := by
  subst hN
  have hh : (w.alloc (.cells #[.int .i64 y] 3)).heap[w.heap.size]? = some (.cells #[.int .i64 y] 3 (0, 0)) := heap_alloc_new w _
  have hg0 : w.grownBy (w.alloc (.cells #[.int .i64 y] 3)) (some g) := grown_new w _ _
  have hlt := q_lt hq
  have hq2 : QRow (w.alloc (.cells #[.int .i64 y] 3)) B g off n c zs := q_kept hq (grown_new w _ none) (fun e => by cases e)
  have hl := hq.1
  refine wpList_append_arg _ hgd s x t ho 3 i (.int .i64 0) 1 8 ht hi hz hsize hby rfl (by decide) g off n c (vals zs) hs (by rw [vals_len]; omega) ?_ ⟨w.heap.size, 0, none⟩ 1 1 [.int .i64 y] hx rfl ?_ ?_ ?_ (by unfold maxLen; omega) (by omega) ?_ ?_
  · intro j u hu
    have hj : j < n := by
      have := (List.getElem?_eq_some_iff.1 hu).1
      rw [vals_len] at this; omega
    rw [q_cell hq2 j hj, ← hu, vals_get (by omega)]
  · intro j u hj
    match j, hj with
    | 0, hj =>
      simp at hj; subst hj
      show (w.alloc (.cells #[.int .i64 y] 3)).cell? ⟨w.heap.size, 0, none⟩ = _
      unfold World.cell?
      rw [hh]; rfl
  · intro u hu; simp at hu; subst hu; rfl
  · intro hr j hj
    have hj0 : j = 0 := by simpa using hj
    subst hj0
    obtain ⟨h1, h2, m, ys, hfo, hm, _⟩ := hq2
    have hyl : ys.length = m := by have := hfo.1; omega
    exact ⟨by rw [hfo.cellAt _ (by omega), List.getElem?_eq_getElem (by omega)]; rfl, hfo.frozenAt _⟩
  · intro hr
    have hp := q_put y hq2 (by omega)
    rw [Nat.mul_one]
    exact h g off c _ hp.1 (grown_trans hg0 hp.2) (Or.inl rfl)
  · intro hr v' w' how hgw
    obtain ⟨A', c', rfl⟩ := own_slice how
    obtain ⟨g', rfl⟩ := own_shape how (by omega)
    have hlo := (own_lo how g' rfl).1
    have hsz := hg0.size
    have how2 : w'.ownsRow B 3 1 (.slice (some ⟨g', 0, none⟩) (n + 1) c') (n + 1) (vals (zs ++ [y])) := by
      unfold vals
      rw [List.map_append]
      exact own_mono how (by omega)
    exact h g' 0 c' w' (q_of_own how2) (grown_trans hg0 ⟨hgw.os, hgw.tape, hgw.output, hgw.size, fun k hk _ => hgw.block k hk (fun e => by cases e)⟩) (Or.inr (by omega))
end Go.Proofs.Ytioofakdklghpaa.Mv3
