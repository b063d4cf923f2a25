/- The model's moves: l04Monge, l04Milk, l04Duck. -/
import Derived.Test.YthcggkhpamjjbaaGreatSv
import Derived.Test.YthcggkhpamjjbaaGreatMv4
import Derived.BigQuiet
import Derived.Deep.QuietTactic
import Derived.Deep.RegionHeld3
import Derived.Deep.RegionLaw
set_option linter.unusedVariables false
set_option maxRecDepth 20000
namespace Go.Proofs.YthcggkhpamjjbaaGreat.Sv2
open Go.RowKit Fr Own Pk Ins Pfn Rws Lb Cat Mvp Mv1 Mv2 Mv3 Mv4 Sv

set_option maxHeartbeats 1000000 in
theorem spec_monge_at (A : Option Addr) (n c k : Nat) (kv : Int) (zs : List Int) (w : World) (hn : zs.length = n) (h12 : n ≤ 12) (hkv : (kv = 0 ∧ k = 0) ∨ (kv = 1 ∧ k = 1)) (hss : IntsAt w w.heap.size .i64 A zs) :
    Calls Tryz.prog 131 #[.slice A n c, .int .i64 kv] w (IsIL w.heap.size (mongeL k 0 zs []) w) := by
  obtain ⟨i0, hi, hz0, hz1, hz2⟩ := info_parts infoInt
  have HN := Lib.hid hn
  obtain ⟨R, hR⟩ : ∃ R, R = mongeL k 0 zs [] := ⟨_, rfl⟩
  have HI0 := Lib.hid (show mongeL k 0 (zs.drop 0) [] = R by rw [List.drop_zero, hR])
  rw [← hR]
  have HB0 := fun o => Lib.hid ((Below.refl w.heap.size w).alloc (Nat.le_refl _) o)
  clear hn hR
  rcases hkv with ⟨rfl, hk0⟩ | ⟨rfl, hk0⟩
  all_goals
    have HK := Lib.hid hk0
    clear hk0
    go_enter Tryz.func131, Tryz.ntmps131
    go_wp2
    go_loopw [5, 6, 7, 11] (fun s5 s6 s7 i wr => ∃ j : Nat, j ≤ n ∧ i = .int .i64 (j : Int) ∧ ∃ (A3 : Option Addr) (c3 : Nat) (q : List Int), s5 = .slice A3 j c3 ∧ wr.ownsRow w.heap.size 3 1 (.slice A3 j c3) j (vals q) ∧ Hid (mongeL k j (zs.drop j) q = R) ∧ Below w.heap.size w wr) (fun _ _ _ i _ => n - (intOf i).toNat)
    case atStart => exact ⟨0, Nat.zero_le _, rfl, _, 0, [], rfl, World.ownsRow_lit w #[] 0 (Nat.le_refl _) (Nat.zero_le _) rfl, HI0, (HB0 _).out⟩
    case round =>
      obtain ⟨j, hj, rfl, A3, c3, q, rfl, hown, HI, hbw⟩ := hrel
      have hszw := hbw.size
      by_cases hlt : j < n
      · obtain ⟨b, o, rfl, hbb, hc⟩ := (hss.below hbw) j (by rw [HN.out]; exact hlt)
        have hd := drop_one (zs := zs) (j := j) (by rw [HN.out]; exact hlt)
        generalize zs.getD j 0 = x at hc hd
        have HQL := Lib.hid (row_len hown)
        rw [hd, mongeL] at HI
        have hjs : j ≤ 4294967296 := by omega
        clear HI0 hd HB0
        by_cases hjk : j = 0 ∨ j % 2 = k
        · have HI2 : Hid (mongeL k (j + 1) (zs.drop (j + 1)) (q ++ [x]) = R) := by
            have h := HI.out
            by_cases hk2 : j % 2 = k
            · rw [if_pos hk2] at h; exact h
            · have hj0 : j = 0 := by omega
              rw [if_neg hk2] at h
              have hq : q = [] := List.eq_nil_of_length_eq_zero (by rw [HQL.out, hj0])
              rw [hq] at h ⊢
              exact h
          by_cases hj0 : j = 0
          · have hjb : ((j : Int) == 0) = true := beq_iff_eq.2 (by omega)
            clear HI hjk hj0
            go_wp2_with (at_builtin; refine app_more rfl (.tmp 24) (.tmp 26) 28 rfl w.heap.size 3 i0 (.int .i64 0) 8 Tryz.underlying28 hi hz0 hz1 hz2 (by decide) rfl A3 c3 j (vals q) rfl hown (.int .i64 x) rfl _ rfl rfl hjs hszw ?_; intro g c5 w5 hown5 hgr5; have hb5 := Lib.hid (hbw.grown hgr5 hszw (fun k hk => (own_lo hown k hk).1)); have ho5 := Lib.hid (show w5.ownsRow w.heap.size 3 1 (.slice (some ⟨g, 0, none⟩) (j + 1) c5) (j + 1) (vals (q ++ [x])) by unfold vals; rw [List.map_append]; exact hown5); clear hown5 hgr5)
            go_roundw
            case rel => exact ⟨j + 1, by omega, by go_num, _, c5, q ++ [x], rfl, ho5.out, HI2, hb5.out⟩
            case measure => simp [intOf]; omega
          · have hk2 : j % 2 = k := by omega
            have hjb : ((j : Int) == 0) = false := beq_eq_false_iff_ne.2 (by omega)
            first
              | have hA : (((j : Int) % 2) == 0) = true := by have := HK.out; rw [beq_iff_eq]; omega
              | have hA : (((j : Int) % 2) == 1) = true := by have := HK.out; rw [beq_iff_eq]; omega
            clear HI hjk hk2
            go_wp2_with (at_builtin; refine app_more rfl (.tmp 24) (.tmp 26) 28 rfl w.heap.size 3 i0 (.int .i64 0) 8 Tryz.underlying28 hi hz0 hz1 hz2 (by decide) rfl A3 c3 j (vals q) rfl hown (.int .i64 x) rfl _ rfl rfl hjs hszw ?_; intro g c5 w5 hown5 hgr5; have hb5 := Lib.hid (hbw.grown hgr5 hszw (fun k hk => (own_lo hown k hk).1)); have ho5 := Lib.hid (show w5.ownsRow w.heap.size 3 1 (.slice (some ⟨g, 0, none⟩) (j + 1) c5) (j + 1) (vals (q ++ [x])) by unfold vals; rw [List.map_append]; exact hown5); clear hown5 hgr5)
            go_roundw
            case rel => exact ⟨j + 1, by omega, by go_num, _, c5, q ++ [x], rfl, ho5.out, HI2, hb5.out⟩
            case measure => simp [intOf]; omega
        · have hj0 : ¬ j = 0 := fun h => hjk (Or.inl h)
          have hk2 : ¬ j % 2 = k := fun h => hjk (Or.inr h)
          have HI2 := Lib.hid HI.out
          rw [if_neg hk2] at HI2
          have hjb : ((j : Int) == 0) = false := beq_eq_false_iff_ne.2 (by omega)
          first
            | have hA : (((j : Int) % 2) == 0) = false := by have := HK.out; rw [beq_eq_false_iff_ne]; omega
            | have hA : (((j : Int) % 2) == 1) = false := by have := HK.out; rw [beq_eq_false_iff_ne]; omega
          have hnil := row_nil hown
          have hspot := row_spot hown
          have HLIT := Lib.hid (World.ownsRow_lit (base := wr.heap.size) (e := 3) (size := 1) wr #[.int .i64 x] 1 (Nat.le_refl _) (by decide) rfl)
          have HQA := Lib.hid (ints_of (hown.alloc (.cells #[.int .i64 x] 3)))
          have HBA := Lib.hid (hbw.alloc hszw (.cells #[.int .i64 x] 3))
          have hsa : wr.heap.size ≤ (wr.alloc (.cells #[.int .i64 x] 3)).heap.size := by simp
          have hj1 : 1 + j = j + 1 := Nat.add_comm 1 j
          clear HI hjk hk2 hown hbw
          go_wp2_with (at_builtin; refine app_any rfl (.tmp 29) (.tmp 30) 28 rfl wr.heap.size 3 i0 8 Tryz.underlying28 hi hz0 hz1 hz2 (by decide) _ 1 1 [x] rfl HLIT.out A3 j c3 q rfl HQL.out hnil _ HQA.out (by decide) hjs hsa hspot ?_; intro A5 c5 w5 hown5 hgr5; have HB5 := Lib.hid (HBA.out.grown hgr5 HBA.out.size (fun b h => by have := (own_lo HLIT.out b h).1; omega)); have HO5 := Lib.hid (show w5.ownsRow w.heap.size 3 1 (.slice A5 (j + 1) c5) (j + 1) (vals (x :: q)) by rw [← hj1]; exact own_mono hown5 hszw); rw [hj1]; clear hown5 hgr5)
          go_roundw
          case rel => exact ⟨j + 1, by omega, by go_num, A5, c5, x :: q, rfl, HO5.out, HI2, HB5.out⟩
          case measure => simp [intOf]; omega
      · have hjn : j = n := by omega
        subst hjn
        have HE := Lib.hid (show q = R by
          have h := HI.out
          rw [List.drop_eq_nil_of_le (by rw [HN.out]; exact Nat.le_refl _)] at h
          exact h)
        rw [HE.out] at hown
        have he5 := Lib.hid (row_end hown hbw)
        clear hown HI
        go_wp2
        go_ret
        exact he5.out
/-- append of a list at a step of a region -/
theorem wp_app_any {P : Program} {w : World} {o : Oper} {a : Act} {K : Act → World → Prop} {Q : Exit → Act → World → Prop} (s x : Operand) (t : TypeId)
    (ho : o.op = .call { callee := .builtin .append, args := #[s, x], argTypes := #[t, t] })
    (B : Nat) (e : TypeId) (i : TypeInfo) (bytes : Nat) (ht : P.underlying t = some (.slice e)) (hi : P.info? e = some i) (hz : i.zero = some (.int .i64 0))
    (hsize : i.size = 1) (hby : i.bytes = bytes) (hby2 : bytes ≤ 32) (A : Option Addr) (c : Nat) (n : Nat) (xs : List Int) (hs : a.eval s = .slice A n c) (hown : w.ownsRow B e 1 (.slice A n c) n (vals xs))
    (A2 : Option Addr) (m c2 : Nat) (zs : List Int) (hx : a.eval x = .slice A2 m c2) (hm : zs.length = m) (hnil : A2 = none → c2 = 0) (B2 : Nat) (hat : IntsAt w B2 .i64 A2 zs) (hn : n ≤ 4294967296) (hm2 : m ≤ 4294967296) (hB : B ≤ w.heap.size)
    (hspot : ∀ a, A2 = some a → a.spot = none)
    (h : ∀ A' c' w', w'.ownsRow B e 1 (.slice A' (n + m) c') (n + m) (vals (xs ++ zs)) → w.grownBy w' (A.map (·.block)) → K (a.put o.dst (.slice A' (n + m) c')) w') :
    o.wp P a w K Q := by
  cases A2 with
  | none =>
    have h0 : m = 0 := by
      rcases Nat.eq_zero_or_pos m with h | h
      · exact h
      · obtain ⟨b, o, e, _⟩ := hat 0 (by omega)
        cases e
    have hz : zs = [] := List.eq_nil_of_length_eq_zero (by omega)
    have hc := hnil rfl
    subst hz h0 hc
    have hrun := run_append_owned_none (P := P) (w := w) B t o.type e i 1 ht hi _ n (vals xs) hown
    unfold Oper.wp
    simp [execOp, ho, resolve, invoke, builtin, hs, hx, hrun, Result.andThen]
    exact h A c w (by rw [List.append_nil]; exact hown) (World.grownBy.refl w _)
  | some ad =>
    obtain ⟨b, f, sp⟩ := ad
    have hsp := hspot _ rfl
    simp only at hsp
    subst hsp
    subst hm
    refine wp_append_own _ s x t ho B e i (.int .i64 0) 1 bytes ht hi hz hsize hby rfl (by decide) _ n (vals xs) hs hown ⟨b, f, none⟩ zs.length c2 (vals zs) hx (by simp [vals]) ?_ (vals_one zs) (by unfold maxLen; omega) ?_ hB ?_
    · intro j u hu
      obtain ⟨hj, e⟩ := List.getElem?_eq_some_iff.1 hu
      have hj' : j < zs.length := by rw [vals_len] at hj; exact hj
      obtain ⟨b', o', hA, hlt, hc⟩ := hat j hj'
      simp only [Option.some.injEq, Addr.mk.injEq, and_true] at hA
      obtain ⟨rfl, rfl⟩ := hA
      show w.cell? (Addr.add ⟨b, f, none⟩ j) = some u
      rw [Go.WideShapes.add_plain, hc, ← hu, vals_get hj']
    · have : (n + zs.length) * bytes ≤ (4294967296 + 4294967296) * 32 := Nat.mul_le_mul (by omega) hby2
      omega
    · intro v' w' h2 h3 _
      obtain ⟨A', c', rfl⟩ := own_slice h2
      have hg : w.grownBy w' ((some (⟨b, f, none⟩ : Addr)).map (·.block)) ∨ True := Or.inr trivial
      refine h A' c' w' (by unfold vals at h2 ⊢; rw [List.map_append]; exact h2) ?_
      cases A with
      | none => exact h3
      | some a2 => exact h3
theorem step_app_any {P : Program} {w : World} {ops : Array Oper} {o : Oper} {a : Act} {K : Act → World → Prop} {Q : Exit → Act → World → Prop} {E : Prop} (hgd : o.guard = none) (s x : Operand) (t : TypeId)
    (ho : o.op = .call { callee := .builtin .append, args := #[s, x], argTypes := #[t, t] })
    (B : Nat) (e : TypeId) (i : TypeInfo) (bytes : Nat) (ht : P.underlying t = some (.slice e)) (hi : P.info? e = some i) (hz : i.zero = some (.int .i64 0))
    (hsize : i.size = 1) (hby : i.bytes = bytes) (hby2 : bytes ≤ 32) (A : Option Addr) (c : Nat) (n : Nat) (xs : List Int) (hs : a.eval s = .slice A n c) (hown : w.ownsRow B e 1 (.slice A n c) n (vals xs))
    (A2 : Option Addr) (m c2 : Nat) (zs : List Int) (hx : a.eval x = .slice A2 m c2) (hm : zs.length = m) (hnil : A2 = none → c2 = 0) (B2 : Nat) (hat : IntsAt w B2 .i64 A2 zs) (hn : n ≤ 4294967296) (hm2 : m ≤ 4294967296) (hB : B ≤ w.heap.size)
    (hspot : ∀ a, A2 = some a → a.spot = none)
    (h : ∀ A' c' w', w'.ownsRow B e 1 (.slice A' (n + m) c') (n + m) (vals (xs ++ zs)) → w.grownBy w' (A.map (·.block)) → K (a.put o.dst (.slice A' (n + m) c')) w') :
    if Region.wanted o (yielded ops a.tmps) = true then Oper.wp P o a w K Q else E := by
  have hw : Region.wanted o (yielded ops a.tmps) = true := by simp [Region.wanted, hgd]
  rw [if_pos hw]
  exact wp_app_any s x t ho B e i bytes ht hi hz hsize hby hby2 A c n xs hs hown A2 m c2 zs hx hm hnil B2 hat hn hm2 hB hspot h
theorem step_app_r {P : Program} {w : World} {ops : Array Oper} {o : Oper} {a : Act} {K : Act → World → Prop} {Q : Exit → Act → World → Prop} {E : Prop} (hgd : o.guard = none) (s x : Operand) (t : TypeId)
    (ho : o.op = .call { callee := .builtin .append, args := #[s, x], argTypes := #[t, t] })
    (B : Nat) (e : TypeId) (i : TypeInfo) (ht : P.underlying t = some (.slice e)) (hi : P.info? e = some i) (hz : i.zero = some (.int .i64 0))
    (hsize : i.size = 1) (hby : i.bytes = 8) (A : Option Addr) (c : Nat) (n : Nat) (xs : List Int) (hs : a.eval s = .slice A n c) (hown : w.ownsRow B e 1 (.slice A n c) n (vals xs))
    (A2 : Option Addr) (m c2 : Nat) (zs : List Int) (hx : a.eval x = .slice A2 m c2) (hm : zs.length = m) (hnil : A2 = none → c2 = 0) (hat : IntsAt w w.heap.size .i64 A2 zs) (hn : n ≤ 1048576) (hm2 : m ≤ 1048576) (hB : B ≤ w.heap.size)
    (hspot : ∀ a, A2 = some a → a.spot = none) (r : Nat) (hr : n + m = r)
    (h : ∀ A' c' w', w'.ownsRow B e 1 (.slice A' r c') r (vals (xs ++ zs)) → w.grownBy w' (A.map (·.block)) → K (a.put o.dst (.slice A' r c')) w') :
    if Region.wanted o (yielded ops a.tmps) = true then Oper.wp P o a w K Q else E := by
  subst hr
  exact step_app_any hgd s x t ho B e i 8 ht hi hz hsize hby (by decide) A c n xs hs hown A2 m c2 zs hx hm hnil _ hat (by omega) (by omega) hB hspot h
end Go.Proofs.YthcggkhpamjjbaaGreat.Sv2
