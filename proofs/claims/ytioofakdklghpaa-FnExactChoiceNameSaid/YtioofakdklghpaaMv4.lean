/- The program's ducking deal. -/
import Derived.Test.YtioofakdklghpaaMv3
set_option linter.unusedVariables false
set_option maxRecDepth 20000
namespace Go.Proofs.Ytioofakdklghpaa.Mv4
open Go.RowKit Fr Own Pk Ins Pfn Rws Lb Cat Mvp Mv1 Mv2 Mv3

def dlV : Value → Nat
  | .bool true => 0
  | _ => 1
theorem duck_end {α : Type} : ∀ (f : Nat) (u q : List α) (s : Nat), u.length ≤ 1 → duckL f u q s = u ++ q
  | 0, u, q, s, h1 => rfl
  | f + 1, [], q, s, h1 => rfl
  | f + 1, [x], q, s, h1 => rfl
  | f + 1, x :: y :: r, q, s, h1 => by simp at h1
/-- how many rounds are left at most -/
def duM (n s : Nat) : Nat := 2 * n + (if s % 2 = 1 then 0 else 1)
theorem duck_deal {m s : Nat} {x : Int} {v q R : List Int} (hv : v.length = m) (hm : 1 ≤ m) (hs : s % 2 = 1) (h : ∃ f, duM (m + 1) s < f ∧ duckL f (x :: v) q s = R) : ∃ f, duM m (s + 1) < f ∧ duckL f v (x :: q) (s + 1) = R := by
  obtain ⟨f, hf, e⟩ := h
  cases v with
  | nil => simp at hv; omega
  | cons y r =>
    cases f with
    | zero => omega
    | succ f =>
      refine ⟨f, ?_, ?_⟩
      · unfold duM at *
        rw [if_pos hs] at hf
        rw [if_neg (by omega)]
        omega
      · rw [duckL, if_pos hs] at e
        exact e
theorem duck_keep {m s : Nat} {x : Int} {v q R : List Int} (hv : v.length = m) (hm : 1 ≤ m) (hs : ¬ s % 2 = 1) (h : ∃ f, duM (m + 1) s < f ∧ duckL f (x :: v) q s = R) : ∃ f, duM (m + 1) (s + 1) < f ∧ duckL f (v ++ [x]) q (s + 1) = R := by
  obtain ⟨f, hf, e⟩ := h
  cases v with
  | nil => simp at hv; omega
  | cons y r =>
    cases f with
    | zero => omega
    | succ f =>
      refine ⟨f, ?_, ?_⟩
      · unfold duM at *
        rw [if_neg hs] at hf
        rw [if_pos (by omega)]
        omega
      · rw [duckL, if_neg hs] at e
        exact e
set_option maxHeartbeats 1000000 in
theorem impl_duck_at (A : Option Addr) (n c k : Nat) (kv : Int) (zs : List Int) (w : World) (hn : zs.length = n) (h0 : 1 ≤ n) (h12 : n ≤ 12) (hkv : (kv = 0 ∧ k = 0) ∨ (kv = 1 ∧ k = 1)) (hss : IntsAt w w.heap.size .i64 A zs) :
    Calls Try.prog 110 #[.slice A n c, .int .i64 kv] w (IsIL w.heap.size (duckL (2 * n + 2) zs [] k) w) := by
  obtain ⟨i0, hi, hz0, hz1, hz2⟩ := info_parts infoInt
  have HC := Lib.hid (clone_any A n c zs w hn (by omega) hss)
  have HN := Lib.hid hn
  obtain ⟨R, hR⟩ : ∃ R, R = duckL (2 * n + 2) zs [] k := ⟨_, rfl⟩
  have HI0 := Lib.hid (show ∃ f, duM n k < f ∧ duckL f zs [] k = R from ⟨2 * n + 2, by unfold duM; split <;> omega, hR.symm⟩)
  rw [← hR]
  clear hn hR hss
  rcases hkv with ⟨rfl, hk0⟩ | ⟨rfl, hk0⟩
  all_goals
    have HK := Lib.hid hk0
    have HK2 := Lib.hid (show decide (k % 2 = 1) = decide (k = 1) by rw [hk0])
    clear hk0
    go_enter Try.func110, Try.ntmps110
    go_wp2_with fail
    refine HC.out.mono ?_
    rintro e w1 ⟨A2, c2, rfl, ho, hb⟩
    rw [HN.out] at ho
    rw [HN.out]
    obtain ⟨g, rfl⟩ := own_shape ho (by omega)
    have HQ0 := Lib.hid (q_of_own ho)
    have HB0 := Lib.hid hb
    clear ho hb HC
    go_wp2
    go_loopw [5, 6, 7, 8] (fun s5 s6 s7 s8 wr => ∃ (g off n1 c1 n3 c3 s : Nat) (bb : Bool) (A3 : Option Addr) (u q : List Int), s5 = .slice (some ⟨g, off, none⟩) n1 c1 ∧ s6 = .slice A3 n3 c3 ∧ s7 = .bool bb ∧ Hid (bb = decide (s % 2 = 1)) ∧ Hid (QRow wr w.heap.size g off n1 c1 u) ∧ 1 ≤ n1 ∧ n1 ≤ c1 ∧ n1 + n3 ≤ 12 ∧
      Hid (wr.ownsRow w.heap.size 3 1 (.slice A3 n3 c3) n3 (vals q)) ∧ Hid (∀ k, A3.map (·.block) = some k → k ≠ g) ∧ Hid (∃ f, duM n1 s < f ∧ duckL f u q s = R) ∧ Below w.heap.size w wr) (fun s5 _ s7 _ _ => 2 * lenV s5 + dlV s7)
    case atStart => exact ⟨g, 0, n, c2, 0, 0, k, _, none, zs, [], rfl, rfl, rfl, (by show _ = _; rw [HK2.out, HK.out]; rfl), HQ0, h0, HQ0.out.2.1, by omega, World.ownsRow_nil _ _ _ _, (fun k h => by cases h), HI0, HB0.out⟩
    case round =>
      obtain ⟨g, off, n1, c1, n3, c3, s, bb, A3, u, q, rfl, rfl, rfl, HBB, HQ, hn1, hnc1, h12s, HO, HNE, HI, hbw⟩ := hrel
      clear HI0 HQ0 HB0
      have hszw := hbw.size
      have hql := Lib.hid (q_lt HQ.out)
      by_cases h1 : n1 = 1
      · subst h1
        have HE := Lib.hid (show u ++ q = R by
          obtain ⟨f, hf, e⟩ := HI.out
          rw [duck_end f u q s (by rw [HQ.out.1]; exact Nat.le_refl _)] at e
          exact e)
        have HQL := Lib.hid (show q.length = n3 by have := HO.out.1; rw [vals_len] at this; omega)
        have HOA := fun o => Lib.hid (HO.out.alloc o)
        have HQ2 := fun o => Lib.hid (ints_of (HOA o).out)
        have HBA := fun o => Lib.hid (hbw.alloc hszw o)
        have HQA := fun o => Lib.hid (q_at (q_kept HQ.out (grown_new wr o none) (fun e => by cases e)))
        have HNIL := Lib.hid (show A3 = none → c3 = 0 by
          intro e
          rcases own_full HO.out with ⟨_, _, h⟩ | ⟨_, _, h, _⟩
          · exact h
          · rw [e] at h; cases h)
        have HSP := Lib.hid (show ∀ a, A3 = some a → a.spot = none by
          intro a e
          rcases own_full HO.out with ⟨h, _, _⟩ | ⟨_, _, h, _⟩
          · rw [e] at h; cases h
          · rw [e] at h; simp only [Option.some.injEq] at h; rw [h])
        have h3s : n3 ≤ 4096 := by omega
        have HU1 := Lib.hid HQ.out.1
        clear HO HI HQ HNE hbw
        go_wp2_with fail
        refine (concat_two _ _ _ _ _ _ _ _ u q _ (heap_alloc_new wr _) HU1.out HQL.out (by decide) h3s (fun h => by cases h) HNIL.out spot_some HSP.out (HQA _).out (HQ2 _).out).mono ?_
        rintro e w2 h
        replace h := il_after h (HBA _).out (HBA _).out.size
        rw [HE.out] at h
        obtain ⟨A5, c5, rfl, ho, hb⟩ := h
        go_wp2
        go_ret
        exact ⟨A5, c5, rfl, ho, hb⟩
      · obtain ⟨m, rfl⟩ : ∃ m, n1 = m + 1 := ⟨n1 - 1, by omega⟩
        have hm : 1 ≤ m := by omega
        obtain ⟨x, v, e2⟩ : ∃ x v, u = x :: v := by
          cases u with
          | nil => have := HQ.out.1; simp at this
          | cons x v => exact ⟨x, v, rfl⟩
        subst e2
        have HLV := Lib.hid (show v.length = m by have := HQ.out.1; simpa using this)
        have hc : wr.cell? ⟨g, off, none⟩ = some (.int .i64 x) := q_cell HQ.out 0 (by omega)
        have HQP := Lib.hid (q_pop HQ.out)
        have hcond : (1 : Int) < (m : Int) + 1 := by omega
        have hcc1 : ¬ c1 = 1 := by omega
        have hcc2 : ¬ (c1 : Int) = 1 := by omega
        have hcm : m ≤ c1 - 1 := by omega
        have hm0 : 0 < m := by omega
        clear h1 hn1
        by_cases hs : s % 2 = 1
        · have hbb : bb = true := by rw [HBB.out]; exact decide_eq_true hs
          subst hbb
          have HI2 := Lib.hid (duck_deal HLV.out hm hs HI.out)
          have HB2 := Lib.hid (show false = decide ((s + 1) % 2 = 1) from (decide_eq_false (by omega)).symm)
          have HOA := fun o => Lib.hid (HO.out.alloc o)
          have HBA := fun o => Lib.hid (hbw.alloc hszw o)
          have HLO := Lib.hid (own_lo HO.out)
          have HQA := fun o => Lib.hid (q_kept HQP.out (grown_new wr o none) (fun e => by cases e))
          have hn3s : n3 ≤ 1048576 := by omega
          clear HI HO hbw HQ HQP hs
          go_wp2_with fail
          refine (ins_front w.heap.size A3 n3 c3 1 wr.heap.size 1 q [x] _ rfl (by decide) (by decide) hn3s (HOA _).out (heap_alloc_new wr _) (fun k hk => by have := (HLO.out k hk).2; omega) (HBA _).out.size).mono ?_
          rintro e w5 ⟨A5, c5, rfl, ho, hg, hf⟩
          have HQ5 := Lib.hid (q_kept (HQA _).out hg (fun e => HNE.out g e rfl))
          have HO5 := Lib.hid ho
          have HB5 := Lib.hid ((HBA (.cells #[.int .i64 x] 3)).out.grown hg (HBA _).out.size (fun k hk => (HLO.out k hk).1))
          have HN5 := Lib.hid (show ∀ k, A5.map (·.block) = some k → k ≠ g by
            intro k hk
            rcases hf k hk with h | h
            · exact HNE.out k h
            · have h1 := hql.out.2
              have h2 := Nat.le_trans ((Below.refl wr.heap.size wr).alloc (Nat.le_refl _) _).size h
              omega)
          clear ho hg hf
          go_wp2
          go_roundw
          case rel => exact ⟨g, off + 1, m, c1 - 1, n3 + 1, c5, s + 1, _, A5, v, [x] ++ q, rfl, rfl, rfl, HB2, HQ5, hm, hcm, by omega, HO5, HN5, HI2, HB5.out⟩
          case measure => simp [lenV, dlV]; omega
        · have hbb : bb = false := by rw [HBB.out]; exact decide_eq_false hs
          subst hbb
          have HI2 := Lib.hid (duck_keep HLV.out hm hs HI.out)
          have HB2 := Lib.hid (show true = decide ((s + 1) % 2 = 1) from (decide_eq_true (by omega)).symm)
          have hms : m ≤ 1048576 := by omega
          clear HI hs
          go_wp2_with (at_builtin; refine app_queue rfl (.tmp 28) (.tmp 30) 23 rfl w.heap.size i0 Try.underlying23 hi hz0 hz1 hz2 g (off + 1) m (c1 - 1) v rfl HQP.out x _ rfl rfl hms hszw ?_; intro g5 off5 c5 w5 hq5 hg5 hd5; have HQ5 := Lib.hid hq5; have HO5 := Lib.hid (own_gr HO.out hg5 (fun k hk e => by simp only [Option.some.injEq] at e; exact HNE.out k hk e.symm)); have HB5 := Lib.hid (hbw.grown hg5 hszw (fun k hk => by simp only [Option.some.injEq] at hk; have := hql.out.1; omega)); have HN5 := Lib.hid (show ∀ k, A3.map (·.block) = some k → k ≠ g5 by intro k hk e; rcases hd5 with h | h; exact HNE.out k hk (e.trans h); have := (own_lo HO.out k hk).2; omega); clear hq5 hg5 hd5)
          go_roundw
          case rel => exact ⟨g5, off5, m + 1, c5, n3, c3, s + 1, _, A3, v ++ [x], q, rfl, rfl, rfl, HB2, HQ5, by omega, HQ5.out.2.1, by omega, HO5, HN5, HI2, HB5.out⟩
          case measure => simp [lenV, dlV]
end Go.Proofs.Ytioofakdklghpaa.Mv4
