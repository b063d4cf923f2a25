/- What a step does, of the program (actionOf, isChoice, isNote, the three kinds of actions), and which steps are valid (StepOk). -/
import Derived.Test.YtibephoepkofnaaTfp
import Derived.Test.YtibephoepkofnaaMok
import Derived.Test.YtibephoepkofnaaCk
import Derived.Handy
set_option linter.unusedVariables false
set_option maxRecDepth 20000
namespace Go.Proofs.Ytibephoepkofnaa.Tia
open Go.RowKit Fr _root_.Go.Proofs.Ytibephoepkofnaa.Own Pk Pl Ins Pok Arr Mvp Tst Tfp

/-- is i the index of one of n things? -/
def idxB (i n : Int) : Bool := decide (0 ≤ i ∧ i < n)
theorem impl_in (i n : Int) (w : World) : Calls Try.prog 60 #[.int .i64 i, .int .i64 n] w fun e w' => e = .returned (.bool (idxB i n)) ∧ w = w' := by
  by_cases h : 0 ≤ i
  · have HS := Lib.hid (show decide (i < n) = idxB i n by unfold idxB; simp [h])
    go_enter Try.func60, Try.ntmps60
    go_wp2
    go_ret
    exact ⟨ret_b HS.out, rfl⟩
  · have HS := Lib.hid (show false = idxB i n by unfold idxB; simp; omega)
    have h' : decide (0 ≤ i) = false := decide_eq_false h
    go_enter Try.func60, Try.ntmps60
    go_wp2
    go_ret
    exact ⟨ret_b HS.out, rfl⟩
/-- what actionOf answers for a step: a value of one of three types, or nothing -/
inductive Act3 (s : SR) : Value → Bool → Prop where
  | move (h : s.k = 1 ∧ s.a = 0) : Act3 s (.iface 79 (.agg #[.int .i64 s.d, .int .i64 s.q])) true
  | choice (h : s.k = 2 ∧ s.d = 0 ∧ s.q = 0) : Act3 s (.iface 81 (.agg #[.int .i64 s.a])) true
  | note (h : s.k = 3 ∧ s.d = 0 ∧ s.q = 0) : Act3 s (.iface 83 (.agg #[.int .i64 s.a])) true
  | none (h1 : ¬ (s.k = 1 ∧ s.a = 0)) (h2 : ¬ (s.k = 2 ∧ s.d = 0 ∧ s.q = 0)) (h3 : ¬ (s.k = 3 ∧ s.d = 0 ∧ s.q = 0)) : Act3 s .nilIface false
/-- a call hands back what a step does -/
def IsAct (s : SR) (w : World) (e : Ending) (w' : World) : Prop := (∃ v b, e = .returned (.tuple #[v, .bool b]) ∧ Act3 s v b) ∧ Below w.heap.size w w'
theorem beqd (p a : Int) : (p == a) = decide (p = a) := by
  by_cases h : p = a
  · subst h; simp
  · rw [decide_eq_false h, beq_eq_false_iff_ne.2 h]
set_option maxHeartbeats 1000000 in
theorem act_any (s : SR) (w : World) : Calls Try.prog 32 #[s.v] w (IsAct s w) := by
  obtain ⟨k, d, q, a⟩ := s
  have HB0 := Lib.hid (box_below w (.cells #[.int .i64 k, .int .i64 d, .int .i64 q, .int .i64 a] 29))
  have A0 := Lib.hid (heap_alloc_new w (.cells #[.int .i64 k, .int .i64 d, .int .i64 q, .int .i64 a] 29))
  have u0 := (cell_at A0.out 0).trans rfl
  have u1 := (cell_at A0.out 1).trans rfl
  have u2 := (cell_at A0.out 2).trans rfl
  have u3 := (cell_at A0.out 3).trans rfl
  have HSm := Lib.hid (Act3.move (s := ⟨k, d, q, a⟩))
  have HSc := Lib.hid (Act3.choice (s := ⟨k, d, q, a⟩))
  have HSn := Lib.hid (Act3.note (s := ⟨k, d, q, a⟩))
  have HS0 := Lib.hid (Act3.none (s := ⟨k, d, q, a⟩))
  go_enter Try.func32, Try.ntmps32
  go_wp2
  all_goals (try simp only [beq_iff_eq] at *)
  all_goals (subst_vars; go_ret2)
  all_goals (refine ⟨⟨_, _, rfl, ?_⟩, HB0.out⟩)
  all_goals (first | exact HSm.out (by simp_all) | exact HSc.out (by simp_all) | exact HSn.out (by simp_all) | exact HS0.out (by simp_all) (by simp_all) (by simp_all))
/-! what an assertion on an action says -/
theorem as_moving_moving (d q : Int) (w : World) : (Instr.typeAssert (.iface 79 (.agg #[.int .i64 d, .int .i64 q])) 62 79 true).run Try.prog w = .ok (.tuple #[.agg #[.int .i64 d, .int .i64 q], .bool true]) w := by kernel_rfl
theorem as_moving_choosing (a : Int) (w : World) : (Instr.typeAssert (.iface 81 (.agg #[.int .i64 a])) 62 79 true).run Try.prog w = .ok (.tuple #[.agg #[.int .i64 0, .int .i64 0], .bool false]) w := by kernel_rfl
theorem as_moving_noting (a : Int) (w : World) : (Instr.typeAssert (.iface 83 (.agg #[.int .i64 a])) 62 79 true).run Try.prog w = .ok (.tuple #[.agg #[.int .i64 0, .int .i64 0], .bool false]) w := by kernel_rfl
theorem as_moving_nil (w : World) : (Instr.typeAssert .nilIface 62 79 true).run Try.prog w = .ok (.tuple #[.agg #[.int .i64 0, .int .i64 0], .bool false]) w := by kernel_rfl
theorem as_choosing_moving (d q : Int) (w : World) : (Instr.typeAssert (.iface 79 (.agg #[.int .i64 d, .int .i64 q])) 62 81 true).run Try.prog w = .ok (.tuple #[.agg #[.int .i64 0], .bool false]) w := by kernel_rfl
theorem as_choosing_choosing (a : Int) (w : World) : (Instr.typeAssert (.iface 81 (.agg #[.int .i64 a])) 62 81 true).run Try.prog w = .ok (.tuple #[.agg #[.int .i64 a], .bool true]) w := by kernel_rfl
theorem as_choosing_noting (a : Int) (w : World) : (Instr.typeAssert (.iface 83 (.agg #[.int .i64 a])) 62 81 true).run Try.prog w = .ok (.tuple #[.agg #[.int .i64 0], .bool false]) w := by kernel_rfl
theorem as_choosing_nil (w : World) : (Instr.typeAssert .nilIface 62 81 true).run Try.prog w = .ok (.tuple #[.agg #[.int .i64 0], .bool false]) w := by kernel_rfl
theorem as_noting_moving (d q : Int) (w : World) : (Instr.typeAssert (.iface 79 (.agg #[.int .i64 d, .int .i64 q])) 62 83 true).run Try.prog w = .ok (.tuple #[.agg #[.int .i64 0], .bool false]) w := by kernel_rfl
theorem as_noting_choosing (a : Int) (w : World) : (Instr.typeAssert (.iface 81 (.agg #[.int .i64 a])) 62 83 true).run Try.prog w = .ok (.tuple #[.agg #[.int .i64 0], .bool false]) w := by kernel_rfl
theorem as_noting_noting (a : Int) (w : World) : (Instr.typeAssert (.iface 83 (.agg #[.int .i64 a])) 62 83 true).run Try.prog w = .ok (.tuple #[.agg #[.int .i64 a], .bool true]) w := by kernel_rfl
theorem as_noting_nil (w : World) : (Instr.typeAssert .nilIface 62 83 true).run Try.prog w = .ok (.tuple #[.agg #[.int .i64 0], .bool false]) w := by kernel_rfl
set_option maxHeartbeats 1000000 in
theorem is_choice (s : SR) (w : World) : Calls Try.prog 53 #[s.v] w fun e w' => e = .returned (.bool (decide (s.k = 2 ∧ s.d = 0 ∧ s.q = 0))) ∧ Below w.heap.size w w' := by
  obtain ⟨R, hR⟩ : ∃ R, R = decide (s.k = 2 ∧ s.d = 0 ∧ s.q = 0) := ⟨_, rfl⟩
  rw [← hR]
  have HR := Lib.hid hR
  clear hR
  obtain ⟨k, d, q, a⟩ := s
  have HB0 := Lib.hid (box_below w (.cells #[.int .i64 k, .int .i64 d, .int .i64 q, .int .i64 a] 29))
  have A0 := Lib.hid (heap_alloc_new w (.cells #[.int .i64 k, .int .i64 d, .int .i64 q, .int .i64 a] 29))
  have u0 := (cell_at A0.out 0).trans rfl
  have u1 := (cell_at A0.out 1).trans rfl
  have u2 := (cell_at A0.out 2).trans rfl
  have u3 := (cell_at A0.out 3).trans rfl
  go_enter Try.func53, Try.ntmps53
  go_wp2_with fail
  refine (act_any ⟨k, d, q, a⟩ _).mono ?_
  rintro e w1 ⟨⟨v, b, rfl, ha⟩, hb⟩
  have HA := Lib.hid ha
  have HB1 := Lib.hid (HB0.out.trans (hb.mono HB0.out.size))
  clear hb u0 u1 u2 u3
  cases ha with
  | choice h =>
    have as1 := as_choosing_choosing a w1
    have HS := Lib.hid (show true = R by rw [HR.out, decide_eq_true h])
    have HB2 := Lib.hid (HB1.out.trans ((box_below w1 (.cells #[.int .i64 a] 81)).mono HB1.out.size))
    clear HA h
    go_wp2
    go_ret
    exact ⟨ret_b HS.out, HB2.out⟩
  | move h =>
    have as1 := as_choosing_moving d q w1
    have HS := Lib.hid (show false = R by rw [HR.out, decide_eq_false (fun e => by have h1 := h.1; have h2 := e.1; simp only at h1 h2; omega)])
    have HB2 := Lib.hid (HB1.out.trans ((box_below w1 (.cells #[.int .i64 0] 81)).mono HB1.out.size))
    clear HA h
    go_wp2
    go_ret
    exact ⟨ret_b HS.out, HB2.out⟩
  | note h =>
    have as1 := as_choosing_noting a w1
    have HS := Lib.hid (show false = R by rw [HR.out, decide_eq_false (fun e => by have h1 := h.1; have h2 := e.1; simp only at h1 h2; omega)])
    have HB2 := Lib.hid (HB1.out.trans ((box_below w1 (.cells #[.int .i64 0] 81)).mono HB1.out.size))
    clear HA h
    go_wp2
    go_ret
    exact ⟨ret_b HS.out, HB2.out⟩
  | none h1 h2 h3 =>
    have as1 := as_choosing_nil w1
    have HS := Lib.hid (show false = R by rw [HR.out, decide_eq_false h2])
    have HB2 := Lib.hid (HB1.out.trans ((box_below w1 (.cells #[.int .i64 0] 81)).mono HB1.out.size))
    clear HA h1 h2 h3
    go_wp2
    go_ret
    exact ⟨ret_b HS.out, HB2.out⟩
set_option maxHeartbeats 1000000 in
theorem is_note (s : SR) (w : World) : Calls Try.prog 59 #[s.v] w fun e w' => e = .returned (.bool (decide (s.k = 3 ∧ s.d = 0 ∧ s.q = 0))) ∧ Below w.heap.size w w' := by
  obtain ⟨R, hR⟩ : ∃ R, R = decide (s.k = 3 ∧ s.d = 0 ∧ s.q = 0) := ⟨_, rfl⟩
  rw [← hR]
  have HR := Lib.hid hR
  clear hR
  obtain ⟨k, d, q, a⟩ := s
  have HB0 := Lib.hid (box_below w (.cells #[.int .i64 k, .int .i64 d, .int .i64 q, .int .i64 a] 29))
  have A0 := Lib.hid (heap_alloc_new w (.cells #[.int .i64 k, .int .i64 d, .int .i64 q, .int .i64 a] 29))
  have u0 := (cell_at A0.out 0).trans rfl
  have u1 := (cell_at A0.out 1).trans rfl
  have u2 := (cell_at A0.out 2).trans rfl
  have u3 := (cell_at A0.out 3).trans rfl
  go_enter Try.func59, Try.ntmps59
  go_wp2_with fail
  refine (act_any ⟨k, d, q, a⟩ _).mono ?_
  rintro e w1 ⟨⟨v, b, rfl, ha⟩, hb⟩
  have HA := Lib.hid ha
  have HB1 := Lib.hid (HB0.out.trans (hb.mono HB0.out.size))
  clear hb u0 u1 u2 u3
  cases ha with
  | note h =>
    have as1 := as_noting_noting a w1
    have HS := Lib.hid (show true = R by rw [HR.out, decide_eq_true h])
    have HB2 := Lib.hid (HB1.out.trans ((box_below w1 (.cells #[.int .i64 a] 83)).mono HB1.out.size))
    clear HA h
    go_wp2
    go_ret
    exact ⟨ret_b HS.out, HB2.out⟩
  | move h =>
    have as1 := as_noting_moving d q w1
    have HS := Lib.hid (show false = R by rw [HR.out, decide_eq_false (fun e => by have h1 := h.1; have h2 := e.1; simp only at h1 h2; omega)])
    have HB2 := Lib.hid (HB1.out.trans ((box_below w1 (.cells #[.int .i64 0] 83)).mono HB1.out.size))
    clear HA h
    go_wp2
    go_ret
    exact ⟨ret_b HS.out, HB2.out⟩
  | choice h =>
    have as1 := as_noting_choosing a w1
    have HS := Lib.hid (show false = R by rw [HR.out, decide_eq_false (fun e => by have h1 := h.1; have h2 := e.1; simp only at h1 h2; omega)])
    have HB2 := Lib.hid (HB1.out.trans ((box_below w1 (.cells #[.int .i64 0] 83)).mono HB1.out.size))
    clear HA h
    go_wp2
    go_ret
    exact ⟨ret_b HS.out, HB2.out⟩
  | none h1 h2 h3 =>
    have as1 := as_noting_nil w1
    have HS := Lib.hid (show false = R by rw [HR.out, decide_eq_false h3])
    have HB2 := Lib.hid (HB1.out.trans ((box_below w1 (.cells #[.int .i64 0] 83)).mono HB1.out.size))
    clear HA h1 h2 h3
    go_wp2
    go_ret
    exact ⟨ret_b HS.out, HB2.out⟩
/-! what the three kinds of actions ask -/
theorem fits_moving (n d q : Int) (w : World) : Calls Try.prog 85 #[.agg #[.int .i64 d, .int .i64 q], .int .i64 n] w fun e w' => e = .returned (.bool (mvB n d q)) ∧ Below w.heap.size w w' := by
  have HB0 := Lib.hid (box_below w (.cells #[.int .i64 d, .int .i64 q] 79))
  have A0 := Lib.hid (heap_alloc_new w (.cells #[.int .i64 d, .int .i64 q] 79))
  have u0 := (cell_at A0.out 0).trans rfl
  have u1 := (cell_at A0.out 1).trans rfl
  have CM := fun W => Mok2.impl_moveok n d q W
  generalize mvB n d q = r at *
  go_enter Try.func85, Try.ntmps85
  go_wp2_with fail
  refine (CM _).mono ?_
  rintro e w1 ⟨rfl, hb⟩
  have HB1 := Lib.hid (HB0.out.trans (hb.mono HB0.out.size))
  clear hb u0 u1 CM
  go_wp2
  go_ret
  exact ⟨rfl, HB1.out⟩
theorem fits_noting (n a : Int) (w : World) : Calls Try.prog 128 #[.agg #[.int .i64 a], .int .i64 n] w fun e w' => e = .returned (.bool (idxB a n)) ∧ Below w.heap.size w w' := by
  have HB0 := Lib.hid (box_below w (.cells #[.int .i64 a] 83))
  have A0 := Lib.hid (heap_alloc_new w (.cells #[.int .i64 a] 83))
  have u0 := (cell_at A0.out 0).trans rfl
  have CM := fun W => impl_in a n W
  generalize idxB a n = r at *
  go_enter Try.func128, Try.ntmps128
  go_wp2_with fail
  refine (CM _).mono ?_
  rintro e w1 ⟨rfl, rfl⟩
  clear u0 CM
  go_wp2
  go_ret
  exact ⟨rfl, HB0.out⟩
set_option maxHeartbeats 1000000 in
theorem fits_choosing (n a : Int) (w : World) (h1 : 1 ≤ n) : Calls Try.prog 111 #[.agg #[.int .i64 a], .int .i64 n] w fun e w' => e = .returned (.bool (choiceB n a)) ∧ Below w.heap.size w w' := by
  obtain ⟨R, hR⟩ : ∃ R, R = choiceB n a := ⟨_, rfl⟩
  rw [← hR]
  have HB0 := Lib.hid (box_below w (.cells #[.int .i64 a] 81))
  have A0 := Lib.hid (heap_alloc_new w (.cells #[.int .i64 a] 81))
  have u0 := (cell_at A0.out 0).trans rfl
  by_cases ha : 0 ≤ a ∧ a ≤ 4
  · have HS := Lib.hid (show R = (decide (Ck.leastN a ≤ n) && (decide (a ≠ 2) || decide (n ≤ 7))) by
      rw [hR]; unfold choiceB Ck.leastN; rw [decide_eq_true ha, Bool.eq_iff_iff]; simp; split <;> omega)
    have CK := fun W => Ck.kind_yes a W ha
    generalize Ck.leastN a = l at *
    generalize Ck.cnF a = nm at *
    generalize Ck.cFn a = fn at *
    clear hR ha
    go_enter Try.func111, Try.ntmps111
    go_wp2_with fail
    refine (CK _).mono ?_
    rintro e w1 ⟨rfl, hb⟩
    have HB1 := Lib.hid (HB0.out.trans (hb.mono HB0.out.size))
    have HBX := Lib.hid (HB1.out.trans ((box_below w1 (.cells #[.string nm, .int .i64 l, .func (.func fn) #[] #[]] 124)).mono HB1.out.size))
    have A1 := heap_alloc_new w1 (.cells #[.string nm, .int .i64 l, .func (.func fn) #[] #[]] 124)
    have v1 := (cell_at A1 1).trans rfl
    have u1 := (cell_at (((box_below w1 (.cells #[.string nm, .int .i64 l, .func (.func fn) #[] #[]] 124)).block w.heap.size (by have h := hb.size; simp at h; omega)).trans ((hb.block w.heap.size (by simp)).trans A0.out)) 0).trans rfl
    clear hb u0 A1 CK
    have hne : (a != 2) = decide (a ≠ 2) := by by_cases h : a = 2 <;> simp [h]
    go_wp2
    all_goals (go_ret; exact ⟨ret_b (by rw [HS.out, Bool.eq_iff_iff]; simp_all <;> omega), HBX.out⟩)
  · have HS := Lib.hid (show false = R by rw [hR, show choiceB n a = false by unfold choiceB; rw [decide_eq_false ha]; rfl])
    have CK := fun W => Ck.kind_not a W ha
    clear hR ha
    go_enter Try.func111, Try.ntmps111
    go_wp2_with fail
    refine (CK _).mono ?_
    rintro e w1 ⟨rfl, hb⟩
    have HB1 := Lib.hid (HB0.out.trans (hb.mono HB0.out.size))
    have HBX := Lib.hid (HB1.out.trans ((box_below w1 (.cells #[.string ⟨#[]⟩, .int .i64 0, .nilFunc] 124)).mono HB1.out.size))
    clear hb u0 CK
    go_wp2
    go_ret
    exact ⟨ret_b HS.out, HBX.out⟩
theorem step_none {n : Int} {s : SR} (h1 : ¬ (s.k = 1 ∧ s.a = 0)) (h2 : ¬ (s.k = 2 ∧ s.d = 0 ∧ s.q = 0)) (h3 : ¬ (s.k = 3 ∧ s.d = 0 ∧ s.q = 0)) : stepB n s = false := by
  unfold stepB
  by_cases e1 : s.k = 1
  · rw [if_pos e1, decide_eq_false (show ¬ s.a = 0 from fun e => h1 ⟨e1, e⟩), Bool.and_false, Bool.and_false]
  by_cases e2 : s.k = 2
  · rw [if_neg e1, if_pos e2, decide_eq_false (show ¬ (s.d = 0 ∧ s.q = 0) from fun e => h2 ⟨e2, e.1, e.2⟩), Bool.false_and, Bool.and_false]
  by_cases e3 : s.k = 3
  · rw [if_neg e1, if_neg e2, if_pos e3, decide_eq_false (show ¬ (s.d = 0 ∧ s.q = 0) from fun e => h3 ⟨e3, e.1, e.2⟩), Bool.false_and, Bool.and_false]
  · rw [if_neg e1, if_neg e2, if_neg e3, Bool.and_false]
set_option maxHeartbeats 1000000 in
theorem impl_step (n : Int) (s : SR) (w : World) : Calls Try.prog 10 #[.int .i64 n, s.v] w fun e w' => e = .returned (.bool (stepB n s)) ∧ Below w.heap.size w w' := by
  obtain ⟨R, hR⟩ : ∃ R, R = stepB n s := ⟨_, rfl⟩
  rw [← hR]
  have HR := Lib.hid hR
  clear hR
  obtain ⟨k, d, q, a⟩ := s
  have HB0 := Lib.hid (box_below w (.cells #[.int .i64 k, .int .i64 d, .int .i64 q, .int .i64 a] 29))
  have A0 := Lib.hid (heap_alloc_new w (.cells #[.int .i64 k, .int .i64 d, .int .i64 q, .int .i64 a] 29))
  have u0 := (cell_at A0.out 0).trans rfl
  have u1 := (cell_at A0.out 1).trans rfl
  have u2 := (cell_at A0.out 2).trans rfl
  have u3 := (cell_at A0.out 3).trans rfl
  go_enter Try.func10, Try.ntmps10
  go_wp2_with fail
  refine (act_any ⟨k, d, q, a⟩ _).mono ?_
  rintro e w1 ⟨⟨v, b, rfl, ha⟩, hb⟩
  have HA := Lib.hid ha
  have HB1 := Lib.hid (HB0.out.trans (hb.mono HB0.out.size))
  clear hb u0 u1 u2 u3
  by_cases hn : 1 ≤ n ∧ n ≤ 12
  · have g1 : decide (1 ≤ n) = true := decide_eq_true hn.1
    have g2 : decide (n ≤ 12) = true := decide_eq_true hn.2
    cases ha with
    | move h =>
      have HS := Lib.hid (show mvB n d q = R by rw [HR.out]; unfold stepB; rw [decide_eq_true hn, if_pos h.1, decide_eq_true h.2, Bool.true_and, Bool.and_true])
      have CF := fits_moving n d q w1
      rw [HS.out] at CF
      clear HA h hn
      go_wp2_with fail
      refine CF.mono ?_
      rintro e w2 ⟨rfl, hb2⟩
      have HB2 := Lib.hid (HB1.out.trans (hb2.mono HB1.out.size))
      clear hb2 CF
      go_wp2
      go_ret
      exact ⟨rfl, HB2.out⟩
    | choice h =>
      have HS := Lib.hid (show choiceB n a = R by rw [HR.out]; unfold stepB; rw [decide_eq_true hn, if_neg (show ¬ k = 1 by have := h.1; simp only at this; omega), if_pos h.1, decide_eq_true h.2, Bool.true_and, Bool.true_and])
      have CF := fits_choosing n a w1 hn.1
      rw [HS.out] at CF
      clear HA h hn
      go_wp2_with fail
      refine CF.mono ?_
      rintro e w2 ⟨rfl, hb2⟩
      have HB2 := Lib.hid (HB1.out.trans (hb2.mono HB1.out.size))
      clear hb2 CF
      go_wp2
      go_ret
      exact ⟨rfl, HB2.out⟩
    | note h =>
      have HS := Lib.hid (show idxB a n = R by rw [HR.out]; unfold stepB idxB; rw [decide_eq_true hn, if_neg (show ¬ k = 1 by have := h.1; simp only at this; omega), if_neg (show ¬ k = 2 by have := h.1; simp only at this; omega), if_pos h.1, decide_eq_true h.2, Bool.true_and, Bool.true_and])
      have CF := fits_noting n a w1
      rw [HS.out] at CF
      clear HA h hn
      go_wp2_with fail
      refine CF.mono ?_
      rintro e w2 ⟨rfl, hb2⟩
      have HB2 := Lib.hid (HB1.out.trans (hb2.mono HB1.out.size))
      clear hb2 CF
      go_wp2
      go_ret
      exact ⟨rfl, HB2.out⟩
    | none h1 h2 h3 =>
      have HS := Lib.hid (show false = R by rw [HR.out]; exact (step_none h1 h2 h3).symm)
      clear HA h1 h2 h3 hn
      go_wp2
      go_ret
      exact ⟨ret_b HS.out, HB1.out⟩
  · have HS := Lib.hid (show false = R by rw [HR.out]; unfold stepB; rw [decide_eq_false hn]; rfl)
    by_cases h1 : 1 ≤ n
    · have g1 : decide (1 ≤ n) = true := decide_eq_true h1
      have g2 : decide (n ≤ 12) = false := decide_eq_false (fun e => hn ⟨h1, e⟩)
      clear HA ha hn h1
      cases b with
      | true =>
        go_wp2
        go_ret
        exact ⟨ret_b HS.out, HB1.out⟩
      | false =>
        go_wp2
        go_ret
        exact ⟨ret_b HS.out, HB1.out⟩
    · have g1 : decide (1 ≤ n) = false := decide_eq_false h1
      clear HA ha hn h1
      cases b with
      | true =>
        go_wp2
        go_ret
        exact ⟨ret_b HS.out, HB1.out⟩
      | false =>
        go_wp2
        go_ret
        exact ⟨ret_b HS.out, HB1.out⟩
end Go.Proofs.Ytibephoepkofnaa.Tia
