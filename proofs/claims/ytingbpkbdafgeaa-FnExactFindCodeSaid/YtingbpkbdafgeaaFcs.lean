/- FindCode of the model. -/
import Derived.Test.YtingbpkbdafgeaaFci
import Derived.Test.YtingbpkbdafgeaaTak
set_option linter.unusedVariables false
set_option maxRecDepth 20000
namespace Go.Proofs.Ytingbpkbdafgeaa.Fcs
open Go.RowKit Fr _root_.Go.Proofs.Ytingbpkbdafgeaa.Own Pk Ins Pfn Rws Srt Sst Fnd Hix Hco Hcp Hcf Cde Fcp Fcd Fci Tak
open Hnd hiding vals
open Hno

/-! ### plain -/
theorem users_step {Hs Ms : List (List Int)} {i : Nat} {us : List Int} (h : usersF Hs Ms i = (true, us)) : usersF Hs Ms (i + 1) = ((takeF Hs Ms (Ms.length + 1) i (us, List.replicate Ms.length false)).1, (takeF Hs Ms (Ms.length + 1) i (us, List.replicate Ms.length false)).2.1) := by
  rw [usersF]
  simp only [h]
  rfl
theorem users_stay {Hs Ms : List (List Int)} {i : Nat} (h : (usersF Hs Ms i).1 = false) : ∀ d, (usersF Hs Ms (i + d)).1 = false
  | 0 => h
  | d + 1 => by
    have h1 := users_stay h d
    rw [← Nat.add_assoc, usersF]
    simp only [h1]
    exact h1
theorem cf_rep (M : Nat) : cf (List.replicate M false) = M := by unfold cf; simp
theorem users_kp {Hs Ms : List (List Int)} (hA : AllIn Hs Ms) : ∀ i, i ≤ Hs.length → (usersF Hs Ms i).2.length = Ms.length ∧ ∀ j, j < Ms.length → (usersF Hs Ms i).2.getD j 0 < (Hs.length : Int)
  | 0, _ => by
    refine ⟨by simp [usersF], fun j hj => ?_⟩
    simp [usersF, List.getD_eq_getElem?_getD, hj]
    omega
  | i + 1, hi => by
    obtain ⟨h1, h2⟩ := users_kp hA i (by omega)
    rw [usersF]
    simp only
    by_cases h : (usersF Hs Ms i).1 = true
    · rw [if_pos h]
      have hk := take_kp hA (Ms.length + 1) i ((usersF Hs Ms i).2, List.replicate Ms.length false) (by omega) ⟨h1, by simp, h2, Nat.le_refl _⟩
      exact ⟨hk.l1, hk.v⟩
    · rw [if_neg h]
      exact ⟨h1, h2⟩
/-- which messages are shown by the hands before i, and by hand i before place t -/
def atF (us : List Int) (i t : Nat) : List Nat := (List.range t).filter fun j => decide (us.getD j 0 = (i : Int))
def jsF (us : List Int) (i t : Nat) : List Nat := (List.range i).flatMap (fun a => atF us a us.length) ++ atF us i t
theorem mem_atF {us : List Int} {i t j : Nat} : j ∈ atF us i t ↔ j < t ∧ us.getD j 0 = (i : Int) := by
  unfold atF
  simp [List.mem_filter]
theorem js_next {us : List Int} {i : Nat} : jsF us (i + 1) 0 = jsF us i us.length := by
  unfold jsF
  rw [List.range_succ, List.flatMap_append]
  simp [atF]
theorem js_hit {us : List Int} {i t : Nat} (h : us.getD t 0 = (i : Int)) : jsF us i (t + 1) = jsF us i t ++ [t] := by
  unfold jsF atF
  rw [List.range_succ, List.filter_append, ← List.append_assoc]
  simp [List.getD_eq_getElem?_getD] at h ⊢
  simp [h]
theorem js_miss {us : List Int} {i t : Nat} (h : us.getD t 0 ≠ (i : Int)) : jsF us i (t + 1) = jsF us i t := by
  unfold jsF atF
  rw [List.range_succ, List.filter_append]
  simp [List.getD_eq_getElem?_getD] at h ⊢
  simp [h]
theorem js_mem {us : List Int} {i t j : Nat} (ht : t ≤ us.length) (h : j ∈ jsF us i t) : j < us.length := by
  unfold jsF at h
  rcases List.mem_append.1 h with h | h
  · obtain ⟨a, _, h2⟩ := List.mem_flatMap.1 h
    exact (mem_atF.1 h2).1
  · have := (mem_atF.1 h).1
    omega
theorem js_nodup (us : List Int) (i t : Nat) : (jsF us i t).Nodup := by
  unfold jsF
  have hat : ∀ a s, (atF us a s).Nodup := fun a s => List.Pairwise.filter _ List.nodup_range
  refine List.nodup_append.2 ⟨?_, hat i t, fun x hx y hy e => ?_⟩
  · refine List.pairwise_flatMap.2 ⟨fun a _ => hat a _, ?_⟩
    refine List.Pairwise.imp (R := fun a b : Nat => a ≠ b) (fun {a b} hab x hx y hy e => ?_) List.nodup_range
    subst e
    have h1 := (mem_atF.1 hx).2
    have h2 := (mem_atF.1 hy).2
    omega
  · subst e
    obtain ⟨a, ha, h2⟩ := List.mem_flatMap.1 hx
    have ha2 := List.mem_range.1 ha
    have h3 := (mem_atF.1 h2).2
    have h4 := (mem_atF.1 hy).2
    omega
theorem js_zs (Ms : List (List Int)) (us : List Int) (H : Nat) : (jsF us H 0).map (fun j => Ms.getD j []) = (List.range H).flatMap (shownF Ms us) := by
  unfold jsF
  rw [show atF us H 0 = [] from rfl, List.append_nil, List.map_flatMap]
  congr 1
  funext a
  unfold atF shownF
  generalize List.range us.length = l
  induction l with
  | nil => rfl
  | cons x xs ih =>
    rw [List.filter_cons, List.flatMap_cons]
    by_cases h : us.getD x 0 = (a : Int)
    · rw [if_pos (by simpa using h), if_pos h, List.map_cons, ih]; rfl
    · rw [if_neg (by simpa using h), if_neg h, ih]; rfl
theorem nodup_le {α : Type} [DecidableEq α] : ∀ (l m : List α), l.Nodup → (∀ x ∈ l, x ∈ m) → l.length ≤ m.length
  | [], _, _, _ => Nat.zero_le _
  | a :: l, m, hn, hs => by
    obtain ⟨h1, h2⟩ := List.nodup_cons.1 hn
    have hm : a ∈ m := hs a (List.mem_cons_self)
    have := nodup_le l (m.erase a) h2 (fun x hx => by
      have hxm := hs x (List.mem_cons_of_mem _ hx)
      have hne : x ≠ a := fun e => h1 (e ▸ hx)
      exact (List.mem_erase_of_ne hne).2 hxm)
    rw [List.length_erase_of_mem hm] at this
    have hp : 0 < m.length := List.length_pos_of_mem hm
    simp only [List.length_cons]; omega
theorem js_len (us : List Int) (i t : Nat) (ht : t ≤ us.length) : (jsF us i t).length ≤ us.length := by
  have h := nodup_le (jsF us i t) (List.range us.length) (js_nodup us i t) (fun j hj => List.mem_range.2 (js_mem ht hj))
  rw [List.length_range] at h
  exact h
def inF (n k : Nat) : Bool := (handsF n k 0).all fun q => (ordersF (q.length - 1) q).all fun m => decide (m ∈ ordersF (k - 1) (imarks 0 n))
theorem chk_in : ((List.range 9).all fun n => (List.range 4).all fun k => inF n k) = true := by kernel_rfl
theorem all_in {n k : Nat} (h8 : n ≤ 8) (k3 : k ≤ 3) : AllIn (handsF n k 0) (ordersF (k - 1) (imarks 0 n)) := by
  have h := List.all_eq_true.1 (List.all_eq_true.1 chk_in n (List.mem_range.2 (by omega))) k (List.mem_range.2 (by omega))
  intro q hq m hm
  exact of_decide_eq_true (List.all_eq_true.1 (List.all_eq_true.1 h q hq) m hm)
def shF (n k : Nat) : Bool := (ordersF (k - 1) (imarks 0 n)).all (fun m => decide (m.length ≤ 3)) && decide ((ordersF (k - 1) (imarks 0 n)).length ≤ 1000)
theorem chk_sh : ((List.range 9).all fun n => (List.range 4).all fun k => shF n k) = true := by kernel_rfl
theorem msgs_ok {n k : Nat} (h8 : n ≤ 8) (k3 : k ≤ 3) : (∀ m ∈ ordersF (k - 1) (imarks 0 n), m.length ≤ 3) ∧ (ordersF (k - 1) (imarks 0 n)).length ≤ 1000 := by
  have h := List.all_eq_true.1 (List.all_eq_true.1 chk_sh n (List.mem_range.2 (by omega))) k (List.mem_range.2 (by omega))
  obtain ⟨h1, h2⟩ := Bool.and_eq_true_iff.1 h
  exact ⟨fun m hm => of_decide_eq_true (List.all_eq_true.1 h1 m hm), of_decide_eq_true h2⟩
theorem infoBool : (Try.prog.info? 4).map (fun i => (i.zero, i.size, i.bytes)) = some (some (.bool false), 1, 1) := by kernel_rfl
theorem infob_parts : ∃ i, Try.prog.info? 4 = some i ∧ i.zero = some (.bool false) ∧ i.size = 1 ∧ i.bytes = 1 := by
  have h := infoBool
  cases hi : Try.prog.info? 4 with
  | none => rw [hi] at h; cases h
  | some i =>
    rw [hi] at h
    simp only [Option.map_some, Option.some.injEq, Prod.mk.injEq] at h
    exact ⟨i, rfl, h.1, h.2.1, h.2.2⟩
theorem make_bools (m : Nat) (hm : m ≤ 1000) : ∃ Z : Array Value, (∀ w', (Instr.makeSlice 74 (.int .i64 (m : Int)) (.int .i64 (m : Int))).run Try.prog w' = .ok (.slice (some ⟨w'.heap.size, 0, none⟩) m m) (w'.alloc (.cells Z 4))) ∧
    ∀ (W : World) (B : Nat), B ≤ W.heap.size → (W.alloc (.cells Z 4)).drew.ownsRow B 4 1 (.slice (some ⟨W.heap.size, 0, none⟩) m m) m (bvals (List.replicate m false)) := by
  obtain ⟨i0, hi, hz0, hz1, hz2⟩ := infob_parts
  refine ⟨madeCells #[.bool false] m, fun w' => ?_, fun W B hB => ?_⟩
  · have h := run_makeSlice (P := Try.prog) w' 74 4 i0 (.bool false) Try.underlying74 hi hz0 .i64 .i64 (m : Int) (m : Int) (by omega) (Int.le_refl _) (by rw [hz1]; omega) (by rw [hz2]; omega) (by omega)
    rw [hz1] at h
    simp only [Int.toNat_natCast, Nat.mul_one] at h
    exact h
  · have e : (madeCells #[Value.bool false] m).toList = List.replicate m (.bool false) := by rw [toList_madeCells_one]
    have h := World.ownsRow_lit (base := B) (e := 4) (size := 1) W (madeCells #[.bool false] m) m hB (by unfold maxLen; omega) (by have := congrArg List.length e; simpa using this)
    rw [e] at h
    unfold bvals
    rw [List.map_replicate]
    exact h
def neF (n k : Nat) : Bool := k == 0 || decide (n < k) || decide (handsF n k 0 ≠ [] ∧ ordersF (k - 1) (imarks 0 n) ≠ [])
theorem chk_ne : ((List.range 9).all fun n => (List.range 4).all fun k => neF n k) = true := by kernel_rfl
theorem hands_some {n k : Nat} (h8 : n ≤ 8) (k3 : 1 ≤ k ∧ k ≤ 3) (hk : k ≤ n) : handsF n k 0 ≠ [] ∧ ordersF (k - 1) (imarks 0 n) ≠ [] := by
  have h := List.all_eq_true.1 (List.all_eq_true.1 chk_ne n (List.mem_range.2 (by omega))) k (List.mem_range.2 (by omega))
  unfold neF at h
  rw [show (k == 0) = false from beq_eq_false_iff_ne.2 (by omega), show decide (n < k) = false from decide_eq_false (by omega)] at h
  simpa using h
theorem keepA {W : World} {p : Addr} {v : Value} {o : Obj} (h : W.drew.cell? p = some v) : (W.alloc o).drew.cell? p = some v :=
  (((Below.refl W.heap.size W).alloc (Nat.le_refl _) o).cell (World.block_lt_of_cell? W p h)).trans h
/-- what the loop over the hands keeps -/
structure S2 (Hs Ms : List (List Int)) (gu c8 N e2 : Nat) (w2 : World) (i : Nat) (wt : World) : Prop where
  st : ∃ us, usersF Hs Ms i = (true, us) ∧ wt.ownsRow e2 3 1 (.slice (some ⟨gu, 0, none⟩) N c8) N (vals us)
  bel : Below e2 w2 wt
theorem step_app_v {P : Program} {w : World} {ops : Array Oper} {o : Oper} {a : Act} {K : Act → World → Prop} {Q : Exit → Act → World → Prop} {E : Prop} (hgd : o.guard = none) (s x : Operand) (t : TypeId)
    (ho : o.op = .call { callee := .builtin .append, args := #[s, x], argTypes := #[t, t] })
    (B : Nat) (e : TypeId) (i : TypeInfo) (z : Value) (bytes : Nat) (ht : P.underlying t = some (.slice e)) (hi : P.info? e = some i) (hz : i.zero = some z)
    (hsize : i.size = 1) (hby : i.bytes = bytes) (hby2 : bytes ≤ 32) (hzs : z.cells.size = 1) (A : Option Addr) (c : Nat) (n : Nat) (xs : List Value) (hs : a.eval s = .slice A n c) (hown : w.ownsRow B e 1 (.slice A n c) n xs)
    (g0 : Nat) (y : Value) (hy : y.oneCell' = true) (hx : a.eval x = .slice (some ⟨g0, 0, none⟩) 1 1) (hc : w.cell? ⟨g0, 0, none⟩ = some y) (hn : n ≤ 4294967296) (hB : B ≤ w.heap.size)
    (h : ∀ g c' w', w'.ownsRow B e 1 (.slice (some ⟨g, 0, none⟩) (n + 1) c') (n + 1) (xs ++ [y]) → w.grownBy w' (A.map (·.block)) → K (a.put o.dst (.slice (some ⟨g, 0, none⟩) (n + 1) c')) w') :
    if Region.wanted o (yielded ops a.tmps) = true then Oper.wp P o a w K Q else E := by
  have hw : Region.wanted o (yielded ops a.tmps) = true := by simp [Region.wanted, hgd]
  rw [if_pos hw]
  refine wp_append_own _ s x t ho B e i z 1 bytes ht hi hz hsize hby hzs (by decide) _ n xs hs hown ⟨g0, 0, none⟩ 1 1 [y] hx (by simp) ?_ (by intro u hu; simp at hu; subst hu; exact hy) (by unfold maxLen; omega) ?_ hB ?_
  · intro j u hu
    obtain ⟨hj, e⟩ := List.getElem?_eq_some_iff.1 hu
    simp only [List.length_cons, List.length_nil] at hj
    have hj0 : j = 0 := by omega
    subst hj0
    simp only [List.getElem_cons_zero] at e
    subst e
    exact hc
  · have : (n + 1) * bytes ≤ (4294967296 + 1) * 32 := Nat.mul_le_mul (by omega) hby2
    omega
  · intro v' w' h2 h3 _
    rcases h2.2 with ⟨_, h0⟩ | ⟨g, cap, cur, hv, _⟩
    · omega
    · subst hv
      refine h g cap w' h2 ?_
      cases A with
      | none => exact h3
      | some a2 => exact h3
/-- what the loops over what is shown keep -/
structure S3 (w4 : World) (mv : Value) (A : Option Addr) (M c b2 e4 : Nat) (lm : List RD) (us : List Int) (i t : Nat) (W : World) : Prop where
  st : ∃ A9 c9 N9, N9 = (jsF us i t).length ∧ W.ownsRow e4 33 1 (.slice A9 N9 c9) N9 (((jsF us i t).map fun j => lm.getD j rd0).map RD.v) ∧ W.heap[b2]? = some (.cells #[mv, .slice A M c, .slice A9 N9 c9] 26 (0, 0))
  wi : Wi b2 (b2 + 1) w4 W
  sz : e4 ≤ W.heap.size
theorem s3_step {w4 W W5 : World} {mv : Value} {A A9 : Option Addr} {M c b2 e4 i t c9 N9 g c5 : Nat} {lm : List RD} {us : List Int} (h : S3 w4 mv A M c b2 e4 lm us i t W) (hb : b2 < e4) (he : w4.heap.size = e4) (hN : N9 = (jsF us i t).length) (hown : W.ownsRow e4 33 1 (.slice A9 N9 c9) N9 (((jsF us i t).map fun j => lm.getD j rd0).map RD.v))
    (hbox : W.heap[b2]? = some (.cells #[mv, .slice A M c, .slice A9 N9 c9] 26 (0, 0))) (hit : us.getD t 0 = (i : Int)) (y : Value) (hy : y = (lm.getD t rd0).v)
    (ho : W5.ownsRow e4 33 1 (.slice (some ⟨g, 0, none⟩) (N9 + 1) c5) (N9 + 1) (((jsF us i t).map fun j => lm.getD j rd0).map RD.v ++ [y])) (hg : (W.alloc (.cells #[y] 33)).drew.grownBy W5 (A9.map (·.block))) :
    S3 w4 mv A M c b2 e4 lm us i (t + 1) (W5.setCell ⟨b2, 2, none⟩ (.slice (some ⟨g, 0, none⟩) (N9 + 1) c5)) ∧ W5.heap[b2]? = some (.cells #[mv, .slice A M c, .slice A9 N9 c9] 26 (0, 0)) := by
  have hlo := fun k hk => own_lo hown k hk
  have hsz := h.sz
  have hbV : Below W.heap.size W (W.alloc (.cells #[y] 33)).drew := below_new W _
  have hb5 : W5.heap[b2]? = some (.cells #[mv, .slice A M c, .slice A9 N9 c9] 26 (0, 0)) := by
    refine (hg.block b2 (Nat.lt_of_lt_of_le (by omega) hbV.size) (fun e => ?_)).trans ((hbV.block b2 (by omega)).trans hbox)
    have := hlo b2 e.symm
    omega
  have hg6 : W5.grownBy (W5.setCell ⟨b2, 2, none⟩ (.slice (some ⟨g, 0, none⟩) (N9 + 1) c5)) (some b2) := set_gr W5 b2 2 _
  refine ⟨⟨⟨some ⟨g, 0, none⟩, c5, N9 + 1, ?_, ?_, heap_setCell_same W5 b2 2 _ _ _ hb5⟩, ?_, ?_⟩, hb5⟩
  · rw [js_hit hit, List.length_append, ← hN]; rfl
  · rw [js_hit hit, List.map_append, List.map_append]
    rw [hy] at ho
    exact own_gr ho hg6 (fun k hk e => by
      have := own_lo ho k hk
      simp only [Option.some.injEq] at e
      omega)
  · refine ⟨hg6.os.trans (hg.os.trans (hbV.os.trans h.wi.os)), hg6.tape.trans (hg.tape.trans (hbV.tape.trans h.wi.tape)), hg6.output.trans (hg.output.trans (hbV.output.trans h.wi.output)), ?_, fun k hk ho2 => ?_⟩
    · exact Nat.le_trans h.wi.size (Nat.le_trans hbV.size (Nat.le_trans hg.size hg6.size))
    · have hkW : k < W.heap.size := Nat.lt_of_lt_of_le hk h.wi.size
      have hkV : k < (W.alloc (.cells #[y] 33)).drew.heap.size := Nat.lt_of_lt_of_le hkW hbV.size
      refine (hg6.block k (Nat.lt_of_lt_of_le hkV hg.size) (fun e => ?_)).trans ((hg.block k hkV (fun e => ?_)).trans ((hbV.block k hkW).trans (h.wi.block k hk ho2)))
      · simp only [Option.some.injEq] at e
        omega
      · have := hlo k e.symm
        omega
  · exact Nat.le_trans hsz (Nat.le_trans hbV.size (Nat.le_trans hg.size hg6.size))
theorem s3_miss {w4 W : World} {mv : Value} {A : Option Addr} {M c b2 e4 i t : Nat} {lm : List RD} {us : List Int} (h : S3 w4 mv A M c b2 e4 lm us i t W) (hit : us.getD t 0 ≠ (i : Int)) : S3 w4 mv A M c b2 e4 lm us i (t + 1) W :=
  ⟨by rw [js_miss hit]; exact h.st, h.wi, h.sz⟩
theorem s3_next {w4 W : World} {mv : Value} {A : Option Addr} {M c b2 e4 i t : Nat} {lm : List RD} {us : List Int} (h : S3 w4 mv A M c b2 e4 lm us i t W) (ht : t = us.length) : S3 w4 mv A M c b2 e4 lm us (i + 1) 0 W :=
  ⟨by rw [js_next, ← ht]; exact h.st, h.wi, h.sz⟩
theorem shown_row {W : World} {lo2 e2 e4 b2 N cm c9 : Nat} {Am A9 : Option Addr} {lm : List RD} (hm : SSRow W lo2 e2 Am N cm lm) (js : List Nat) (hnd : js.Nodup) (hjs : ∀ j ∈ js, j < N) (N9 : Nat) (hN9 : N9 = js.length)
    (ho : W.ownsRow e4 33 1 (.slice A9 N9 c9) N9 ((js.map fun j => lm.getD j rd0).map RD.v)) (hb : b2 ≤ lo2) (hb4 : b2 ≤ e4) : SSRow W b2 W.heap.size A9 N9 c9 (js.map fun j => lm.getD j rd0) := by
  have hl := hm.len
  have hget : ∀ i, i < js.length → (js.map fun j => lm.getD j rd0).getD i rd0 = lm.getD (js.getD i 0) rd0 ∧ js.getD i 0 < N := fun i hi => by
    have h1 : js.getD i 0 = js[i] := by simp [List.getD_eq_getElem?_getD, List.getElem?_eq_getElem hi]
    refine ⟨?_, by rw [h1]; exact hjs _ (List.getElem_mem _)⟩
    rw [h1, List.getD_eq_getElem?_getD, List.getElem?_eq_getElem (show i < (js.map fun j => lm.getD j rd0).length by rw [List.length_map]; exact hi)]
    simp
  refine ⟨own_mono ho hb4, fun i hi => ?_, fun i j hi hj hne q hq => ?_, fun a ha => ?_, Nat.le_refl _⟩
  · rw [List.length_map] at hi
    obtain ⟨e, hlt⟩ := hget i hi
    rw [e]
    have h := hm.2.1 (js.getD i 0) (by omega)
    exact ⟨own_mono h.1 hb, fun a ha => Nat.lt_of_lt_of_le (h.2.1 a ha) h.2.2, Nat.le_refl _⟩
  · rw [List.length_map] at hi hj
    obtain ⟨e1, l1⟩ := hget i hi
    obtain ⟨e2', l2⟩ := hget j hj
    rw [e1] at hq
    rw [e2']
    refine hm.2.2.1 _ _ (by omega) (by omega) (fun e => hne ?_) q hq
    have h1 : js.getD i 0 = js[i] := by simp [List.getD_eq_getElem?_getD, List.getElem?_eq_getElem hi]
    have h2 : js.getD j 0 = js[j] := by simp [List.getD_eq_getElem?_getD, List.getElem?_eq_getElem hj]
    rw [h1, h2] at e
    rcases Nat.lt_trichotomy i j with h | h | h
    · exact absurd e (List.pairwise_iff_getElem.1 hnd i j hi hj h)
    · exact h
    · exact absurd e.symm (List.pairwise_iff_getElem.1 hnd j i hj hi h)
  · subst ha
    exact (own_lo ho a.block rfl).2
set_option maxHeartbeats 8000000 in
theorem spec_find (n k : Int) (w : World) (h1 : -9223372036854775808 ≤ n) (h2 : n ≤ 9223372036854775807) (h3 : -9223372036854775808 ≤ k) (h4 : k ≤ 9223372036854775807) :
    Calls Try.prog 32 #[.int .i64 n, .int .i64 k] w (IsCB w.heap.size (fndD n k) (fndH n k) (fndS n k) (fndB n k) w) := by
  obtain ⟨W, hW⟩ : ∃ W, W = w.alloc (.cells #[.int .i64 0, .slice none 0 0, .slice none 0 0] 26) := ⟨_, rfl⟩
  have hb0 : Below w.heap.size w W := by rw [hW]; exact Cde.box_below w _
  have hP0 : W.heap[w.heap.size]? = some (.cells #[.int .i64 0, .slice none 0 0, .slice none 0 0] 26 (0, 0)) := by rw [hW]; exact heap_alloc_new w _
  have hs0 : w.heap.size < W.heap.size := by rw [hW]; simp
  have HB0 := Lib.hid hb0
  have HP0 := Lib.hid hP0
  by_cases hn : 1 ≤ n ∧ n ≤ 8
  · have HN := Lib.hid (decide_eq_true hn)
    obtain ⟨u, hu⟩ : ∃ u, min n 3 = u := ⟨_, rfl⟩
    by_cases hk : 1 ≤ k ∧ k ≤ u
    · have HK := Lib.hid (decide_eq_true hk)
      obtain ⟨m, rfl⟩ : ∃ m : Nat, n = (m : Int) := ⟨n.toNat, by omega⟩
      obtain ⟨q, rfl⟩ : ∃ q : Nat, k = (q : Int) := ⟨k.toNat, by omega⟩
      have hq : 1 ≤ q ∧ q ≤ m ∧ m ≤ 8 ∧ q ≤ 3 := by omega
      have eh : handsI (m : Int) (q : Int) = handsF m q 0 := by unfold handsI; rw [if_pos ⟨hn.1, hn.2, hk.1, by omega⟩]; rfl
      have em : messagesI (m : Int) ((q : Int) - 1) = ordersF (q - 1) (imarks 0 m) := by
        unfold messagesI
        rw [if_pos ⟨hn.1, hn.2, by omega, by omega, by omega⟩, Nwp.newF_yes m (by omega), show ((q : Int) - 1).toNat = q - 1 by omega]
      have HCH := Lib.hid (fun V => spec_handsof (m : Int) (q : Int) V (by omega) (by omega) (by omega) (by omega))
      have HCM := Lib.hid (fun V => spec_messages (m : Int) ((q : Int) - 1) V (by omega) (by omega) (by omega) (by omega))
      rw [eh] at HCH
      rw [em] at HCM
      obtain ⟨b, x, hfi, hub, hux⟩ := chk_parts (chk_get (n := m) (k := q) (by omega) (by omega) (by omega) (by omega) (by omega))
      have hAI := all_in (n := m) (k := q) (by omega) (by omega)
      obtain ⟨hm3, hMl⟩ := msgs_ok (n := m) (k := q) (by omega) (by omega)
      have hok := hands_ok (n := (m : Int)) (k := (q : Int)) ⟨hn.1, hn.2, hk.1, by omega⟩ (by omega)
      have hHl : (handsF m q 0).length ≤ 1000 := Nat.le_trans (hands_len _ _ _) (Nat.le_trans (Nat.pow_le_pow_right (by decide) (show m ≤ 8 by omega)) (by decide))
      rw [eh] at hok
      obtain ⟨Hs, hHs⟩ : ∃ l, l = handsF m q 0 := ⟨_, rfl⟩
      obtain ⟨Ms, hMs⟩ : ∃ l, l = ordersF (q - 1) (imarks 0 m) := ⟨_, rfl⟩
      have hne : Hs ≠ [] := by
        rw [hHs]
        exact (hands_some (by omega) (by omega) (by omega)).1
      have hne2 : Ms ≠ [] := by
        rw [hMs]
        exact (hands_some (by omega) (by omega) (by omega)).2
      rw [← hHs] at HCH hok hHl
      rw [← hMs] at HCM hm3 hMl
      rw [← hHs, ← hMs] at hAI
      rw [← hHs] at hfi hub
      rw [← hHs, ← hMs] at hux
      rw [← hMs] at hub
      have EH := Lib.hid (show handsI (m : Int) (q : Int) = Hs by rw [eh, hHs])
      have hfb : fndB (m : Int) (q : Int) = b := by
        unfold fndB
        rw [EH.out, decide_eq_true ⟨by omega, hne⟩, Bool.true_and]
        exact (found_some hfi).1
      obtain ⟨M, hM⟩ : ∃ a, a = Hs.length := ⟨_, rfl⟩
      obtain ⟨N, hN⟩ : ∃ a, a = Ms.length := ⟨_, rfl⟩
      have HM := Lib.hid hM.symm
      have HN2 := Lib.hid hN.symm
      have HAI := Lib.hid hAI
      have HM3 := Lib.hid hm3
      have HOK := Lib.hid hok
      have HFB := Lib.hid hfb
      have HUB := Lib.hid hub
      have HUX := Lib.hid hux
      have HFI := Lib.hid hfi
      have hN0 : 0 < N := by rw [hN]; exact List.length_pos_iff.2 hne2
      have hM1 : M ≤ 1000 := by omega
      have hN1 : N ≤ 1000 := by omega
      have hw64 : IntKind.i64.wrap ((q : Int) - 1) = (q : Int) - 1 := IntWalk.i64_in _ (by omega)
      clear hb0 hP0 eh em hfi hub hux hAI hm3 hMl hok hHl hHs hMs hfb hM hN hn hk hne hne2
      go_enter Try.func32, Try.ntmps32
      go_upto_region 1 with fail
      rw [← hW]
      clear hW
      go_wp2_with fail
      refine (in_any _ 1 8 _).mono ?_
      rintro e w1 ⟨rfl, rfl⟩
      rw [HN.out]
      go_wp2_with fail
      refine (in_any _ 1 _ _).mono ?_
      rintro e w1 ⟨rfl, rfl⟩
      rw [HK.out]
      clear hu
      go_wp2_with fail
      refine (HCH.out _).mono ?_
      rintro e w1 ⟨A, c, rs, rfl, hrs, hrow, hb1⟩
      rw [HM.out] at hrow
      rw [HM.out]
      have HRS := Lib.hid hrs
      have HROW := Lib.hid hrow
      have HP1 := Lib.hid ((hb1.block _ hs0).trans HP0.out)
      have HB1 := Lib.hid (HB0.out.trans (hb1.mono HB0.out.size))
      have hs1 := hb1.size
      clear hrs hrow hb1
      go_wp2_with fail
      refine (HCM.out _).mono ?_
      rintro e w2 ⟨Am, cm, lm, rfl, hlm, hrowm, hb2⟩
      rw [HN2.out] at hrowm
      rw [HN2.out]
      obtain ⟨lo2, hlo2⟩ : ∃ a, a = (w1.alloc (.cells #[.int .i64 (m : Int), .slice A M c, .slice none 0 0] 26)).heap.size := ⟨_, rfl⟩
      have hbx := heap_alloc_new w1 (.cells #[.int .i64 (m : Int), .slice A M c, .slice none 0 0] 26)
      have hbb := Cde.box_below w1 (.cells #[.int .i64 (m : Int), .slice A M c, .slice none 0 0] 26)
      obtain ⟨b2, hb2e⟩ : ∃ a, a = w1.heap.size := ⟨_, rfl⟩
      have hbl : b2 < lo2 := by rw [hlo2, hb2e]; simp
      rw [← hlo2] at hrowm hb2
      rw [← hb2e] at hbx
      have hbw2 : Below w1.heap.size w1 w2 := hbb.trans (hb2.mono (by rw [hlo2]; simp))
      have HBX := Lib.hid ((hb2.block b2 (by omega)).trans hbx)
      have HP2 := Lib.hid ((hbw2.block _ (by omega)).trans HP1.out)
      have HB2 := Lib.hid (HB1.out.trans (hbw2.mono HB1.out.size))
      have HH2 := Lib.hid (show SSRow w2 W.heap.size b2 A M c rs by rw [hb2e]; exact HROW.out.below hbw2)
      have HRM := Lib.hid hrowm
      have HLM := Lib.hid hlm
      have hs2 : lo2 ≤ w2.heap.size := by rw [hlo2]; exact hb2.size
      have hwb : w.heap.size < W.heap.size ∧ W.heap.size ≤ b2 := ⟨hs0, by omega⟩
      obtain ⟨e2, he2⟩ : ∃ a, a = w2.heap.size := ⟨_, rfl⟩
      rw [← he2] at HRM hs2
      obtain ⟨lo, hlo⟩ : ∃ a, a = W.heap.size := ⟨_, rfl⟩
      rw [← hlo] at HH2 hwb
      have HL0 := Lib.hid (show (w2.alloc (.cells #[] 3)).ownsRow e2 3 1 (.slice (some ⟨e2, 0, none⟩) 0 0) 0 (vals []) by rw [he2]; exact lit0 w2)
      have HE2 := Lib.hid he2
      have HBN := Lib.hid (show Below e2 w2 (w2.alloc (.cells #[] 3)) by rw [he2]; exact Cde.box_below w2 _)
      clear hrowm hlm hb2 hbx hbb hbw2 HROW HP1 HP0 HB1 HB0 hs0 hs1 hlo hlo2
      obtain ⟨i0, hi, hz0, hz1, hz2⟩ := info_parts infoInt
      go_wp2
      rw [← he2, ← hb2e]
      clear he2 hb2e
      go_loopw [8, 36] (fun v8 v36 wr => ∃ j : Nat, j ≤ N ∧ v36 = .int .i64 (j : Int) ∧ (∃ A8 c8, v8 = .slice A8 j c8 ∧ wr.ownsRow e2 3 1 (.slice A8 j c8) j (vals (List.replicate j (-1)))) ∧ Below e2 w2 wr) (fun _ v36 _ => N - (intOf v36).toNat)
      case atStart => exact ⟨0, Nat.zero_le _, rfl, ⟨_, _, rfl, HL0.out⟩, HBN.out⟩
      case round =>
        obtain ⟨j, hj, rfl, ⟨A8, c8, rfl, hown⟩, hbe⟩ := hrel
        clear HL0 HBN
        by_cases hlt : j < N
        · have hsz : e2 ≤ wr.heap.size := by rw [HE2.out]; exact hbe.size
          go_wp2_with (at_builtin; refine app_one rfl (.tmp 38) (.tmp 39) 33 rfl e2 3 i0 (.int .i64 0) 8 Try.underlying33 hi hz0 hz1 hz2 (by decide) rfl _ _ _ rfl hown (.int .i64 (-1)) rfl rfl (by omega) (by omega) ?_; intro g c4 w4 hown2 hb4)
          have hbe4 := hbe.trans hb4
          have hown3 : w4.ownsRow e2 3 1 (.slice (some ⟨g, 0, none⟩) (j + 1) c4) (j + 1) (vals (List.replicate (j + 1) (-1))) := by
            unfold vals at hown2 ⊢
            rw [List.replicate_succ', List.map_append]
            exact hown2
          go_roundw
          case rel => exact ⟨j + 1, by omega, by go_num, ⟨_, _, rfl, hown3⟩, hbe4⟩
          case measure => simp [intOf]; omega
        · have hjN : j = N := by omega
          rw [hjN] at hown
          rw [hjN]
          obtain ⟨e3, he3⟩ : ∃ a, a = wr.heap.size := ⟨_, rfl⟩
          have hsz : e2 ≤ e3 := by rw [he3, HE2.out]; exact hbe.size
          have hu0 : usersF Hs Ms 0 = (true, List.replicate N (-1)) := by rw [usersF, HN2.out]
          have HE3 := Lib.hid he3
          have HOWN := Lib.hid hown
          obtain ⟨gu, rfl⟩ := own_shape hown (by omega)
          have hgu : e2 ≤ gu ∧ gu < e3 := by rw [he3]; exact own_lo hown gu rfl
          have HU0 := Lib.hid hu0
          have HBE := Lib.hid hbe
          have hbw3 := HBE.out
          have hbx3 : wr.heap[b2]? = some (.cells #[.int .i64 (m : Int), .slice A M c, .slice none 0 0] 26 (0, 0)) := (hbe.block b2 (by omega)).trans HBX.out
          obtain ⟨k0, k1, k2⟩ := cell3 hbx3
          clear hown hbe hu0 hjN hj hlt he3 hbx3 hbw3
          go_wp2
          go_loopw [9, 45] (fun _ v45 wt => ∃ i : Nat, i ≤ M ∧ v45 = .int .i64 (i : Int) ∧ Hid (S2 Hs Ms gu c8 N e2 w2 i wt)) (fun _ v45 _ => M - (intOf v45).toNat)
          case atStart => exact ⟨0, Nat.zero_le _, rfl, ⟨_, HU0.out, HOWN.out⟩, HBE.out⟩
          case round =>
            obtain ⟨i, hi2, rfl, HS⟩ := hrel
            clear k0 k1 k2 HU0 HBE HOWN
            by_cases hlt : i < M
            · obtain ⟨us, hus, hown⟩ := HS.out.st
              have hbe := HS.out.bel
              obtain ⟨hul, huv⟩ := users_kp HAI.out i (by rw [HM.out]; omega)
              rw [hus] at hul huv
              simp only [HM.out, HN2.out] at hul huv
              obtain ⟨Z, hms, hzs⟩ := make_bools N hN1
              have hgt := (own_lo hown gu rfl).2
              have hE := HE2.out
              have hsw : e2 ≤ wr.heap.size := by rw [hE]; exact hbe.size
              have hbV : Below wr.heap.size wr (wr.alloc (.cells Z 4)).drew := below_new wr _
              have hbe2 : Below e2 w2 (wr.alloc (.cells Z 4)).drew := hbe.trans (hbV.mono hsw)
              have hAt : SSAt (wr.alloc (.cells Z 4)).drew e2 A rs := SSAt.below (by rw [hE]; exact at_of HH2.out) hbe2
              have hMt : SSAt (wr.alloc (.cells Z 4)).drew e2 Am lm := SSAt.below (by rw [hE]; exact at_of HRM.out) hbe2
              have htk := spec_take Hs Ms A Am M c N cm e2 gu c8 wr.heap.size N rs lm HH2.out.len HRS.out HRM.out.len HLM.out HAI.out (fun z hz => ⟨(HOK.out z hz).1, (HOK.out z hz).2.1⟩) HM3.out (fun y hy => Hno.own_cap (HH2.out.2.1 y (by rw [HH2.out.len]; exact hy)).1) hM1 hN1 N i us (List.replicate N false) _ hlt (by rw [cf_rep]; exact Nat.le_refl _) ⟨hul, by simp, huv, Nat.le_refl _⟩ hAt hMt (own_below hown hbV) (hzs wr e2 hsw)
              have hst := users_step hus
              rw [HN2.out] at hst
              generalize takeF Hs Ms (N + 1) i (us, List.replicate N false) = R at *
              obtain ⟨ok, us5, tr5⟩ := R
              have HTK := Lib.hid htk
              have HST := Lib.hid hst
              have HBV := Lib.hid hbe2
              have hsV : wr.heap.size < (wr.alloc (.cells Z 4)).drew.heap.size := by simp [World.drew]
              have HGT := Lib.hid hgt
              have kd : wr.drew.cell? ⟨b2, 1, none⟩ = some (.slice A M c) := (cell3 ((hbe.block b2 (by omega)).trans HBX.out)).2.1
              have HKA := Lib.hid (keepA (o := .cells Z 4) kd)
              clear hus hown hbe hul huv hzs hE hbV hbe2 hAt hMt htk hst HS
              go_wp2
              go_region_held3 (fun w' => w'.cell? ⟨b2, 1, none⟩ = some (.slice A M c)) ((first | exact kd | exact HKA.out | exact kd5)) ((first | (go_at_call 68; refine HTK.out.mono ?_; rintro e w5 ⟨rfl, ho5, ht5, hT5⟩; have HO5 := Lib.hid ho5; have HBE5 := Lib.hid (HBV.out.trans (hT5.below hgu.1 hsw (Nat.le_trans hsw (Nat.le_of_lt hsV)))); clear ho5 ht5 hT5; have kd5 : w5.cell? ⟨b2, 1, none⟩ = some (.slice A M c) := (cell3 ((HBE5.out.block b2 (by omega)).trans HBX.out)).2.1)))
              all_goals
                clear kd kd5
                have hp5 := (HBE5.out.block w.heap.size (by omega)).trans HP2.out
                cases ok with
                | false =>
                  have hbf : b = false := by
                    have h := users_stay (d := M - (i + 1)) (show (usersF Hs Ms (i + 1)).1 = false by rw [HST.out])
                    rw [show i + 1 + (M - (i + 1)) = M by omega, ← HM.out, HUB.out] at h
                    exact h
                  have hf := HFB.out.trans hbf
                  obtain ⟨e1, e2', e3'⟩ := fnd_no hf
                  have HE := Lib.hid (And.intro e1 (And.intro e2' e3'))
                  have HF := Lib.hid hf
                  obtain ⟨q0, q1, q2⟩ := cell3 hp5
                  have f0 := frz hp5 0
                  have f1 := frz hp5 1
                  have f2 := frz hp5 2
                  have HP := Lib.hid (put_box (x := .int .i64 0) (y := .slice none 0 0) (z := .slice none 0 0) hp5 (HB2.out.trans (HBE5.out.mono (by omega))) (Nat.le_refl _))
                  clear e1 e2' e3' hf hbf hp5
                  go_wp2
                  (try simp only [Exit.inBlock, Exit.then])
                  refine bodyPost_ret (results_cs rfl _ rfl rfl HP.out.1) rfl ?_
                  rw [HE.out.1, HE.out.2.1, HE.out.2.2, HF.out]
                  exact cb_none HP.out.2.1
                | true =>
                  clear hp5
                  go_wp2
                  go_roundw
                  case rel => exact ⟨i + 1, by omega, by go_num, ⟨_, HST.out, HO5.out⟩, HBE5.out⟩
                  case measure => simp [intOf]; omega
            · have hiM : i = M := by omega
              rename World => w4
              obtain ⟨us, hus, hown⟩ := HS.out.st
              have hbe := HS.out.bel
              obtain ⟨hul, _⟩ := users_kp HAI.out i (by rw [HM.out]; omega)
              rw [hus] at hul
              simp only [HN2.out] at hul
              have hbt : b = true := by
                have h := HUB.out
                rw [HM.out, ← hiM, hus] at h
                exact h.symm
              have hE := HE2.out
              have hgt := own_lo hown gu rfl
              have hsw : e2 ≤ w4.heap.size := by rw [hE]; exact hbe.size
              obtain ⟨gm, rfl⟩ := own_shape HRM.out.1 (by omega)
              have hgm := own_lo HRM.out.1 gm rfl
              have hgm2 : gm < e2 := HRM.out.2.2.2.1 _ rfl
              have hbx4 : w4.heap[b2]? = some (.cells #[.int .i64 (m : Int), .slice A M c, .slice none 0 0] 26 (0, 0)) := (hbe.block b2 (by omega)).trans HBX.out
              obtain ⟨k0, k1, k2⟩ := cell3 hbx4
              have HUM := Lib.hid (show (usersF Hs Ms M).2 = us by rw [← hiM, hus])
              have HUL := Lib.hid hul
              have HBT := Lib.hid hbt
              have HO4 := Lib.hid hown
              have HBE4 := Lib.hid hbe
              obtain ⟨e4, he4⟩ : ∃ a, a = w4.heap.size := ⟨_, rfl⟩
              have HE4 := Lib.hid he4.symm
              rw [← he4] at hgt hsw
              have HS30 := Lib.hid (show S3 w4 (.int .i64 (m : Int)) A M c b2 e4 lm us 0 0 w4 from ⟨⟨none, 0, 0, rfl, World.ownsRow_nil _ _ _ _, hbx4⟩, Wi.refl _ _ _, by omega⟩)
              have hgml := hgm.1
              clear hus hul hbt hown hbe hE he4 hbx4 HS hgm hiM
              go_wp2
              go_loopw [10, 63] (fun _ v63 wt => ∃ i : Nat, i ≤ M ∧ v63 = .int .i64 (i : Int) ∧ Hid (S3 w4 (.int .i64 (m : Int)) A M c b2 e4 lm us i 0 wt)) (fun _ v63 _ => M - (intOf v63).toNat)
              case atStart => exact ⟨0, Nat.zero_le _, rfl, HS30⟩
              case round =>
                obtain ⟨a, ha, rfl, HT⟩ := hrel
                clear k0 k1 k2 HS30
                by_cases hlt3 : a < M
                · have HT0 := HT
                  clear HT
                  go_wp2
                  go_loopw [11, 12, 68] (fun _ _ v68 wt => ∃ t : Nat, t ≤ N ∧ v68 = .int .i64 (t : Int) ∧ Hid (S3 w4 (.int .i64 (m : Int)) A M c b2 e4 lm us a t wt)) (fun _ _ v68 _ => N - (intOf v68).toNat)
                  case atStart => exact ⟨0, Nat.zero_le _, rfl, HT0⟩
                  case round =>
                    obtain ⟨t, ht, rfl, HT⟩ := hrel
                    clear HT0
                    by_cases hlt4 : t < N
                    · have hwi := HT.out.wi
                      have hsz4 := HT.out.sz
                      have hou := own_wi HO4.out hwi (fun k hk => by
                        have e : gu = k := by simpa using hk
                        omega)
                      have hcu : wr.cell? ⟨gu, t, none⟩ = some (.int .i64 (us.getD t 0)) := (hou.cellAt t (by omega)).trans (Pfn.vals_get (by rw [HUL.out]; exact hlt4))
                      obtain ⟨ux, hux⟩ : ∃ y, y = us.getD t 0 := ⟨_, rfl⟩
                      rw [← hux] at hcu
                      by_cases hit : us.getD t 0 = (a : Int)
                      · have hxe : (ux == (a : Int)) = true := by rw [beq_iff_eq, hux]; exact hit
                        obtain ⟨A9, c9, N9, hN9, hown9, hbox9⟩ := HT.out.st
                        have hN9l : N9 ≤ 1000 := by rw [hN9]; exact Nat.le_trans (js_len us a t (by rw [HUL.out]; omega)) (by rw [HUL.out]; exact hN1)
                        have hm9 : SSRow wr lo2 e2 (some ⟨gm, 0, none⟩) N cm lm := (HRM.out.below (HBE4.out.mono (by rw [HE2.out]; exact Nat.le_refl _))).wi hwi (Or.inr (by omega))
                        obtain ⟨g', hge, hcm⟩ := hm9.cell t hlt4
                        obtain rfl : gm = g' := by simpa using hge
                        obtain ⟨Av, nv, cw, hv⟩ : ∃ A n c, Value.slice A n c = (lm.getD t rd0).v := ⟨_, _, _, rfl⟩
                        rw [← hv] at hcm
                        have hv1 : (Value.slice Av nv cw).oneCell' = true := rfl
                        have hbV : Below wr.heap.size wr (wr.alloc (.cells #[.slice Av nv cw] 33)).drew := below_new wr _
                        have HSTEP := Lib.hid (fun (w5 : World) (g c5 : Nat) ho hg => s3_step (W5 := w5) (g := g) (c5 := c5) HT.out (by omega) HE4.out hN9 hown9 hbox9 hit (.slice Av nv cw) hv ho hg)
                        have hownA := own_below hown9 hbV
                        have hcv : (wr.alloc (.cells #[.slice Av nv cw] 33)).drew.cell? ⟨wr.heap.size, 0, none⟩ = some (.slice Av nv cw) := by
                          have h : (wr.alloc (.cells #[.slice Av nv cw] 33)).drew.heap[wr.heap.size]? = some (.cells #[.slice Av nv cw] 33 (0, 0)) := heap_alloc_new wr (.cells #[.slice Av nv cw] 33)
                          unfold World.cell?
                          rw [h]
                          rfl
                        have k2d : wr.drew.cell? ⟨b2, 2, none⟩ = some (.slice A9 N9 c9) := (cell3 hbox9).2.2
                        have k2A : (wr.alloc (.cells #[.slice Av nv cw] 33)).drew.cell? ⟨b2, 2, none⟩ = some (.slice A9 N9 c9) := keepA k2d
                        have kmd : wr.drew.cell? ⟨gm, t, none⟩ = some (.slice Av nv cw) := hcm
                        have kmA : (wr.alloc (.cells #[.slice Av nv cw] 33)).drew.cell? ⟨gm, t, none⟩ = some (.slice Av nv cw) := keepA kmd
                        obtain ⟨i1, hj1, hy0, hy1, hy2⟩ := infos_parts
                        have HLO9 := Lib.hid (fun k hk => own_lo hown9 k hk)
                        have hszA : e4 ≤ (wr.alloc (.cells #[.slice Av nv cw] 33)).drew.heap.size := Nat.le_trans hsz4 hbV.size
                        have hgmA : gm < (wr.alloc (.cells #[.slice Av nv cw] 33)).drew.heap.size := by omega
                        clear hux hwi hou hit hN9 hown9 hbox9 hm9 hge hcm hv hbV HT
                        go_wp2
                        go_region_law (refine step_app_v rfl (.tmp 77) (.tmp 82) 24 rfl e4 33 i1 (.slice none 0 0) 24 Try.underlying24 hj1 hy0 hy1 hy2 (by decide) rfl A9 c9 N9 _ rfl hownA wr.heap.size (.slice Av nv cw) hv1 rfl hcv (by omega) hszA ?_; intro g c5 w5 ho5 hg5; obtain ⟨hs5, hb5⟩ := HSTEP.out w5 g c5 ho5 hg5; have HS5 := Lib.hid hs5; have k25 := (cell3 hb5).2.2; have f25 := frz hb5 2; have km5 := Wit.grown_cell (W := (wr.alloc (.cells #[.slice Av nv cw] 33)).drew) kmA hgmA hg5 (fun k hk => by have := HLO9.out k hk; show gm ≠ k; omega); have km6 := Wit.grown_cell (W := w5) (v := .slice Av nv cw) km5 (Nat.lt_of_lt_of_le hgmA hg5.size) (set_gr w5 b2 2 (.slice (some ⟨g, 0, none⟩) (N9 + 1) c5)) (fun k hk => by simp only [Option.some.injEq] at hk; show gm ≠ k; omega); clear hs5 hb5 ho5)
                        all_goals
                          go_wp2
                          go_roundw
                          case rel => exact ⟨t + 1, by omega, by go_num, HS5⟩
                          case measure => simp [intOf]; omega
                      · have hxe : (ux == (a : Int)) = false := by rw [beq_eq_false_iff_ne, hux]; exact hit
                        have HS5 := Lib.hid (s3_miss HT.out hit)
                        clear hux hwi hou hit HT
                        go_wp2
                        go_roundw
                        case rel => exact ⟨t + 1, by omega, by go_num, HS5⟩
                        case measure => simp [intOf]; omega
                    · have HS5 := Lib.hid (s3_next HT.out (show t = us.length by rw [HUL.out]; omega))
                      clear HT
                      go_wp2
                      go_roundw
                      case rel => exact ⟨a + 1, by omega, by go_num, HS5⟩
                      case measure => simp [intOf]; omega
                · have haM : a = M := by omega
                  have h := HT.out
                  rw [haM] at h
                  obtain ⟨A9, c9, N9, hN9, hown9, hbox9⟩ := h.st
                  have hwi := h.wi
                  have hjz := js_zs Ms us M
                  have hfb : fndB (m : Int) (q : Int) = true := HFB.out.trans HBT.out
                  obtain ⟨e1, e2', e3'⟩ := fnd_yes hfb
                  have hss : fndS (m : Int) (q : Int) = (jsF us M 0).map fun j => Ms.getD j [] := by
                    have hux := HUX.out HBT.out
                    rw [HM.out, HUM.out] at hux
                    rw [hjz, e2', EH.out, (found_some HFI.out).2 HBT.out, hux]
                  have hrz : ((jsF us M 0).map fun j => lm.getD j rd0).map RD.zs = (jsF us M 0).map fun j => Ms.getD j [] := by
                    rw [List.map_map]
                    refine List.map_congr_left fun j hj => ?_
                    have hjl : j < lm.length := by
                      rw [HRM.out.len, ← HUL.out]
                      exact js_mem (Nat.zero_le _) hj
                    exact (Col.map_get HLM.out hjl).1
                  have hm9 : SSRow wr lo2 e2 (some ⟨gm, 0, none⟩) N cm lm := (HRM.out.below (HBE4.out.mono (by rw [HE2.out]; exact Nat.le_refl _))).wi hwi (Or.inr (by omega))
                  have hh9 : SSRow wr lo b2 A M c rs := (HH2.out.below (HBE4.out.mono (by rw [HE2.out]; exact Nat.le_refl _))).wi hwi (Or.inl (Nat.le_refl _))
                  have hs9 := shown_row (b2 := b2) hm9 (jsF us M 0) (js_nodup us M 0) (fun j hj => by rw [← HUL.out]; exact js_mem (Nat.zero_le _) hj) N9 hN9 hown9 (by omega) (by omega)
                  have hp9 : wr.heap[w.heap.size]? = some (.cells #[.int .i64 0, .slice none 0 0, .slice none 0 0] 26 (0, 0)) := (hwi.block _ (by rw [HE4.out]; omega) (Or.inl (by omega))).trans ((HBE4.out.block _ (by omega)).trans HP2.out)
                  have hB9 : Below w.heap.size w wr := (HB2.out.trans (HBE4.out.mono (by omega))).trans ⟨hwi.os, hwi.tape, hwi.output, hwi.size, fun k hk => hwi.block k (by rw [HE4.out]; omega) (Or.inl (by omega))⟩
                  obtain ⟨q0, q1, q2⟩ := cell3 hbox9
                  obtain ⟨p0, p1, p2⟩ := cell3 hp9
                  have f0 := frz hp9 0
                  have f1 := frz hp9 1
                  have f2 := frz hp9 2
                  have HP := Lib.hid (put_box (x := .int .i64 (m : Int)) (y := .slice A M c) (z := .slice A9 N9 c9) hp9 hB9 (Nat.le_refl _))
                  have HLEN := Lib.hid (show (fndS (m : Int) (q : Int)).length = N9 by rw [hss, List.length_map, hN9])
                  have HRZ := Lib.hid (show ((jsF us M 0).map fun j => lm.getD j rd0).map RD.zs = fndS (m : Int) (q : Int) by rw [hrz, hss])
                  have HH9 := Lib.hid hh9
                  have HS9 := Lib.hid hs9
                  have HE := Lib.hid (And.intro (e1.trans EH.out) e3')
                  have HF := Lib.hid hfb
                  have hln := loadC hbox9
                  clear haM h hN9 hown9 hbox9 hwi hjz hfb e1 e2' e3' hss hrz hm9 hh9 hs9 hp9 hB9 HT
                  go_wp2
                  (try simp only [Exit.inBlock, Exit.then])
                  refine bodyPost_ret (results_cs rfl _ rfl rfl HP.out.1) rfl ?_
                  rw [HE.out.1, HE.out.2, HF.out]
                  have hg := HP.out.2.2
                  refine ⟨A, c, A9, c9, rs, (jsF us M 0).map fun j => lm.getD j rd0, by rw [HLEN.out, HM.out]; rfl, HRS.out, HRZ.out, ?_, HP.out.2.1⟩
                  rw [HLEN.out, HM.out]
                  exact (CR.grown (W := wr) ⟨b2, HH9.out, HS9.out, by omega, HH9.out.2.2.2.2⟩ hg (fun k hk => by simp only [Option.some.injEq] at hk; omega)).top (by omega)
    · have HK := Lib.hid (decide_eq_false hk)
      have hf : fndB n k = false := by
        unfold fndB
        rw [decide_eq_false, Bool.false_and]
        rintro ⟨g1, g2⟩
        apply g2
        unfold handsI
        rw [if_neg]
        rintro ⟨_, _, g3, g4⟩
        exact hk ⟨g3, by omega⟩
      obtain ⟨e1, e2, e3⟩ := fnd_no hf
      rw [e1, e2, e3, hf]
      obtain ⟨q0, q1, q2⟩ := cell3 hP0
      have f0 := frz hP0 0
      have f1 := frz hP0 1
      have f2 := frz hP0 2
      have HP := Lib.hid (put_box (x := .int .i64 0) (y := .slice none 0 0) (z := .slice none 0 0) hP0 hb0 (Nat.le_refl _))
      clear e1 e2 e3 hf hk hb0 hP0 hn
      go_enter Try.func32, Try.ntmps32
      go_upto_region 1 with fail
      rw [← hW]
      clear hW
      go_wp2_with fail
      refine (in_any _ 1 8 _).mono ?_
      rintro e w1 ⟨rfl, rfl⟩
      rw [HN.out]
      go_wp2_with fail
      refine (in_any _ 1 _ _).mono ?_
      rintro e w1 ⟨rfl, rfl⟩
      rw [HK.out]
      go_wp2
      (try simp only [Exit.inBlock, Exit.then])
      refine bodyPost_ret (results_cs rfl _ rfl rfl HP.out.1) rfl ?_
      exact cb_none HP.out.2.1
  · have HN := Lib.hid (decide_eq_false hn)
    have hf : fndB n k = false := by
      unfold fndB
      rw [decide_eq_false, Bool.false_and]
      rintro ⟨g1, g2⟩
      apply g2
      unfold handsI
      rw [if_neg]
      rintro ⟨g3, g4, _⟩
      exact hn ⟨g3, g4⟩
    obtain ⟨e1, e2, e3⟩ := fnd_no hf
    rw [e1, e2, e3, hf]
    obtain ⟨q0, q1, q2⟩ := cell3 hP0
    have f0 := frz hP0 0
    have f1 := frz hP0 1
    have f2 := frz hP0 2
    have HP := Lib.hid (put_box (x := .int .i64 0) (y := .slice none 0 0) (z := .slice none 0 0) hP0 hb0 (Nat.le_refl _))
    clear e1 e2 e3 hf hn hb0 hP0
    go_enter Try.func32, Try.ntmps32
    go_upto_region 1 with fail
    rw [← hW]
    clear hW
    go_wp2_with fail
    refine (in_any _ 1 8 _).mono ?_
    rintro e w1 ⟨rfl, rfl⟩
    rw [HN.out]
    go_wp2
    (try simp only [Exit.inBlock, Exit.then])
    refine bodyPost_ret (results_cs rfl _ rfl rfl HP.out.1) rfl ?_
    exact cb_none HP.out.2.1
theorem fndH_small (n k : Int) : SmallSS (fndH n k) := by
  unfold fndH
  split
  · exact Him.hands_small n k
  · exact ⟨Nat.zero_le _, fun z hz => by cases hz⟩
theorem fndS_small (n k : Int) : SmallSS (fndS n k) := by
  by_cases hb : fndB n k = true
  · have hb0 := hb
    unfold fndB at hb
    obtain ⟨hb1, hb2⟩ := Bool.and_eq_true_iff.1 hb
    obtain ⟨k3, hne⟩ := of_decide_eq_true hb1
    have hr : 1 ≤ n ∧ n ≤ 8 ∧ 1 ≤ k ∧ k ≤ n := by
      by_cases h : 1 ≤ n ∧ n ≤ 8 ∧ 1 ≤ k ∧ k ≤ n
      · exact h
      · exact absurd (by unfold handsI; rw [if_neg h]) hne
    obtain ⟨b, x, hfi, hub, hux⟩ := chk_parts (chk_get (n := n.toNat) (k := k.toNat) (by omega) (by omega) (by omega) (by omega) (by omega))
    have eh : handsI n k = handsF n.toNat k.toNat 0 := by unfold handsI; rw [if_pos hr]
    obtain ⟨g1, g2⟩ := found_some hfi
    rw [eh] at hb2
    have hbt : b = true := by rw [← g1]; exact hb2
    obtain ⟨e1, e2, e3⟩ := fnd_yes hb0
    have hm := msgs_ok (n := n.toNat) (k := k.toNat) (by omega) (by omega)
    have hk := users_kp (all_in (n := n.toNat) (k := k.toNat) (by omega) (by omega)) (handsF n.toNat k.toNat 0).length (Nat.le_refl _)
    rw [e2, eh, g2 hbt, hux hbt]
    generalize (usersF (handsF n.toNat k.toNat 0) (ordersF (k.toNat - 1) (imarks 0 n.toNat)) (handsF n.toNat k.toNat 0).length).2 = us at *
    rw [← js_zs]
    have hl := js_len us (handsF n.toNat k.toNat 0).length 0 (Nat.zero_le _)
    refine ⟨by rw [List.length_map]; omega, fun z hz => ?_⟩
    obtain ⟨j, hj, rfl⟩ := List.mem_map.1 hz
    have hj2 := js_mem (Nat.zero_le _) hj
    rw [hk.1] at hj2
    have hin : (ordersF (k.toNat - 1) (imarks 0 n.toNat)).getD j [] ∈ ordersF (k.toNat - 1) (imarks 0 n.toNat) := by
      rw [List.getD_eq_getElem?_getD, List.getElem?_eq_getElem hj2]
      exact List.getElem_mem _
    have := hm.1 _ hin
    omega
  · rw [(fnd_no (by simpa using hb)).2.1]
    exact ⟨Nat.zero_le _, fun z hz => by cases hz⟩
end Go.Proofs.Ytingbpkbdafgeaa.Fcs
