/- Lists of lists of ints in memory of the call's own: what the laws' helpers eqIntSS, markIntSS and heldIntSS do with them. -/
import Derived.Test.YtibephoepkofnaaPkt
set_option linter.unusedVariables false
set_option maxRecDepth 20000
namespace Go.Proofs.Ytibephoepkofnaa.Rws
open Go.RowKit Fr Own Ins

theorem infoInts : (Try.prog.info? 32).map (fun i => (i.zero, i.size, i.bytes)) = some (some (.slice none 0 0), 1, 24) := by kernel_rfl
theorem infos_parts : ∃ i, Try.prog.info? 32 = some i ∧ i.zero = some (.slice none 0 0) ∧ i.size = 1 ∧ i.bytes = 24 := by
  have h := infoInts
  cases hi : Try.prog.info? 32 with
  | none => rw [hi] at h; cases h
  | some i =>
    rw [hi] at h
    simp only [Option.map_some, Option.some.injEq, Prod.mk.injEq] at h
    exact ⟨i, rfl, h.1, h.2.1, h.2.2⟩

/-- one list in memory: where, its capacity, its elements -/
structure RD where
  A : Option Addr
  c : Nat
  zs : List Int
def rd0 : RD := ⟨none, 0, []⟩
def RD.v (r : RD) : Value := .slice r.A r.zs.length r.c
def RD.b (r : RD) : Option Nat := r.A.map (·.block)

/-- a list of lists: the outer row and the inner ones, no two in one block, from lo on and below hi -/
def SSRow (W : World) (lo hi : Nat) (A : Option Addr) (n c : Nat) (rs : List RD) : Prop :=
  W.ownsRow lo 32 1 (.slice A n c) n (rs.map RD.v) ∧
  (∀ i, i < rs.length → Row W lo hi (rs.getD i rd0).A (rs.getD i rd0).zs.length (rs.getD i rd0).c (rs.getD i rd0).zs) ∧
  (∀ i j, i < rs.length → j < rs.length → i ≠ j → ∀ b, (rs.getD i rd0).b = some b → (rs.getD j rd0).b ≠ some b) ∧
  (∀ a, A = some a → a.block < hi) ∧ hi ≤ W.heap.size

/-- nothing but blocks from lo on and below hi changes -/
structure Wi (lo hi : Nat) (W W' : World) : Prop where
  os : W'.os = W.os
  tape : W'.tape = W.tape
  output : W'.output = W.output
  size : W.heap.size ≤ W'.heap.size
  block : ∀ k, k < W.heap.size → (k < lo ∨ hi ≤ k) → W'.heap[k]? = W.heap[k]?
theorem Wi.refl (lo hi : Nat) (W : World) : Wi lo hi W W := ⟨rfl, rfl, rfl, Nat.le_refl _, fun _ _ _ => rfl⟩
theorem Wi.grown {lo hi : Nat} {W W1 W2 : World} {row : Option Nat} (h : Wi lo hi W W1) (hg : W1.grownBy W2 row) (hr : ∀ k, row = some k → lo ≤ k ∧ k < hi) : Wi lo hi W W2 :=
  ⟨hg.os.trans h.os, hg.tape.trans h.tape, hg.output.trans h.output, Nat.le_trans h.size hg.size, fun k hk ho =>
    (hg.block k (Nat.lt_of_lt_of_le hk h.size) (fun e => by have := hr k e.symm; omega)).trans (h.block k hk ho)⟩
theorem below_wi {B lo hi : Nat} {a w w' : World} (h : Below B a w) (hw : Wi lo hi w w') (hB : B ≤ w.heap.size) (hl : B ≤ lo) : Below B a w' :=
  ⟨hw.os.trans h.os, hw.tape.trans h.tape, hw.output.trans h.output, Nat.le_trans h.size hw.size, fun k hk => (hw.block k (by omega) (Or.inl (by omega))).trans (h.block k hk)⟩
theorem own_wi {lo hi B : Nat} {W W' : World} {e : TypeId} {size : Nat} {A : Option Addr} {n c m : Nat} {xs : List Value} (h : W.ownsRow B e size (.slice A n c) m xs) (hw : Wi lo hi W W') (hA : ∀ k, A.map (·.block) = some k → k < lo ∨ hi ≤ k) : W'.ownsRow B e size (.slice A n c) m xs := by
  refine ⟨h.1, ?_⟩
  rcases h.2 with h2 | ⟨g, cap, cur, hv, hg, hh, r⟩
  · exact Or.inl h2
  · refine Or.inr ⟨g, cap, cur, hv, hg, ?_, r⟩
    simp only [Value.slice.injEq] at hv
    obtain ⟨rfl, rfl, rfl⟩ := hv
    rw [hw.block g (Array.getElem?_eq_some_iff.1 hh).1 (hA g rfl)]
    exact hh
theorem row_wi {lo hi lo2 hi2 : Nat} {W W' : World} {A : Option Addr} {n c : Nat} {zs : List Int} (h : Row W lo hi A n c zs) (hw : Wi lo2 hi2 W W') (hd : hi ≤ lo2 ∨ hi2 ≤ lo) : Row W' lo hi A n c zs := by
  refine ⟨own_wi h.1 hw fun k hk => ?_, h.2.1, Nat.le_trans h.2.2 hw.size⟩
  have h1 := h.lo k hk
  have h2 := h.hi k hk
  omega
theorem at_wi {lo hi B : Nat} {W W' : World} {A : Option Addr} {zs : List Int} (h : IntsAt W B .i64 A zs) (hw : Wi lo hi W W') (hB : B ≤ W.heap.size) (hl : B ≤ lo) : IntsAt W' B .i64 A zs :=
  h.below (below_wi (Below.refl B W) hw hB hl)
/-- rows of different types lie in different blocks -/
theorem own_diff {W : World} {B B' : Nat} {e e' : TypeId} {s s' : Nat} {A A' : Option Addr} {n n' c c' m m' : Nat} {xs xs' : List Value} (h : W.ownsRow B e s (.slice A n c) m xs) (h' : W.ownsRow B' e' s' (.slice A' n' c') m' xs') (he : e ≠ e') :
    ∀ b, A.map (·.block) = some b → A'.map (·.block) ≠ some b := by
  intro b hb hb'
  rcases h.2 with ⟨h2, _⟩ | ⟨g, cap, cur, hv, hg, hh, r⟩
  · simp only [Value.slice.injEq] at h2
    rw [h2.1] at hb; cases hb
  · rcases h'.2 with ⟨h3, _⟩ | ⟨g', cap', cur', hv', hg', hh', r'⟩
    · simp only [Value.slice.injEq] at h3
      rw [h3.1] at hb'; cases hb'
    · simp only [Value.slice.injEq] at hv hv'
      rw [hv.1] at hb
      rw [hv'.1] at hb'
      simp only [Option.map_some, Option.some.injEq] at hb hb'
      subst hb
      subst hb'
      rw [hh] at hh'
      simp only [Option.some.injEq, Obj.cells.injEq] at hh'
      exact he hh'.2.1
section
variable {W W' : World} {lo hi : Nat} {A : Option Addr} {n c : Nat} {rs : List RD}
theorem SSRow.len (h : SSRow W lo hi A n c rs) : rs.length = n := by have := h.1.1; simpa using this
theorem SSRow.outlo (h : SSRow W lo hi A n c rs) : ∀ k, A.map (·.block) = some k → lo ≤ k := by
  intro k hk
  cases A with
  | none => cases hk
  | some a =>
    simp only [Option.map_some, Option.some.injEq] at hk
    subst hk
    exact (h.1.lt a.block rfl).1
theorem SSRow.outhi (h : SSRow W lo hi A n c rs) : ∀ k, A.map (·.block) = some k → k < hi := by
  intro k hk
  cases A with
  | none => cases hk
  | some a =>
    simp only [Option.map_some, Option.some.injEq] at hk
    subst hk
    exact h.2.2.2.1 a rfl
theorem SSRow.below (h : SSRow W lo hi A n c rs) (hb : Below W.heap.size W W') : SSRow W' lo hi A n c rs :=
  ⟨own_below h.1 hb, fun i hi => (h.2.1 i hi).below hb, h.2.2.1, h.2.2.2.1, Nat.le_trans h.2.2.2.2 hb.size⟩
theorem SSRow.grown {row : Option Nat} (h : SSRow W lo hi A n c rs) (hg : W.grownBy W' row) (hr : ∀ k, row = some k → k < lo ∨ hi ≤ k) : SSRow W' lo hi A n c rs := by
  refine ⟨h.1.kept hg ?_, fun i hi => (h.2.1 i hi).grown hg hr, h.2.2.1, h.2.2.2.1, Nat.le_trans h.2.2.2.2 hg.size⟩
  cases A with
  | none => exact Or.inl rfl
  | some a =>
    refine Or.inr fun e => ?_
    have h1 := h.outlo a.block rfl
    have h2 := h.outhi a.block rfl
    have := hr a.block e.symm
    omega
theorem SSRow.wi {lo2 hi2 : Nat} (h : SSRow W lo hi A n c rs) (hw : Wi lo2 hi2 W W') (hd : hi ≤ lo2 ∨ hi2 ≤ lo) : SSRow W' lo hi A n c rs := by
  refine ⟨own_wi h.1 hw fun k hk => ?_, fun i hi => row_wi (h.2.1 i hi) hw hd, h.2.2.1, h.2.2.2.1, Nat.le_trans h.2.2.2.2 hw.size⟩
  have h1 := h.outlo k hk
  have h2 := h.outhi k hk
  omega
/-- what lies at place j of the outer row -/
theorem SSRow.cell (h : SSRow W lo hi A n c rs) (j : Nat) (hj : j < n) : ∃ g, A = some ⟨g, 0, none⟩ ∧ W.cell? ⟨g, j, none⟩ = some (rs.getD j rd0).v := by
  have hl := h.len
  obtain ⟨g, rfl⟩ := own_shape h.1 (by omega)
  refine ⟨g, rfl, ?_⟩
  rw [h.1.cellAt j (by omega)]
  simp [List.getElem?_map, List.getElem?_eq_getElem (show j < rs.length by omega), List.getD_eq_getElem?_getD]
end

/-! ### equal lists -/
theorem ints_drewN {w : World} {B : Nat} {A : Option Addr} {zs : List Int} (h : IntsAt w B .i64 A zs) (d : Nat) : IntsAt (w.drewN d) B .i64 A zs := h.below (below_drewN (Below.refl B w) d)
theorem cell_drewN {w : World} {p : Addr} {v : Value} (h : w.cell? p = some v) (d : Nat) : (w.drewN d).cell? p = some v := by
  rw [← h]; exact World.cell?_of_block ((below_drewN (Below.refl w.heap.size w) d).block _ (World.block_lt_of_cell? w p h))
set_option maxHeartbeats 1000000 in
theorem eq_q (B1 B2 : Nat) (A1 A2 : Option Addr) (n c1 c2 : Nat) (zs : List Int) (w : World) (hn : zs.length = n) (hn2 : n ≤ 4194304) (h1 : IntsAt w B1 .i64 A1 zs) (h2 : IntsAt w B2 .i64 A2 zs) :
    Calls Try.prog 41 #[.slice A1 n c1, .slice A2 n c2] w fun e w' => e = .returned (.bool true) ∧ ∃ d, w' = w.drewN d := by
  have HN := Lib.hid hn
  clear hn
  go_enter Try.func41, Try.ntmps41
  go_wp2
  go_loopw [5] (fun i wr => ∃ k : Nat, k ≤ n ∧ i = .int .i64 k ∧ ∃ d, wr = w.drewN d) (fun i _ => n - (intOf i).toNat)
  case atStart => exact ⟨0, Nat.zero_le _, rfl, 0, rfl⟩
  case round =>
    obtain ⟨k, hk, rfl, d, rfl⟩ := hrel
    by_cases hlt : k < n
    · obtain ⟨b1, o1, rfl, hbb1, hc1⟩ := h1 k (by rw [HN.out]; exact hlt)
      obtain ⟨b2, o2, rfl, hbb2, hc2⟩ := h2 k (by rw [HN.out]; exact hlt)
      generalize zs.getD k 0 = x at hc1 hc2
      go_wp2
      go_quiet (fail)
      go_wp2
      go_roundw
      case rel => exact ⟨k + 1, by omega, by go_num, _, rfl⟩
      case measure => simp [intOf]; omega
    · go_wp2
      go_ret
      exact ⟨rfl, d, rfl⟩

/-! ### marks -/
def tot (rs : List RD) : Nat → Nat
  | 0 => 0
  | j + 1 => tot rs j + (rs.getD j rd0).zs.length
theorem tot_mono (rs : List RD) (i j : Nat) (h : i ≤ j) : tot rs i ≤ tot rs j := by
  induction j with
  | zero => rw [Nat.le_zero.1 h]; exact Nat.le_refl _
  | succ j ih =>
    by_cases e : i = j + 1
    · rw [e]; exact Nat.le_refl _
    · have := ih (by omega); simp only [tot]; omega
def mk1 (k : Int) (r : RD) : RD := ⟨r.A, r.c, imarks k r.zs.length⟩
theorem mk1_v (k : Int) (r : RD) : (mk1 k r).v = r.v := by simp [mk1, RD.v, imarks_length]
theorem mk1_b (k : Int) (r : RD) : (mk1 k r).b = r.b := rfl
/-- the first j rows are marked, from k on -/
def mkTo (k : Int) (rs : List RD) (j : Nat) : List RD := (List.range rs.length).map fun i => if i < j then mk1 (k + (tot rs i : Nat)) (rs.getD i rd0) else rs.getD i rd0
theorem mkTo_len (k : Int) (rs : List RD) (j : Nat) : (mkTo k rs j).length = rs.length := by simp [mkTo]
theorem mkTo_get (k : Int) (rs : List RD) (j i : Nat) (h : i < rs.length) : (mkTo k rs j).getD i rd0 = if i < j then mk1 (k + (tot rs i : Nat)) (rs.getD i rd0) else rs.getD i rd0 := by
  simp [mkTo, List.getD_eq_getElem?_getD, h]
theorem mkTo_old (k : Int) (rs : List RD) (j i : Nat) (h : i < rs.length) (hj : j ≤ i) : (mkTo k rs j).getD i rd0 = rs.getD i rd0 := by
  rw [mkTo_get k rs j i h, if_neg (by omega)]
theorem mkTo_new (k : Int) (rs : List RD) (j i : Nat) (h : i < rs.length) (hj : i < j) : (mkTo k rs j).getD i rd0 = mk1 (k + (tot rs i : Nat)) (rs.getD i rd0) := by
  rw [mkTo_get k rs j i h, if_pos hj]
theorem mkTo_b (k : Int) (rs : List RD) (j i : Nat) (h : i < rs.length) : ((mkTo k rs j).getD i rd0).b = (rs.getD i rd0).b := by
  rw [mkTo_get k rs j i h]; split <;> rfl
theorem mkTo_v (k : Int) (rs : List RD) (j : Nat) : (mkTo k rs j).map RD.v = rs.map RD.v := by
  refine List.ext_getElem (by simp [mkTo]) fun i h1 h2 => ?_
  have hi : i < rs.length := by simpa [mkTo] using h1
  simp only [mkTo, List.map_map, List.getElem_map, List.getElem_range, Function.comp]
  have e : rs.getD i rd0 = rs[i] := by simp [List.getD_eq_getElem?_getD, hi]
  rw [e]
  split
  · exact mk1_v _ _
  · rfl
theorem mkTo_zero (k : Int) (rs : List RD) : mkTo k rs 0 = rs := by
  refine List.ext_getElem (by simp [mkTo]) fun i h1 h2 => ?_
  simp [mkTo, List.getD_eq_getElem?_getD, h2]
theorem blk_none {A : Option Addr} (h : A.map (·.block) = none) : A = none := by cases A <;> simp_all
/-- one row more is marked -/
theorem SSRow.mark1 {W W' : World} {lo hi : Nat} {A : Option Addr} {n c : Nat} {rs : List RD} {k : Int} {j : Nat} (h : SSRow W lo hi A n c (mkTo k rs j)) (hj : j < rs.length)
    (ho : W'.ownsRow lo 3 1 (.slice (rs.getD j rd0).A (rs.getD j rd0).zs.length (rs.getD j rd0).c) (rs.getD j rd0).zs.length ((imarks (k + (tot rs j : Nat)) (rs.getD j rd0).zs.length).map (Value.int .i64)))
    (hg : W.grownBy W' (rs.getD j rd0).b) : SSRow W' lo hi A n c (mkTo k rs (j + 1)) := by
  have hl := mkTo_len k rs j
  have hrow := h.2.1 j (by rw [hl]; exact hj)
  rw [mkTo_old k rs j j hj (Nat.le_refl _)] at hrow
  refine ⟨?_, ?_, ?_, h.2.2.2.1, Nat.le_trans h.2.2.2.2 hg.size⟩
  · rw [mkTo_v, ← mkTo_v k rs j]
    refine h.1.kept hg ?_
    cases A with
    | none => exact Or.inl rfl
    | some a => exact Or.inr fun e => own_diff h.1 hrow.1 (by decide) a.block rfl e.symm
  · intro i hi
    rw [mkTo_len] at hi
    have hr := h.2.1 i (by rw [hl]; exact hi)
    by_cases e : i = j
    · subst e
      rw [mkTo_new k rs (i + 1) i hi (by omega)]
      refine ⟨?_, fun a ha => hrow.2.1 a ha, Nat.le_trans hrow.2.2 hg.size⟩
      show W'.ownsRow lo _ 1 (.slice _ (imarks _ _).length _) (imarks _ _).length _
      rw [imarks_length]
      exact ho
    · have heq : (mkTo k rs (j + 1)).getD i rd0 = (mkTo k rs j).getD i rd0 := by
        rw [mkTo_get k rs (j + 1) i hi, mkTo_get k rs j i hi]
        by_cases h1 : i < j
        · rw [if_pos h1, if_pos (by omega)]
        · rw [if_neg h1, if_neg (by omega)]
      rw [heq]
      refine ⟨hr.1.kept hg ?_, hr.2.1, Nat.le_trans hr.2.2 hg.size⟩
      have hap := h.2.2.1 i j (by rw [hl]; exact hi) (by rw [hl]; exact hj) e
      rw [mkTo_b k rs j j hj] at hap
      cases hA : ((mkTo k rs j).getD i rd0).A with
      | none => exact Or.inl rfl
      | some a => exact Or.inr fun e2 => hap a.block (by unfold RD.b; rw [hA]; rfl) e2.symm
  · intro i i' hi hi' hne b hb
    rw [mkTo_len] at hi hi'
    rw [mkTo_b k rs (j + 1) i hi] at hb
    rw [mkTo_b k rs (j + 1) i' hi']
    have := h.2.2.1 i i' (by rw [hl]; exact hi) (by rw [hl]; exact hi') hne b (by rw [mkTo_b k rs j i hi]; exact hb)
    rw [mkTo_b k rs j i' hi'] at this
    exact this


/-- a call hands back a list of lists of its own -/
def IsSS (B : Nat) (zss : List (List Int)) (w : World) (e : Ending) (w' : World) : Prop :=
  ∃ A c rs, e = .returned (.slice A zss.length c) ∧ rs.map RD.zs = zss ∧ SSRow w' B w'.heap.size A zss.length c rs ∧ Below B w w'
theorem own_lo {W : World} {B : Nat} {e : TypeId} {size : Nat} {A : Option Addr} {n c m : Nat} {xs : List Value} (h : W.ownsRow B e size (.slice A n c) m xs) : ∀ k, A.map (·.block) = some k → B ≤ k ∧ k < W.heap.size := by
  intro k hk
  cases A with
  | none => cases hk
  | some a =>
    simp only [Option.map_some, Option.some.injEq] at hk
    subst hk
    exact h.lt a.block rfl
/-! ### memory -/
theorem own_low {W W' : World} {B hi : Nat} {e : TypeId} {size : Nat} {A : Option Addr} {n c m : Nat} {xs : List Value} (h : W.ownsRow B e size (.slice A n c) m xs) (hA : ∀ k, A.map (·.block) = some k → k < hi) (hb : Below hi W W') : W'.ownsRow B e size (.slice A n c) m xs := by
  refine ⟨h.1, ?_⟩
  rcases h.2 with h2 | ⟨g, cap, cur, hv, hg, hh, r⟩
  · exact Or.inl h2
  · refine Or.inr ⟨g, cap, cur, hv, hg, ?_, r⟩
    simp only [Value.slice.injEq] at hv
    obtain ⟨rfl, rfl, rfl⟩ := hv
    rw [hb.block g (hA g rfl)]
    exact hh
theorem own_gr {W W' : World} {B : Nat} {e : TypeId} {size : Nat} {A : Option Addr} {n c m : Nat} {xs : List Value} {row : Option Nat} (h : W.ownsRow B e size (.slice A n c) m xs) (hg : W.grownBy W' row) (hr : ∀ k, A.map (·.block) = some k → row ≠ some k) : W'.ownsRow B e size (.slice A n c) m xs := by
  refine h.kept hg ?_
  cases A with
  | none => exact Or.inl rfl
  | some a => exact Or.inr fun e => hr a.block rfl e.symm
section
variable {W W' : World} {lo hi : Nat} {A : Option Addr} {n c : Nat} {rs : List RD}
theorem SSRow.under (h : SSRow W lo hi A n c rs) (hb : Below hi W W') : SSRow W' lo hi A n c rs :=
  ⟨own_low h.1 h.outhi hb, fun i hi' => ⟨own_low (h.2.1 i hi').1 (h.2.1 i hi').hi hb, (h.2.1 i hi').2.1, Nat.le_trans (h.2.1 i hi').2.2 hb.size⟩, h.2.2.1, h.2.2.2.1, Nat.le_trans h.2.2.2.2 hb.size⟩
/-- a row of another type is written -/
theorem SSRow.other {B' s' : Nat} {e' : TypeId} {A' : Option Addr} {n' c' m' : Nat} {xs' : List Value} (h : SSRow W lo hi A n c rs) (hs : W.ownsRow B' e' s' (.slice A' n' c') m' xs') (h1 : 32 ≠ e') (h2 : 3 ≠ e') (hg : W.grownBy W' (A'.map (·.block))) : SSRow W' lo hi A n c rs :=
  ⟨own_gr h.1 hg fun k hk e => own_diff h.1 hs h1 k hk e, fun i hi' => ⟨own_gr (h.2.1 i hi').1 hg fun k hk e => own_diff (h.2.1 i hi').1 hs h2 k hk e, (h.2.1 i hi').2.1, Nat.le_trans (h.2.1 i hi').2.2 hg.size⟩, h.2.2.1, h.2.2.2.1, Nat.le_trans h.2.2.2.2 hg.size⟩
theorem SSRow.higher {hi' : Nat} (h : SSRow W lo hi A n c rs) (h1 : hi ≤ hi') (h2 : hi' ≤ W.heap.size) : SSRow W lo hi' A n c rs :=
  ⟨h.1, fun i hi0 => ⟨(h.2.1 i hi0).1, fun a ha => Nat.lt_of_lt_of_le ((h.2.1 i hi0).2.1 a ha) h1, h2⟩, h.2.2.1, fun a ha => Nat.lt_of_lt_of_le (h.2.2.2.1 a ha) h1, h2⟩
theorem SSRow.none_ (W : World) (lo : Nat) : SSRow W lo W.heap.size none 0 0 [] :=
  ⟨World.ownsRow_nil _ _ _ _, fun i hi => absurd hi (Nat.not_lt_zero _), fun i j hi => absurd hi (Nat.not_lt_zero _), (fun a h => by cases h), Nat.le_refl _⟩
theorem SSRow.empty {A : Option Addr} {c : Nat} (h : W.ownsRow lo 32 1 (.slice A 0 c) 0 []) : SSRow W lo W.heap.size A 0 c [] :=
  ⟨h, fun i hi => absurd hi (Nat.not_lt_zero _), fun i j hi => absurd hi (Nat.not_lt_zero _), (fun a e => (h.lt a.block (by subst e; rfl)).2), Nat.le_refl _⟩
/-- one more list is appended -/
theorem SSRow.snoc {b0 : Nat} {A1 A' : Option Addr} {c1 c' : Nat} {zs : List Int} (h : SSRow W lo b0 A n c rs) (hlo : lo ≤ b0) (hin : W.ownsRow b0 3 1 (.slice A1 zs.length c1) zs.length (zs.map (Value.int .i64)))
    (ho : W'.ownsRow lo 32 1 (.slice A' (n + 1) c') (n + 1) (rs.map RD.v ++ [.slice A1 zs.length c1])) (hg : W.grownBy W' (A.map (·.block))) : SSRow W' lo W'.heap.size A' (n + 1) c' (rs ++ [(⟨A1, c1, zs⟩ : RD)]) := by
  have hl := h.len
  have hold : ∀ i, i < rs.length → (rs ++ [(⟨A1, c1, zs⟩ : RD)]).getD i rd0 = rs.getD i rd0 := by
    intro i hi
    simp only [List.getD_eq_getElem?_getD]
    rw [List.getElem?_append_left hi]
  have hnew : (rs ++ [(⟨A1, c1, zs⟩ : RD)]).getD rs.length rd0 = ⟨A1, c1, zs⟩ := by
    simp [List.getD_eq_getElem?_getD]
  have hin' : ∀ k, A1.map (·.block) = some k → b0 ≤ k ∧ k < W.heap.size := by
    intro k hk
    cases A1 with
    | none => cases hk
    | some a =>
      simp only [Option.map_some, Option.some.injEq] at hk
      subst hk
      exact hin.lt a.block rfl
  have hlt : ∀ i, i < rs.length → ∀ b, (rs.getD i rd0).b = some b → b < b0 := fun i hi b hb => (h.2.1 i hi).hi b hb
  refine ⟨?_, ?_, ?_, ?_, Nat.le_refl _⟩
  · rw [List.map_append]; exact ho
  · intro i hi
    rw [List.length_append] at hi
    by_cases e : i < rs.length
    · rw [hold i e]
      have hr := h.2.1 i e
      exact ⟨own_gr hr.1 hg fun k hk e2 => own_diff hr.1 h.1 (by decide) k hk e2, fun a ha => by have h5 := hr.2.1 a ha; have h6 := hr.2.2; have h7 := hg.size; omega, Nat.le_refl _⟩
    · have ei : i = rs.length := by simp at hi; omega
      subst ei
      rw [hnew]
      refine ⟨own_mono (own_gr hin hg fun k hk e2 => own_diff hin h.1 (by decide) k hk e2) hlo, fun a ha => ?_, Nat.le_refl _⟩
      have h5 := hin' a.block (by rw [show A1 = some a from ha]; rfl)
      have h7 := hg.size
      omega
  · intro i j hi hj hne b hb
    rw [List.length_append] at hi hj
    simp only [List.length_cons, List.length_nil] at hi hj
    by_cases ei : i < rs.length
    · rw [hold i ei] at hb
      by_cases ej : j < rs.length
      · rw [hold j ej]; exact h.2.2.1 i j ei ej hne b hb
      · have e : j = rs.length := by omega
        subst e
        rw [hnew]
        intro e2
        have h1 := hlt i ei b hb
        have h2 := (hin' b e2).1
        omega
    · have e : i = rs.length := by omega
      subst e
      rw [hnew] at hb
      rw [hold j (by omega)]
      intro e2
      have h1 := hlt j (by omega) b e2
      have h2 := (hin' b hb).1
      omega
  · intro a ha
    exact (ho.lt a.block (by subst ha; rfl)).2
end
/-- an append of one element, with all that is left as it was -/
theorem app_more {P : Program} {w : World} {ops : Array Oper} {rest : List Oper} {o : Oper} {a : Act} {Q : Exit → Act → World → Prop} (hgd : o.guard = none) (s x : Operand) (t : TypeId)
    (ho : o.op = .call { callee := .builtin .append, args := #[s, x], argTypes := #[t, t] })
    (B : Nat) (e : TypeId) (i : TypeInfo) (z : Value) (bytes : Nat) (ht : P.underlying t = some (.slice e)) (hi : P.info? e = some i) (hz : i.zero = some z)
    (hsize : i.size = 1) (hby : i.bytes = bytes) (hby2 : bytes ≤ 32) (hzs : z.cells.size = 1) (A : Option Addr) (c : Nat) (n : Nat) (xs : List Value) (hs : a.eval s = .slice A n c) (hown : w.ownsRow B e 1 (.slice A n c) n xs)
    (y : Value) (hy : y.oneCell' = true) (N : Nat) (hx : a.eval x = .slice (some ⟨N, 0, none⟩) 1 1) (hN : N = w.heap.size) (hn : n ≤ 4294967296) (hB : B ≤ w.heap.size)
    (h : ∀ g c' w', w'.ownsRow B e 1 (.slice (some ⟨g, 0, none⟩) (n + 1) c') (n + 1) (xs ++ [y]) → w.grownBy w' (A.map (·.block)) → wpList P ops Q rest (a.put o.dst (.slice (some ⟨g, 0, none⟩) (n + 1) c')) w') :
    wpList P ops Q (o :: rest) a (w.alloc (.cells #[y] e)) := by
  subst hN
  have hh : (w.alloc (.cells #[y] e)).heap[w.heap.size]? = some (.cells #[y] e (0, 0)) := heap_alloc_new w _
  refine wpList_append_own _ hgd s x t ho B e i z 1 bytes ht hi hz hsize hby hzs (by decide) _ n xs hs (hown.alloc _) ⟨w.heap.size, 0, none⟩ 1 1 [y] hx rfl ?_ ?_ ?_ ?_ ?_ ?_
  · intro j u hj
    match j, hj with
    | 0, hj =>
      simp at hj; subst hj
      show (w.alloc (.cells #[y] e)).cell? ⟨w.heap.size, 0, none⟩ = _
      unfold World.cell?
      rw [hh]; rfl
  · intro u hu; simp at hu; subst hu; exact hy
  · unfold maxLen; omega
  · have : (n + 1) * bytes ≤ (4294967296 + 1) * 32 := Nat.mul_le_mul (by omega) hby2
    omega
  · simp; omega
  · intro v' w' hown' hgrow _
    have hgr : w.grownBy w' (A.map (·.block)) := by
      have hb := (Below.refl w.heap.size w).alloc (Nat.le_refl _) (.cells #[y] e)
      have hrow : ∀ k, k < w.heap.size → some k ≠ A.map (·.block) → some k ≠ (Value.slice A n c).ownBlock := by
        intro k _ hk
        cases A with
        | none => exact fun e => by cases e
        | some a => exact hk
      exact ⟨hgrow.os.trans hb.os, hgrow.tape.trans hb.tape, hgrow.output.trans hb.output, Nat.le_trans hb.size hgrow.size, fun k hk hne => (hgrow.block k (Nat.lt_of_lt_of_le hk hb.size) (hrow k hk hne)).trans (hb.block k hk)⟩
    rcases hown'.2 with ⟨_, h0⟩ | ⟨g, cap, cur, hv, _⟩
    · omega
    · subst hv
      exact h g cap w' hown' hgr
theorem grown_below {W W' : World} {B : Nat} {row : Option Nat} {a : World} (h : Below B a W) (hg : W.grownBy W' row) (hB : B ≤ W.heap.size) (hr : ∀ k, row = some k → B ≤ k) : Below B a W' := h.grown hg hB hr
theorem set_grown (W : World) (p : Addr) (u : Value) : W.grownBy (W.setCell p u) (some p.block) :=
  ⟨rfl, rfl, rfl, by simp, fun k _ hk => Below.heap_setCell W p u k (fun e => hk (by rw [e]))⟩
/-- not too many, and none too long -/
def SmallSS (zss : List (List Int)) : Prop := zss.length ≤ 100000 ∧ ∀ l ∈ zss, l.length ≤ 1000
theorem small_len {rs : List RD} {zss : List (List Int)} (h : rs.map RD.zs = zss) (hs : SmallSS zss) (i : Nat) : (rs.getD i rd0).zs.length ≤ 1000 := by
  by_cases hi : i < rs.length
  · refine hs.2 _ ?_
    rw [← h, List.getD_eq_getElem?_getD, List.getElem?_eq_getElem hi]
    exact List.mem_map.2 ⟨rs[i], List.getElem_mem _, rfl⟩
  · rw [List.getD_eq_getElem?_getD, List.getElem?_eq_none (by omega)]
    exact Nat.zero_le _
theorem small_tot {rs : List RD} {zss : List (List Int)} (h : rs.map RD.zs = zss) (hs : SmallSS zss) (n : Nat) : tot rs n ≤ 1000 * n := by
  induction n with
  | zero => exact Nat.le_refl _
  | succ n ih => have := small_len h hs n; simp only [tot]; omega
/-- append(a row of one's own, another list...) -/
theorem app_list {P : Program} {w : World} {ops : Array Oper} {rest : List Oper} {o : Oper} {a : Act} {Q : Exit → Act → World → Prop} (hgd : o.guard = none) (s x : Operand) (t : TypeId)
    (ho : o.op = .call { callee := .builtin .append, args := #[s, x], argTypes := #[t, t] })
    (B : Nat) (e : TypeId) (i : TypeInfo) (bytes : Nat) (ht : P.underlying t = some (.slice e)) (hi : P.info? e = some i) (hz : i.zero = some (.int .i64 0))
    (hsize : i.size = 1) (hby : i.bytes = bytes) (hby2 : bytes ≤ 32) (A : Option Addr) (c : Nat) (n : Nat) (xs : List Value) (hs : a.eval s = .slice A n c) (hown : w.ownsRow B e 1 (.slice A n c) n xs)
    (b f m c2 : Nat) (zs : List Int) (hx : a.eval x = .slice (some ⟨b, f, none⟩) m c2) (hm : zs.length = m) (B2 : Nat) (hat : IntsAt w B2 .i64 (some ⟨b, f, none⟩) zs) (hn : n ≤ 4294967296) (hm2 : m ≤ 4294967296) (hB : B ≤ w.heap.size)
    (h : ∀ A' c' w', w'.ownsRow B e 1 (.slice A' (n + m) c') (n + m) (xs ++ zs.map (Value.int .i64)) → w.grownBy w' (A.map (·.block)) → wpList P ops Q rest (a.put o.dst (.slice A' (n + m) c')) w') :
    wpList P ops Q (o :: rest) a w := by
  subst hm
  refine wpList_append_own _ hgd s x t ho B e i (.int .i64 0) 1 bytes ht hi hz hsize hby rfl (by decide) _ n xs hs hown ⟨b, f, none⟩ zs.length c2 (zs.map (Value.int .i64)) hx (by simp) ?_ ?_ ?_ ?_ ?_ ?_
  · intro j u hu
    obtain ⟨hj, e⟩ := List.getElem?_eq_some_iff.1 hu
    have hj' : j < zs.length := by simpa using hj
    obtain ⟨b', o', hA, hlt, hc⟩ := hat j hj'
    simp only [Option.some.injEq, Addr.mk.injEq, and_true] at hA
    obtain ⟨rfl, rfl⟩ := hA
    show w.cell? (Addr.add ⟨b, f, none⟩ j) = some u
    rw [Go.WideShapes.add_plain, hc, ← e]
    simp [List.getD_eq_getElem?_getD, List.getElem?_eq_getElem hj']
  · intro u hu
    obtain ⟨x, _, rfl⟩ := List.mem_map.1 hu
    rfl
  · unfold maxLen; omega
  · have : (n + zs.length) * bytes ≤ (4294967296 + 4294967296) * 32 := Nat.mul_le_mul (by omega) hby2
    omega
  · exact hB
  · intro v' w' hown' hgrow _
    have hgr : w.grownBy w' (A.map (·.block)) := by
      cases A with
      | none => exact hgrow
      | some a => exact hgrow
    rcases hown'.2 with ⟨hv, h0⟩ | ⟨g, cap, cur, hv, _⟩
    · subst hv
      have e : n + zs.length = 0 := h0
      have := h none 0 w' (by rw [e] at hown' ⊢; exact hown') hgr
      rw [e] at this
      exact this
    · subst hv
      exact h _ cap w' hown' hgr
end Go.Proofs.Ytibephoepkofnaa.Rws
