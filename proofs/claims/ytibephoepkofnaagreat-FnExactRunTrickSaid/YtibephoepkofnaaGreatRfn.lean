/- A range over a function that hands lists of its own to the loop's body, one after another. -/
import Derived.Test.YtibephoepkofnaaGreatRws
import Derived.RangeFuncNested
import Derived.RangeFuncBound
import Derived.RangeFuncCalls
import Derived.RangeFuncLeaves
set_option linter.unusedVariables false
set_option maxRecDepth 20000
namespace Go.Proofs.YtibephoepkofnaaGreat.Rfn
open Go.RowKit Fr _root_.Go.Proofs.YtibephoepkofnaaGreat.Own Ins Rws

/-- cells stay, and whatever lies below B -/
structure Grw (B : Nat) (W W' : World) : Prop where
  os : W'.os = W.os
  tape : W'.tape = W.tape
  output : W'.output = W.output
  size : W.heap.size ≤ W'.heap.size
  block : ∀ k, k < W.heap.size → (k < B ∨ ∃ cs e f, W.heap[k]? = some (.cells cs e f)) → W'.heap[k]? = W.heap[k]?
theorem Grw.refl (B : Nat) (W : World) : Grw B W W := ⟨rfl, rfl, rfl, Nat.le_refl _, fun _ _ _ => rfl⟩
theorem Grw.trans {B : Nat} {X Y Z : World} (h : Grw B X Y) (k : Grw B Y Z) : Grw B X Z :=
  ⟨k.os.trans h.os, k.tape.trans h.tape, k.output.trans h.output, Nat.le_trans h.size k.size, fun i hi hc => by
    have e := h.block i hi hc
    exact (k.block i (Nat.lt_of_lt_of_le hi h.size) (by rw [e]; exact hc)).trans e⟩
theorem Grw.of_grown {B : Nat} {W W' : World} (h : W.grownBy W' none) : Grw B W W' := ⟨h.os, h.tape, h.output, h.size, fun k hk _ => h.block k hk (by simp)⟩
theorem Grw.of_below {B : Nat} {W W' : World} (h : Below W.heap.size W W') : Grw B W W' := ⟨h.os, h.tape, h.output, h.size, fun k hk _ => h.block k hk⟩
theorem grown_none {W W' : World} (h : Below W.heap.size W W') : W.grownBy W' none := ⟨h.os, h.tape, h.output, h.size, fun k hk _ => h.block k hk⟩
theorem Grw.putObj {B : Nat} {W : World} {l : Nat} {o : Obj} (o' : Obj) (hB : B ≤ l) (hl : W.heap[l]? = some o) (hc : o.isCells = false) : Grw B W (W.putObj l o') := by
  have hg := grownBy_putObj' W l o'
  refine ⟨hg.os, hg.tape, hg.output, hg.size, fun k hk h => ?_⟩
  refine hg.block k hk fun e => ?_
  simp only [Option.some.injEq] at e
  subst e
  rcases h with h | ⟨cs, e, f, h⟩
  · omega
  · rw [hl] at h
    simp only [Option.some.injEq] at h
    subst h
    cases hc
theorem Grw.cell {B : Nat} {W W' : World} (h : Grw B W W') {p : Addr} {v : Value} (hp : W.cell? p = some v) : W'.cell? p = some v := by
  have hlt := World.block_lt_of_cell? W p hp
  have hc : ∃ cs e f, W.heap[p.block]? = some (.cells cs e f) := by
    unfold World.cell? at hp
    cases ho : W.heap[p.block]? with
    | none => rw [ho] at hp; cases hp
    | some o =>
      cases o with
      | cells cs e f => exact ⟨cs, e, f, rfl⟩
      | _ => rw [ho] at hp; cases hp
  unfold World.cell? at *
  rw [h.block p.block hlt (Or.inr hc)]
  exact hp
theorem Grw.frozen {B : Nat} {W W' : World} (h : Grw B W W') {p : Addr} {v : Value} (hp : W.cell? p = some v) : W'.frozen? p = W.frozen? p := by
  have hlt := World.block_lt_of_cell? W p hp
  have hc : ∃ cs e f, W.heap[p.block]? = some (.cells cs e f) := by
    unfold World.cell? at hp
    cases ho : W.heap[p.block]? with
    | none => rw [ho] at hp; cases hp
    | some o =>
      cases o with
      | cells cs e f => exact ⟨cs, e, f, rfl⟩
      | _ => rw [ho] at hp; cases hp
  exact World.frozen?_of_block (h.block p.block hlt (Or.inr hc))
theorem Grw.ints {B B' : Nat} {W W' : World} (h : Grw B W W') {A : Option Addr} {zs : List Int} (hi : IntsAt W B' .i64 A zs) : IntsAt W' B' .i64 A zs := by
  intro j hj
  obtain ⟨b, o, e, hlt, hc⟩ := hi j hj
  exact ⟨b, o, e, hlt, h.cell hc⟩
theorem Grw.own {B B' : Nat} {W W' : World} {e : TypeId} {s n c m : Nat} {A : Option Addr} {xs : List Value} (h : Grw B W W') (ho : W.ownsRow B' e s (.slice A n c) m xs) : W'.ownsRow B' e s (.slice A n c) m xs := by
  refine ⟨ho.1, ?_⟩
  rcases ho.2 with h2 | ⟨g, cap, cur, hv, hg, hh, r⟩
  · exact Or.inl h2
  · exact Or.inr ⟨g, cap, cur, hv, hg, by rw [h.block g (Array.getElem?_eq_some_iff.1 hh).1 (Or.inr ⟨_, _, _, hh⟩)]; exact hh, r⟩
theorem Grw.below {B : Nat} {W W' : World} (h : Grw B W W') : Below B W W' ∨ W.heap.size < B := by
  by_cases hB : B ≤ W.heap.size
  · exact Or.inl ⟨h.os, h.tape, h.output, h.size, fun k hk => h.block k (by omega) (Or.inl hk)⟩
  · exact Or.inr (by omega)

/-- what a function that is ranged over does: it calls the loop's body for each of the lists, in order, each in memory of its own -/
def Iter (g : Nat) (lb : Array Value) (KP : World → Prop) (rows : List (List Int)) : Prop :=
  ∀ (l : Nat) (J : Nat → World → Prop) (Jx : World → Prop), (∀ k W, J k W → KP W) → (∀ k W W', J k W → W.grownBy W' none → J k W') →
    (∀ k W0 W A c, k < rows.length → J k W0 → W0.grownBy W none → W.ownsRow W0.heap.size 3 1 (.slice A (rows.getD k []).length c) (rows.getD k []).length ((rows.getD k []).map (Value.int .i64)) →
      YieldAt Fence.wide 3 Tryz.prog l #[.slice A (rows.getD k []).length c] W fun e W' => (e = .returned (.bool true) ∧ J (k + 1) W') ∨ (e = .returned (.bool false) ∧ Jx W')) →
    ∀ W, J 0 W → CallsIn Fence.wide 4 Tryz.prog g (#[.func (.yield l) #[] #[]] ++ lb) W fun e W' => (∃ v, e = .returned v) ∧ (J rows.length W' ∨ Jx W')

/-- how the body of a round may be left -/
def rowPost (B : Nat) (I : World → Prop) (Ix : Code → World → Prop) (W : World) : Exit → Act → World → Prop
  | .normal, _, W' => KeepsFrom B W W' ∧ I W'
  | .ret, _, W' => KeepsFrom B W W' ∧ Ix .ret W'
  | .exit id, _, W' => KeepsFrom B W W' ∧ Ix (.exit id) W'
  | .goto t, _, W' => KeepsFrom B W W' ∧ Ix (.goto t) W'
  | .panic _, _, _ => False
  | .outgrown, _, _ => False

theorem wp_range {g : Operand} {ps : Array Tmp} {assign body : Code} {Q : Exit → Act → World → Prop} {a : Act} {w : World} {gf : Nat} {lb : Array Value} (hg : a.eval g = .func (.func gf) #[] lb)
    (eg : ∀ args w, (callFunc gf args).run Tryz.prog w = .ok (.enter gf args) w) {KP : World → Prop} {rows : List (List Int)} (hseq : Iter gf lb KP rows) (hps : ps.size = 1)
    (I : Nat → World → Prop) (Ix : Code → World → Prop) (hKP : ∀ k W, I k W → KP W) (hI : ∀ k W W', I k W → Grw w.heap.size W W' → I k W') (hIx : ∀ c W W', Ix c W → Grw w.heap.size W W' → Ix c W') (h0 : I 0 w) (a₁ : Value → Act)
    (hassign : ∀ (l : Nat) (x : Value) (W : World) (K : Act → World → Prop), K (a₁ x) W →
      assign.wpIn (Fence.wide.inRound l) 3 Tryz.prog (Exit.then K (fun _ _ _ => False)) { tmps := (ps.zip #[x]).foldl (fun t (p, v) => t.setIfInBounds p v) a.tmps, defers := [] } W)
    (hbody : ∀ (l k : Nat) (W0 W : World) (A : Option Addr) (c : Nat), k < rows.length → I k W0 → Grw w.heap.size W0 W → w.heap.size ≤ W0.heap.size →
      W.ownsRow W0.heap.size 3 1 (.slice A (rows.getD k []).length c) (rows.getD k []).length ((rows.getD k []).map (Value.int .i64)) →
      body.wpIn (Fence.wide.inRound l) 3 Tryz.prog (rowPost w.heap.size (I (k + 1)) Ix W) (a₁ (.slice A (rows.getD k []).length c)) W)
    (hdone : ∀ (D : Nat) (W : World), w.heap.size ≤ D → I rows.length W → W.heap[D]? = some (.deferred (some [])) → Q .normal { a with defers := { target := .collected D, args := #[] } :: a.defers } W)
    (hstop : ∀ (D : Nat) (c : Code) (W : World), w.heap.size ≤ D → Ix c W → W.heap[D]? = some (.deferred (some [])) → c.wp Tryz.prog Q { a with defers := { target := .collected D, args := #[] } :: a.defers } W) :
    (Code.rangeFunc g ps assign body).wp Tryz.prog Q a w := by
  refine (wpIn_wide (n := 5)).1 (wpIn_rangeFunc fun fn hfn => ?_)
  obtain ⟨rec, hrec⟩ : ∃ rec : LoopState → Option Code → Loop, rec = fun st pe => { state := st, pending := pe, fn, tmps := a.tmps, params := ps, assign, body, defers := w.heap.size } := ⟨_, rfl⟩
  obtain ⟨W1, hW1⟩ : ∃ W1, (w.alloc (.deferred (some []))).alloc (.loop (rec .ready none)) = W1 := ⟨_, rfl⟩
  have hL1 : W1.heap[w.heap.size + 1]? = some (.loop (rec .ready none)) := by
    rw [← hW1]
    have := World.alloc_heap_new (w.alloc (.deferred (some []))) (.loop (rec .ready none))
    rwa [World.size_alloc] at this
  have hK1 : W1.heap[w.heap.size]? = some (.deferred (some [])) := by
    rw [← hW1]
    exact (Below.heap_alloc _ _ _ (by simp)).trans (World.alloc_heap_new w _)
  have hg1 : Grw w.heap.size w W1 := by
    rw [← hW1]
    exact Grw.of_below (((Below.refl _ w).alloc (Nat.le_refl _) _).alloc (by simp) _)
  refine ⟨w.heap.size + 1, [{ target := .collected w.heap.size, args := #[] }], W1, { target := .fn (.func gf) lb, args := #[.func (.yield (w.heap.size + 1)) #[] #[]] }, W1, gf,
    #[.func (.yield (w.heap.size + 1)) #[] #[]] ++ lb, W1, ?_, ?_, ?_, ?_, fun h => by simp [Fence.wide] at h, ?_⟩
  · rw [← hW1, hrec]
    exact run_enterLoop_outer _ _ _ _ _
  · simp only [resolve, hg]
    simp [go_sem]
  · intro f' hf'
    trivial
  · simp [invoke, go_sem, eg]
  · have keep : ∀ {X Y : World}, X.grownBy Y none → ∀ {k : Nat} {o : Obj}, X.heap[k]? = some o → Y.heap[k]? = some o := fun h k o hk => (h.block k (Array.getElem?_eq_some_iff.1 hk).1 (by simp)).trans hk
    refine (hseq (w.heap.size + 1)
      (fun k W => I k W ∧ W.heap[w.heap.size + 1]? = some (.loop (rec .ready none)) ∧ W.heap[w.heap.size]? = some (.deferred (some [])))
      (fun W => ∃ c, Ix c W ∧ W.heap[w.heap.size + 1]? = some (.loop (rec .done (some c))) ∧ W.heap[w.heap.size]? = some (.deferred (some [])))
      (fun k W h => hKP k W h.1)
      (fun k W W' h hgr => ⟨hI k W W' h.1 (Grw.of_grown hgr), keep hgr h.2.1, keep hgr h.2.2⟩)
      ?_ W1 ⟨hI 0 w W1 h0 hg1, hL1, hK1⟩).mono ?_
    · rintro k W0 W A c hlen ⟨hi0, hl0, hk0⟩ hgr hown
      have hl := keep hgr hl0
      have hk := keep hgr hk0
      have hlt : w.heap.size + 1 < W.heap.size := (Array.getElem?_eq_some_iff.1 hl).1
      have hy := run_yield (P := Tryz.prog) (args := #[.slice A (rows.getD k []).length c]) hl (by rw [hrec]; exact hps.symm)
      rw [hrec] at hy
      refine ⟨fn, _, assign, body, hy, roundIn_of_wpIn trivial (hassign _ _ W _ ⟨_, run_beginRound hl (by rw [hrec]), ?_⟩)⟩
      have hl2 : (W.putObj (w.heap.size + 1) (.loop { rec .ready none with state := .busy })).heap[w.heap.size + 1]? = some (.loop { rec .ready none with state := .busy }) := World.putObj_heap_same hlt
      have hk2 : (W.putObj (w.heap.size + 1) (.loop { rec .ready none with state := .busy })).heap[w.heap.size]? = some (.deferred (some [])) := (World.putObj_heap_other (by omega)).trans hk
      have hg2 : Grw w.heap.size W (W.putObj (w.heap.size + 1) (.loop { rec .ready none with state := .busy })) := Grw.putObj _ (by omega) hl rfl
      have hw0 : w.heap.size ≤ W0.heap.size := by have := (Array.getElem?_eq_some_iff.1 hl0).1; omega
      refine wpIn_mono (hbody _ k W0 _ A c hlen hi0 ((Grw.of_grown hgr).trans hg2) hw0 (hg2.own hown)) ?_
      have fin : ∀ (jump : Option Code) (W3 : World), KeepsFrom w.heap.size (W.putObj (w.heap.size + 1) (.loop { rec .ready none with state := .busy })) W3 →
          (Instr.endRound (w.heap.size + 1) jump).run Tryz.prog W3 = .ok (.bool jump.isNone) (W3.putObj (w.heap.size + 1) (.loop (rec (if jump.isNone then .ready else .done) jump))) ∧
          W3.heap[w.heap.size + 1]? = some (.loop { rec .ready none with state := .busy }) ∧
          (W3.putObj (w.heap.size + 1) (.loop (rec (if jump.isNone then .ready else .done) jump))).heap[w.heap.size + 1]? = some (.loop (rec (if jump.isNone then .ready else .done) jump)) ∧
          (W3.putObj (w.heap.size + 1) (.loop (rec (if jump.isNone then .ready else .done) jump))).heap[w.heap.size]? = some (.deferred (some [])) := fun jump W3 hk3 => by
        have hl3 := hk3.same _ _ (by omega) hl2 rfl
        have := run_endRound (P := Tryz.prog) jump hl3
        rw [hrec] at this ⊢
        exact ⟨this, by rw [hrec] at hl3; exact hl3, World.putObj_heap_same (Array.getElem?_eq_some_iff.1 hl3).1, (World.putObj_heap_other (by omega)).trans (hk3.same _ _ (Nat.le_refl _) hk2 rfl)⟩
      rintro e a3 W3 hp
      cases e with
      | normal =>
        obtain ⟨hk3, hi3⟩ := hp
        obtain ⟨hr, hl3, hl4, hk4⟩ := fin none W3 hk3
        exact ⟨_, _, hr, .inl ⟨rfl, hI _ _ _ hi3 (Grw.putObj _ (by omega) hl3 rfl), hl4, hk4⟩⟩
      | ret =>
        obtain ⟨hk3, hi3⟩ := hp
        obtain ⟨hr, hl3, hl4, hk4⟩ := fin (some .ret) W3 hk3
        exact ⟨_, _, hr, .inr ⟨rfl, .ret, hIx _ _ _ hi3 (Grw.putObj _ (by omega) hl3 rfl), hl4, hk4⟩⟩
      | exit id =>
        obtain ⟨hk3, hi3⟩ := hp
        obtain ⟨hr, hl3, hl4, hk4⟩ := fin (some (.exit id)) W3 hk3
        exact ⟨_, _, hr, .inr ⟨rfl, .exit id, hIx _ _ _ hi3 (Grw.putObj _ (by omega) hl3 rfl), hl4, hk4⟩⟩
      | goto t =>
        obtain ⟨hk3, hi3⟩ := hp
        obtain ⟨hr, hl3, hl4, hk4⟩ := fin (some (.goto t)) W3 hk3
        exact ⟨_, _, hr, .inr ⟨rfl, .goto t, hIx _ _ _ hi3 (Grw.putObj _ (by omega) hl3 rfl), hl4, hk4⟩⟩
      | panic ch => exact hp.elim
      | outgrown => exact hp.elim
    · rintro e W2 ⟨⟨v, rfl⟩, (⟨hi, hl, hk⟩ | ⟨c, hi, hl, hk⟩)⟩
      · exact ⟨none, _, by have := run_endLoop (P := Tryz.prog) hl (by rw [hrec]; simp); rw [hrec] at this; exact this, hdone _ _ (Nat.le_refl _) (hI _ _ _ hi (Grw.putObj _ (by omega) hl rfl)) ((World.putObj_heap_other (by omega)).trans hk)⟩
      · exact ⟨some c, _, by have := run_endLoop (P := Tryz.prog) hl (by rw [hrec]; simp); rw [hrec] at this; exact this, wpIn_wide.2 (hstop _ c _ (Nat.le_refl _) (hIx _ _ _ hi (Grw.putObj _ (by omega) hl rfl)) ((World.putObj_heap_other (by omega)).trans hk))⟩
end Go.Proofs.YtibephoepkofnaaGreat.Rfn
