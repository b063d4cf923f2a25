/- A range over a function that hands any values, several at a time, to the loop's body, one after another. -/
import Derived.Test.YtjmfdflhplobmaaRfn
import Derived.RangeFuncBox
set_option linter.unusedVariables false
set_option maxRecDepth 20000
namespace Go.Proofs.Ytjmfdflhplobmaa.Rfw
open Go.RowKit Fr _root_.Go.Proofs.Ytjmfdflhplobmaa.Own Ins Rws Rfn

/-- what a function that is ranged over does: it calls the loop's body for each of the values, in order -/
def IterW (g : Nat) (lb : Array Value) (KP : World → Prop) (vs : List (Array Value)) : Prop :=
  ∀ (l : Nat) (J : Nat → World → Prop) (Jx : World → Prop), (∀ k W, J k W → KP W) → (∀ k W W', J k W → W.grownBy W' none → J k W') →
    (∀ k W0 W, k < vs.length → J k W0 → W0.grownBy W none →
      YieldAt Fence.wide 3 Try.prog l (vs.getD k #[]) W fun e W' => (e = .returned (.bool true) ∧ J (k + 1) W') ∨ (e = .returned (.bool false) ∧ Jx W')) →
    ∀ W, J 0 W → CallsIn Fence.wide 4 Try.prog g (#[.func (.yield l) #[] #[]] ++ lb) W fun e W' => (∃ v, e = .returned v) ∧ (J vs.length W' ∨ Jx W')

theorem wp_rangeW {g : Operand} {ps : Array Tmp} {assign body : Code} {Q : Exit → Act → World → Prop} {a : Act} {w : World} {gf : Nat} {lb : Array Value} (hg : a.eval g = .func (.func gf) #[] lb)
    (eg : ∀ args w, (callFunc gf args).run Try.prog w = .ok (.enter gf args) w) {KP : World → Prop} {vs : List (Array Value)} (hseq : IterW gf lb KP vs) (hps : ∀ k, k < vs.length → (vs.getD k #[]).size = ps.size)
    (I : Nat → World → Prop) (Ix : Code → World → Prop) (hKP : ∀ k W, I k W → KP W) (hI : ∀ k W W', I k W → Grw w.heap.size W W' → I k W') (hIx : ∀ c W W', Ix c W → Grw w.heap.size W W' → Ix c W') (h0 : I 0 w) (a₁ : Array Value → Nat → Act) (cx : Array Value → Array Value) (ex : TypeId)
    (hassign : ∀ (l k : Nat) (W : World) (K : Act → World → Prop), k < vs.length → (∀ (W' : World) (bn : Nat), W.grownBy W' none → W.heap.size ≤ bn → W'.heap[bn]? = some (.cells (cx (vs.getD k #[])) ex (0, 0)) → K (a₁ (vs.getD k #[]) bn) W') →
      assign.wpIn (Fence.wide.inRound l) 3 Try.prog (Exit.then K (fun _ _ _ => False)) { tmps := (ps.zip (vs.getD k #[])).foldl (fun t (p, v) => t.setIfInBounds p v) a.tmps, defers := [] } W)
    (hbody : ∀ (l k : Nat) (W0 W : World) (bn : Nat), k < vs.length → I k W0 → Grw w.heap.size W0 W → w.heap.size ≤ W0.heap.size → W0.heap.size ≤ bn → W.heap[bn]? = some (.cells (cx (vs.getD k #[])) ex (0, 0)) →
      body.wpIn (Fence.wide.inRound l) 3 Try.prog (rowPost w.heap.size (I (k + 1)) Ix W) (a₁ (vs.getD k #[]) bn) W)
    (hdone : ∀ (D : Nat) (W : World), w.heap.size ≤ D → I vs.length W → W.heap[D]? = some (.deferred (some [])) → Q .normal { a with defers := { target := .collected D, args := #[] } :: a.defers } W)
    (hstop : ∀ (D : Nat) (c : Code) (W : World), w.heap.size ≤ D → Ix c W → W.heap[D]? = some (.deferred (some [])) → c.wp Try.prog Q { a with defers := { target := .collected D, args := #[] } :: a.defers } W) :
    (Code.rangeFunc g ps assign body).wp Try.prog Q a w := by
  refine (wpIn_wide (n := 5)).1 (wpIn_rangeFunc fun fn hfn => ?_)
  obtain ⟨rec, hrec⟩ : ∃ rec : LoopState → Option Code → Loop, rec = fun st pe => { state := st, pending := pe, fn, tmps := a.tmps, params := ps, assign, body, defers := w.heap.size } := ⟨_, rfl⟩
  obtain ⟨W1, hW1⟩ : ∃ W1, (w.alloc (.deferred (some []))).alloc (.loop (rec .ready none)) = W1 := ⟨_, rfl⟩
  have hL1 : W1.heap[w.heap.size + 1]? = some (.loop (rec .ready none)) := by
    rw [← hW1]
    have := World.alloc_heap_new (w.alloc (.deferred (some []))) (.loop (rec .ready none))
    rwa [World.size_alloc] at this
  have hK1 : W1.heap[w.heap.size]? = some (.deferred (some [])) := by
    rw [← hW1]
    exact (Below.heap_alloc _ _ _ (by simp)).trans (World.alloc_heap_new w _)
  have hg1 : Grw w.heap.size w W1 := by
    rw [← hW1]
    exact Grw.of_below (((Below.refl _ w).alloc (Nat.le_refl _) _).alloc (by simp) _)
  refine ⟨w.heap.size + 1, [{ target := .collected w.heap.size, args := #[] }], W1, { target := .fn (.func gf) lb, args := #[.func (.yield (w.heap.size + 1)) #[] #[]] }, W1, gf,
    #[.func (.yield (w.heap.size + 1)) #[] #[]] ++ lb, W1, ?_, ?_, ?_, ?_, fun h => by simp [Fence.wide] at h, ?_⟩
  · rw [← hW1, hrec]
    exact run_enterLoop_outer _ _ _ _ _
  · simp only [resolve, hg]
    simp [go_sem]
  · intro f' hf'
    trivial
  · simp [invoke, go_sem, eg]
  · have keep : ∀ {X Y : World}, X.grownBy Y none → ∀ {k : Nat} {o : Obj}, X.heap[k]? = some o → Y.heap[k]? = some o := fun h k o hk => (h.block k (Array.getElem?_eq_some_iff.1 hk).1 (by simp)).trans hk
    refine (hseq (w.heap.size + 1)
      (fun k W => I k W ∧ W.heap[w.heap.size + 1]? = some (.loop (rec .ready none)) ∧ W.heap[w.heap.size]? = some (.deferred (some [])))
      (fun W => ∃ c, Ix c W ∧ W.heap[w.heap.size + 1]? = some (.loop (rec .done (some c))) ∧ W.heap[w.heap.size]? = some (.deferred (some [])))
      (fun k W h => hKP k W h.1)
      (fun k W W' h hgr => ⟨hI k W W' h.1 (Grw.of_grown hgr), keep hgr h.2.1, keep hgr h.2.2⟩)
      ?_ W1 ⟨hI 0 w W1 h0 hg1, hL1, hK1⟩).mono ?_
    · rintro k W0 Wb hlen ⟨hi0, hl0, hk0⟩ hgrb
      have hlb := keep hgrb hl0
      have hy := run_yield (P := Try.prog) (args := (vs.getD k #[])) hlb (by rw [hrec]; exact hps k hlen)
      rw [hrec] at hy
      refine ⟨fn, _, assign, body, hy, roundIn_of_wpIn trivial (hassign _ k Wb _ hlen fun W bn hgn hbn hcx => ?_)⟩
      have hl := keep hgn hlb
      have hk := keep hgn (keep hgrb hk0)
      have hgr : W0.grownBy W none := hgrb.trans hgn
      have hlt : w.heap.size + 1 < W.heap.size := (Array.getElem?_eq_some_iff.1 hl).1
      refine ⟨_, run_beginRound hl (by rw [hrec]), ?_⟩
      have hl2 : (W.putObj (w.heap.size + 1) (.loop { rec .ready none with state := .busy })).heap[w.heap.size + 1]? = some (.loop { rec .ready none with state := .busy }) := World.putObj_heap_same hlt
      have hk2 : (W.putObj (w.heap.size + 1) (.loop { rec .ready none with state := .busy })).heap[w.heap.size]? = some (.deferred (some [])) := (World.putObj_heap_other (by omega)).trans hk
      have hg2 : Grw w.heap.size W (W.putObj (w.heap.size + 1) (.loop { rec .ready none with state := .busy })) := Grw.putObj _ (by omega) hl rfl
      have hw0 : w.heap.size ≤ W0.heap.size := by have := (Array.getElem?_eq_some_iff.1 hl0).1; omega
      have hcx2 := (hg2.block bn (Array.getElem?_eq_some_iff.1 hcx).1 (Or.inr ⟨_, _, _, hcx⟩)).trans hcx
      refine wpIn_mono (hbody _ k W0 _ bn hlen hi0 ((Grw.of_grown hgr).trans hg2) hw0 (Nat.le_trans hgrb.size hbn) hcx2) ?_
      have fin : ∀ (jump : Option Code) (W3 : World), KeepsFrom w.heap.size (W.putObj (w.heap.size + 1) (.loop { rec .ready none with state := .busy })) W3 →
          (Instr.endRound (w.heap.size + 1) jump).run Try.prog W3 = .ok (.bool jump.isNone) (W3.putObj (w.heap.size + 1) (.loop (rec (if jump.isNone then .ready else .done) jump))) ∧
          W3.heap[w.heap.size + 1]? = some (.loop { rec .ready none with state := .busy }) ∧
          (W3.putObj (w.heap.size + 1) (.loop (rec (if jump.isNone then .ready else .done) jump))).heap[w.heap.size + 1]? = some (.loop (rec (if jump.isNone then .ready else .done) jump)) ∧
          (W3.putObj (w.heap.size + 1) (.loop (rec (if jump.isNone then .ready else .done) jump))).heap[w.heap.size]? = some (.deferred (some [])) := fun jump W3 hk3 => by
        have hl3 := hk3.same _ _ (by omega) hl2 rfl
        have := run_endRound (P := Try.prog) jump hl3
        rw [hrec] at this ⊢
        exact ⟨this, by rw [hrec] at hl3; exact hl3, World.putObj_heap_same (Array.getElem?_eq_some_iff.1 hl3).1, (World.putObj_heap_other (by omega)).trans (hk3.same _ _ (Nat.le_refl _) hk2 rfl)⟩
      rintro e a3 W3 hp
      cases e with
      | normal =>
        obtain ⟨hk3, hi3⟩ := hp
        obtain ⟨hr, hl3, hl4, hk4⟩ := fin none W3 hk3
        exact ⟨_, _, hr, .inl ⟨rfl, hI _ _ _ hi3 (Grw.putObj _ (by omega) hl3 rfl), hl4, hk4⟩⟩
      | ret =>
        obtain ⟨hk3, hi3⟩ := hp
        obtain ⟨hr, hl3, hl4, hk4⟩ := fin (some .ret) W3 hk3
        exact ⟨_, _, hr, .inr ⟨rfl, .ret, hIx _ _ _ hi3 (Grw.putObj _ (by omega) hl3 rfl), hl4, hk4⟩⟩
      | exit id =>
        obtain ⟨hk3, hi3⟩ := hp
        obtain ⟨hr, hl3, hl4, hk4⟩ := fin (some (.exit id)) W3 hk3
        exact ⟨_, _, hr, .inr ⟨rfl, .exit id, hIx _ _ _ hi3 (Grw.putObj _ (by omega) hl3 rfl), hl4, hk4⟩⟩
      | goto t =>
        obtain ⟨hk3, hi3⟩ := hp
        obtain ⟨hr, hl3, hl4, hk4⟩ := fin (some (.goto t)) W3 hk3
        exact ⟨_, _, hr, .inr ⟨rfl, .goto t, hIx _ _ _ hi3 (Grw.putObj _ (by omega) hl3 rfl), hl4, hk4⟩⟩
      | panic ch => exact hp.elim
      | outgrown => exact hp.elim
    · rintro e W2 ⟨⟨v, rfl⟩, (⟨hi, hl, hk⟩ | ⟨c, hi, hl, hk⟩)⟩
      · exact ⟨none, _, by have := run_endLoop (P := Try.prog) hl (by rw [hrec]; simp); rw [hrec] at this; exact this, hdone _ _ (Nat.le_refl _) (hI _ _ _ hi (Grw.putObj _ (by omega) hl rfl)) ((World.putObj_heap_other (by omega)).trans hk)⟩
      · exact ⟨some c, _, by have := run_endLoop (P := Try.prog) hl (by rw [hrec]; simp); rw [hrec] at this; exact this, wpIn_wide.2 (hstop _ c _ (Nat.le_refl _) (hIx _ _ _ hi (Grw.putObj _ (by omega) hl rfl)) ((World.putObj_heap_other (by omega)).trans hk))⟩
theorem wp_rangeU {g : Operand} {ps : Array Tmp} {assign body : Code} {Q : Exit → Act → World → Prop} {a : Act} {w : World} {gf : Nat} {lb : Array Value} (hg : a.eval g = .func (.func gf) #[] lb)
    (eg : ∀ args w, (callFunc gf args).run Try.prog w = .ok (.enter gf args) w) {KP : World → Prop} {vs : List (Array Value)} (hseq : IterW gf lb KP vs) (hps : ∀ k, k < vs.length → (vs.getD k #[]).size = ps.size)
    (I : Nat → World → Prop) (Ix : Code → World → Prop) (hKP : ∀ k W, I k W → KP W) (hI : ∀ k W W', I k W → Grw w.heap.size W W' → I k W') (hIx : ∀ c W W', Ix c W → Grw w.heap.size W W' → Ix c W') (h0 : I 0 w) (upd : Array Value → Array Value → Nat → Array Value) (cx : Array Value → Array Value) (ex : TypeId)
    (hassign : ∀ (l k : Nat) (W : World) (K : Act → World → Prop), k < vs.length → (∀ (W' : World) (bn : Nat), W.grownBy W' none → W.heap.size ≤ bn → W'.heap[bn]? = some (.cells (cx (vs.getD k #[])) ex (0, 0)) → K { tmps := upd a.tmps (vs.getD k #[]) bn, defers := [] } W') →
      assign.wpIn (Fence.wide.inRound l) 3 Try.prog (Exit.then K (fun _ _ _ => False)) { tmps := (ps.zip (vs.getD k #[])).foldl (fun t (p, v) => t.setIfInBounds p v) a.tmps, defers := [] } W)
    (hbody : ∀ (l k : Nat) (W0 W : World) (bn : Nat), k < vs.length → I k W0 → Grw w.heap.size W0 W → w.heap.size ≤ W0.heap.size → W0.heap.size ≤ bn → W.heap[bn]? = some (.cells (cx (vs.getD k #[])) ex (0, 0)) →
      body.wpIn (Fence.wide.inRound l) 3 Try.prog (rowPost w.heap.size (I (k + 1)) Ix W) { tmps := upd a.tmps (vs.getD k #[]) bn, defers := [] } W)
    (hdone : ∀ (D : Nat) (W : World), w.heap.size ≤ D → I vs.length W → W.heap[D]? = some (.deferred (some [])) → Q .normal { a with defers := { target := .collected D, args := #[] } :: a.defers } W)
    (hstop : ∀ (D : Nat) (c : Code) (W : World), w.heap.size ≤ D → Ix c W → W.heap[D]? = some (.deferred (some [])) → c.wp Try.prog Q { a with defers := { target := .collected D, args := #[] } :: a.defers } W) :
    (Code.rangeFunc g ps assign body).wp Try.prog Q a w :=
  wp_rangeW hg eg hseq hps I Ix hKP hI hIx h0 (fun x bn => { tmps := upd a.tmps x bn, defers := [] }) cx ex hassign hbody hdone hstop
/-! ### leaving a function behind ranges over functions -/
def marks (ms : List Nat) : List Deferred := ms.map fun D => { target := .collected D, args := #[] }
theorem leave_marks {n B : Nat} {fn : Func} {tmps : Array Value} {R : Ending → World → Prop} : ∀ (ms : List Nat) (W : World), ms.Nodup → (∀ D ∈ ms, B ≤ D ∧ W.heap[D]? = some (.deferred (some []))) →
    (∀ W', Grw B W W' → ∃ v, (results fn tmps).run Try.prog W' = .ok v W' ∧ R (.returned v) W') → LeavesInM Fence.wide n Try.prog fn tmps R (marks ms) .returning W
  | [], W, _, _, h => h W (Grw.refl B W)
  | D :: ms, W, hn, hd, h => by
    rw [List.nodup_cons] at hn
    obtain ⟨h1, h2⟩ := hd D (List.mem_cons_self ..)
    refine ⟨by simp, .inl ⟨D, _, rfl, run_takeDeferred h2, ?_⟩⟩
    have hg : Grw B W (W.putObj D (.deferred none)) := Grw.putObj _ h1 h2 rfl
    refine leave_marks ms _ hn.2 (fun E hE => ?_) (fun W' hg' => h W' (hg.trans hg'))
    obtain ⟨q1, q2⟩ := hd E (List.mem_cons_of_mem _ hE)
    exact ⟨q1, (World.putObj_heap_other (fun e => hn.1 (by rw [← e]; exact hE))).trans q2⟩
theorem results_cell1 {P : Program} {fn : Func} {a : Tmp} {t : TypeId} {p : Addr} {v : Value} {w : World} (h : fn.results = #[.cell a t]) (tmps : Array Value) (hp : tmps.getD a undef = .pointer (some p)) (hl : (loadVar t p).run P w = .ok v w) :
    (results fn tmps).run P w = .ok v w := by
  have hp2 : tmps[a]?.getD undef = .pointer (some p) := by simpa using hp
  simp [results, h, hp2, asAddr, hl]
end Go.Proofs.Ytjmfdflhplobmaa.Rfw
