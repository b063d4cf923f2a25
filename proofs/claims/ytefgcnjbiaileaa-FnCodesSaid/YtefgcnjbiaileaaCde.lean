/- Codes: a struct of an int and two lists of lists. What the laws' helpers do with one: toCode copies, szCode counts, eqCode compares, markCode writes marks and heldCode looks whether they are still there. -/
import Derived.Test.YtefgcnjbiaileaaHco
import Derived.Test.YtefgcnjbiaileaaSrt
import Derived.Test.YtefgcnjbiaileaaBig
import Derived.WideShapes
import Derived.Deep.RegionHeld3
import Derived.Lib.SmallJoins
import Derived.Deep.Cut
set_option linter.unusedVariables false
set_option maxRecDepth 20000
namespace Go.Proofs.Ytefgcnjbiaileaa.Cde
open Go.Deep Go.RowKit Go.Joins Fr _root_.Go.Proofs.Ytefgcnjbiaileaa.Own Pk Ins Rws Srt Sst Hco

theorem cell3 {W : World} {p : Nat} {x y z : Value} {e : TypeId} (h : W.heap[p]? = some (.cells #[x, y, z] e (0, 0))) : W.cell? ⟨p, 0, none⟩ = some x ∧ W.cell? ⟨p, 1, none⟩ = some y ∧ W.cell? ⟨p, 2, none⟩ = some z :=
  ⟨range3 h 0 x rfl, range3 h 1 y rfl, range3 h 2 z rfl⟩
theorem frz {W : World} {p : Nat} {cs : Array Value} {t : TypeId} (hp : W.heap[p]? = some (.cells cs t (0, 0))) (j : Nat) : W.frozen? ⟨p, j, none⟩ = false := frozen_of_row W p j cs t hp
theorem set_gr (w : World) (g j : Nat) (v : Value) : w.grownBy (w.setCell ⟨g, j, none⟩ v) (some g) :=
  ⟨rfl, rfl, rfl, by simp, fun k _ hk => heap_setCell_other w ⟨g, j, none⟩ k v (fun e => hk (by simp [e]))⟩
theorem box_below (w : World) (o : Obj) : Below w.heap.size w (w.alloc o) := (Below.refl _ w).alloc (Nat.le_refl _) o
theorem results_cell {P : Program} {fn : Func} {a : Tmp} {t : TypeId} {p : Addr} {v : Value} {w : World} (h : fn.results = #[.cell a t]) (tmps : Array Value) (hp : tmps.getD a undef = .pointer (some p)) (hl : (loadVar t p).run P w = .ok v w) :
    (results fn tmps).run P w = .ok v w := by
  have hp2 : tmps[a]?.getD undef = .pointer (some p) := by simpa using hp
  simp [results, h, hp2, asAddr, hl]
theorem three (w : World) (o0 o1 o2 : Obj) : (((w.alloc o0).alloc o1).alloc o2).heap.size = w.heap.size + 1 + 1 + 1 ∧ Below w.heap.size w (((w.alloc o0).alloc o1).alloc o2) :=
  ⟨by simp, (((Below.refl _ w).alloc (Nat.le_refl _) o0).alloc (by simp) o1).alloc (by simp; omega) o2⟩
theorem three_at (w : World) (c0 c1 c2 : Array Value) (t0 t1 t2 : TypeId) :
    (((w.alloc (.cells c0 t0)).alloc (.cells c1 t1)).alloc (.cells c2 t2)).heap[w.heap.size]? = some (.cells c0 t0 (0, 0)) ∧
    (((w.alloc (.cells c0 t0)).alloc (.cells c1 t1)).alloc (.cells c2 t2)).heap[w.heap.size + 1]? = some (.cells c1 t1 (0, 0)) ∧
    (((w.alloc (.cells c0 t0)).alloc (.cells c1 t1)).alloc (.cells c2 t2)).heap[w.heap.size + 1 + 1]? = some (.cells c2 t2 (0, 0)) := by
  have s1 : (w.alloc (.cells c0 t0)).heap.size = w.heap.size + 1 := by simp
  have s2 : ((w.alloc (.cells c0 t0)).alloc (.cells c1 t1)).heap.size = w.heap.size + 1 + 1 := by simp
  have a0 := heap_alloc_new w (.cells c0 t0)
  have a1 := heap_alloc_new (w.alloc (.cells c0 t0)) (.cells c1 t1)
  have a2 := heap_alloc_new ((w.alloc (.cells c0 t0)).alloc (.cells c1 t1)) (.cells c2 t2)
  rw [s1] at a1
  rw [s2] at a2
  have b1 := (box_below (w.alloc (.cells c0 t0)) (.cells c1 t1))
  have b2 := (box_below ((w.alloc (.cells c0 t0)).alloc (.cells c1 t1)) (.cells c2 t2))
  rw [s1] at b1
  rw [s2] at b2
  exact ⟨(b2.block _ (by omega)).trans ((b1.block _ (by omega)).trans a0), (b2.block _ (by omega)).trans a1, a2⟩
theorem put3 {W : World} {p : Nat} {a b c x y z : Value} {t : TypeId} (hp : W.heap[p]? = some (.cells #[a, b, c] t (0, 0))) : (((W.setCell ⟨p, 0, none⟩ x).setCell ⟨p, 1, none⟩ y).setCell ⟨p, 2, none⟩ z).heap[p]? = some (.cells #[x, y, z] t (0, 0)) ∧ W.grownBy (((W.setCell ⟨p, 0, none⟩ x).setCell ⟨p, 1, none⟩ y).setCell ⟨p, 2, none⟩ z) (some p) := by
  have h1 := heap_setCell_same W p 0 #[a, b, c] t x hp
  have h2 := heap_setCell_same _ p 1 _ t y h1
  have h3 := heap_setCell_same _ p 2 _ t z h2
  exact ⟨h3, ((set_gr W p 0 x).trans (set_gr _ p 1 y)).trans (set_gr _ p 2 z)⟩
/-- two lists of lists, the blocks of the first below those of the second -/
def CR (W : World) (lo hi : Nat) (A : Option Addr) (n c : Nat) (rs : List RD) (A2 : Option Addr) (m c2 : Nat) (r2 : List RD) : Prop := ∃ mid, SSRow W lo mid A n c rs ∧ SSRow W mid hi A2 m c2 r2 ∧ lo ≤ mid ∧ mid ≤ hi
section
variable {W W' : World} {lo hi : Nat} {A A2 : Option Addr} {n c m c2 : Nat} {rs r2 : List RD}
theorem CR.below (h : CR W lo hi A n c rs A2 m c2 r2) (hb : Below W.heap.size W W') : CR W' lo hi A n c rs A2 m c2 r2 := by
  obtain ⟨mid, h1, h2, h3⟩ := h
  exact ⟨mid, h1.below hb, h2.below hb, h3⟩
theorem CR.grown {row : Option Nat} (h : CR W lo hi A n c rs A2 m c2 r2) (hg : W.grownBy W' row) (hr : ∀ k, row = some k → k < lo ∨ hi ≤ k) : CR W' lo hi A n c rs A2 m c2 r2 := by
  obtain ⟨mid, h1, h2, h3, h4⟩ := h
  exact ⟨mid, h1.grown hg (fun k hk => by have := hr k hk; omega), h2.grown hg (fun k hk => by have := hr k hk; omega), h3, h4⟩
theorem CR.wi {lo2 hi2 : Nat} (h : CR W lo hi A n c rs A2 m c2 r2) (hw : Wi lo2 hi2 W W') (hd : hi ≤ lo2 ∨ hi2 ≤ lo) : CR W' lo hi A n c rs A2 m c2 r2 := by
  obtain ⟨mid, h1, h2, h3, h4⟩ := h
  exact ⟨mid, h1.wi hw (by omega), h2.wi hw (by omega), h3, h4⟩
theorem CR.size (h : CR W lo hi A n c rs A2 m c2 r2) : hi ≤ W.heap.size := by
  obtain ⟨mid, h1, h2, _⟩ := h
  exact h2.2.2.2.2
end
theorem CR.top {W : World} {lo lo' hi : Nat} {A A2 : Option Addr} {n c m c2 : Nat} {rs r2 : List RD} (h : CR W lo hi A n c rs A2 m c2 r2) (h1 : lo' ≤ lo) : CR W lo' W.heap.size A n c rs A2 m c2 r2 := by
  obtain ⟨mid, h2, h3, h4, h5⟩ := h
  exact ⟨mid, ⟨own_mono h2.1 h1, fun i hi' => ⟨own_mono (h2.2.1 i hi').1 h1, (h2.2.1 i hi').2⟩, h2.2.2⟩, h3.higher h3.2.2.2.2 (Nat.le_refl _), Nat.le_trans h1 h4, Nat.le_trans h5 h3.2.2.2.2⟩
theorem wi_below {lo hi : Nat} {W W' : World} (h : Below W.heap.size W W') : Wi lo hi W W' := ⟨h.os, h.tape, h.output, h.size, fun k hk _ => h.block k hk⟩
theorem wi_trans {lo hi : Nat} {W W1 W2 : World} (h : Wi lo hi W W1) (h2 : Wi lo hi W1 W2) : Wi lo hi W W2 :=
  ⟨h2.os.trans h.os, h2.tape.trans h.tape, h2.output.trans h.output, Nat.le_trans h.size h2.size, fun k hk ho => (h2.block k (Nat.lt_of_lt_of_le hk h.size) ho).trans (h.block k hk ho)⟩
theorem wi_more {lo hi lo' hi' : Nat} {W W1 : World} (h : Wi lo hi W W1) (h1 : lo' ≤ lo) (h2 : hi ≤ hi') : Wi lo' hi' W W1 :=
  ⟨h.os, h.tape, h.output, h.size, fun k hk ho => h.block k hk (by omega)⟩
theorem ss_lower {W : World} {lo lo' hi : Nat} {A : Option Addr} {n c : Nat} {rs : List RD} (h : SSRow W lo hi A n c rs) (hl : lo' ≤ lo) : SSRow W lo' hi A n c rs :=
  ⟨own_mono h.1 hl, fun i hi' => ⟨own_mono (h.2.1 i hi').1 hl, (h.2.1 i hi').2⟩, h.2.2⟩
/-- a call hands back a code whose lists lie in rows of its own, and writes nothing old -/
def IsCd (B : Nat) (D : Int) (n m : Nat) (ls l2 : List RD) (w : World) (e : Ending) (w' : World) : Prop :=
  ∃ g g2 rs r2, e = .returned (coV D (some ⟨g, 0, none⟩) n n (some ⟨g2, 0, none⟩) m m) ∧ rs.map RD.zs = ls.map RD.zs ∧ r2.map RD.zs = l2.map RD.zs ∧ (∀ i, i < m → (r2.getD i rd0).zs.length ≤ (r2.getD i rd0).c) ∧ CR w' B w'.heap.size (some ⟨g, 0, none⟩) n n rs (some ⟨g2, 0, none⟩) m m r2 ∧ Below B w w'
theorem loadC {W : World} {g : Nat} {x y z : Value} {e : TypeId} (h : W.heap[g]? = some (.cells #[x, y, z] e (0, 0))) : (loadVar 26 ⟨g, 0, none⟩).run Try.prog W = .ok (.agg #[x, y, z]) W :=
  run_loadVar_mid (P := Try.prog) W g 0 26 [x, y, z] _ (range3 h) Try.underlying26 rfl (by kernel_rfl)
theorem caps_of {W : World} {lo hi : Nat} {A : Option Addr} {n c : Nat} {rs : List RD} (h : SSRow W lo hi A n c rs) (i : Nat) (hi' : i < n) : (rs.getD i rd0).zs.length ≤ (rs.getD i rd0).c := by
  have hr := (h.2.1 i (by rw [h.len]; exact hi')).1
  rcases hr.2 with ⟨h1, h2⟩ | ⟨g, cap, cur, hv, _, _, hc, _⟩
  · omega
  · simp only [Value.slice.injEq] at hv
    omega
theorem fits_map {rs : List RD} (h : ∀ i, i < rs.length → Fits (rs.getD i rd0).zs) : ∀ q ∈ rs.map RD.zs, Fits q := by
  intro q hq
  obtain ⟨r, hr, rfl⟩ := List.mem_map.1 hq
  obtain ⟨i, hi, rfl⟩ := List.getElem_of_mem hr
  have := h i hi
  rwa [List.getD_eq_getElem?_getD, List.getElem?_eq_getElem hi] at this
theorem cell_wi {lo hi b o : Nat} {W W' : World} {v : Value} (hw : Wi lo hi W W') (h : W.cell? ⟨b, o, none⟩ = some v) (hd : b < lo ∨ hi ≤ b) : W'.cell? ⟨b, o, none⟩ = some v := by
  have := hw.block b (World.block_lt_of_cell? W _ h) hd
  unfold World.cell? at h ⊢
  rw [this]
  exact h
/-- how much a code takes -/
def cTot (n : Nat) (ls : List RD) (m : Nat) (l2 : List RD) : Nat := n + tot ls n + (m + tot l2 m)
section
open Go.ChangeShapes Go.WideShapes
variable {H : Type} {enc : TypeId × Value → H} {P : Program}
/-- one list of lists, a field of a struct, opened -/
theorem trod_intss {W : World} {t e q : TypeId} {v : Value} {f : Nat} {y : DataW H × List MemPlace} (ht : P.underlying t = some (.slice e)) (he : P.underlying e = some (.slice q)) (hq : P.underlying q = some (.int .i64)) (ce : P.cellsOf e = 1) (cq : P.cellsOf q = 1)
    (hf : DataW.trod enc P W 0 (fun _ => true) true f t [v] = some y) (hlt : ∀ x ∈ y.2, x.block < W.heap.size) :
    ∃ (A : Option Addr) (n c : Nat) (rs : List RD), v = .slice A n c ∧ rs.length = n ∧ n ≤ maxLen ∧ WfSS rs ∧ SSAt W W.heap.size A rs := by
  rcases open_int_rows ht he hq ce cq hf with ⟨hcs, hx⟩ | ⟨a, len, cap, Ar, L, C, Z, hcs, _, hl, hm, hx, hr⟩
  · simp only [List.cons.injEq, and_true] at hcs
    subst hcs
    exact ⟨none, 0, 0, [], rfl, rfl, Nat.zero_le _, (fun i hi => absurd hi (Nat.not_lt_zero _)), SSAt.nil _ _ _⟩
  · simp only [List.cons.injEq, and_true] at hcs
    subst hcs
    have hget : ∀ i, i < len → ((List.range len).map fun r => (⟨Ar r, C r, (Z r).take (L r)⟩ : RD)).getD i rd0 = ⟨Ar i, C i, (Z i).take (L i)⟩ := by
      intro i hi
      simp [List.getD_eq_getElem?_getD, hi]
    have hzl : ∀ i, i < cap → ((Z i).take (L i)).length = L i := by
      intro i hi
      obtain ⟨_, h1, _, h3, _⟩ := hr i hi
      rw [List.length_take]; omega
    refine ⟨some a, len, cap, (List.range len).map fun r => ⟨Ar r, C r, (Z r).take (L r)⟩, rfl, by simp, by omega, ?_, ?_⟩
    · intro i hi
      simp only [List.length_map, List.length_range] at hi
      rw [hget i hi]
      obtain ⟨_, h1, h2, h3, h4, _⟩ := hr i (by omega)
      refine ⟨by show ((Z i).take (L i)).length ≤ maxLen; rw [hzl i (by omega)]; omega, ?_⟩
      exact fits_of fun z hz => h4 z (List.mem_of_mem_take hz)
    · intro j hj
      simp only [List.length_map, List.length_range] at hj
      rw [hget j hj]
      obtain ⟨hc, h1, h2, h3, h4, h5, h6⟩ := hr j (by omega)
      obtain ⟨b, off, spot⟩ := a
      have hspot : spot = none := by simpa [Addr.add] using World.cell?_spot (hr 0 (by omega)).1
      subst hspot
      have hbW : b < W.heap.size := hlt (.cell b off) (by rw [hx]; exact List.mem_append_left _ (MemPlace.mem_row.2 ⟨0, by omega, by simp⟩))
      refine ⟨b, off, rfl, hbW, ?_, ?_⟩
      · rw [← add_plain, hc]
        simp only [RD.v]
        rw [hzl j (by omega)]
      · intro k hk
        simp only at hk ⊢
        rw [hzl j (by omega)] at hk
        cases hA : Ar j with
        | none => have := h5 hA; omega
        | some a' =>
          obtain ⟨_, hcell⟩ := h6 a' hA
          obtain ⟨b', off', spot'⟩ := a'
          have hs' : spot' = none := by simpa [Addr.add] using World.cell?_spot (hcell 0 (by omega))
          subst hs'
          have hbW' : b' < W.heap.size := by
            refine hlt (.cell b' off') ?_
            rw [hx]
            refine List.mem_append_right _ (List.mem_flatMap.2 ⟨j, List.mem_range.2 (by omega), ?_⟩)
            rw [hA]
            exact MemPlace.mem_row.2 ⟨0, by omega, by simp⟩
          refine ⟨b', off', rfl, hbW', ?_⟩
          rw [← add_plain, hcell k (by omega)]
          simp [List.getD_eq_getElem?_getD, hk]
/-- an argument that is a code -/
theorem view_code {W : World} {base : Nat} {t e q : TypeId} {f0 f1 f2 : Field} {v : Value} {d : DataW H} {ps : List MemPlace} (hs : P.underlying t = some (.struct #[f0, f1, f2])) (hone : oneCellFields P #[f0, f1, f2] = true) (hC : P.cellsOf t = 3)
    (h0 : P.underlying f0.type = some (.int .i64)) (h1 : P.underlying f1.type = some (.slice e)) (h2 : P.underlying f2.type = some (.slice e)) (he : P.underlying e = some (.slice q)) (hq : P.underlying q = some (.int .i64)) (ce : P.cellsOf e = 1) (cq : P.cellsOf q = 1)
    (hval : Value.okWide P W .any base t v) (hd : DataW.Trod enc P W 0 (fun _ => true) true t v d ps) (hlt : ∀ x ∈ ps, x.block < W.heap.size) :
    ∃ (D : Int) (A : Option Addr) (n c : Nat) (ls : List RD) (A2 : Option Addr) (m c2 : Nat) (l2 : List RD), v = coV D A n c A2 m c2 ∧ (Lit.int .i64 D).wf = true ∧ ls.length = n ∧ n ≤ maxLen ∧ WfSS ls ∧ SSAt W W.heap.size A ls ∧ l2.length = m ∧ m ≤ maxLen ∧ WfSS l2 ∧ SSAt W W.heap.size A2 l2 := by
  obtain ⟨v0, v1, v2, y0, y1, y2, n, rfl, _, hp, e0, e1, e2⟩ := open_agg3 hs hone hC hval hd
  obtain ⟨D, hD, _, hwD⟩ := DataW.trod_int h0 e0
  simp only [List.cons.injEq, and_true] at hD
  subst hD
  obtain ⟨A, n1, c1, ls, rfl, a1, a2, a3, a4⟩ := trod_intss h1 he hq ce cq e1 (fun x hx => hlt x (by rw [hp]; simp [hx]))
  obtain ⟨A2, m1, c2, l2, rfl, b1, b2, b3, b4⟩ := trod_intss h2 he hq ce cq e2 (fun x hx => hlt x (by rw [hp]; simp [hx]))
  exact ⟨D, A, n1, c1, ls, A2, m1, c2, l2, rfl, hwD, a1, a2, a3, a4, b1, b2, b3, b4⟩
end
end Go.Proofs.Ytefgcnjbiaileaa.Cde
