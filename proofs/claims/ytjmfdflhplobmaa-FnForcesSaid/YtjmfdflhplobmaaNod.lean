/- Lists of nodes (a string, a list of ints, an int): as an argument, how much they take, the laws' copy of one, comparison. -/
import Derived.Test.YtjmfdflhplobmaaRws
import Derived.Test.YtjmfdflhplobmaaFpl
import Derived.WideShapes
import Derived.Deep.Slices
import Derived.ChangeSame
import Derived.Deep.RegionHeld3
import Derived.Lib.SmallJoins
import Derived.Deep.Cut
set_option linter.unusedVariables false
set_option maxRecDepth 20000
namespace Go.Proofs.Ytjmfdflhplobmaa.Nod
open Go.Deep Go.RowKit Go.Joins Go.ChangeShapes Go.WideShapes Fr _root_.Go.Proofs.Ytjmfdflhplobmaa.Own Pk Ins Rws Fpl

/-- a node in memory: what is said, where its followers lie, its end -/
structure NR where
  say : ByteArray
  A : Option Addr
  c : Nat
  zs : List Int
  fin : Int
def nr0 : NR := ⟨ByteArray.empty, none, 0, [], 0⟩
def NR.nv (r : NR) : NV := ⟨r.say, r.zs, r.fin⟩
def NR.sv (r : NR) : Value := .slice r.A r.zs.length r.c
def NR.b (r : NR) : Option Nat := r.A.map (·.block)
abbrev nodV (s : ByteArray) (A : Option Addr) (n c : Nat) (m : Int) : Value := .agg #[.string s, .slice A n c, .int .i64 m]
/-- a list of nodes in memory, below block B -/
def NodesAt (w : World) (B : Nat) (A : Option Addr) (rs : List NR) : Prop := ∀ j, j < rs.length → ∃ b o, A = some ⟨b, o, none⟩ ∧ b < B ∧
  w.cell? ⟨b, o + j * 3, none⟩ = some (.string (rs.getD j nr0).say) ∧ w.cell? ⟨b, o + j * 3 + 1, none⟩ = some (rs.getD j nr0).sv ∧ w.cell? ⟨b, o + j * 3 + 2, none⟩ = some (.int .i64 (rs.getD j nr0).fin) ∧ IntsAt w B .i64 (rs.getD j nr0).A (rs.getD j nr0).zs
theorem NodesAt.below {w w' : World} {B : Nat} {A : Option Addr} {rs : List NR} (h : NodesAt w B A rs) (hb : Below B w w') : NodesAt w' B A rs := by
  intro j hj
  obtain ⟨b, o, hA, hlt, h0, h1, h2, h3⟩ := h j hj
  exact ⟨b, o, hA, hlt, (hb.cell (p := ⟨b, o + j * 3, none⟩) hlt).trans h0, (hb.cell (p := ⟨b, o + j * 3 + 1, none⟩) hlt).trans h1, (hb.cell (p := ⟨b, o + j * 3 + 2, none⟩) hlt).trans h2, h3.below hb⟩
theorem NodesAt.more {w : World} {B B' : Nat} {A : Option Addr} {rs : List NR} (h : NodesAt w B A rs) (hB : B ≤ B') : NodesAt w B' A rs := by
  intro j hj
  obtain ⟨b, o, hA, hlt, h0, h1, h2, h3⟩ := h j hj
  exact ⟨b, o, hA, by omega, h0, h1, h2, h3.more hB⟩
/-- every part fits -/
def WfN (rs : List NR) : Prop := ∀ j, j < rs.length → (rs.getD j nr0).say.size ≤ maxLen ∧ (rs.getD j nr0).zs.length ≤ maxLen ∧ Fits (rs.getD j nr0).zs ∧ (Lit.int .i64 (rs.getD j nr0).fin).wf = true
def bulk (r : NR) : Nat := r.say.size + r.zs.length
def btot (rs : List NR) : Nat → Nat
  | 0 => 0
  | j + 1 => btot rs j + bulk (rs.getD j nr0)
theorem btot_mono (rs : List NR) (i j : Nat) (h : i ≤ j) : btot rs i ≤ btot rs j := by
  induction j with
  | zero => rw [Nat.le_zero.1 h]; exact Nat.le_refl _
  | succ j ih =>
    by_cases e : i = j + 1
    · rw [e]; exact Nat.le_refl _
    · have := ih (by omega); simp only [btot]; omega
theorem bulk_le (rs : List NR) {j n : Nat} (h : j < n) : bulk (rs.getD j nr0) ≤ btot rs n := by
  have := btot_mono rs (j + 1) n (by omega)
  simp only [btot] at this
  omega
theorem range3 {W : World} {g : Nat} {x y z : Value} {e : TypeId} (h : W.heap[g]? = some (.cells #[x, y, z] e (0, 0))) : W.rangeAt g 0 [x, y, z] := by
  intro j v hv
  unfold World.cell?
  match j, hv with
  | 0, hv => simp at hv; subst hv; simp [h]
  | 1, hv => simp at hv; subst hv; simp [h]
  | 2, hv => simp at hv; subst hv; simp [h]
theorem cell3 {W : World} {p : Nat} {x y z : Value} {e : TypeId} (h : W.heap[p]? = some (.cells #[x, y, z] e (0, 0))) : W.cell? ⟨p, 0, none⟩ = some x ∧ W.cell? ⟨p, 1, none⟩ = some y ∧ W.cell? ⟨p, 2, none⟩ = some z :=
  ⟨range3 h 0 x rfl, range3 h 1 y rfl, range3 h 2 z rfl⟩
theorem frz {W : World} {p : Nat} {cs : Array Value} {t : TypeId} (hp : W.heap[p]? = some (.cells cs t (0, 0))) (j : Nat) : W.frozen? ⟨p, j, none⟩ = false := frozen_of_row W p j cs t hp
theorem set_gr (w : World) (g j : Nat) (v : Value) : w.grownBy (w.setCell ⟨g, j, none⟩ v) (some g) :=
  ⟨rfl, rfl, rfl, by simp, fun k _ hk => heap_setCell_other w ⟨g, j, none⟩ k v (fun e => hk (by simp [e]))⟩
theorem box_below (w : World) (o : Obj) : Below w.heap.size w (w.alloc o) := (Below.refl _ w).alloc (Nat.le_refl _) o
theorem results_cell {P : Program} {fn : Func} {a : Tmp} {t : TypeId} {p : Addr} {v : Value} {w : World} (h : fn.results = #[.cell a t]) (tmps : Array Value) (hp : tmps.getD a undef = .pointer (some p)) (hl : (loadVar t p).run P w = .ok v w) :
    (results fn tmps).run P w = .ok v w := by
  have hp2 : tmps[a]?.getD undef = .pointer (some p) := by simpa using hp
  simp [results, h, hp2, asAddr, hl]
theorem put3 {W : World} {p : Nat} {a b c x y z : Value} {t : TypeId} (hp : W.heap[p]? = some (.cells #[a, b, c] t (0, 0))) : (((W.setCell ⟨p, 0, none⟩ x).setCell ⟨p, 1, none⟩ y).setCell ⟨p, 2, none⟩ z).heap[p]? = some (.cells #[x, y, z] t (0, 0)) ∧ W.grownBy (((W.setCell ⟨p, 0, none⟩ x).setCell ⟨p, 1, none⟩ y).setCell ⟨p, 2, none⟩ z) (some p) := by
  have h1 := heap_setCell_same W p 0 #[a, b, c] t x hp
  have h2 := heap_setCell_same _ p 1 _ t y h1
  have h3 := heap_setCell_same _ p 2 _ t z h2
  exact ⟨h3, ((set_gr W p 0 x).trans (set_gr _ p 1 y)).trans (set_gr _ p 2 z)⟩
theorem three_at (w : World) (c0 c1 c2 : Array Value) (t0 t1 t2 : TypeId) :
    (((w.alloc (.cells c0 t0)).alloc (.cells c1 t1)).alloc (.cells c2 t2)).heap[w.heap.size]? = some (.cells c0 t0 (0, 0)) ∧
    (((w.alloc (.cells c0 t0)).alloc (.cells c1 t1)).alloc (.cells c2 t2)).heap[w.heap.size + 1]? = some (.cells c1 t1 (0, 0)) ∧
    (((w.alloc (.cells c0 t0)).alloc (.cells c1 t1)).alloc (.cells c2 t2)).heap[w.heap.size + 1 + 1]? = some (.cells c2 t2 (0, 0)) ∧
    Below w.heap.size w (((w.alloc (.cells c0 t0)).alloc (.cells c1 t1)).alloc (.cells c2 t2)) ∧ (((w.alloc (.cells c0 t0)).alloc (.cells c1 t1)).alloc (.cells c2 t2)).heap.size = w.heap.size + 1 + 1 + 1 := by
  have s1 : (w.alloc (.cells c0 t0)).heap.size = w.heap.size + 1 := by simp
  have s2 : ((w.alloc (.cells c0 t0)).alloc (.cells c1 t1)).heap.size = w.heap.size + 1 + 1 := by simp
  have a0 := heap_alloc_new w (.cells c0 t0)
  have a1 := heap_alloc_new (w.alloc (.cells c0 t0)) (.cells c1 t1)
  have a2 := heap_alloc_new ((w.alloc (.cells c0 t0)).alloc (.cells c1 t1)) (.cells c2 t2)
  rw [s1] at a1
  rw [s2] at a2
  have b1 := (box_below (w.alloc (.cells c0 t0)) (.cells c1 t1))
  have b2 := (box_below ((w.alloc (.cells c0 t0)).alloc (.cells c1 t1)) (.cells c2 t2))
  rw [s1] at b1
  rw [s2] at b2
  exact ⟨(b2.block _ (by omega)).trans ((b1.block _ (by omega)).trans a0), (b2.block _ (by omega)).trans a1, a2, ((box_below w _).trans (b1.mono (by omega))).trans (b2.mono (by omega)), by simp⟩
theorem two_at (w : World) (c0 c1 : Array Value) (t0 t1 : TypeId) :
    ((w.alloc (.cells c0 t0)).alloc (.cells c1 t1)).heap[w.heap.size]? = some (.cells c0 t0 (0, 0)) ∧
    ((w.alloc (.cells c0 t0)).alloc (.cells c1 t1)).heap[w.heap.size + 1]? = some (.cells c1 t1 (0, 0)) ∧
    Below w.heap.size w ((w.alloc (.cells c0 t0)).alloc (.cells c1 t1)) ∧ ((w.alloc (.cells c0 t0)).alloc (.cells c1 t1)).heap.size = w.heap.size + 1 + 1 := by
  have s1 : (w.alloc (.cells c0 t0)).heap.size = w.heap.size + 1 := by simp
  have a0 := heap_alloc_new w (.cells c0 t0)
  have a1 := heap_alloc_new (w.alloc (.cells c0 t0)) (.cells c1 t1)
  rw [s1] at a1
  have b1 := (box_below (w.alloc (.cells c0 t0)) (.cells c1 t1))
  rw [s1] at b1
  exact ⟨(b1.block _ (by omega)).trans a0, a1, (box_below w _).trans (b1.mono (by omega)), by simp⟩

section
variable {H : Type} {enc : TypeId × Value → H} {P : Program}
/-- an argument of type []struct{string; []int; int} -/
theorem view_nodes {W : World} {base : Nat} {t e q : TypeId} {f0 f1 f2 : Field} {v : Value} {d : DataW H} {ps : List MemPlace} (hs : P.underlying t = some (.slice e)) (he : P.underlying e = some (.struct #[f0, f1, f2]))
    (ce : P.cellsOf e = 3) (o0 : f0.offset = 0) (o1 : f1.offset = 1) (o2 : f2.offset = 2) (c0 : P.cellsOf f0.type = 1) (c1 : P.cellsOf f1.type = 1) (c2 : P.cellsOf f2.type = 1)
    (h0 : P.underlying f0.type = some .string) (h1 : P.underlying f1.type = some (.slice q)) (hq : P.underlying q = some (.int .i64)) (cq : P.cellsOf q = 1) (h2 : P.underlying f2.type = some (.int .i64))
    (hv : Value.okWide P W .any base t v) (h : DataW.Trod enc P W 0 (fun _ => true) true t v d ps) (hlt : ∀ x ∈ ps, x.block < W.heap.size) :
    ∃ (A : Option Addr) (n c : Nat) (rs : List NR), v = .slice A n c ∧ rs.length = n ∧ n ≤ maxLen ∧ WfN rs ∧ NodesAt W W.heap.size A rs := by
  obtain ⟨fuel, hf⟩ := h
  obtain ⟨a0, l0, k0, rfl, _⟩ := okWide_slice hs hv
  rcases open_slice hs hf with ⟨hcs, _⟩ | ⟨a, len, cap, m, n, D, Pl, hcs, _, hlc, hm, hmm, hx, hi⟩
  · simp only [Value.cells, List.cons.injEq, and_true] at hcs
    rw [hcs]
    exact ⟨none, 0, 0, [], rfl, rfl, Nat.zero_le _, fun j hj => absurd hj (Nat.not_lt_zero _), fun k hk => absurd hk (Nat.not_lt_zero _)⟩
  · simp only [Value.cells, List.cons.injEq, and_true] at hcs
    simp only [if_true] at hmm
    have hml : len ≤ m := by omega
    have hpl : ∀ i, i < m → ∀ x ∈ Pl i, x.block < W.heap.size := fun i hi' x hx' => hlt x (by
      simp only [Prod.mk.injEq] at hx
      rw [hx.2]
      exact List.mem_append_right _ (List.mem_flatMap.2 ⟨i, List.mem_range.2 hi', hx'⟩))
    have each : ∀ i, i < m → ∃ r : NR, (r.say.size ≤ maxLen ∧ r.zs.length ≤ maxLen ∧ Fits r.zs ∧ (Lit.int .i64 r.fin).wf = true) ∧
        W.cell? (a.add (i * 3)) = some (.string r.say) ∧ W.cell? (a.add (i * 3 + 1)) = some r.sv ∧ W.cell? (a.add (i * 3 + 2)) = some (.int .i64 r.fin) ∧ IntsAt W W.heap.size .i64 r.A r.zs := by
      intro i him
      obtain ⟨cs', g1, g2⟩ := hi i him
      rw [ce] at g1
      obtain ⟨_, hlen, hcell⟩ := World.cells?_some g1
      obtain ⟨xs, k, hk, hxy, _, hxl, hff⟩ := DataW.trod_struct he g2
      match xs, hxl, cs', hlen with
      | [y0, y1, y2], _, [v0, v1, v2], _ =>
        have e0 := hff 0 f0 rfl
        have e1 := hff 1 f1 rfl
        have e2 := hff 2 f2 rfl
        simp [o0, o1, o2, c0, c1, c2] at e0 e1 e2
        have k0 := hcell 0 (by omega)
        have k1 := hcell 1 (by omega)
        have k2 := hcell 2 (by omega)
        rw [add_add] at k0 k1 k2
        obtain ⟨s, hs0, _, hs2⟩ := DataW.trod_string h0 e0
        obtain ⟨z, hz0, _, hz2⟩ := DataW.trod_int h2 e2
        simp only [List.cons.injEq, and_true] at hs0 hz0
        subst hs0
        subst hz0
        have hp1 : ∀ x ∈ y1.2, x.block < W.heap.size := fun x hx' => hpl i him x (by
          simp only [Prod.mk.injEq] at hxy
          rw [hxy.2]
          simp [hx'])
        rcases open_ints h1 hq cq e1 with ⟨hn1, _⟩ | ⟨a', l', k', zs, hn1, _, q1, q2, q3, q4, q5, q6⟩
        · simp only [List.cons.injEq, and_true] at hn1
          subst hn1
          exact ⟨⟨s, none, 0, [], z⟩, ⟨hs2, Nat.zero_le _, fun i hi => absurd hi (Nat.not_lt_zero _), hz2⟩, by simpa using k0, (by show _ = some (Value.slice none 0 0); simpa using k1), by simpa using k2, IntsAt.none_ _ _ _ _⟩
        · simp only [List.cons.injEq, and_true] at hn1
          subst hn1
          simp only [if_true] at q3
          have hl : (zs.take l').length = l' := by rw [List.length_take]; omega
          refine ⟨⟨s, some a', k', zs.take l', z⟩, ⟨hs2, by show (zs.take l').length ≤ _; omega, fits_of fun x hx' => q6 x (List.mem_of_mem_take hx'), hz2⟩, by simpa using k0, ?_, by simpa using k2, ?_⟩
          · unfold NR.sv
            rw [hl]
            simpa using k1
          · intro j hj
            rw [hl] at hj
            obtain ⟨b, off, spot⟩ := a'
            have hspot : spot = none := by simpa [Addr.add] using World.cell?_spot (q5 0 (by omega))
            subst hspot
            have hbW : b < W.heap.size := hp1 (.cell b off) (by rw [q4]; exact MemPlace.mem_row.2 ⟨0, by omega, by simp⟩)
            refine ⟨b, off, rfl, hbW, ?_⟩
            rw [← add_plain, q5 j (by omega)]
            simp [List.getD_eq_getElem?_getD, hj]
    obtain ⟨b, o, sp⟩ := a
    have hspot : 0 < m → sp = none := fun h0 => by simpa [Addr.add] using World.cell?_spot (each 0 h0).choose_spec.2.1
    have hblk : 0 < m → b < W.heap.size := by
      intro h0'
      have e := hspot h0'
      subst e
      simp only [Prod.mk.injEq] at hx
      exact hlt (.cell b o) (by rw [hx.2, ce]; exact List.mem_append_left _ (MemPlace.mem_row.2 ⟨0, by omega, by simp⟩))
    refine ⟨some ⟨b, o, sp⟩, len, cap, (List.range len).map fun i => if hi' : i < m then (each i hi').choose else nr0, hcs, by simp, by omega, ?_, ?_⟩
    · intro j hj
      simp only [List.length_map, List.length_range] at hj
      have hjm : j < m := by omega
      simp only [List.getD_eq_getElem?_getD, List.getElem?_map, List.getElem?_range hj, Option.map_some, Option.getD_some, dif_pos hjm]
      exact (each j hjm).choose_spec.1
    · intro k hk
      simp only [List.length_map, List.length_range] at hk
      have hkm : k < m := by omega
      have hb := hblk (by omega)
      have hsp := hspot (by omega)
      subst hsp
      have e := (each k hkm).choose_spec.2
      simp only [List.getD_eq_getElem?_getD, List.getElem?_map, List.getElem?_range hk, Option.map_some, Option.getD_some, dif_pos hkm]
      exact ⟨b, o, rfl, hb, (congrArg W.cell? (by rw [add_plain])).trans e.1, (congrArg W.cell? (by rw [add_plain, Nat.add_assoc])).trans e.2.1, (congrArg W.cell? (by rw [add_plain, Nat.add_assoc])).trans e.2.2.1, e.2.2.2⟩
end
theorem sz_ints (A : Option Addr) (n c : Nat) (left : Int) (w : World) (hn : n ≤ 9223372036854775807) (h0 : 0 ≤ left) (h1 : left ≤ 1048576) :
    Calls Try.prog 76 #[.slice A n c, .int .i64 left] w fun e w' => e = .returned (.int .i64 (if (n : Int) ≤ left then left - n else -1)) ∧ w = w' := by
  by_cases h : (n : Int) ≤ left
  · rw [if_pos h]
    have h3 : decide (left - (n : Int) < 0) = false := decide_eq_false (by omega)
    go_enter Try.func76, Try.ntmps76
    go_wp2
    go_ret
    exact ⟨rfl, rfl⟩
  · rw [if_neg h]
    have h3 : left - (n : Int) < 0 := by omega
    go_enter Try.func76, Try.ntmps76
    go_wp2
    go_ret
    exact ⟨rfl, rfl⟩
theorem sz_node (s : ByteArray) (A : Option Addr) (n c : Nat) (m left : Int) (w : World) (hs : s.size ≤ 9223372036854775807) (hn : n ≤ 9223372036854775807) (h0 : 0 ≤ left) (h1 : left ≤ 1048576) :
    Calls Try.prog 54 #[nodV s A n c m, .int .i64 left] w fun e w' => e = .returned (.int .i64 (if ((s.size + n : Nat) : Int) ≤ left then left - ((s.size + n : Nat) : Int) else -1)) ∧ Below w.heap.size w w' := by
  obtain ⟨W, hW⟩ : ∃ W, W = w.alloc (.cells #[.string s, .slice A n c, .int .i64 m] 71) := ⟨_, rfl⟩
  have HB := Lib.hid (show Below w.heap.size w W by rw [hW]; exact box_below w _)
  obtain ⟨q0, q1, q2⟩ := cell3 (heap_alloc_new w (.cells #[.string s, .slice A n c, .int .i64 m] 71))
  rw [← hW] at q0 q1 q2
  by_cases h : (s.size : Int) ≤ left
  · have h3 : decide (left - (s.size : Int) < 0) = false := decide_eq_false (by omega)
    by_cases h4 : ((s.size + n : Nat) : Int) ≤ left
    · rw [if_pos h4]
      have h5 : decide (left - (s.size : Int) - (n : Int) < 0) = false := decide_eq_false (by omega)
      have HE := Lib.hid (show left - (s.size : Int) - (n : Int) = left - ((s.size + n : Nat) : Int) by omega)
      go_enter Try.func54, Try.ntmps54
      go_upto_region 1 with fail
      rw [← hW]
      clear hW
      go_wp2_with (go_at_call 76; refine (sz_ints A n c (left - (s.size : Int)) _ hn (by omega) (by omega)).mono ?_; rintro e w' ⟨rfl, rfl⟩; rw [if_pos (show (n : Int) ≤ left - (s.size : Int) by omega)])
      go_ret
      exact ⟨by rw [HE.out]; rfl, HB.out⟩
    · rw [if_neg h4]
      go_enter Try.func54, Try.ntmps54
      go_upto_region 1 with fail
      rw [← hW]
      clear hW
      go_wp2_with (go_at_call 76; refine (sz_ints A n c (left - (s.size : Int)) _ hn (by omega) (by omega)).mono ?_; rintro e w' ⟨rfl, rfl⟩; rw [if_neg (show ¬ (n : Int) ≤ left - (s.size : Int) by omega)])
      go_ret
      exact ⟨rfl, HB.out⟩
  · rw [if_neg (by omega)]
    have h3 : left - (s.size : Int) < 0 := by omega
    go_enter Try.func54, Try.ntmps54
    go_upto_region 1 with fail
    rw [← hW]
    clear hW
    go_wp2
    go_ret
    exact ⟨rfl, HB.out⟩
set_option maxHeartbeats 1000000 in
theorem sz_nodes (A : Option Addr) (n c : Nat) (rs : List NR) (k : Nat) (w : World) (hn : rs.length = n) (hn2 : n ≤ 9223372036854775807) (hz : WfN rs) (hk : k ≤ 1048576) (hss : NodesAt w w.heap.size A rs) :
    Calls Try.prog 26 #[.slice A n c, .int .i64 (k : Int)] w fun e w' => e = .returned (.int .i64 (if n + btot rs n ≤ k then (k : Int) - ((n + btot rs n : Nat) : Int) else -1)) ∧ Below w.heap.size w w' := by
  have HN := Lib.hid hn
  have HZ := Lib.hid hz
  have HM := Lib.hid (btot_mono rs)
  have HSS := Lib.hid hss
  clear hn hz hss
  by_cases h0 : n ≤ k
  · have h0' : decide ((k : Int) - (n : Int) < 0) = false := decide_eq_false (by omega)
    obtain ⟨R, hR⟩ : ∃ R : Int, R = if n + btot rs n ≤ k then (k : Int) - ((n + btot rs n : Nat) : Int) else -1 := ⟨_, rfl⟩
    rw [← hR]
    have HR := Lib.hid hR
    clear hR
    go_enter Try.func26, Try.ntmps26
    go_wp2
    go_loopw [1, 5] (fun q i wr => ∃ j : Nat, j ≤ n ∧ i = .int .i64 j ∧ n + btot rs j ≤ k ∧ q = .int .i64 ((k : Int) - ((n + btot rs j : Nat) : Int)) ∧ Below w.heap.size w wr) (fun _ i _ => n - (intOf i).toNat)
    case atStart => exact ⟨0, Nat.zero_le _, rfl, by simp [btot]; exact h0, by simp [btot], Below.refl _ _⟩
    case round =>
      obtain ⟨j, hj, rfl, hle, rfl, hb⟩ := hrel
      by_cases hlt : j < n
      · obtain ⟨b, o, rfl, hbb, hc0, hc1, hc2, _⟩ := (HSS.out.below hb) j (by rw [HN.out]; exact hlt)
        obtain ⟨z1, z2, _, _⟩ := HZ.out j (by rw [HN.out]; exact hlt)
        have htot : btot rs (j + 1) = btot rs j + ((rs.getD j nr0).say.size + (rs.getD j nr0).zs.length) := rfl
        have hmono := HM.out (j + 1) n (by omega)
        unfold NR.sv at hc1
        generalize (rs.getD j nr0).A = A1 at hc1
        generalize (rs.getD j nr0).c = c1 at hc1
        generalize (rs.getD j nr0).say = s1 at hc0 htot z1
        generalize (rs.getD j nr0).fin = m1 at hc2
        generalize (rs.getD j nr0).zs.length = m at hc1 htot z2
        have hm63 : m ≤ 9223372036854775807 := by unfold maxLen at z2; omega
        have hs63 : s1.size ≤ 9223372036854775807 := by unfold maxLen at z1; omega
        obtain ⟨T, hT⟩ : ∃ T, T = n + btot rs j := ⟨_, rfl⟩
        obtain ⟨T2, hT2⟩ : ∃ T2, T2 = n + btot rs (j + 1) := ⟨_, rfl⟩
        have htt : T2 = T + (s1.size + m) := by omega
        have HT2 := Lib.hid hT2
        have HTN := Lib.hid (show T2 ≤ n + btot rs n by omega)
        rw [← hT] at hle ⊢
        have C := sz_node s1 A1 m c1 m1 ((k : Int) - (T : Int)) wr hs63 hm63 (by omega) (by omega)
        clear hT hT2 htot hmono z1 z2
        by_cases hfit : T2 ≤ k
        · rw [if_pos (by omega)] at C
          have HB := Lib.hid hb
          have hnn : decide ((k : Int) - (T2 : Int) < 0) = false := decide_eq_false (by omega)
          have HE := Lib.hid (show (k : Int) - (T : Int) - ((s1.size + m : Nat) : Int) = (k : Int) - (T2 : Int) by omega)
          rw [HE.out] at C
          clear hb htt
          go_wp2_with fail
          refine C.mono ?_
          rintro e w1 ⟨rfl, hb1⟩
          have HB1 := Lib.hid (HB.out.trans (hb1.mono HB.out.size))
          clear hb1 C
          go_wp2
          go_roundw
          case rel => exact ⟨j + 1, by omega, by go_num, by rw [← HT2.out]; exact hfit, by rw [← HT2.out], HB1.out⟩
          case measure => simp [intOf]; omega
        · rw [if_neg (by omega)] at C
          have HB := Lib.hid hb
          have HRR := Lib.hid (show R = -1 by rw [HR.out, if_neg (by have := HTN.out; omega)])
          clear hb htt
          go_wp2_with fail
          refine C.mono ?_
          rintro e w1 ⟨rfl, hb1⟩
          have HB1 := Lib.hid (HB.out.trans (hb1.mono HB.out.size))
          clear hb1 C
          go_wp2
          go_ret
          exact ⟨by rw [HRR.out]; rfl, HB1.out⟩
      · have hjn : j = n := by omega
        have HRR := Lib.hid (show R = (k : Int) - ((n + btot rs j : Nat) : Int) by rw [HR.out, hjn, if_pos (by rw [← hjn]; omega)])
        have HB := Lib.hid hb
        clear hjn hb
        go_wp2
        go_ret
        exact ⟨by rw [HRR.out]; rfl, HB.out⟩
  · rw [if_neg (by omega)]
    have h3 : (k : Int) - (n : Int) < 0 := by omega
    go_enter Try.func26, Try.ntmps26
    go_wp2
    go_ret
    exact ⟨rfl, Below.refl _ _⟩

theorem infoNode : (Try.prog.info? 37).map (fun i => (i.zero, i.size, i.bytes)) = some (some (.agg #[.string ⟨#[]⟩, .slice none 0 0, .int .i64 0]), 3, 48) := by kernel_rfl
theorem node_parts : ∃ i, Try.prog.info? 37 = some i ∧ i.zero = some (.agg #[.string ⟨#[]⟩, .slice none 0 0, .int .i64 0]) ∧ i.size = 3 ∧ i.bytes = 48 := by
  have h := infoNode
  cases hi : Try.prog.info? 37 with
  | none => rw [hi] at h; cases h
  | some i =>
    rw [hi] at h
    simp only [Option.map_some, Option.some.injEq, Prod.mk.injEq] at h
    exact ⟨i, rfl, h.1, h.2.1, h.2.2⟩
theorem loadN {W : World} {g : Nat} {x y z : Value} {e : TypeId} (h : W.heap[g]? = some (.cells #[x, y, z] e (0, 0))) : (loadVar 37 ⟨g, 0, none⟩).run Try.prog W = .ok (.agg #[x, y, z]) W :=
  run_loadVar_mid (P := Try.prog) W g 0 37 [x, y, z] _ (range3 h) Try.underlying37 rfl (by kernel_rfl)
/-- the cells hold the nodes of a list -/
def Lies3 (xs : List Value) (rs : List NR) : Prop := ∀ j, j < rs.length → xs[j * 3]? = some (.string (rs.getD j nr0).say) ∧ xs[j * 3 + 1]? = some (rs.getD j nr0).sv ∧ xs[j * 3 + 2]? = some (.int .i64 (rs.getD j nr0).fin)
theorem getD_app (rs : List NR) (r : NR) (j : Nat) (h : j < rs.length) : (rs ++ [r]).getD j nr0 = rs.getD j nr0 := by
  simp [List.getD_eq_getElem?_getD, List.getElem?_append_left h]
theorem getD_new (rs : List NR) (r : NR) : (rs ++ [r]).getD rs.length nr0 = r := by simp [List.getD_eq_getElem?_getD]
theorem Lies3.next {xs : List Value} {rs : List NR} (h : Lies3 xs rs) (r : NR) (hk : rs.length * 3 + 2 < xs.length) :
    Lies3 (((xs.set (rs.length * 3) (.string r.say)).set (rs.length * 3 + 1) r.sv).set (rs.length * 3 + 2) (.int .i64 r.fin)) (rs ++ [r]) := by
  intro j hj
  rw [List.length_append, List.length_singleton] at hj
  by_cases hjk : j = rs.length
  · subst hjk
    rw [getD_new]
    refine ⟨?_, ?_, ?_⟩
    · rw [List.getElem?_set_ne (by omega), List.getElem?_set_ne (by omega), List.getElem?_set_self (by omega)]
    · rw [List.getElem?_set_ne (by omega), List.getElem?_set_self (by rw [List.length_set]; omega)]
    · rw [List.getElem?_set_self (by rw [List.length_set, List.length_set]; omega)]
  · rw [getD_app rs r j (by omega)]
    have := h j (by omega)
    refine ⟨?_, ?_, ?_⟩
    · rw [List.getElem?_set_ne (by omega), List.getElem?_set_ne (by omega), List.getElem?_set_ne (by omega)]; exact this.1
    · rw [List.getElem?_set_ne (by omega), List.getElem?_set_ne (by omega), List.getElem?_set_ne (by omega)]; exact this.2.1
    · rw [List.getElem?_set_ne (by omega), List.getElem?_set_ne (by omega), List.getElem?_set_ne (by omega)]; exact this.2.2
/-- a row of nodes of the call's own, of which the first ones are there; their lists in blocks of their own -/
def NPart (W : World) (lo hi : Nat) (A : Option Addr) (n c : Nat) (rs : List NR) : Prop :=
  (∃ xs, W.ownsRow lo 37 3 (.slice A n c) n xs ∧ Lies3 xs rs) ∧
  (∀ i, i < rs.length → Row W lo hi (rs.getD i nr0).A (rs.getD i nr0).zs.length (rs.getD i nr0).c (rs.getD i nr0).zs) ∧
  (∀ i j, i < rs.length → j < rs.length → i ≠ j → ∀ b, (rs.getD i nr0).b = some b → (rs.getD j nr0).b ≠ some b) ∧
  (∀ a, A = some a → a.block < hi) ∧ hi ≤ W.heap.size
def NRow (W : World) (lo hi : Nat) (A : Option Addr) (n c : Nat) (rs : List NR) : Prop := NPart W lo hi A n c rs ∧ rs.length = n
section
variable {W W' : World} {lo hi : Nat} {A : Option Addr} {n c : Nat} {rs : List NR}
theorem NPart.outlo (h : NPart W lo hi A n c rs) : ∀ k, A.map (·.block) = some k → lo ≤ k := by
  intro k hk
  obtain ⟨xs, h1, _⟩ := h.1
  cases A with
  | none => cases hk
  | some a =>
    simp only [Option.map_some, Option.some.injEq] at hk
    subst hk
    exact (h1.lt a.block rfl).1
theorem NPart.outhi (h : NPart W lo hi A n c rs) : ∀ k, A.map (·.block) = some k → k < hi := by
  intro k hk
  cases A with
  | none => cases hk
  | some a =>
    simp only [Option.map_some, Option.some.injEq] at hk
    subst hk
    exact h.2.2.2.1 a rfl
theorem NPart.grown {row : Option Nat} (h : NPart W lo hi A n c rs) (hg : W.grownBy W' row) (hr : ∀ k, row = some k → k < lo ∨ hi ≤ k) : NPart W' lo hi A n c rs := by
  obtain ⟨xs, h1, h2⟩ := h.1
  refine ⟨⟨xs, h1.kept hg ?_, h2⟩, fun i hi => (h.2.1 i hi).grown hg hr, h.2.2.1, h.2.2.2.1, Nat.le_trans h.2.2.2.2 hg.size⟩
  cases A with
  | none => exact Or.inl rfl
  | some a =>
    refine Or.inr fun e => ?_
    have h1 := h.outlo a.block rfl
    have h2 := h.outhi a.block rfl
    have := hr a.block e.symm
    omega
theorem NPart.wi {lo2 hi2 : Nat} (h : NPart W lo hi A n c rs) (hw : Wi lo2 hi2 W W') (hd : hi ≤ lo2 ∨ hi2 ≤ lo) : NPart W' lo hi A n c rs := by
  obtain ⟨xs, h1, h2⟩ := h.1
  refine ⟨⟨xs, own_wi h1 hw fun k hk => ?_, h2⟩, fun i hi => row_wi (h.2.1 i hi) hw hd, h.2.2.1, h.2.2.2.1, Nat.le_trans h.2.2.2.2 hw.size⟩
  have h1 := h.outlo k hk
  have h2 := h.outhi k hk
  omega
theorem NPart.below (h : NPart W lo hi A n c rs) (hb : Below W.heap.size W W') : NPart W' lo hi A n c rs := by
  obtain ⟨xs, h1, h2⟩ := h.1
  exact ⟨⟨xs, own_below h1 hb, h2⟩, fun i hi => (h.2.1 i hi).below hb, h.2.2.1, h.2.2.2.1, Nat.le_trans h.2.2.2.2 hb.size⟩
theorem NPart.high {hi' : Nat} (h : NPart W lo hi A n c rs) (h1 : hi ≤ hi') (h2 : hi' ≤ W.heap.size) : NPart W lo hi' A n c rs :=
  ⟨h.1, fun i hi => ⟨(h.2.1 i hi).1, fun a e => Nat.lt_of_lt_of_le ((h.2.1 i hi).2.1 a e) h1, h2⟩, h.2.2.1, fun a e => Nat.lt_of_lt_of_le (h.2.2.2.1 a e) h1, h2⟩
theorem NRow.below (h : NRow W lo hi A n c rs) (hb : Below W.heap.size W W') : NRow W' lo hi A n c rs := ⟨h.1.below hb, h.2⟩
theorem NRow.grown {row : Option Nat} (h : NRow W lo hi A n c rs) (hg : W.grownBy W' row) (hr : ∀ k, row = some k → k < lo ∨ hi ≤ k) : NRow W' lo hi A n c rs := ⟨h.1.grown hg hr, h.2⟩
theorem NRow.wi {lo2 hi2 : Nat} (h : NRow W lo hi A n c rs) (hw : Wi lo2 hi2 W W') (hd : hi ≤ lo2 ∨ hi2 ≤ lo) : NRow W' lo hi A n c rs := ⟨h.1.wi hw hd, h.2⟩
theorem own3_shape {w : World} {B : Nat} {e : TypeId} {A : Option Addr} {n c s : Nat} {xs : List Value} (h : w.ownsRow B e s (.slice A n c) n xs) (hn : 0 < n) : ∃ g, A = some ⟨g, 0, none⟩ := by
  rcases h.2 with ⟨_, h0⟩ | ⟨g, cap, cur, hv, _⟩
  · omega
  · simp only [Value.slice.injEq] at hv
    exact ⟨g, hv.1⟩
theorem NRow.at_ (h : NRow W lo hi A n c rs) : NodesAt W W.heap.size A rs := by
  intro j hj
  obtain ⟨xs, h1, h2⟩ := h.1.1
  have hn := h.2
  obtain ⟨g, rfl⟩ := own3_shape h1 (by omega)
  obtain ⟨e0, e1, e2⟩ := h2 j hj
  have hlen := h1.1
  refine ⟨g, 0, rfl, by have := h.1.2.2.2.1 _ rfl; have := h.1.2.2.2.2; simp only at *; omega, ?_, ?_, ?_, (h.1.2.1 j hj).at_⟩
  · rw [Nat.zero_add, h1.cellAt _ (by omega)]; exact e0
  · rw [Nat.zero_add, h1.cellAt _ (by omega)]; exact e1
  · rw [Nat.zero_add, h1.cellAt _ (by omega)]; exact e2
/-- one node more, its list in a new block -/
theorem NPart.put {g : Nat} (h : NPart W lo W.heap.size (some ⟨g, 0, none⟩) n n rs) (hk : rs.length < n) {w5 : World} (hb : Below W.heap.size W w5) (r : NR) (hr : w5.ownsRow W.heap.size 3 1 r.sv r.zs.length (r.zs.map (Value.int .i64))) (hlo : lo ≤ W.heap.size) :
    NPart (((w5.setCell ⟨g, rs.length * 3, none⟩ (.string r.say)).setCell ⟨g, rs.length * 3 + 1, none⟩ r.sv).setCell ⟨g, rs.length * 3 + 2, none⟩ (.int .i64 r.fin)) lo (((w5.setCell ⟨g, rs.length * 3, none⟩ (.string r.say)).setCell ⟨g, rs.length * 3 + 1, none⟩ r.sv).setCell ⟨g, rs.length * 3 + 2, none⟩ (.int .i64 r.fin)).heap.size (some ⟨g, 0, none⟩) n n (rs ++ [r]) := by
  have h5 := h.below hb
  obtain ⟨xs, h1, h2⟩ := h5.1
  have hl := h1.1
  have st := ((h1.stored (rs.length * 3) (.string r.say)).1.stored (rs.length * 3 + 1) r.sv).1.stored (rs.length * 3 + 2) (.int .i64 r.fin)
  have hg := ((set_gr w5 g (rs.length * 3) (.string r.say)).trans (set_gr _ g (rs.length * 3 + 1) r.sv)).trans (set_gr _ g (rs.length * 3 + 2) (.int .i64 r.fin))
  have hgw := h.outhi g rfl
  have hsz := hb.size
  have hsz2 := hg.size
  generalize ((w5.setCell ⟨g, rs.length * 3, none⟩ (.string r.say)).setCell ⟨g, rs.length * 3 + 1, none⟩ r.sv).setCell ⟨g, rs.length * 3 + 2, none⟩ (.int .i64 r.fin) = w6 at *
  have hin : ∀ i, i < rs.length → Row w6 lo W.heap.size (rs.getD i nr0).A (rs.getD i nr0).zs.length (rs.getD i nr0).c (rs.getD i nr0).zs := fun i hi => by
    have hro := h5.2.1 i hi
    refine ⟨own_gr hro.1 hg fun k hk e => ?_, hro.2.1, by omega⟩
    exact own_diff h1 hro.1 (by decide) g rfl (by rw [hk, e])
  have hrow : Row w6 W.heap.size w6.heap.size r.A r.zs.length r.c r.zs := Row.mk (own_gr hr hg fun k hk e => by
    have := (own_lo hr k hk).1
    simp only [Option.some.injEq] at e
    omega)
  refine ⟨⟨_, st.1, h2.next r (by omega)⟩, fun i hi => ?_, fun i j hi hj hne b hbi => ?_, fun a e => ?_, Nat.le_refl _⟩
  · rw [List.length_append, List.length_singleton] at hi
    by_cases e : i = rs.length
    · rw [e, getD_new]
      exact ⟨own_mono hrow.1 hlo, hrow.2⟩
    · rw [getD_app rs r i (by omega)]
      have := hin i (by omega)
      exact ⟨this.1, fun a e => Nat.lt_of_lt_of_le (this.2.1 a e) (by omega), Nat.le_refl _⟩
  · rw [List.length_append, List.length_singleton] at hi hj
    by_cases ei : i = rs.length
    · rw [ei, getD_new] at hbi
      rw [getD_app rs r j (by omega)]
      intro hbj
      have h1 := hrow.lo b hbi
      have h2 := (hin j (by omega)).hi b hbj
      omega
    · rw [getD_app rs r i (by omega)] at hbi
      by_cases ej : j = rs.length
      · rw [ej, getD_new]
        intro hbj
        have h1 := hrow.lo b hbj
        have h2 := (hin i (by omega)).hi b hbi
        omega
      · rw [getD_app rs r j (by omega)]
        exact h.2.2.1 i j (by omega) (by omega) hne b hbi
  · simp only [Option.some.injEq] at e
    subst e
    show g < _
    omega
end
def IsNode (B : Nat) (s : ByteArray) (n : Nat) (zs : List Int) (m : Int) (w : World) (e : Ending) (w' : World) : Prop :=
  ∃ g, e = .returned (nodV s (some ⟨g, 0, none⟩) n n m) ∧ w'.ownsRow B 3 1 (.slice (some ⟨g, 0, none⟩) n n) n (zs.map (Value.int .i64)) ∧ Below B w w'
set_option maxHeartbeats 1000000 in
theorem to_node (s : ByteArray) (A : Option Addr) (n c : Nat) (zs : List Int) (m : Int) (w : World) (hn : zs.length = n) (hn2 : n ≤ 1048576) (hss : IntsAt w w.heap.size .i64 A zs) :
    Calls Try.prog 56 #[nodV s A n c m] w (IsNode w.heap.size s n zs m w) := by
  obtain ⟨a0, a1, a2, hb0, hs0⟩ := three_at w #[.string s, .slice A n c, .int .i64 m] #[.string ⟨#[]⟩, .slice none 0 0, .int .i64 0] #[.string ⟨#[]⟩, .slice none 0 0, .int .i64 0] 71 37 37
  obtain ⟨W, hW⟩ : ∃ W, W = ((w.alloc (.cells #[.string s, .slice A n c, .int .i64 m] 71)).alloc (.cells #[.string ⟨#[]⟩, .slice none 0 0, .int .i64 0] 37)).alloc (.cells #[.string ⟨#[]⟩, .slice none 0 0, .int .i64 0] 37) := ⟨_, rfl⟩
  rw [← hW] at hs0 hb0 a0 a1 a2
  obtain ⟨w3, hw3⟩ : ∃ w3, w3 = W.setCell ⟨w.heap.size + 1 + 1, 0, none⟩ (.string s) := ⟨_, rfl⟩
  have hg3 : W.grownBy w3 (some (w.heap.size + 1 + 1)) := by rw [hw3]; exact set_gr _ _ _ _
  have d2 : w3.heap[w.heap.size + 1 + 1]? = some (.cells #[.string s, .slice none 0 0, .int .i64 0] 37 (0, 0)) := by
    rw [hw3]
    exact heap_setCell_same W (w.heap.size + 1 + 1) 0 _ _ _ a2
  have d0 := (hg3.block w.heap.size (by omega) (by simp; omega)).trans a0
  have d1 := (hg3.block (w.heap.size + 1) (by omega) (by simp)).trans a1
  have hb3 := hb0.grown hg3 (by omega) (fun k hk => by simp only [Option.some.injEq] at hk; omega)
  have hs3 := hg3.size
  have HA3 := Lib.hid ((hss.below hb3).more hb3.size)
  have HB3 := Lib.hid hb3
  have D0 := Lib.hid d0
  have D1 := Lib.hid d1
  have D2 := Lib.hid d2
  have HN := Lib.hid hn
  have f2 := frz a2 0
  obtain ⟨q0, q1, q2⟩ := cell3 a0
  obtain ⟨v0, v1, v2⟩ := cell3 a2
  obtain ⟨p0, p1, p2⟩ := cell3 d0
  clear hn hss a0 a1 a2 hb0 hb3 d0 d1 d2 hg3
  go_enter Try.func56, Try.ntmps56
  go_upto_region 2 with fail
  rw [← hW]
  clear hW
  go_upto_region 3 with fail
  rw [← hw3]
  clear hw3 f2 v0 v1 v2 q0 q1 q2
  go_wp2_with fail
  refine (to_any A n c zs w3 HN.out hn2 HA3.out).mono ?_
  rintro e w4 ⟨g, rfl, hgg, hrow, hb4⟩
  have hsz4 := hb4.size
  have c0 := (hb4.block w.heap.size (by omega)).trans D0.out
  have c1 := (hb4.block (w.heap.size + 1) (by omega)).trans D1.out
  have c2 := (hb4.block (w.heap.size + 1 + 1) (by omega)).trans D2.out
  have f1 := frz c2 1
  obtain ⟨q0, q1, q2⟩ := cell3 c0
  obtain ⟨v0, v1, v2⟩ := cell3 c2
  obtain ⟨w5, hw5⟩ : ∃ w5, w5 = w4.setCell ⟨w.heap.size + 1 + 1, 1, none⟩ (.slice (some ⟨g, 0, none⟩) n n) := ⟨_, rfl⟩
  have hg5 : w4.grownBy w5 (some (w.heap.size + 1 + 1)) := by rw [hw5]; exact set_gr _ _ _ _
  have e2 : w5.heap[w.heap.size + 1 + 1]? = some (.cells #[.string s, .slice (some ⟨g, 0, none⟩) n n, .int .i64 0] 37 (0, 0)) := by
    rw [hw5]
    exact heap_setCell_same w4 (w.heap.size + 1 + 1) 1 _ _ _ c2
  have e0 := (hg5.block w.heap.size (by omega) (by simp; omega)).trans c0
  have e1 := (hg5.block (w.heap.size + 1) (by omega) (by simp)).trans c1
  obtain ⟨w6, hw6⟩ : ∃ w6, w6 = w5.setCell ⟨w.heap.size + 1 + 1, 2, none⟩ (.int .i64 m) := ⟨_, rfl⟩
  have hg6 : w5.grownBy w6 (some (w.heap.size + 1 + 1)) := by rw [hw6]; exact set_gr _ _ _ _
  have k2 : w6.heap[w.heap.size + 1 + 1]? = some (.cells #[.string s, .slice (some ⟨g, 0, none⟩) n n, .int .i64 m] 37 (0, 0)) := by
    rw [hw6]
    exact heap_setCell_same w5 (w.heap.size + 1 + 1) 2 _ _ _ e2
  have hsz5 := hg5.size
  have hsz6 := hg6.size
  have k1 := (hg6.block (w.heap.size + 1) (by omega) (by simp)).trans e1
  have hx := put3 (x := .string s) (y := .slice (some ⟨g, 0, none⟩) n n) (z := .int .i64 m) k1
  have f3 := frz e2 2
  obtain ⟨y0, y1, y2⟩ := cell3 e0
  obtain ⟨x0, x1, x2⟩ := cell3 e2
  obtain ⟨t0, t1, t2⟩ := cell3 k2
  obtain ⟨u0, u1, u2⟩ := cell3 k1
  have g0 := frz k1 0
  have g1 := frz k1 1
  have g2 := frz k1 2
  have hrow' := own_gr (own_gr (own_gr hrow hg5 (fun k hk e => by simp only [Option.map_some, Option.some.injEq] at hk e; omega)) hg6 (fun k hk e => by simp only [Option.map_some, Option.some.injEq] at hk e; omega)) hx.2 (fun k hk e => by simp only [Option.map_some, Option.some.injEq] at hk e; omega)
  have HROW := Lib.hid (own_mono hrow' (show w.heap.size ≤ w3.heap.size by omega))
  have HBB := Lib.hid ((((HB3.out.trans (hb4.mono (by omega))).grown hg5 (by omega) (fun k hk => by simp only [Option.some.injEq] at hk; omega)).grown hg6 (by omega) (fun k hk => by simp only [Option.some.injEq] at hk; omega)).grown hx.2 (by omega) (fun k hk => by simp only [Option.some.injEq] at hk; omega))
  have HX := Lib.hid hx.1
  clear hrow' hrow hx hg5 hg6 hb4 c0 c1 c2 e0 e1 e2 k1 k2 HB3 HA3 hgg hs0
  replace hw5 := hw5.symm
  replace hw6 := hw6.symm
  go_wp2
  (try simp only [Exit.inBlock, Exit.then])
  refine bodyPost_ret (results_cell rfl _ rfl (loadN HX.out)) rfl ?_
  exact ⟨g, rfl, HROW.out, HBB.out⟩
def IsNCopy (B : Nat) (n : Nat) (ls : List NR) (w : World) (e : Ending) (w' : World) : Prop :=
  ∃ g rs, e = .returned (.slice (some ⟨g, 0, none⟩) n n) ∧ rs.map NR.nv = ls.map NR.nv ∧ NRow w' B w'.heap.size (some ⟨g, 0, none⟩) n n rs ∧ Below B w w'
set_option maxHeartbeats 1000000 in
theorem to_nodes (A : Option Addr) (n c : Nat) (ls : List NR) (w : World) (hn : ls.length = n) (hn2 : n ≤ 1048576) (hz : ∀ j, j < n → (ls.getD j nr0).zs.length ≤ 1048576) (hss : NodesAt w w.heap.size A ls) :
    Calls Try.prog 28 #[.slice A n c] w (IsNCopy w.heap.size n ls w) := by
  have HN := Lib.hid hn
  have HZ := Lib.hid hz
  have HSS := Lib.hid hss
  clear hn hz hss
  obtain ⟨i0, hi, hz0, hz1, hz2⟩ := node_parts
  go_enter Try.func28, Try.ntmps28
  go_wp2_with (refine wpList_make_full _ rfl (.tmp 6) (.tmp 6) 23 rfl w.heap.size 37 i0 (.agg #[.string ⟨#[]⟩, .slice none 0 0, .int .i64 0]) 3 Try.underlying23 hi hz0 hz1 .i64 .i64 n n n rfl rfl rfl rfl (by rw [hz2]; omega) (by unfold maxLen; omega) (Nat.le_refl _) ?_)
  intro w1 hown hgrow
  have hb0 : Below w.heap.size w w1 := (Below.refl _ w).grown hgrow (Nat.le_refl _) (fun k hk => by cases hk)
  have HP0 := Lib.hid (show NPart w1 w.heap.size w1.heap.size (some ⟨w.heap.size, 0, none⟩) n n [] from
    ⟨⟨_, hown, fun j hj => absurd hj (Nat.not_lt_zero _)⟩, fun i hi => absurd hi (Nat.not_lt_zero _), fun i j hi => absurd hi (Nat.not_lt_zero _), fun a e => by
      have := (hown.lt w.heap.size rfl).2
      simp only [Option.some.injEq] at e
      subst e
      exact this, Nat.le_refl _⟩)
  have HB0 := Lib.hid hb0
  clear hown hgrow hb0
  go_wp2
  go_loopw [4] (fun i wr => ∃ rs : List NR, rs.length ≤ n ∧ i = .int .i64 rs.length ∧ Hid (NPart wr w.heap.size wr.heap.size (some ⟨w.heap.size, 0, none⟩) n n rs) ∧ Hid (∀ j, j < rs.length → (rs.getD j nr0).nv = (ls.getD j nr0).nv) ∧ Hid (Below w.heap.size w wr)) (fun i _ => n - (intOf i).toNat)
  case atStart => exact ⟨[], Nat.zero_le _, rfl, HP0, Lib.hid (fun j hj => absurd hj (Nat.not_lt_zero _)), HB0⟩
  case round =>
    obtain ⟨rs, hk, rfl, HP, HV, HB⟩ := hrel
    clear HP0 HB0
    obtain ⟨k, hkk⟩ : ∃ k, k = rs.length := ⟨_, rfl⟩
    have HK := Lib.hid hkk
    rw [← hkk] at hk ⊢
    by_cases hlt : k < n
    · obtain ⟨b, o, rfl, hbb, hc0, hc1, hc2, hi4⟩ := (HSS.out.below HB.out) k (by rw [HN.out]; exact hlt)
      have hzk := HZ.out k hlt
      have HVN := Lib.hid (fun (r : NR) (h : r.nv = (ls.getD k nr0).nv) => (show ∀ j, j < (rs ++ [r]).length → ((rs ++ [r]).getD j nr0).nv = (ls.getD j nr0).nv from fun j hj => by
        rw [List.length_append, List.length_singleton] at hj
        by_cases e : j = k
        · rw [e, hkk, getD_new, h, ← hkk]
        · rw [getD_app rs r j (by omega)]; exact HV.out j (by omega)))
      unfold NR.sv at hc1
      unfold NR.nv at HVN
      generalize (ls.getD k nr0).A = A1 at hc1 hi4
      generalize (ls.getD k nr0).c = c1 at hc1
      generalize (ls.getD k nr0).zs = zs at hc1 hi4 hzk HVN
      generalize (ls.getD k nr0).say = s1 at hc0 HVN
      generalize (ls.getD k nr0).fin = m1 at hc2 HVN
      obtain ⟨m, hm⟩ : ∃ m, m = zs.length := ⟨_, rfl⟩
      rw [← hm] at hc1 hzk
      have hs0 := HB.out.size
      have C := to_node s1 A1 m c1 zs m1 wr hm.symm hzk (hi4.more hs0)
      have HM := Lib.hid hm
      clear hi4 hm hkk
      go_wp2_with fail
      refine C.mono ?_
      rintro e w5 ⟨g, rfl, hrow, hb5⟩
      have hp := HP.out.put (by rw [← HK.out]; exact hlt) hb5 ⟨s1, some ⟨g, 0, none⟩, m, zs, m1⟩ (by show w5.ownsRow _ _ _ (.slice _ zs.length _) zs.length _; rw [← HM.out]; exact hrow) hs0
      rw [← HK.out] at hp
      unfold NR.sv at hp
      rw [← HM.out] at hp
      have h5 := HP.out.below hb5
      obtain ⟨xs, ho, _⟩ := h5.1
      have hxl := ho.1
      have st0 := ho.stored (k * 3) (.string s1)
      have st1 := st0.1.stored (k * 3 + 1) (.slice (some ⟨g, 0, none⟩) m m)
      have hg0 : w5.cell? ⟨w.heap.size, k * 3, none⟩ = some (xs[k * 3]'(by omega)) := by rw [ho.cellAt _ (by omega)]; exact List.getElem?_eq_getElem (by omega)
      have hg1 : w5.cell? ⟨w.heap.size, k * 3 + 1, none⟩ = some (xs[k * 3 + 1]'(by omega)) := by rw [ho.cellAt _ (by omega)]; exact List.getElem?_eq_getElem (by omega)
      have hg2 : w5.cell? ⟨w.heap.size, k * 3 + 2, none⟩ = some (xs[k * 3 + 2]'(by omega)) := by rw [ho.cellAt _ (by omega)]; exact List.getElem?_eq_getElem (by omega)
      have hf0 := ho.frozenAt (k * 3)
      have hf1 := ho.frozenAt (k * 3 + 1)
      have hf2 := ho.frozenAt (k * 3 + 2)
      generalize xs[k * 3]'(by omega) = old0 at hg0
      generalize xs[k * 3 + 1]'(by omega) = old1 at hg1
      generalize xs[k * 3 + 2]'(by omega) = old2 at hg2
      have HB6 := Lib.hid (((((HB.out.trans (hb5.mono hs0)).setCell (p := ⟨w.heap.size, k * 3, none⟩) (Nat.le_refl _) (.string s1))).setCell (p := ⟨w.heap.size, k * 3 + 1, none⟩) (Nat.le_refl _) (.slice (some ⟨g, 0, none⟩) m m)).setCell (p := ⟨w.heap.size, k * 3 + 2, none⟩) (Nat.le_refl _) (.int .i64 m1))
      have HPN := Lib.hid hp
      have HVV := Lib.hid (HVN.out ⟨s1, some ⟨g, 0, none⟩, m, zs, m1⟩ rfl)
      have HLEN := Lib.hid (show (rs ++ [(⟨s1, some ⟨g, 0, none⟩, m, zs, m1⟩ : NR)]).length = k + 1 by rw [List.length_append, ← HK.out]; rfl)
      clear hp st0 st1 ho h5 hb5 hrow HP HV HVN C hc0 hc1 hc2 hxl
      go_wp2
      go_roundw
      case rel => exact ⟨_, by rw [HLEN.out]; omega, by rw [HLEN.out]; go_num, HPN, HVV, HB6⟩
      case measure => simp [intOf]; omega
    · have hkn : k = n := by omega
      subst hkn
      clear hlt hkk
      go_wp2
      go_ret
      refine ⟨w.heap.size, rs, rfl, List.ext_getElem (by simp; rw [← HK.out, HN.out]) fun i h1 h2 => ?_, ⟨HP.out, HK.out.symm⟩, HB.out⟩
      rw [List.length_map] at h1 h2
      have := HV.out i h1
      simp only [List.getElem_map]
      rw [List.getD_eq_getElem?_getD, List.getD_eq_getElem?_getD, List.getElem?_eq_getElem h1, List.getElem?_eq_getElem h2] at this
      exact this
theorem eq_node (s : ByteArray) (A B : Option Addr) (n c d : Nat) (zs : List Int) (m : Int) (w : World) (hn : zs.length = n) (hn2 : n ≤ 4194304) (h1 : IntsAt w w.heap.size .i64 A zs) (h2 : IntsAt w w.heap.size .i64 B zs) :
    Calls Try.prog 57 #[nodV s A n c m, nodV s B n d m] w fun e w' => e = .returned (.bool true) ∧ Below w.heap.size w w' := by
  obtain ⟨a0, a1, hb0, hs0⟩ := two_at w #[.string s, .slice A n c, .int .i64 m] #[.string s, .slice B n d, .int .i64 m] 37 37
  obtain ⟨W, hW⟩ : ∃ W, W = (w.alloc (.cells #[.string s, .slice A n c, .int .i64 m] 37)).alloc (.cells #[.string s, .slice B n d, .int .i64 m] 37) := ⟨_, rfl⟩
  rw [← hW] at hs0 hb0 a0 a1
  have HB := Lib.hid hb0
  have HE := Lib.hid (eq_same A B n c d zs W hn hn2 ((h1.below hb0).more hb0.size) ((h2.below hb0).more hb0.size))
  have A0 := Lib.hid a0
  have A1 := Lib.hid a1
  have HS0 := Lib.hid hs0
  obtain ⟨p0, p1, p2⟩ := cell3 a0
  obtain ⟨q0, q1, q2⟩ := cell3 a1
  clear hn h1 h2 hb0 a0 a1 hs0
  go_enter Try.func57, Try.ntmps57
  go_upto_region 1 with fail
  rw [← hW]
  clear hW
  go_wp2_with fail
  refine HE.out.mono ?_
  rintro e w4 ⟨rfl, hb4⟩
  obtain ⟨x0, x1, x2⟩ := cell3 ((hb4.block w.heap.size (by have := HS0.out; omega)).trans A0.out)
  obtain ⟨y0, y1, y2⟩ := cell3 ((hb4.block (w.heap.size + 1) (by have := HS0.out; omega)).trans A1.out)
  have HB4 := Lib.hid (HB.out.trans (hb4.mono HB.out.size))
  clear hb4 p0 p1 p2 q0 q1 q2 HE
  go_wp2
  go_ret
  exact ⟨rfl, HB4.out⟩
set_option maxHeartbeats 1000000 in
theorem eq_nodes (A1 A2 : Option Addr) (n c1 c2 : Nat) (rs ss : List NR) (w : World) (hn : rs.length = n) (he : rs.map NR.nv = ss.map NR.nv) (hn2 : n ≤ 4194304) (hz : ∀ j, j < n → (rs.getD j nr0).zs.length ≤ 4194304) (h1 : NodesAt w w.heap.size A1 rs) (h2 : NodesAt w w.heap.size A2 ss) :
    Calls Try.prog 29 #[.slice A1 n c1, .slice A2 n c2] w fun e w' => e = .returned (.bool true) ∧ Below w.heap.size w w' := by
  have hl : ss.length = n := by have := congrArg List.length he; simp at this; omega
  have HN := Lib.hid hn
  have HL := Lib.hid hl
  have HZ := Lib.hid hz
  have HE := Lib.hid (show ∀ k, k < n → (rs.getD k nr0).nv = (ss.getD k nr0).nv from fun k hk => by
    have := congrArg (fun l => l[k]?) he
    simp only [List.getElem?_map] at this
    rw [List.getElem?_eq_getElem (by omega), List.getElem?_eq_getElem (by omega)] at this
    rw [List.getD_eq_getElem?_getD, List.getD_eq_getElem?_getD, List.getElem?_eq_getElem (by omega), List.getElem?_eq_getElem (by omega)]
    simpa using this)
  have H1 := Lib.hid h1
  have H2 := Lib.hid h2
  clear hn hl hz he h1 h2
  go_enter Try.func29, Try.ntmps29
  go_wp2
  go_loopw [5] (fun i wr => ∃ k : Nat, k ≤ n ∧ i = .int .i64 k ∧ Hid (Below w.heap.size w wr)) (fun i _ => n - (intOf i).toNat)
  case atStart => exact ⟨0, Nat.zero_le _, rfl, Below.refl _ _⟩
  case round =>
    obtain ⟨k, hk, rfl, HB⟩ := hrel
    by_cases hlt : k < n
    · obtain ⟨b1, o1, rfl, hbb1, hc0, hc1, hc2, hi1⟩ := (H1.out.below HB.out) k (by rw [HN.out]; exact hlt)
      obtain ⟨b2, o2, rfl, hbb2, hd0, hd1, hd2, hi2⟩ := (H2.out.below HB.out) k (by rw [HL.out]; exact hlt)
      have hzk := HZ.out k hlt
      have he := HE.out k hlt
      unfold NR.nv at he
      simp only [NV.mk.injEq] at he
      obtain ⟨he1, he2, he3⟩ := he
      unfold NR.sv at hc1 hd1
      rw [← he1] at hd0
      rw [← he2] at hd1 hi2
      rw [← he3] at hd2
      clear he1 he2 he3
      have q1 := hi1.more HB.out.size
      have q2 := hi2.more HB.out.size
      generalize (rs.getD k nr0).A = B1 at hc1 q1
      generalize (rs.getD k nr0).c = e1 at hc1
      generalize (ss.getD k nr0).A = B2 at hd1 q2
      generalize (ss.getD k nr0).c = e2 at hd1
      generalize (rs.getD k nr0).say = s at hc0 hd0
      generalize (rs.getD k nr0).fin = m at hc2 hd2
      generalize (rs.getD k nr0).zs = zs at hc1 hd1 q1 q2 hzk
      clear hi1 hi2
      obtain ⟨l, hl⟩ : ∃ l, l = zs.length := ⟨_, rfl⟩
      rw [← hl] at hc1 hd1 hzk
      have hk0 : (0 : Int) ≤ (k : Int) := by omega
      have hk1 : (k : Int) < (n : Int) := by omega
      have hw1 : b1 < wr.heap.size := Nat.lt_of_lt_of_le hbb1 HB.out.size
      have hw2 : b2 < wr.heap.size := Nat.lt_of_lt_of_le hbb2 HB.out.size
      have HC := Lib.hid (fun (w' : World) (hb : Below wr.heap.size wr w') => eq_node s B1 B2 l e1 e2 zs m w' hl.symm hzk ((q1.below hb).more hb.size) ((q2.below hb).more hb.size))
      clear q1 q2 hl
      go_wp2_with fail
      go_region_held3 (fun w' => w'.cell? ⟨b1, o1 + k * 3, none⟩ = some (.string s) ∧ w'.cell? ⟨b1, o1 + k * 3 + 1, none⟩ = some (.slice B1 l e1) ∧ w'.cell? ⟨b1, o1 + k * 3 + 2, none⟩ = some (.int .i64 m) ∧ w'.cell? ⟨b2, o2 + k * 3, none⟩ = some (.string s) ∧ w'.cell? ⟨b2, o2 + k * 3 + 1, none⟩ = some (.slice B2 l e2) ∧ w'.cell? ⟨b2, o2 + k * 3 + 2, none⟩ = some (.int .i64 m)) ((first | exact ⟨hc0, hc1, hc2, hd0, hd1, hd2⟩ | exact ⟨(hb5.cell (p := ⟨b1, o1 + k * 3, none⟩) hw1).trans hc0, (hb5.cell (p := ⟨b1, o1 + k * 3 + 1, none⟩) hw1).trans hc1, (hb5.cell (p := ⟨b1, o1 + k * 3 + 2, none⟩) hw1).trans hc2, (hb5.cell (p := ⟨b2, o2 + k * 3, none⟩) hw2).trans hd0, (hb5.cell (p := ⟨b2, o2 + k * 3 + 1, none⟩) hw2).trans hd1, (hb5.cell (p := ⟨b2, o2 + k * 3 + 2, none⟩) hw2).trans hd2⟩)) ((first | (go_at_call 57; refine (HC.out _ (Below.refl _ _).drew).mono ?_; rintro e w5 ⟨rfl, hb5⟩)))
      have HB5 := Lib.hid (HB.out.drew.trans (hb5.mono HB.out.drew.size))
      clear hb5 HC HB
      go_wp2
      go_roundw
      case rel => exact ⟨k + 1, by omega, by go_num, HB5⟩
      case measure => simp [intOf]; omega
    · go_wp2
      go_ret
      exact ⟨rfl, HB.out⟩
end Go.Proofs.Ytjmfdflhplobmaa.Nod
