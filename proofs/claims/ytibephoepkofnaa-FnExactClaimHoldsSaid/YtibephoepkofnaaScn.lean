/- Scenes: a struct of a list of ints and an int. What the laws' helpers do with one: toScene copies, szScene counts, eqScene compares, markScene writes marks and heldScene looks whether they are still there. -/
import Derived.Test.YtibephoepkofnaaRws
import Derived.WideShapes
import Derived.Deep.RegionHeld3
import Derived.Lib.SmallJoins
set_option linter.unusedVariables false
set_option maxRecDepth 20000
namespace Go.Proofs.Ytibephoepkofnaa.Scn
open Go.Deep Go.RowKit Go.Joins Fr _root_.Go.Proofs.Ytibephoepkofnaa.Own Pk Ins Rws

/-- a scene as a value -/
abbrev scV (A : Option Addr) (n c : Nat) (m : Int) : Value := .agg #[.slice A n c, .int .i64 m]
theorem range2 {W : World} {g : Nat} {x y : Value} {e : TypeId} (h : W.heap[g]? = some (.cells #[x, y] e (0, 0))) : W.rangeAt g 0 [x, y] := by
  intro j v hv
  unfold World.cell?
  match j, hv with
  | 0, hv => simp at hv; subst hv; simp [h]
  | 1, hv => simp at hv; subst hv; simp [h]
theorem cell2 {W : World} {p : Nat} {x y : Value} {e : TypeId} (h : W.heap[p]? = some (.cells #[x, y] e (0, 0))) : W.cell? ⟨p, 0, none⟩ = some x ∧ W.cell? ⟨p, 1, none⟩ = some y :=
  ⟨range2 h 0 x rfl, range2 h 1 y rfl⟩
theorem put2 {W : World} {p : Nat} {a b x y : Value} {t : TypeId} (hp : W.heap[p]? = some (.cells #[a, b] t (0, 0))) : ((W.setCell ⟨p, 0, none⟩ x).setCell ⟨p, 1, none⟩ y).heap[p]? = some (.cells #[x, y] t (0, 0)) := by
  have h1 := heap_setCell_same W p 0 #[a, b] t x hp
  have h2 := heap_setCell_same _ p 1 _ t y h1
  exact h2
theorem frz {W : World} {p : Nat} {cs : Array Value} {t : TypeId} (hp : W.heap[p]? = some (.cells cs t (0, 0))) (j : Nat) : W.frozen? ⟨p, j, none⟩ = false := frozen_of_row W p j cs t hp
theorem set_grown (w : World) (g j : Nat) (v : Value) : w.grownBy (w.setCell ⟨g, j, none⟩ v) (some g) :=
  ⟨rfl, rfl, rfl, by simp, fun k _ hk => heap_setCell_other w ⟨g, j, none⟩ k v (fun e => hk (by simp [e]))⟩
/-- what a call that first lays its stack in a box leaves -/
theorem box_below (w : World) (o : Obj) : Below w.heap.size w (w.alloc o) := (Below.refl _ w).alloc (Nat.le_refl _) o

theorem sz_ints (A : Option Addr) (n c : Nat) (left : Int) (w : World) (hn : n ≤ 9223372036854775807) (h0 : 0 ≤ left) (h1 : left ≤ 1048576) :
    Calls Try.prog 33 #[.slice A n c, .int .i64 left] w fun e w' => e = .returned (.int .i64 (if (n : Int) ≤ left then left - n else -1)) ∧ w = w' := by
  by_cases h : (n : Int) ≤ left
  · rw [if_pos h]
    have h3 : decide (left - (n : Int) < 0) = false := decide_eq_false (by omega)
    go_enter Try.func33, Try.ntmps33
    go_wp2
    go_ret
    exact ⟨rfl, rfl⟩
  · rw [if_neg h]
    have h3 : left - (n : Int) < 0 := by omega
    go_enter Try.func33, Try.ntmps33
    go_wp2
    go_ret
    exact ⟨rfl, rfl⟩
theorem sz_scene (A : Option Addr) (n c : Nat) (m left : Int) (w : World) (hn : n ≤ 9223372036854775807) (h0 : 0 ≤ left) (h1 : left ≤ 1048576) :
    Calls Try.prog 22 #[scV A n c m, .int .i64 left] w fun e w' => e = .returned (.int .i64 (if (n : Int) ≤ left then left - n else -1)) ∧ Below w.heap.size w w' := by
  have HB := Lib.hid (box_below w (.cells #[.slice A n c, .int .i64 m] 51))
  by_cases h : (n : Int) ≤ left
  · rw [if_pos h]
    have h3 : decide (left - (n : Int) < 0) = false := decide_eq_false (by omega)
    go_enter Try.func22, Try.ntmps22
    go_wp2_with (go_at_call 33; refine (sz_ints A n c left _ hn h0 h1).mono ?_; rintro e w' ⟨rfl, rfl⟩; rw [if_pos h])
    go_ret
    exact ⟨rfl, HB.out⟩
  · rw [if_neg h]
    go_enter Try.func22, Try.ntmps22
    go_wp2_with (go_at_call 33; refine (sz_ints A n c left _ hn h0 h1).mono ?_; rintro e w' ⟨rfl, rfl⟩; rw [if_neg h])
    go_ret
    exact ⟨rfl, HB.out⟩
/-- a call hands back a scene whose list lies in a row of its own, and writes nothing old -/
def IsSc (B : Nat) (zs : List Int) (m : Int) (w : World) (e : Ending) (w' : World) : Prop :=
  ∃ g, e = .returned (scV (some ⟨g, 0, none⟩) zs.length zs.length m) ∧ w'.ownsRow B 3 1 (.slice (some ⟨g, 0, none⟩) zs.length zs.length) zs.length (zs.map (Value.int .i64)) ∧ Below B w w'
theorem loadS {W : World} {g : Nat} {x y : Value} {e : TypeId} (h : W.heap[g]? = some (.cells #[x, y] e (0, 0))) : (loadVar 45 ⟨g, 0, none⟩).run Try.prog W = .ok (.agg #[x, y]) W :=
  run_loadVar_mid (P := Try.prog) W g 0 45 [x, y] _ (range2 h) Try.underlying45 rfl (by kernel_rfl)
theorem results_cell {P : Program} {fn : Func} {a : Tmp} {t : TypeId} {p : Addr} {v : Value} {w : World} (h : fn.results = #[.cell a t]) (tmps : Array Value) (hp : tmps.getD a undef = .pointer (some p)) (hl : (loadVar t p).run P w = .ok v w) :
    (results fn tmps).run P w = .ok v w := by
  have hp2 : tmps[a]?.getD undef = .pointer (some p) := by simpa using hp
  simp [results, h, hp2, asAddr, hl]
theorem three (w : World) (o0 o1 o2 : Obj) : (((w.alloc o0).alloc o1).alloc o2).heap.size = w.heap.size + 1 + 1 + 1 ∧ Below w.heap.size w (((w.alloc o0).alloc o1).alloc o2) :=
  ⟨by simp, (((Below.refl _ w).alloc (Nat.le_refl _) o0).alloc (by simp) o1).alloc (by simp; omega) o2⟩
theorem three_at (w : World) (c0 c1 c2 : Array Value) (t0 t1 t2 : TypeId) :
    (((w.alloc (.cells c0 t0)).alloc (.cells c1 t1)).alloc (.cells c2 t2)).heap[w.heap.size]? = some (.cells c0 t0 (0, 0)) ∧
    (((w.alloc (.cells c0 t0)).alloc (.cells c1 t1)).alloc (.cells c2 t2)).heap[w.heap.size + 1]? = some (.cells c1 t1 (0, 0)) ∧
    (((w.alloc (.cells c0 t0)).alloc (.cells c1 t1)).alloc (.cells c2 t2)).heap[w.heap.size + 1 + 1]? = some (.cells c2 t2 (0, 0)) := by
  have s1 : (w.alloc (.cells c0 t0)).heap.size = w.heap.size + 1 := by simp
  have s2 : ((w.alloc (.cells c0 t0)).alloc (.cells c1 t1)).heap.size = w.heap.size + 1 + 1 := by simp
  have a0 := heap_alloc_new w (.cells c0 t0)
  have a1 := heap_alloc_new (w.alloc (.cells c0 t0)) (.cells c1 t1)
  have a2 := heap_alloc_new ((w.alloc (.cells c0 t0)).alloc (.cells c1 t1)) (.cells c2 t2)
  rw [s1] at a1
  rw [s2] at a2
  have b1 := (box_below (w.alloc (.cells c0 t0)) (.cells c1 t1))
  have b2 := (box_below ((w.alloc (.cells c0 t0)).alloc (.cells c1 t1)) (.cells c2 t2))
  rw [s1] at b1
  rw [s2] at b2
  exact ⟨(b2.block _ (by omega)).trans ((b1.block _ (by omega)).trans a0), (b2.block _ (by omega)).trans a1, a2⟩
set_option maxHeartbeats 1000000 in
theorem to_scene (A : Option Addr) (n c : Nat) (zs : List Int) (m : Int) (w : World) (hn : zs.length = n) (hn2 : n ≤ 1048576) (hss : IntsAt w w.heap.size .i64 A zs) :
    Calls Try.prog 24 #[scV A n c m] w (IsSc w.heap.size zs m w) := by
  have HN := Lib.hid hn
  obtain ⟨hs0, hb0⟩ := three w (.cells #[.slice A n c, .int .i64 m] 51) (.cells #[.slice none 0 0, .int .i64 0] 45) (.cells #[.slice none 0 0, .int .i64 0] 45)
  obtain ⟨a0, a1, a2⟩ := three_at w #[.slice A n c, .int .i64 m] #[.slice none 0 0, .int .i64 0] #[.slice none 0 0, .int .i64 0] 51 45 45
  have HS0 := Lib.hid hs0
  have HB0 := Lib.hid hb0
  have A0 := Lib.hid a0
  have A1 := Lib.hid a1
  have A2 := Lib.hid a2
  clear hs0 hb0 a0 a1 a2 hn
  go_enter Try.func24, Try.ntmps24
  go_wp2_with fail
  refine (Ins.to_any A n c zs _ HN.out hn2 ((hss.below HB0.out).more HB0.out.size)).mono ?_
  rintro e w3 ⟨g, rfl, hgg, hown, hb⟩
  have hsz := hb.size
  rw [HS0.out] at hgg hb hown hsz
  have c0 := (hb.block _ (by omega)).trans A0.out
  have c1 := (hb.block _ (by omega)).trans A1.out
  have c2 := (hb.block _ (by omega)).trans A2.out
  have k1 := (cell2 c0).2
  obtain ⟨k2, k3⟩ := cell2 c1
  obtain ⟨k4, k5⟩ := cell2 c2
  have f2 := frz c1 0
  have f3 := frz c1 1
  have f4 := frz c2 0
  have f5 := frz c2 1
  have HW := Lib.hid (put2 (x := .slice (some ⟨g, 0, none⟩) n n) (y := .int .i64 m) c2)
  have hb3 := HB0.out.trans (hb.mono (by omega))
  have hg1 := ((set_grown w3 (w.heap.size + 1 + 1) 0 (.slice (some ⟨g, 0, none⟩) n n)).trans (set_grown _ (w.heap.size + 1 + 1) 1 (.int .i64 m)))
  have hb4 := hb3.grown hg1 (by omega) (fun k hk => by simp only [Option.some.injEq] at hk; omega)
  have ho4 := own_gr hown hg1 (fun k hk e => by simp only [Option.map_some, Option.some.injEq] at hk e; omega)
  have c3 := (hg1.block (w.heap.size + 1) (by omega) (by simp)).trans c1
  have HV := Lib.hid (put2 (x := .slice (some ⟨g, 0, none⟩) n n) (y := .int .i64 m) c3)
  have hg2 := ((set_grown ((w3.setCell ⟨w.heap.size + 1 + 1, 0, none⟩ (.slice (some ⟨g, 0, none⟩) n n)).setCell ⟨w.heap.size + 1 + 1, 1, none⟩ (.int .i64 m)) (w.heap.size + 1) 0 (.slice (some ⟨g, 0, none⟩) n n)).trans (set_grown _ (w.heap.size + 1) 1 (.int .i64 m)))
  have HB5 := Lib.hid (hb4.grown hg2 hb4.size (fun k hk => by simp only [Option.some.injEq] at hk; omega))
  have HO5 := Lib.hid (own_mono (base' := w.heap.size) (own_gr ho4 hg2 (fun k hk e => by simp only [Option.map_some, Option.some.injEq] at hk e; omega)) (by omega))
  clear hb hown hgg hb3 hg1 hb4 ho4 c3 hg2 c0 c1 c2 hsz hss
  go_wp2
  (try simp only [Exit.inBlock, Exit.then])
  refine bodyPost_ret (results_cell rfl _ rfl (loadS HV.out)) rfl ?_
  exact ⟨g, by rw [HN.out], by rw [HN.out]; exact HO5.out, HB5.out⟩
set_option maxHeartbeats 1000000 in
theorem eq_scene (A A2 : Option Addr) (n c c2 : Nat) (zs : List Int) (m : Int) (w : World) (hn : zs.length = n) (hn2 : n ≤ 4194304) (h1 : IntsAt w w.heap.size .i64 A zs) (h2 : IntsAt w w.heap.size .i64 A2 zs) :
    Calls Try.prog 18 #[scV A n c m, scV A2 n c2 m] w fun e w' => e = .returned (.bool true) ∧ Below w.heap.size w w' := by
  have HN := Lib.hid hn
  have hmm : (m != m) = false := by simp
  have hb0 : Below w.heap.size w ((w.alloc (.cells #[.slice A n c, .int .i64 m] 45)).alloc (.cells #[.slice A2 n c2, .int .i64 m] 45)) := ((Below.refl _ w).alloc (Nat.le_refl _) _).alloc (by simp) _
  have hs1 : (w.alloc (.cells #[.slice A n c, .int .i64 m] 45)).heap.size = w.heap.size + 1 := by simp
  have a0 := heap_alloc_new w (.cells #[.slice A n c, .int .i64 m] 45)
  have a1 := heap_alloc_new (w.alloc (.cells #[.slice A n c, .int .i64 m] 45)) (.cells #[.slice A2 n c2, .int .i64 m] 45)
  have b1 := box_below (w.alloc (.cells #[.slice A n c, .int .i64 m] 45)) (.cells #[.slice A2 n c2, .int .i64 m] 45)
  rw [hs1] at a1 b1
  have k0 := (cell2 ((b1.block _ (by omega)).trans a0)).2
  have k1 := (cell2 a1).2
  have HI1 := Lib.hid ((h1.below hb0).more hb0.size)
  have HI2 := Lib.hid ((h2.below hb0).more hb0.size)
  have HB0 := Lib.hid hb0
  have hs2 : ((w.alloc (.cells #[.slice A n c, .int .i64 m] 45)).alloc (.cells #[.slice A2 n c2, .int .i64 m] 45)).heap.size = w.heap.size + 1 + 1 := by simp
  have HS2 := Lib.hid hs2
  clear hn h1 h2 hb0 a0 a1 b1 hs1 hs2
  go_enter Try.func18, Try.ntmps18
  go_wp2_with fail
  refine (Ins.eq_same A A2 n c c2 zs _ HN.out hn2 HI1.out HI2.out).mono ?_
  rintro e w3 ⟨rfl, hb⟩
  have hb2 := hb
  rw [HS2.out] at hb2
  replace k0 := (hb2.cell (p := ⟨w.heap.size, 1, none⟩) (by show w.heap.size < _; omega)).trans k0
  replace k1 := (hb2.cell (p := ⟨w.heap.size + 1, 1, none⟩) (by show w.heap.size + 1 < _; omega)).trans k1
  have HB3 := Lib.hid (HB0.out.trans (hb.mono HB0.out.size))
  clear hb hb2
  go_wp2
  go_ret
  exact ⟨rfl, HB3.out⟩
/-- the ints of a scene's list become marks -/
def MarkedSc (B : Nat) (k : Int) (n : Nat) (A : Option Addr) (c : Nat) (w : World) (e : Ending) (w' : World) : Prop :=
  e = .returned (.int .i64 (k + (n : Int))) ∧ w'.ownsRow B 3 1 (.slice A n c) n ((imarks k n).map (Value.int .i64)) ∧ w.grownBy w' (A.map (·.block))
theorem grown_box {w W : World} {o : Obj} {row : Option Nat} (h : (w.alloc o).grownBy W row) : w.grownBy W row := (World.grownBy_alloc w o row).trans h
theorem mark_scene (B : Nat) (k : Int) (n : Nat) (A : Option Addr) (c : Nat) (m : Int) (xs : List Value) (w : World) (hk0 : 0 ≤ k) (hkn : k + n ≤ 1073741824) (hown : w.ownsRow B 3 1 (.slice A n c) n xs) :
    Calls Try.prog 20 #[scV A n c m, .int .i64 k] w (MarkedSc B k n A c w) := by
  have HO := Lib.hid (hown.alloc (.cells #[.slice A n c, .int .i64 m] 45))
  clear hown
  go_enter Try.func20, Try.ntmps20
  go_wp2_with fail
  refine (Ins.mark_any B k n A c xs _ hk0 hkn HO.out).mono ?_
  rintro e w3 ⟨rfl, ho, hgr⟩
  have HO2 := Lib.hid ho
  have HG := Lib.hid (grown_box hgr)
  clear ho hgr
  go_wp2
  go_ret
  exact ⟨rfl, HO2.out, HG.out⟩
theorem held_scene (k : Int) (n c : Nat) (A : Option Addr) (m : Int) (w : World) (hk0 : 0 ≤ k) (hkn : k + n ≤ 1073741824) (h : IntsAt w w.heap.size .i64 A (imarks k n)) :
    Calls Try.prog 21 #[scV A n c m, .int .i64 k] w fun e w' => e = .returned (.int .i64 (k + (n : Int))) ∧ Below w.heap.size w w' := by
  have hb := box_below w (.cells #[.slice A n c, .int .i64 m] 45)
  have HI := Lib.hid ((h.below hb).more hb.size)
  have HB := Lib.hid hb
  have hlt : decide (k + (n : Int) < 0) = false := decide_eq_false (by omega)
  clear h hb
  go_enter Try.func21, Try.ntmps21
  go_wp2_with fail
  refine (Ins.held_any k n c A _ hk0 hkn HI.out).mono ?_
  rintro e w3 ⟨rfl, rfl⟩
  go_wp2
  go_ret
  exact ⟨rfl, HB.out⟩

section
open Go.ChangeShapes Go.WideShapes
variable {H : Type} {enc : TypeId × Value → H} {P : Program}
/-- an argument that is a struct of a list of ints and an int -/
theorem view_scene {W : World} {base : Nat} {t e : TypeId} {f0 f1 : Field} {v : Value} {d : DataW H} {ps : List MemPlace} (hs : P.underlying t = some (.struct #[f0, f1])) (hone : oneCellFields P #[f0, f1] = true) (hC : P.cellsOf t = 2)
    (h0 : P.underlying f0.type = some (.slice e)) (he : P.underlying e = some (.int .i64)) (hc : P.cellsOf e = 1) (h1 : P.underlying f1.type = some (.int .i64)) (hval : Value.okWide P W .any base t v) (hd : DataW.Trod enc P W 0 (fun _ => true) true t v d ps)
    (hlt : ∀ x ∈ ps, x.block < W.heap.size) :
    ∃ (A : Option Addr) (n c : Nat) (zs : List Int) (m : Int), v = scV A n c m ∧ zs.length = n ∧ n ≤ maxLen ∧ (∀ z ∈ zs, (Lit.int .i64 z).wf = true) ∧ (Lit.int .i64 m).wf = true ∧ IntsAt W W.heap.size .i64 A zs := by
  obtain ⟨v0, v1, y0, y1, n, rfl, _, hp, e0, e1⟩ := open_agg2 hs hone hC hval hd
  obtain ⟨m, hm, _, hwm⟩ := DataW.trod_int h1 e1
  simp only [List.cons.injEq, and_true] at hm
  subst hm
  have hlt0 : ∀ x ∈ y0.2, x.block < W.heap.size := fun x hx => hlt x (by rw [hp]; exact List.mem_append_left _ hx)
  rcases open_ints h0 he hc e0 with ⟨hcs, hx⟩ | ⟨a, len, cap, zs, hcs, _, hl, hm2, hz, hx, hcell, hws⟩
  · simp only [List.cons.injEq, and_true] at hcs
    subst hcs
    exact ⟨none, 0, 0, [], m, rfl, rfl, Nat.zero_le _, (fun s h => by cases h), hwm, IntsAt.none_ _ _ _ _⟩
  · simp only [List.cons.injEq, and_true] at hcs
    subst hcs
    simp only [if_true] at hz
    refine ⟨some a, len, cap, zs.take len, m, rfl, by rw [List.length_take]; omega, by omega, fun s h => hws s (List.mem_of_mem_take h), hwm, ?_⟩
    intro j hj
    have hj2 : j < len := by rw [List.length_take] at hj; omega
    obtain ⟨b, off, spot⟩ := a
    have hspot : spot = none := by simpa [Addr.add] using World.cell?_spot (hcell 0 (by omega))
    subst hspot
    have hbW : b < W.heap.size := hlt0 (.cell b off) (by rw [hx]; exact MemPlace.mem_row.2 ⟨0, by omega, by simp⟩)
    refine ⟨b, off, rfl, hbW, ?_⟩
    rw [← add_plain, hcell j (by omega)]
    simp [List.getD_eq_getElem?_getD, hj2]
end
end Go.Proofs.Ytibephoepkofnaa.Scn
