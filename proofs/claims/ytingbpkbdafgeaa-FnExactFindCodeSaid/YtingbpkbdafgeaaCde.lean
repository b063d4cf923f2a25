/- Codes: a struct of an int and two lists of lists. What the laws' helpers do with one: toCode copies, szCode counts, eqCode compares, markCode writes marks and heldCode looks whether they are still there. -/
import Derived.Test.YtingbpkbdafgeaaHco
import Derived.Test.YtingbpkbdafgeaaSrt
import Derived.Test.YtingbpkbdafgeaaBig
import Derived.WideShapes
import Derived.Deep.RegionHeld3
import Derived.Lib.SmallJoins
import Derived.Deep.Cut
set_option linter.unusedVariables false
set_option maxRecDepth 20000
namespace Go.Proofs.Ytingbpkbdafgeaa.Cde
open Go.Deep Go.RowKit Go.Joins Fr _root_.Go.Proofs.Ytingbpkbdafgeaa.Own Pk Ins Rws Srt Sst Hco

theorem cell3 {W : World} {p : Nat} {x y z : Value} {e : TypeId} (h : W.heap[p]? = some (.cells #[x, y, z] e (0, 0))) : W.cell? ⟨p, 0, none⟩ = some x ∧ W.cell? ⟨p, 1, none⟩ = some y ∧ W.cell? ⟨p, 2, none⟩ = some z :=
  ⟨range3 h 0 x rfl, range3 h 1 y rfl, range3 h 2 z rfl⟩
theorem frz {W : World} {p : Nat} {cs : Array Value} {t : TypeId} (hp : W.heap[p]? = some (.cells cs t (0, 0))) (j : Nat) : W.frozen? ⟨p, j, none⟩ = false := frozen_of_row W p j cs t hp
theorem set_gr (w : World) (g j : Nat) (v : Value) : w.grownBy (w.setCell ⟨g, j, none⟩ v) (some g) :=
  ⟨rfl, rfl, rfl, by simp, fun k _ hk => heap_setCell_other w ⟨g, j, none⟩ k v (fun e => hk (by simp [e]))⟩
theorem box_below (w : World) (o : Obj) : Below w.heap.size w (w.alloc o) := (Below.refl _ w).alloc (Nat.le_refl _) o
theorem results_cell {P : Program} {fn : Func} {a : Tmp} {t : TypeId} {p : Addr} {v : Value} {w : World} (h : fn.results = #[.cell a t]) (tmps : Array Value) (hp : tmps.getD a undef = .pointer (some p)) (hl : (loadVar t p).run P w = .ok v w) :
    (results fn tmps).run P w = .ok v w := by
  have hp2 : tmps[a]?.getD undef = .pointer (some p) := by simpa using hp
  simp [results, h, hp2, asAddr, hl]
theorem three (w : World) (o0 o1 o2 : Obj) : (((w.alloc o0).alloc o1).alloc o2).heap.size = w.heap.size + 1 + 1 + 1 ∧ Below w.heap.size w (((w.alloc o0).alloc o1).alloc o2) :=
  ⟨by simp, (((Below.refl _ w).alloc (Nat.le_refl _) o0).alloc (by simp) o1).alloc (by simp; omega) o2⟩
theorem three_at (w : World) (c0 c1 c2 : Array Value) (t0 t1 t2 : TypeId) :
    (((w.alloc (.cells c0 t0)).alloc (.cells c1 t1)).alloc (.cells c2 t2)).heap[w.heap.size]? = some (.cells c0 t0 (0, 0)) ∧
    (((w.alloc (.cells c0 t0)).alloc (.cells c1 t1)).alloc (.cells c2 t2)).heap[w.heap.size + 1]? = some (.cells c1 t1 (0, 0)) ∧
    (((w.alloc (.cells c0 t0)).alloc (.cells c1 t1)).alloc (.cells c2 t2)).heap[w.heap.size + 1 + 1]? = some (.cells c2 t2 (0, 0)) := by
  have s1 : (w.alloc (.cells c0 t0)).heap.size = w.heap.size + 1 := by simp
  have s2 : ((w.alloc (.cells c0 t0)).alloc (.cells c1 t1)).heap.size = w.heap.size + 1 + 1 := by simp
  have a0 := heap_alloc_new w (.cells c0 t0)
  have a1 := heap_alloc_new (w.alloc (.cells c0 t0)) (.cells c1 t1)
  have a2 := heap_alloc_new ((w.alloc (.cells c0 t0)).alloc (.cells c1 t1)) (.cells c2 t2)
  rw [s1] at a1
  rw [s2] at a2
  have b1 := (box_below (w.alloc (.cells c0 t0)) (.cells c1 t1))
  have b2 := (box_below ((w.alloc (.cells c0 t0)).alloc (.cells c1 t1)) (.cells c2 t2))
  rw [s1] at b1
  rw [s2] at b2
  exact ⟨(b2.block _ (by omega)).trans ((b1.block _ (by omega)).trans a0), (b2.block _ (by omega)).trans a1, a2⟩
theorem put3 {W : World} {p : Nat} {a b c x y z : Value} {t : TypeId} (hp : W.heap[p]? = some (.cells #[a, b, c] t (0, 0))) : (((W.setCell ⟨p, 0, none⟩ x).setCell ⟨p, 1, none⟩ y).setCell ⟨p, 2, none⟩ z).heap[p]? = some (.cells #[x, y, z] t (0, 0)) ∧ W.grownBy (((W.setCell ⟨p, 0, none⟩ x).setCell ⟨p, 1, none⟩ y).setCell ⟨p, 2, none⟩ z) (some p) := by
  have h1 := heap_setCell_same W p 0 #[a, b, c] t x hp
  have h2 := heap_setCell_same _ p 1 _ t y h1
  have h3 := heap_setCell_same _ p 2 _ t z h2
  exact ⟨h3, ((set_gr W p 0 x).trans (set_gr _ p 1 y)).trans (set_gr _ p 2 z)⟩
/-- two lists of lists, the blocks of the first below those of the second -/
def CR (W : World) (lo hi : Nat) (A : Option Addr) (n c : Nat) (rs : List RD) (A2 : Option Addr) (m c2 : Nat) (r2 : List RD) : Prop := ∃ mid, SSRow W lo mid A n c rs ∧ SSRow W mid hi A2 m c2 r2 ∧ lo ≤ mid ∧ mid ≤ hi
section
variable {W W' : World} {lo hi : Nat} {A A2 : Option Addr} {n c m c2 : Nat} {rs r2 : List RD}
theorem CR.below (h : CR W lo hi A n c rs A2 m c2 r2) (hb : Below W.heap.size W W') : CR W' lo hi A n c rs A2 m c2 r2 := by
  obtain ⟨mid, h1, h2, h3⟩ := h
  exact ⟨mid, h1.below hb, h2.below hb, h3⟩
theorem CR.grown {row : Option Nat} (h : CR W lo hi A n c rs A2 m c2 r2) (hg : W.grownBy W' row) (hr : ∀ k, row = some k → k < lo ∨ hi ≤ k) : CR W' lo hi A n c rs A2 m c2 r2 := by
  obtain ⟨mid, h1, h2, h3, h4⟩ := h
  exact ⟨mid, h1.grown hg (fun k hk => by have := hr k hk; omega), h2.grown hg (fun k hk => by have := hr k hk; omega), h3, h4⟩
theorem CR.wi {lo2 hi2 : Nat} (h : CR W lo hi A n c rs A2 m c2 r2) (hw : Wi lo2 hi2 W W') (hd : hi ≤ lo2 ∨ hi2 ≤ lo) : CR W' lo hi A n c rs A2 m c2 r2 := by
  obtain ⟨mid, h1, h2, h3, h4⟩ := h
  exact ⟨mid, h1.wi hw (by omega), h2.wi hw (by omega), h3, h4⟩
theorem CR.size (h : CR W lo hi A n c rs A2 m c2 r2) : hi ≤ W.heap.size := by
  obtain ⟨mid, h1, h2, _⟩ := h
  exact h2.2.2.2.2
end
theorem CR.top {W : World} {lo lo' hi : Nat} {A A2 : Option Addr} {n c m c2 : Nat} {rs r2 : List RD} (h : CR W lo hi A n c rs A2 m c2 r2) (h1 : lo' ≤ lo) : CR W lo' W.heap.size A n c rs A2 m c2 r2 := by
  obtain ⟨mid, h2, h3, h4, h5⟩ := h
  exact ⟨mid, ⟨own_mono h2.1 h1, fun i hi' => ⟨own_mono (h2.2.1 i hi').1 h1, (h2.2.1 i hi').2⟩, h2.2.2⟩, h3.higher h3.2.2.2.2 (Nat.le_refl _), Nat.le_trans h1 h4, Nat.le_trans h5 h3.2.2.2.2⟩
theorem wi_below {lo hi : Nat} {W W' : World} (h : Below W.heap.size W W') : Wi lo hi W W' := ⟨h.os, h.tape, h.output, h.size, fun k hk _ => h.block k hk⟩
theorem wi_trans {lo hi : Nat} {W W1 W2 : World} (h : Wi lo hi W W1) (h2 : Wi lo hi W1 W2) : Wi lo hi W W2 :=
  ⟨h2.os.trans h.os, h2.tape.trans h.tape, h2.output.trans h.output, Nat.le_trans h.size h2.size, fun k hk ho => (h2.block k (Nat.lt_of_lt_of_le hk h.size) ho).trans (h.block k hk ho)⟩
theorem wi_more {lo hi lo' hi' : Nat} {W W1 : World} (h : Wi lo hi W W1) (h1 : lo' ≤ lo) (h2 : hi ≤ hi') : Wi lo' hi' W W1 :=
  ⟨h.os, h.tape, h.output, h.size, fun k hk ho => h.block k hk (by omega)⟩
theorem ss_lower {W : World} {lo lo' hi : Nat} {A : Option Addr} {n c : Nat} {rs : List RD} (h : SSRow W lo hi A n c rs) (hl : lo' ≤ lo) : SSRow W lo' hi A n c rs :=
  ⟨own_mono h.1 hl, fun i hi' => ⟨own_mono (h.2.1 i hi').1 hl, (h.2.1 i hi').2⟩, h.2.2⟩
/-- a call hands back a code whose lists lie in rows of its own, and writes nothing old -/
def IsCd (B : Nat) (D : Int) (n m : Nat) (ls l2 : List RD) (w : World) (e : Ending) (w' : World) : Prop :=
  ∃ g g2 rs r2, e = .returned (coV D (some ⟨g, 0, none⟩) n n (some ⟨g2, 0, none⟩) m m) ∧ rs.map RD.zs = ls.map RD.zs ∧ r2.map RD.zs = l2.map RD.zs ∧ (∀ i, i < m → (r2.getD i rd0).zs.length ≤ (r2.getD i rd0).c) ∧ CR w' B w'.heap.size (some ⟨g, 0, none⟩) n n rs (some ⟨g2, 0, none⟩) m m r2 ∧ Below B w w'
theorem loadC {W : World} {g : Nat} {x y z : Value} {e : TypeId} (h : W.heap[g]? = some (.cells #[x, y, z] e (0, 0))) : (loadVar 26 ⟨g, 0, none⟩).run Try.prog W = .ok (.agg #[x, y, z]) W :=
  run_loadVar_mid (P := Try.prog) W g 0 26 [x, y, z] _ (range3 h) Try.underlying26 rfl (by kernel_rfl)
theorem caps_of {W : World} {lo hi : Nat} {A : Option Addr} {n c : Nat} {rs : List RD} (h : SSRow W lo hi A n c rs) (i : Nat) (hi' : i < n) : (rs.getD i rd0).zs.length ≤ (rs.getD i rd0).c := by
  have hr := (h.2.1 i (by rw [h.len]; exact hi')).1
  rcases hr.2 with ⟨h1, h2⟩ | ⟨g, cap, cur, hv, _, _, hc, _⟩
  · omega
  · simp only [Value.slice.injEq] at hv
    omega
set_option maxHeartbeats 2000000 in
theorem to_code (D : Int) (A : Option Addr) (n c : Nat) (A2 : Option Addr) (m c2 : Nat) (ls l2 : List RD) (w : World) (hn : ls.length = n) (hm : l2.length = m) (hn2 : n ≤ 1048576) (hm2 : m ≤ 1048576) (hz : ∀ i, i < n → (ls.getD i rd0).zs.length ≤ 1048576) (hz2 : ∀ i, i < m → (l2.getD i rd0).zs.length ≤ 1048576)
    (hss : SSAt w w.heap.size A ls) (hss2 : SSAt w w.heap.size A2 l2) :
    Calls Try.prog 30 #[coV D A n c A2 m c2] w (IsCd w.heap.size D n m ls l2 w) := by
  obtain ⟨hs0, hb0⟩ := three w (.cells #[.int .i64 D, .slice A n c, .slice A2 m c2] 43) (.cells #[.int .i64 0, .slice none 0 0, .slice none 0 0] 26) (.cells #[.int .i64 D, .slice none 0 0, .slice none 0 0] 26)
  obtain ⟨a0, a1, a2⟩ := three_at w #[.int .i64 D, .slice A n c, .slice A2 m c2] #[.int .i64 0, .slice none 0 0, .slice none 0 0] #[.int .i64 D, .slice none 0 0, .slice none 0 0] 43 26 26
  have HN := Lib.hid hn
  have HM := Lib.hid hm
  have HZ := Lib.hid hz
  have HZ2 := Lib.hid hz2
  obtain ⟨W, hW⟩ : ∃ W, W = ((w.alloc (.cells #[.int .i64 D, .slice A n c, .slice A2 m c2] 43)).alloc (.cells #[.int .i64 0, .slice none 0 0, .slice none 0 0] 26)).alloc (.cells #[.int .i64 D, .slice none 0 0, .slice none 0 0] 26) := ⟨_, rfl⟩
  rw [← hW] at hs0 hb0 a0 a1 a2
  have HB1 := Lib.hid hb0
  have HA1 := Lib.hid ((hss.below hb0).more hb0.size)
  have HA2 := Lib.hid hss2
  have E0 := Lib.hid a0
  have E1 := Lib.hid a1
  have E2 := Lib.hid a2
  have HS1 := Lib.hid hs0
  obtain ⟨q0, q1, q2⟩ := cell3 a0
  clear hn hm hz hz2 hss hss2 a0 a1 a2 hs0 hb0
  unfold coV
  go_enter Try.func30, Try.ntmps30
  go_upto_region 3 with fail
  rw [← hW]
  clear hW
  go_wp2_with fail
  refine (to_ss A n c ls W HN.out hn2 HZ.out HA1.out).mono ?_
  rintro e w2 ⟨g, rs, rfl, hrs, _, hrow, hb2⟩
  have hsz2 := hb2.size
  have hS1 : w.heap.size + 1 + 1 < W.heap.size := by rw [HS1.out]; omega
  have c0 := (hb2.block w.heap.size (by rw [HS1.out]; omega)).trans E0.out
  have c1 := (hb2.block (w.heap.size + 1) (by rw [HS1.out]; omega)).trans E1.out
  have cc2 := (hb2.block (w.heap.size + 1 + 1) (by rw [HS1.out]; omega)).trans E2.out
  have f1 := frz cc2 1
  have v1 := (cell3 cc2).2.1
  have hg := set_gr w2 (w.heap.size + 1 + 1) 1 (.slice (some ⟨g, 0, none⟩) n n)
  obtain ⟨w3, hw3⟩ : ∃ w3, w3 = w2.setCell ⟨w.heap.size + 1 + 1, 1, none⟩ (.slice (some ⟨g, 0, none⟩) n n) := ⟨_, rfl⟩
  have d2 : w3.heap[w.heap.size + 1 + 1]? = some (.cells #[.int .i64 D, .slice (some ⟨g, 0, none⟩) n n, .slice none 0 0] 26 (0, 0)) := by
    rw [hw3]
    exact heap_setCell_same w2 (w.heap.size + 1 + 1) 1 _ _ _ cc2
  rw [← hw3] at hg
  have hsz3 := hg.size
  have d0 := (hg.block w.heap.size (by omega) (by simp; omega)).trans c0
  have d1 := (hg.block (w.heap.size + 1) (by omega) (by simp)).trans c1
  have hb3 := (HB1.out.trans (hb2.mono HB1.out.size)).grown hg (by omega) (fun k hk => by simp only [Option.some.injEq] at hk; omega)
  have HROW := Lib.hid ((hrow.grown hg (fun k hk => by simp only [Option.some.injEq] at hk; left; omega)).higher hg.size (Nat.le_refl _))
  have HS3 := Lib.hid ((HA2.out.below hb3).more hb3.size)
  have HB3 := Lib.hid hb3
  have D0 := Lib.hid d0
  have D1 := Lib.hid d1
  have D2 := Lib.hid d2
  have q2 := (cell3 d0).2.2
  have HRS := Lib.hid hrs
  have hS3 : w.heap.size + 1 + 1 < w3.heap.size := by omega
  have hw3W : w.heap.size + 1 + 1 + 1 ≤ W.heap.size := by omega
  have hW3 : W.heap.size ≤ w3.heap.size := by omega
  clear c0 c1 cc2 hg d0 d1 d2 hb3 hrow hb2 hrs q0 q1 HA1 E0 E1 E2 hsz2 hsz3 hS1
  go_upto_region 4 with fail
  rw [← hw3]
  clear hw3 f1 v1
  go_wp2_with fail
  refine (to_ss A2 m c2 l2 w3 HM.out hm2 HZ2.out HS3.out).mono ?_
  rintro e w4 ⟨g2, r2, rfl, hr2, _, hrow2, hb4⟩
  have hsz4 := hb4.size
  have c1 := (hb4.block (w.heap.size + 1) (by omega)).trans D1.out
  have cc2 := (hb4.block (w.heap.size + 1 + 1) (by omega)).trans D2.out
  have f1 := frz cc2 2
  obtain ⟨v0, v1, v2⟩ := cell3 cc2
  obtain ⟨u0, u1, u2⟩ := cell3 c1
  have g0 := frz c1 0
  have g1 := frz c1 1
  have gg2 := frz c1 2
  have HCP := Lib.hid (caps_of hrow2)
  have hgs := set_gr w4 (w.heap.size + 1 + 1) 2 (.slice (some ⟨g2, 0, none⟩) m m)
  have hx := put3 (x := .int .i64 D) (y := .slice (some ⟨g, 0, none⟩) n n) (z := .slice (some ⟨g2, 0, none⟩) m m) ((hgs.block (w.heap.size + 1) (by omega) (by simp)).trans c1)
  have hcr2 : CR w4 (w.heap.size + 1 + 1 + 1) w4.heap.size (some ⟨g, 0, none⟩) n n rs (some ⟨g2, 0, none⟩) m m r2 := ⟨w3.heap.size, ss_lower (HROW.out.below hb4) hw3W, hrow2, by omega, by omega⟩
  have hg2 := hx.2
  have hcr3 := (hcr2.grown hgs (fun k hk => by simp only [Option.some.injEq] at hk; omega)).grown hg2 (fun k hk => by simp only [Option.some.injEq] at hk; omega)
  have hbb := ((HB3.out.trans (hb4.mono (by omega))).grown hgs (by omega) (fun k hk => by simp only [Option.some.injEq] at hk; omega)).grown hg2 (by have := hgs.size; omega) (fun k hk => by simp only [Option.some.injEq] at hk; omega)
  have HX := Lib.hid hx.1
  have HCR := Lib.hid (hcr3.top (lo' := w.heap.size) (by omega))
  have HBB := Lib.hid hbb
  have HR2 := Lib.hid hr2
  clear hx hgs hg2 hcr2 hcr3 hbb hb4 hrow2 hr2 c1 cc2 hsz4 hS3 hw3W hW3
  go_wp2
  (try simp only [Exit.inBlock, Exit.then])
  refine bodyPost_ret (results_cell rfl _ rfl (loadC HX.out)) rfl ?_
  exact ⟨g, g2, rs, r2, rfl, HRS.out, HR2.out, HCP.out, HCR.out, HBB.out⟩
theorem fits_map {rs : List RD} (h : ∀ i, i < rs.length → Fits (rs.getD i rd0).zs) : ∀ q ∈ rs.map RD.zs, Fits q := by
  intro q hq
  obtain ⟨r, hr, rfl⟩ := List.mem_map.1 hq
  obtain ⟨i, hi, rfl⟩ := List.getElem_of_mem hr
  have := h i hi
  rwa [List.getD_eq_getElem?_getD, List.getElem?_eq_getElem hi] at this
theorem cell_wi {lo hi b o : Nat} {W W' : World} {v : Value} (hw : Wi lo hi W W') (h : W.cell? ⟨b, o, none⟩ = some v) (hd : b < lo ∨ hi ≤ b) : W'.cell? ⟨b, o, none⟩ = some v := by
  have := hw.block b (World.block_lt_of_cell? W _ h) hd
  unfold World.cell? at h ⊢
  rw [this]
  exact h
/-- how much a code takes -/
def cTot (n : Nat) (ls : List RD) (m : Nat) (l2 : List RD) : Nat := n + tot ls n + (m + tot l2 m)
set_option maxHeartbeats 1000000 in
theorem sz_code (D : Int) (A : Option Addr) (n c : Nat) (A2 : Option Addr) (m c2 : Nat) (ls l2 : List RD) (w : World) (hn : ls.length = n) (hm : l2.length = m) (hn2 : n ≤ 9223372036854775807) (hm2 : m ≤ 9223372036854775807) (hz : WfSS ls) (hz2 : WfSS l2) (hss : SSAt w w.heap.size A ls) (hss2 : SSAt w w.heap.size A2 l2) :
    Calls Try.prog 28 #[coV D A n c A2 m c2, .int .i64 1048576] w fun e w' => e = .returned (.int .i64 (if cTot n ls m l2 ≤ 1048576 then 1048576 - (cTot n ls m l2 : Nat) else -1)) ∧ Below w.heap.size w w' := by
  have hb := box_below w (.cells #[.int .i64 D, .slice A n c, .slice A2 m c2] 43)
  obtain ⟨q0, q1, q2⟩ := cell3 (heap_alloc_new w (.cells #[.int .i64 D, .slice A n c, .slice A2 m c2] 43))
  obtain ⟨W, hW⟩ : ∃ W, W = w.alloc (.cells #[.int .i64 D, .slice A n c, .slice A2 m c2] 43) := ⟨_, rfl⟩
  rw [← hW] at hb q0 q1 q2
  have HB := Lib.hid hb
  have H1 := Lib.hid ((hss.below hb).more hb.size)
  have H2 := Lib.hid ((hss2.below hb).more hb.size)
  have HN := Lib.hid hn
  have HM := Lib.hid hm
  have HZ := Lib.hid hz
  have HZ2 := Lib.hid hz2
  obtain ⟨R, hR⟩ : ∃ R : Int, R = (if cTot n ls m l2 ≤ 1048576 then (1048576 : Int) - (cTot n ls m l2 : Nat) else -1) := ⟨_, rfl⟩
  rw [← hR]
  have HR := Lib.hid hR
  clear hb hss hss2 hn hm hz hz2 hR
  by_cases h1 : n + tot ls n ≤ 1048576
  · obtain ⟨k, hk⟩ : ∃ k : Nat, k = 1048576 - (n + tot ls n) := ⟨_, rfl⟩
    have hk2 : (1048576 : Int) - (n : Int) - (tot ls n : Int) = (k : Int) := by omega
    have HC1 := Lib.hid (sz_ss A n c ls 1048576 W HN.out hn2 HZ.out (by omega) H1.out)
    rw [if_pos h1, show ((1048576 : Nat) : Int) = 1048576 from rfl, hk2] at HC1
    have HC2 := Lib.hid (sz_ss A2 m c2 l2 k W HM.out hm2 HZ2.out (by omega) H2.out)
    by_cases h2 : m + tot l2 m ≤ k
    · have HT := Lib.hid (show R = (k : Int) - (m : Int) - (tot l2 m : Int) by
        rw [HR.out]
        unfold cTot
        rw [if_pos (by omega)]
        omega)
      rw [if_pos h2] at HC2
      have hd2 : decide ((k : Int) - (m : Int) - (tot l2 m : Int) < 0) = false := decide_eq_false (by omega)
      clear h1 h2 hk hk2
      unfold coV
      go_enter Try.func28, Try.ntmps28
      go_upto_region 1 with fail
      rw [← hW]
      clear hW
      go_wp2_with fail
      refine HC1.out.mono ?_
      rintro e w' ⟨rfl, rfl⟩
      go_wp2_with fail
      refine HC2.out.mono ?_
      rintro e w' ⟨rfl, rfl⟩
      go_wp2
      go_ret
      exact ⟨by rw [HT.out]; rfl, HB.out⟩
    · have HT := Lib.hid (show R = -1 by
        rw [HR.out]
        unfold cTot
        rw [if_neg (by omega)])
      rw [if_neg h2] at HC2
      clear h1 h2 hk hk2
      unfold coV
      go_enter Try.func28, Try.ntmps28
      go_upto_region 1 with fail
      rw [← hW]
      clear hW
      go_wp2_with fail
      refine HC1.out.mono ?_
      rintro e w' ⟨rfl, rfl⟩
      go_wp2_with fail
      refine HC2.out.mono ?_
      rintro e w' ⟨rfl, rfl⟩
      go_wp2
      go_ret
      exact ⟨by rw [HT.out]; rfl, HB.out⟩
  · have HT := Lib.hid (show R = -1 by
      rw [HR.out]
      unfold cTot
      rw [if_neg (by omega)])
    have HC1 := Lib.hid (sz_ss A n c ls 1048576 W HN.out hn2 HZ.out (by omega) H1.out)
    rw [if_neg h1, show ((1048576 : Nat) : Int) = 1048576 from rfl] at HC1
    clear h1
    unfold coV
    go_enter Try.func28, Try.ntmps28
    go_upto_region 1 with fail
    rw [← hW]
    clear hW
    go_wp2_with fail
    refine HC1.out.mono ?_
    rintro e w' ⟨rfl, rfl⟩
    go_wp2
    go_ret
    exact ⟨by rw [HT.out]; rfl, HB.out⟩
set_option maxHeartbeats 1000000 in
theorem eq_code (lo1 hi1 lo2 hi2 lo3 hi3 lo4 hi4 : Nat) (D : Int) (A B : Option Addr) (n c d : Nat) (A2 B2 : Option Addr) (m c2 d2 : Nat) (rs ss r2 s2 : List RD) (w : World) (h1 : SSRow w lo1 hi1 A n c rs) (h2 : SSRow w lo2 hi2 B n d ss) (h3 : SSRow w lo3 hi3 A2 m c2 r2) (h4 : SSRow w lo4 hi4 B2 m d2 s2)
    (he : rs.map RD.zs = ss.map RD.zs) (he2 : r2.map RD.zs = s2.map RD.zs) (hn : n ≤ 4194304) (hm : m ≤ 4194304) (hs : ∀ i, i < n → (rs.getD i rd0).zs.length ≤ 4194304) (hs2 : ∀ i, i < m → (r2.getD i rd0).zs.length ≤ 4194304) :
    Calls Try.prog 31 #[coV D A n c A2 m c2, coV D B n d B2 m d2] w fun e w' => e = .returned (.bool true) ∧ Below w.heap.size w w' := by
  have hmm : (D != D) = false := by simp
  have hb0 : Below w.heap.size w ((w.alloc (.cells #[.int .i64 D, .slice A n c, .slice A2 m c2] 26)).alloc (.cells #[.int .i64 D, .slice B n d, .slice B2 m d2] 26)) := ((Below.refl _ w).alloc (Nat.le_refl _) _).alloc (by simp) _
  have hs1 : (w.alloc (.cells #[.int .i64 D, .slice A n c, .slice A2 m c2] 26)).heap.size = w.heap.size + 1 := by simp
  have a0 := heap_alloc_new w (.cells #[.int .i64 D, .slice A n c, .slice A2 m c2] 26)
  have a1 := heap_alloc_new (w.alloc (.cells #[.int .i64 D, .slice A n c, .slice A2 m c2] 26)) (.cells #[.int .i64 D, .slice B n d, .slice B2 m d2] 26)
  have b1 := box_below (w.alloc (.cells #[.int .i64 D, .slice A n c, .slice A2 m c2] 26)) (.cells #[.int .i64 D, .slice B n d, .slice B2 m d2] 26)
  rw [hs1] at a1 b1
  obtain ⟨k0, k1, k2⟩ := cell3 ((b1.block _ (by omega)).trans a0)
  obtain ⟨j0, j1, j2⟩ := cell3 a1
  obtain ⟨W, hW⟩ : ∃ W, W = (w.alloc (.cells #[.int .i64 D, .slice A n c, .slice A2 m c2] 26)).alloc (.cells #[.int .i64 D, .slice B n d, .slice B2 m d2] 26) := ⟨_, rfl⟩
  have hs2' : w.heap.size + 1 < W.heap.size := by rw [hW]; simp
  rw [← hW] at hb0 k0 k1 k2 j0 j1 j2
  have HB := Lib.hid hb0
  have H1 := Lib.hid (h1.below hb0)
  have H2 := Lib.hid (h2.below hb0)
  have H3 := Lib.hid (h3.below hb0)
  have H4 := Lib.hid (h4.below hb0)
  have HE := Lib.hid he
  have HE2 := Lib.hid he2
  have HS := Lib.hid hs
  have HS2 := Lib.hid hs2
  clear h1 h2 h3 h4 he he2 hs hs2 a0 a1 b1 hs1 hb0
  unfold coV
  go_enter Try.func31, Try.ntmps31
  go_upto_region 1 with fail
  rw [← hW]
  clear hW
  go_wp2_with fail
  refine (eq_ss _ _ _ _ A B n c d rs ss W H1.out H2.out HE.out hn HS.out).mono ?_
  rintro e w1 ⟨rfl, hb⟩
  have H3' := Lib.hid (H3.out.below hb)
  have H4' := Lib.hid (H4.out.below hb)
  replace k2 := (hb.cell (p := ⟨w.heap.size, 2, none⟩) (by show w.heap.size < _; omega)).trans k2
  replace j2 := (hb.cell (p := ⟨w.heap.size + 1, 2, none⟩) (by show w.heap.size + 1 < _; omega)).trans j2
  have HB1 := Lib.hid (HB.out.trans (hb.mono HB.out.size))
  clear hb k0 k1 j0 j1
  go_wp2_with fail
  refine (eq_ss _ _ _ _ A2 B2 m c2 d2 r2 s2 w1 H3'.out H4'.out HE2.out hm HS2.out).mono ?_
  rintro e w2 ⟨rfl, hb⟩
  have HB2 := Lib.hid (HB1.out.trans (hb.mono HB1.out.size))
  clear hb
  go_wp2
  go_ret
  exact ⟨rfl, HB2.out⟩
theorem wi_alloc {lo hi : Nat} (w : World) (o : Obj) : Wi lo hi w (w.alloc o) := wi_below (box_below w o)
set_option maxHeartbeats 1000000 in
theorem mark_code (lo hi : Nat) (D k : Int) (A : Option Addr) (n c : Nat) (A2 : Option Addr) (m c2 : Nat) (rs r2 : List RD) (w : World) (hk0 : 0 ≤ k) (hkn : k + (tot rs n : Nat) + (tot r2 m : Nat) ≤ 1073741824) (hn : n ≤ 4194304) (hm : m ≤ 4194304) (h : CR w lo hi A n c rs A2 m c2 r2) :
    Calls Try.prog 33 #[coV D A n c A2 m c2, .int .i64 k] w fun e w' => e = .returned (.int .i64 (k + (tot rs n : Nat) + (tot r2 m : Nat))) ∧ CR w' lo hi A n c (mkTo k rs n) A2 m c2 (mkTo (k + (tot rs n : Nat)) r2 m) ∧ Wi lo hi w w' := by
  obtain ⟨mid, h1, h2, h3, h4⟩ := h
  have hb := box_below w (.cells #[.int .i64 D, .slice A n c, .slice A2 m c2] 26)
  obtain ⟨q0, q1, q2⟩ := cell3 (heap_alloc_new w (.cells #[.int .i64 D, .slice A n c, .slice A2 m c2] 26))
  have hsw : w.heap.size < (w.alloc (.cells #[.int .i64 D, .slice A n c, .slice A2 m c2] 26)).heap.size := by simp
  have hhi := h2.2.2.2.2
  obtain ⟨W, hW⟩ : ∃ W, W = w.alloc (.cells #[.int .i64 D, .slice A n c, .slice A2 m c2] 26) := ⟨_, rfl⟩
  rw [← hW] at hb q0 q1 q2 hsw
  have HW0 := Lib.hid (show Wi lo hi w W from wi_below hb)
  have H1 := Lib.hid (h1.below hb)
  have H2 := Lib.hid (h2.below hb)
  clear h1 h2 hb
  unfold coV
  go_enter Try.func33, Try.ntmps33
  go_upto_region 1 with fail
  rw [← hW]
  clear hW
  go_wp2_with fail
  refine (mark_ss lo mid A n c rs k W hk0 (by omega) hn H1.out).mono ?_
  rintro e w1 ⟨rfl, hr1, hwi⟩
  have H2' := Lib.hid (H2.out.wi hwi (Or.inr (Nat.le_refl _)))
  replace q2 : w1.cell? ⟨w.heap.size, 2, none⟩ = some (.slice A2 m c2) := by
    have := hwi.block w.heap.size hsw (Or.inr (by omega))
    unfold World.cell? at q2 ⊢
    rw [this]
    exact q2
  have HR1 := Lib.hid hr1
  have HW1 := Lib.hid (wi_trans HW0.out (wi_more hwi (Nat.le_refl _) h4))
  clear hr1 hwi q0 q1
  go_wp2_with fail
  refine (mark_ss mid hi A2 m c2 r2 (k + (tot rs n : Nat)) w1 (by omega) (by omega) hm H2'.out).mono ?_
  rintro e w2 ⟨rfl, hr2, hwi⟩
  have HR2 := Lib.hid hr2
  have HR3 := Lib.hid (HR1.out.wi hwi (Or.inl (Nat.le_refl _)))
  have HW2 := Lib.hid (wi_trans HW1.out (wi_more hwi h3 (Nat.le_refl _)))
  clear hr2 hwi
  go_wp2
  go_ret
  exact ⟨rfl, ⟨mid, HR3.out, HR2.out, h3, h4⟩, HW2.out⟩
set_option maxHeartbeats 1000000 in
theorem held_code (lo hi : Nat) (D k : Int) (A : Option Addr) (n c : Nat) (A2 : Option Addr) (m c2 : Nat) (rs r2 : List RD) (w : World) (hk0 : 0 ≤ k) (hkn : k + (tot rs n : Nat) + (tot r2 m : Nat) ≤ 1073741824) (hn : n ≤ 4194304) (hm : m ≤ 4194304) (h : CR w lo hi A n c (mkTo k rs n) A2 m c2 (mkTo (k + (tot rs n : Nat)) r2 m)) :
    Calls Try.prog 34 #[coV D A n c A2 m c2, .int .i64 k] w fun e w' => e = .returned (.int .i64 (k + (tot rs n : Nat) + (tot r2 m : Nat))) ∧ Below w.heap.size w w' := by
  obtain ⟨mid, h1, h2, h3, h4⟩ := h
  have hb := box_below w (.cells #[.int .i64 D, .slice A n c, .slice A2 m c2] 26)
  obtain ⟨q0, q1, q2⟩ := cell3 (heap_alloc_new w (.cells #[.int .i64 D, .slice A n c, .slice A2 m c2] 26))
  obtain ⟨W, hW⟩ : ∃ W, W = w.alloc (.cells #[.int .i64 D, .slice A n c, .slice A2 m c2] 26) := ⟨_, rfl⟩
  rw [← hW] at hb q0 q1 q2
  have HB := Lib.hid hb
  have H1 := Lib.hid (h1.below hb)
  have H2 := Lib.hid (h2.below hb)
  have d1 : decide (k + (tot rs n : Int) < 0) = false := decide_eq_false (by omega)
  have d2 : decide (k + (tot rs n : Int) + (tot r2 m : Int) < 0) = false := decide_eq_false (by omega)
  clear h1 h2 hb
  unfold coV
  go_enter Try.func34, Try.ntmps34
  go_upto_region 1 with fail
  rw [← hW]
  clear hW
  go_wp2_with fail
  refine (held_ss lo mid A n c rs k W hk0 (by omega) hn H1.out).mono ?_
  rintro e w1 ⟨rfl, rfl⟩
  go_wp2_with fail
  refine (held_ss mid hi A2 m c2 r2 (k + (tot rs n : Nat)) W (by omega) (by omega) hm H2.out).mono ?_
  rintro e w1 ⟨rfl, rfl⟩
  go_wp2
  go_ret
  exact ⟨rfl, HB.out⟩
section
open Go.ChangeShapes Go.WideShapes
variable {H : Type} {enc : TypeId × Value → H} {P : Program}
/-- one list of lists, a field of a struct, opened -/
theorem trod_intss {W : World} {t e q : TypeId} {v : Value} {f : Nat} {y : DataW H × List MemPlace} (ht : P.underlying t = some (.slice e)) (he : P.underlying e = some (.slice q)) (hq : P.underlying q = some (.int .i64)) (ce : P.cellsOf e = 1) (cq : P.cellsOf q = 1)
    (hf : DataW.trod enc P W 0 (fun _ => true) true f t [v] = some y) (hlt : ∀ x ∈ y.2, x.block < W.heap.size) :
    ∃ (A : Option Addr) (n c : Nat) (rs : List RD), v = .slice A n c ∧ rs.length = n ∧ n ≤ maxLen ∧ WfSS rs ∧ SSAt W W.heap.size A rs := by
  rcases open_int_rows ht he hq ce cq hf with ⟨hcs, hx⟩ | ⟨a, len, cap, Ar, L, C, Z, hcs, _, hl, hm, hx, hr⟩
  · simp only [List.cons.injEq, and_true] at hcs
    subst hcs
    exact ⟨none, 0, 0, [], rfl, rfl, Nat.zero_le _, (fun i hi => absurd hi (Nat.not_lt_zero _)), SSAt.nil _ _ _⟩
  · simp only [List.cons.injEq, and_true] at hcs
    subst hcs
    have hget : ∀ i, i < len → ((List.range len).map fun r => (⟨Ar r, C r, (Z r).take (L r)⟩ : RD)).getD i rd0 = ⟨Ar i, C i, (Z i).take (L i)⟩ := by
      intro i hi
      simp [List.getD_eq_getElem?_getD, hi]
    have hzl : ∀ i, i < cap → ((Z i).take (L i)).length = L i := by
      intro i hi
      obtain ⟨_, h1, _, h3, _⟩ := hr i hi
      rw [List.length_take]; omega
    refine ⟨some a, len, cap, (List.range len).map fun r => ⟨Ar r, C r, (Z r).take (L r)⟩, rfl, by simp, by omega, ?_, ?_⟩
    · intro i hi
      simp only [List.length_map, List.length_range] at hi
      rw [hget i hi]
      obtain ⟨_, h1, h2, h3, h4, _⟩ := hr i (by omega)
      refine ⟨by show ((Z i).take (L i)).length ≤ maxLen; rw [hzl i (by omega)]; omega, ?_⟩
      exact fits_of fun z hz => h4 z (List.mem_of_mem_take hz)
    · intro j hj
      simp only [List.length_map, List.length_range] at hj
      rw [hget j hj]
      obtain ⟨hc, h1, h2, h3, h4, h5, h6⟩ := hr j (by omega)
      obtain ⟨b, off, spot⟩ := a
      have hspot : spot = none := by simpa [Addr.add] using World.cell?_spot (hr 0 (by omega)).1
      subst hspot
      have hbW : b < W.heap.size := hlt (.cell b off) (by rw [hx]; exact List.mem_append_left _ (MemPlace.mem_row.2 ⟨0, by omega, by simp⟩))
      refine ⟨b, off, rfl, hbW, ?_, ?_⟩
      · rw [← add_plain, hc]
        simp only [RD.v]
        rw [hzl j (by omega)]
      · intro k hk
        simp only at hk ⊢
        rw [hzl j (by omega)] at hk
        cases hA : Ar j with
        | none => have := h5 hA; omega
        | some a' =>
          obtain ⟨_, hcell⟩ := h6 a' hA
          obtain ⟨b', off', spot'⟩ := a'
          have hs' : spot' = none := by simpa [Addr.add] using World.cell?_spot (hcell 0 (by omega))
          subst hs'
          have hbW' : b' < W.heap.size := by
            refine hlt (.cell b' off') ?_
            rw [hx]
            refine List.mem_append_right _ (List.mem_flatMap.2 ⟨j, List.mem_range.2 (by omega), ?_⟩)
            rw [hA]
            exact MemPlace.mem_row.2 ⟨0, by omega, by simp⟩
          refine ⟨b', off', rfl, hbW', ?_⟩
          rw [← add_plain, hcell k (by omega)]
          simp [List.getD_eq_getElem?_getD, hk]
/-- an argument that is a code -/
theorem view_code {W : World} {base : Nat} {t e q : TypeId} {f0 f1 f2 : Field} {v : Value} {d : DataW H} {ps : List MemPlace} (hs : P.underlying t = some (.struct #[f0, f1, f2])) (hone : oneCellFields P #[f0, f1, f2] = true) (hC : P.cellsOf t = 3)
    (h0 : P.underlying f0.type = some (.int .i64)) (h1 : P.underlying f1.type = some (.slice e)) (h2 : P.underlying f2.type = some (.slice e)) (he : P.underlying e = some (.slice q)) (hq : P.underlying q = some (.int .i64)) (ce : P.cellsOf e = 1) (cq : P.cellsOf q = 1)
    (hval : Value.okWide P W .any base t v) (hd : DataW.Trod enc P W 0 (fun _ => true) true t v d ps) (hlt : ∀ x ∈ ps, x.block < W.heap.size) :
    ∃ (D : Int) (A : Option Addr) (n c : Nat) (ls : List RD) (A2 : Option Addr) (m c2 : Nat) (l2 : List RD), v = coV D A n c A2 m c2 ∧ (Lit.int .i64 D).wf = true ∧ ls.length = n ∧ n ≤ maxLen ∧ WfSS ls ∧ SSAt W W.heap.size A ls ∧ l2.length = m ∧ m ≤ maxLen ∧ WfSS l2 ∧ SSAt W W.heap.size A2 l2 := by
  obtain ⟨v0, v1, v2, y0, y1, y2, n, rfl, _, hp, e0, e1, e2⟩ := open_agg3 hs hone hC hval hd
  obtain ⟨D, hD, _, hwD⟩ := DataW.trod_int h0 e0
  simp only [List.cons.injEq, and_true] at hD
  subst hD
  obtain ⟨A, n1, c1, ls, rfl, a1, a2, a3, a4⟩ := trod_intss h1 he hq ce cq e1 (fun x hx => hlt x (by rw [hp]; simp [hx]))
  obtain ⟨A2, m1, c2, l2, rfl, b1, b2, b3, b4⟩ := trod_intss h2 he hq ce cq e2 (fun x hx => hlt x (by rw [hp]; simp [hx]))
  exact ⟨D, A, n1, c1, ls, A2, m1, c2, l2, rfl, hwD, a1, a2, a3, a4, b1, b2, b3, b4⟩
end
end Go.Proofs.Ytingbpkbdafgeaa.Cde
