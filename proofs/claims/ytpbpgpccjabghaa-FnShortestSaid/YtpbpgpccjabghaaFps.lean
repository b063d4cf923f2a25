/- faroPerms and the closure of ShortestFaro. -/
import Derived.Test.YtpbpgpccjabghaaBfs
import Derived.Test.YtpbpgpccjabghaaFr2
import Derived.Test.YtpbpgpccjabghaaShelf
import Derived.Lib.SliceRun
set_option linter.unusedVariables false
set_option maxRecDepth 20000
namespace Go.Proofs.Ytpbpgpccjabghaa.Fps
open Go.RowKit Fr Own Pk Pok Arr Ins Nwp Pfn Rws Lb Cat Mvp Mv1 Mv2 Mv3 Mv4 Mk Mok2 Pf Sv Sv2 Sv3 Do Pa Fsz Prm Fpm Bfs

theorem fp_at {n k : Nat} (h1 : 2 ≤ n) (h2 : n ≤ 12) (h3 : n % 2 = 0) (hk : k ≤ 1) : fpB n k = true ∧ fpF n k = pomF n 4 k ∧ (pomF n 4 k).length = n := by
  have hs : szB (n : Int) = true := decide_eq_true (by omega)
  have hb : fpB (n : Int) (k : Int) = true := by unfold fpB; rw [hs, mv_k hs, decide_eq_true (by omega)]; rfl
  exact ⟨hb, fpF_yes hb, (pom_good (by omega) h2 hk).2⟩

/-- the closure: where a card goes -/
theorem clos_int (p n k c : Nat) (A : Option Addr) (a : Int) (w : World) (h1 : 2 ≤ n) (h2 : n ≤ 12) (h3 : n % 2 = 0) (hk : k ≤ 1) (ha0 : 0 ≤ a) (ha : a < n)
    (hc : w.cell? ⟨p, k, none⟩ = some (.slice A n c)) (hrow : w.ownsRow 0 3 1 (.slice A n c) n (vals (pomF n 4 k))) :
    Calls Try.prog 50 #[.int .i64 a, .int .i64 k, .pointer (some ⟨p, 0, none⟩)] w fun e w' => e = .returned (.int .i64 (nxI n k a)) ∧ w = w' := by
  obtain ⟨_, _, hl⟩ := fp_at h1 h2 h3 hk
  have HNX := Lib.hid ((nx_eq h1 h2 h3 hk ha0 ha).1)
  have hat := ints_of hrow
  obtain ⟨g, rfl⟩ := own_shape hrow (by omega)
  have HX := Lib.hid (Try.slices_Index_int g 0 n c (pomF n 4 k) a w (by omega) (by omega) (fun j hj => by
    obtain ⟨b', o', hA, _, hcc⟩ := hat j hj
    simp only [Option.some.injEq, Addr.mk.injEq, and_true] at hA
    obtain ⟨rfl, rfl⟩ := hA
    exact hcc))
  rw [List.take_of_length_le (by omega), HNX.out] at HX
  clear hat hl hrow HNX
  rcases (show k = 0 ∨ k = 1 by omega) with rfl | rfl
  all_goals
    go_enter Try.func50, Try.ntmps50
    go_wp2_with fail
    refine HX.out.mono ?_
    rintro e w' ⟨rfl, hw⟩
    replace hw := hw.symm
    subst hw
    go_wp2
    go_ret
    exact ⟨rfl, rfl⟩

def RowV (lo n k : Nat) (W : World) (v : Value) : Prop := ∃ (A : Option Addr) (c : Nat), v = .slice A n c ∧ W.ownsRow lo 3 1 (.slice A n c) n (vals (pomF n 4 k))
def TwoRows (lo n : Nat) (w : World) (e : Ending) (w' : World) : Prop :=
  ∃ (v0 v1 : Value), e = .returned (.agg #[v0, v1]) ∧ RowV lo n 0 w' v0 ∧ RowV lo n 1 w' v1 ∧ Below lo w w'
theorem RowV.kept {lo n k : Nat} {W W' : World} {v : Value} {row : Option Nat} (h : RowV lo n k W v) (hg : W.grownBy W' row) (hr : ∀ b, row = some b → b < lo ∨ W.heap.size ≤ b) : RowV lo n k W' v := by
  obtain ⟨A, c, rfl, ho⟩ := h
  refine ⟨A, c, rfl, own_gr ho hg fun b e hb => ?_⟩
  have := own_lo ho b e
  have := hr b hb
  omega
theorem RowV.below {lo n k : Nat} {W W' : World} {v : Value} (h : RowV lo n k W v) (hb : Below W.heap.size W W') : RowV lo n k W' v := by
  obtain ⟨A, c, rfl, ho⟩ := h
  exact ⟨A, c, rfl, own_below ho hb⟩
theorem RowV.mono {lo lo' n k : Nat} {W : World} {v : Value} (h : RowV lo n k W v) (hl : lo' ≤ lo) : RowV lo' n k W v := by
  obtain ⟨A, c, rfl, ho⟩ := h
  exact ⟨A, c, rfl, own_mono ho hl⟩
/-- what is held between the rounds -/
structure Fill (w : World) (n j : Nat) (v0 v1 : Value) (W : World) : Prop where
  cells : W.heap[w.heap.size + 1]? = some (.cells #[v0, v1] 59 (0, 0))
  res : W.heap[w.heap.size]? = some (.cells #[.slice none 0 0, .slice none 0 0] 59 (0, 0))
  one : 0 < j → RowV (w.heap.size + 2) n 0 W v0
  two : 1 < j → RowV (w.heap.size + 2) n 1 W v1
  size : w.heap.size + 2 ≤ W.heap.size
theorem two_cells {W : World} {b : Nat} {v0 v1 : Value} {t : TypeId} (h : W.heap[b]? = some (.cells #[v0, v1] t (0, 0))) : W.cell? ⟨b, 0, none⟩ = some v0 ∧ W.cell? ⟨b, 1, none⟩ = some v1 ∧ W.frozen? ⟨b, 0, none⟩ = false ∧ W.frozen? ⟨b, 1, none⟩ = false := by
  refine ⟨?_, ?_, frozen_of_row W b 0 _ t h, frozen_of_row W b 1 _ t h⟩
  · unfold World.cell?; rw [h]; rfl
  · unfold World.cell?; rw [h]; rfl
theorem fill_start (w : World) (n : Nat) : Fill w n 0 (.slice none 0 0) (.slice none 0 0) ((w.alloc (.cells #[.slice none 0 0, .slice none 0 0] 59)).alloc (.cells #[.slice none 0 0, .slice none 0 0] 59)) := by
  have hs : (w.alloc (.cells #[.slice none 0 0, .slice none 0 0] 59)).heap.size = w.heap.size + 1 := by simp
  refine ⟨?_, ?_, fun h => absurd h (by omega), fun h => absurd h (by omega), by simp⟩
  · have h := heap_alloc_new (w.alloc (.cells #[.slice none 0 0, .slice none 0 0] 59)) (.cells #[.slice none 0 0, .slice none 0 0] 59)
    rw [hs] at h
    exact h
  · have h := ((Below.refl (w.heap.size + 1) (w.alloc (.cells #[.slice none 0 0, .slice none 0 0] 59))).alloc (by simp) (.cells #[.slice none 0 0, .slice none 0 0] 59)).block w.heap.size (by omega)
    exact h.trans (heap_alloc_new w _)
theorem Fill.put0 {w W : World} {n : Nat} {v0 v1 : Value} (h : Fill w n 0 v0 v1 W) {v : Value} (hv : RowV (w.heap.size + 2) n 0 W v) : Fill w n 1 v v1 (W.setCell ⟨w.heap.size + 1, 0, none⟩ v) := by
  have hg := set_grown W ⟨w.heap.size + 1, 0, none⟩ v
  refine ⟨heap_setCell_same W _ 0 _ _ v h.cells, (heap_setCell_other W ⟨w.heap.size + 1, 0, none⟩ w.heap.size v (by simp)).trans h.res, fun _ => hv.kept hg (fun b hb => by simp at hb; omega), fun hh => absurd hh (by omega), by simpa using h.size⟩
theorem Fill.put1 {w W : World} {n : Nat} {v0 v1 : Value} (h : Fill w n 1 v0 v1 W) {v : Value} (hv : RowV (w.heap.size + 2) n 1 W v) : Fill w n 2 v0 v (W.setCell ⟨w.heap.size + 1, 1, none⟩ v) := by
  have hg := set_grown W ⟨w.heap.size + 1, 1, none⟩ v
  refine ⟨heap_setCell_same W _ 1 _ _ v h.cells, (heap_setCell_other W ⟨w.heap.size + 1, 1, none⟩ w.heap.size v (by simp)).trans h.res, fun _ => (h.one (by omega)).kept hg (fun b hb => by simp at hb; omega), fun _ => hv.kept hg (fun b hb => by simp at hb; omega), by simpa using h.size⟩
theorem Fill.below {w W W' : World} {n j : Nat} {v0 v1 : Value} (h : Fill w n j v0 v1 W) (hb : Below W.heap.size W W') : Fill w n j v0 v1 W' :=
  ⟨(hb.block _ (by have := h.size; omega)).trans h.cells, (hb.block _ (by have := h.size; omega)).trans h.res, fun hj => (h.one hj).below hb, fun hj => (h.two hj).below hb, Nat.le_trans h.size hb.size⟩

set_option maxHeartbeats 1000000 in
theorem impl_fps (n : Nat) (w : World) (h1 : 2 ≤ n) (h2 : n ≤ 12) (h3 : n % 2 = 0) :
    Calls Try.prog 48 #[.int .i64 n] w (TwoRows w.heap.size n w) := by
  have HF := Lib.hid (fun k hk => fp_at (k := k) h1 h2 h3 hk)
  have HS0 := Lib.hid (fill_start w n)
  have HB0 := Lib.hid (((Below.refl w.heap.size w).alloc (Nat.le_refl _) (.cells #[.slice none 0 0, .slice none 0 0] 59)).alloc (by simp) (.cells #[.slice none 0 0, .slice none 0 0] 59))
  have hn1 : (-9223372036854775808 : Int) ≤ (n : Int) := by omega
  have hn2 : (n : Int) ≤ 9223372036854775807 := by omega
  clear h1 h2 h3
  go_enter Try.func48, Try.ntmps48
  go_wp2
  go_loopw [5] (fun i wr => ∃ j : Nat, j ≤ 2 ∧ i = .int .i64 (j : Int) ∧ ∃ v0 v1, Hid (Fill w n j v0 v1 wr) ∧ Hid (Below w.heap.size w wr)) (fun i _ => 2 - (intOf i).toNat)
  case atStart => exact ⟨0, by omega, rfl, _, _, HS0, HB0⟩
  case round =>
    obtain ⟨j, hj, rfl, v0, v1, HS, HB⟩ := hrel
    clear HS0 HB0
    have HFJ := HF
    by_cases hj2 : j < 2
    · obtain ⟨e1, e2, e3⟩ := HF.out j (by omega)
      have H1 := Lib.hid e1
      have H2 := Lib.hid e2
      have H3 := Lib.hid e3
      clear e1 e2 e3 HF HFJ
      rcases (show j = 0 ∨ j = 1 by omega) with rfl | rfl
      · go_wp2_with fail
        refine (impl_fp n ((0 : Nat) : Int) _ hn1 hn2).mono ?_
        rintro e w2 ⟨A2, c2, rfl, ho, hb⟩
        rw [H2.out, H3.out] at ho
        rw [H2.out, H3.out, H1.out]
        have HV := Lib.hid (show RowV (w.heap.size + 2) n 0 w2 (.slice A2 n c2) from ⟨A2, c2, rfl, own_mono ho HS.out.size⟩)
        have HS2 := Lib.hid (HS.out.below hb)
        have HB2 := Lib.hid (HB.out.trans (hb.mono HB.out.size))
        obtain ⟨q0, q1, q2, q3⟩ := two_cells HS2.out.cells
        have HS3 := Lib.hid (HS2.out.put0 HV.out)
        have HB3 := Lib.hid (HB2.out.setCell (p := ⟨w.heap.size + 1, 0, none⟩) (by show w.heap.size ≤ w.heap.size + 1; omega) (.slice A2 n c2))
        clear ho hb HS2 HB2 HV
        go_wp2
        go_roundw
        case rel => exact ⟨1, by omega, by go_num, _, _, HS3, HB3⟩
        case measure => simp [intOf]
      · go_wp2_with fail
        refine (impl_fp n ((1 : Nat) : Int) _ hn1 hn2).mono ?_
        rintro e w2 ⟨A2, c2, rfl, ho, hb⟩
        rw [H2.out, H3.out] at ho
        rw [H2.out, H3.out, H1.out]
        have HV := Lib.hid (show RowV (w.heap.size + 2) n 1 w2 (.slice A2 n c2) from ⟨A2, c2, rfl, own_mono ho HS.out.size⟩)
        have HS2 := Lib.hid (HS.out.below hb)
        have HB2 := Lib.hid (HB.out.trans (hb.mono HB.out.size))
        obtain ⟨q0, q1, q2, q3⟩ := two_cells HS2.out.cells
        have HS3 := Lib.hid (HS2.out.put1 HV.out)
        have HB3 := Lib.hid (HB2.out.setCell (p := ⟨w.heap.size + 1, 1, none⟩) (by show w.heap.size ≤ w.heap.size + 1; omega) (.slice A2 n c2))
        clear ho hb HS2 HB2 HV
        go_wp2
        go_roundw
        case rel => exact ⟨2, by omega, by go_num, _, _, HS3, HB3⟩
        case measure => simp [intOf]
    · have hj2' : j = 2 := by omega
      subst hj2'
      obtain ⟨A0, c0, rfl, _⟩ := HS.out.one (by omega)
      obtain ⟨A1, c1, rfl, _⟩ := HS.out.two (by omega)
      obtain ⟨q0, q1, q2, q3⟩ := two_cells HS.out.cells
      obtain ⟨r0, r1, r2, r3⟩ := two_cells HS.out.res
      have hg1 := set_grown wr ⟨w.heap.size, 0, none⟩ (.slice A0 n c0)
      have s1 := heap_setCell_same wr w.heap.size 0 _ _ (.slice A0 n c0) HS.out.res
      have s2 := heap_setCell_same _ w.heap.size 1 _ _ (.slice A1 n c1) s1
      obtain ⟨r4, r5, r6, r7⟩ := two_cells s1
      have hg2 := set_grown (wr.setCell ⟨w.heap.size, 0, none⟩ (.slice A0 n c0)) ⟨w.heap.size, 1, none⟩ (.slice A1 n c1)
      have HV0 := Lib.hid (((HS.out.one (by omega)).kept hg1 (fun b hb => by simp at hb; omega)).kept hg2 (fun b hb => by simp at hb; omega))
      have HV1 := Lib.hid (((HS.out.two (by omega)).kept hg1 (fun b hb => by simp at hb; omega)).kept hg2 (fun b hb => by simp at hb; omega))
      have HB2 := Lib.hid ((HB.out.setCell (p := ⟨w.heap.size, 0, none⟩) (Nat.le_refl _) (.slice A0 n c0)).setCell (p := ⟨w.heap.size, 1, none⟩) (Nat.le_refl _) (.slice A1 n c1))
      have HLD := Lib.hid (show (loadVar 59 ⟨w.heap.size, 0, none⟩).run Try.prog ((wr.setCell ⟨w.heap.size, 0, none⟩ (.slice A0 n c0)).setCell ⟨w.heap.size, 1, none⟩ (.slice A1 n c1)) = .ok (.agg #[.slice A0 n c0, .slice A1 n c1]) _ from
        run_loadVar_mid (P := Try.prog) _ w.heap.size 0 59 [.slice A0 n c0, .slice A1 n c1] _ (Fr2.range2 s2) Try.underlying59 rfl (by kernel_rfl))
      clear s1 s2 hg1 hg2
      go_wp2
      refine bodyPost_ret (results_cell rfl _ rfl HLD.out) rfl ?_
      exact ⟨_, _, rfl, HV0.out.mono (by omega), HV1.out.mono (by omega), HB2.out⟩
end Go.Proofs.Ytpbpgpccjabghaa.Fps
