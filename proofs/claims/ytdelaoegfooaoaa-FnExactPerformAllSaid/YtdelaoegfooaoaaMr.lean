/- Rows of moves: as an argument, the laws' copy of one, comparison, marks. -/
import Derived.Test.YtdelaoegfooaoaaFr2
import Derived.Test.YtdelaoegfooaoaaPal
import Derived.Deep.SlicePairs
import Derived.Deep.RegionHeld3
set_option linter.unusedVariables false
namespace Go.Proofs.Ytdelaoegfooaoaa.Mr
open Go.Deep Go.RowKit Go.ChangeShapes Go.WideShapes Fr Own Ins Pal

def WfPairs (ms : List (Int × Int)) : Prop := ∀ j, j < ms.length → (Lit.int .i64 (ms.getD j (0, 0)).1).wf = true ∧ (Lit.int .i64 (ms.getD j (0, 0)).2).wf = true
section
variable {H : Type} {enc : TypeId × Value → H} {P : Program}
/-- an argument of type []struct{int; int} -/
theorem view_pairs {W : World} {base : Nat} {t e : TypeId} {f0 f1 : Field} {v : Value} {d : DataW H} {ps : List MemPlace} (hs : P.underlying t = some (.slice e)) (he : P.underlying e = some (.struct #[f0, f1]))
    (ce : P.cellsOf e = 2) (o0 : f0.offset = 0) (o1 : f1.offset = 1) (c0 : P.cellsOf f0.type = 1) (c1 : P.cellsOf f1.type = 1) (h0 : P.underlying f0.type = some (.int .i64)) (h1 : P.underlying f1.type = some (.int .i64))
    (hv : Value.okWide P W .any base t v) (h : DataW.Trod enc P W 0 (fun _ => true) true t v d ps) (hlt : ∀ x ∈ ps, x.block < W.heap.size) :
    ∃ (A : Option Addr) (n c : Nat) (ms : List (Int × Int)), v = .slice A n c ∧ ms.length = n ∧ n ≤ maxLen ∧ WfPairs ms ∧ PairsAt W W.heap.size A ms := by
  obtain ⟨fuel, hf⟩ := h
  obtain ⟨a0, l0, c0', rfl, _⟩ := okWide_slice hs hv
  rcases open_slice_pairs hs he ce o0 o1 c0 c1 hf with ⟨hcs, _⟩ | ⟨a, len, cap, m, n, V0, V1, D0, D1, P0, P1, hcs, _, hlc, hm, hmm, hx, hi⟩
  · simp only [Value.cells, List.cons.injEq, and_true] at hcs
    rw [hcs]
    exact ⟨none, 0, 0, [], rfl, rfl, Nat.zero_le _, fun j hj => absurd hj (Nat.not_lt_zero _), fun k hk => absurd hk (Nat.not_lt_zero _)⟩
  · simp only [Value.cells, List.cons.injEq, and_true] at hcs
    have hml : len ≤ m := by rw [hmm]; split <;> omega
    have each : ∀ i, i < m → ∃ x y : Int, (Lit.int .i64 x).wf = true ∧ (Lit.int .i64 y).wf = true ∧ W.cell? (a.add (i * 2)) = some (.int .i64 x) ∧ W.cell? (a.add (i * 2 + 1)) = some (.int .i64 y) := by
      intro i him
      obtain ⟨k0, k1, t0, t1⟩ := hi i him
      obtain ⟨x, hx, _, hwx⟩ := DataW.trod_int h0 t0
      obtain ⟨y, hy, _, hwy⟩ := DataW.trod_int h1 t1
      simp only [List.cons.injEq, and_true] at hx hy
      exact ⟨x, y, hwx, hwy, by rw [← hx]; exact k0, by rw [← hy]; exact k1⟩
    obtain ⟨b, o, sp⟩ := a
    have hspot : 0 < m → sp = none := fun h0 => by simpa [Addr.add] using World.cell?_spot (each 0 h0).choose_spec.choose_spec.2.2.1
    have hblk : 0 < m → b < W.heap.size := by
      intro h0'
      have e := hspot h0'
      subst e
      simp only [Prod.mk.injEq] at hx
      exact hlt (.cell b o) (by rw [hx.2]; exact List.mem_append_left _ (MemPlace.mem_row.2 ⟨0, by omega, by simp⟩))
    refine ⟨some ⟨b, o, sp⟩, len, cap, (List.range len).map fun i => if hi' : i < m then ((each i hi').choose, (each i hi').choose_spec.choose) else (0, 0), hcs, by simp, by omega, ?_, ?_⟩
    · intro j hj
      simp only [List.length_map, List.length_range] at hj
      have hjm : j < m := by omega
      simp only [List.getD_eq_getElem?_getD, List.getElem?_map, List.getElem?_range hj, Option.map_some, Option.getD_some, dif_pos hjm]
      exact ⟨(each j hjm).choose_spec.choose_spec.1, (each j hjm).choose_spec.choose_spec.2.1⟩
    · intro k hk
      simp only [List.length_map, List.length_range] at hk
      have hkm : k < m := by omega
      have hb := hblk (by omega)
      have hsp := hspot (by omega)
      subst hsp
      have e := (each k hkm).choose_spec.choose_spec.2.2
      simp only [List.getD_eq_getElem?_getD, List.getElem?_map, List.getElem?_range hk, Option.map_some, Option.getD_some, dif_pos hkm]
      exact ⟨b, o, rfl, hb, (congrArg W.cell? (by rw [add_plain])).trans e.1, (congrArg W.cell? (by rw [add_plain, Nat.add_assoc])).trans e.2⟩
end

theorem infoMove : (Try.prog.info? 26).map (fun i => (i.zero, i.size, i.bytes)) = some (some (.agg #[.int .i64 0, .int .i64 0]), 2, 16) := by kernel_rfl

/-- the cells hold the first k moves -/
def Lies (xs : List Value) (ms : List (Int × Int)) (k : Nat) : Prop := ∀ j, j < k → xs[j * 2]? = some (.int .i64 (ms.getD j (0, 0)).1) ∧ xs[j * 2 + 1]? = some (.int .i64 (ms.getD j (0, 0)).2)
theorem Lies.next {xs : List Value} {ms : List (Int × Int)} {k : Nat} (h : Lies xs ms k) (hk : k * 2 + 1 < xs.length) : Lies ((xs.set (k * 2) (.int .i64 (ms.getD k (0, 0)).1)).set (k * 2 + 1) (.int .i64 (ms.getD k (0, 0)).2)) ms (k + 1) := by
  intro j hj
  rw [List.getElem?_set_ne (by omega)]
  by_cases hjk : j = k
  · subst hjk
    rw [List.getElem?_set_self (by omega), List.getElem?_set_self (by rw [List.length_set]; omega)]
    exact ⟨rfl, rfl⟩
  · rw [List.getElem?_set_ne (by omega), List.getElem?_set_ne (by omega), List.getElem?_set_ne (by omega)]
    exact h j (by omega)
/-- a row of moves of the call's own -/
def MRow (W : World) (lo hi : Nat) (A : Option Addr) (n c : Nat) (ms : List (Int × Int)) : Prop :=
  (∃ xs, W.ownsRow lo 26 2 (.slice A n c) n xs ∧ Lies xs ms n) ∧ ms.length = n ∧ (∀ a, A = some a → a.block < hi) ∧ hi ≤ W.heap.size
theorem MRow.len {W : World} {lo hi : Nat} {A : Option Addr} {n c : Nat} {ms : List (Int × Int)} (h : MRow W lo hi A n c ms) : ms.length = n := h.2.1
theorem MRow.below {W W' : World} {lo hi : Nat} {A : Option Addr} {n c : Nat} {ms : List (Int × Int)} (h : MRow W lo hi A n c ms) (hb : Below W.heap.size W W') : MRow W' lo hi A n c ms := by
  obtain ⟨⟨xs, h1, h2⟩, h3, h4, h5⟩ := h
  exact ⟨⟨xs, own_below h1 hb, h2⟩, h3, h4, Nat.le_trans h5 hb.size⟩
theorem MRow.lo {W : World} {lo hi : Nat} {A : Option Addr} {n c : Nat} {ms : List (Int × Int)} (h : MRow W lo hi A n c ms) : ∀ k, A.map (·.block) = some k → lo ≤ k := by
  obtain ⟨⟨xs, h1, h2⟩, h3, h4, h5⟩ := h
  intro k hk
  cases A with
  | none => cases hk
  | some a =>
    simp only [Option.map_some, Option.some.injEq] at hk
    subst hk
    exact (h1.lt a.block rfl).1
theorem MRow.hi {W : World} {lo hi : Nat} {A : Option Addr} {n c : Nat} {ms : List (Int × Int)} (h : MRow W lo hi A n c ms) : ∀ k, A.map (·.block) = some k → k < hi := by
  intro k hk
  cases A with
  | none => cases hk
  | some a =>
    simp only [Option.map_some, Option.some.injEq] at hk
    subst hk
    exact h.2.2.1 a rfl
theorem MRow.grown {W W' : World} {lo hi : Nat} {A : Option Addr} {n c : Nat} {ms : List (Int × Int)} {row : Option Nat} (h : MRow W lo hi A n c ms) (hg : W.grownBy W' row) (hr : ∀ k, row = some k → k < lo ∨ hi ≤ k) : MRow W' lo hi A n c ms := by
  have hlo := h.lo
  have hhi := h.hi
  obtain ⟨⟨xs, h1, h2⟩, h3, h4, h5⟩ := h
  refine ⟨⟨xs, h1.kept hg ?_, h2⟩, h3, h4, Nat.le_trans h5 hg.size⟩
  cases A with
  | none => exact Or.inl rfl
  | some a =>
    refine Or.inr fun e => ?_
    have k1 := hlo a.block rfl
    have k2 := hhi a.block rfl
    have := hr a.block e.symm
    omega
theorem own2_shape {w : World} {B : Nat} {e : TypeId} {A : Option Addr} {n c : Nat} {xs : List Value} (h : w.ownsRow B e 2 (.slice A n c) n xs) (hn : 0 < n) : ∃ g, A = some ⟨g, 0, none⟩ := by
  rcases h.2 with ⟨_, h0⟩ | ⟨g, cap, cur, hv, _⟩
  · omega
  · simp only [Value.slice.injEq] at hv
    exact ⟨g, hv.1⟩
theorem MRow.at_ {W : World} {lo hi : Nat} {A : Option Addr} {n c : Nat} {ms : List (Int × Int)} (h : MRow W lo hi A n c ms) : PairsAt W W.heap.size A ms := by
  obtain ⟨⟨xs, h1, h2⟩, h3, h4, h5⟩ := h
  intro j hj
  obtain ⟨g, rfl⟩ := own2_shape h1 (by omega)
  obtain ⟨e0, e1⟩ := h2 j (by omega)
  have hlen := h1.1
  refine ⟨g, 0, rfl, by have := h4 _ rfl; simp only at this; omega, ?_, ?_⟩
  · rw [Nat.zero_add, h1.cellAt _ (by omega)]; exact e0
  · rw [Nat.zero_add, h1.cellAt _ (by omega)]; exact e1
theorem MRow.mk {W : World} {lo : Nat} {A : Option Addr} {n c : Nat} {ms : List (Int × Int)} {xs : List Value} (h1 : W.ownsRow lo 26 2 (.slice A n c) n xs) (h2 : Lies xs ms n) (h3 : ms.length = n) : MRow W lo W.heap.size A n c ms :=
  ⟨⟨xs, h1, h2⟩, h3, fun a e => (h1.lt a.block (by subst e; rfl)).2, Nat.le_refl _⟩
theorem getD_pair (ms : List (Int × Int)) (k : Nat) : ms.getD k (0, 0) = ((ms.getD k (0, 0)).1, (ms.getD k (0, 0)).2) := rfl

def IsMCopy (B : Nat) (n : Nat) (ms : List (Int × Int)) (w : World) (e : Ending) (w' : World) : Prop :=
  ∃ g, e = .returned (.slice (some ⟨g, 0, none⟩) n n) ∧ MRow w' B w'.heap.size (some ⟨g, 0, none⟩) n n ms ∧ Below B w w'
set_option maxHeartbeats 1000000 in
theorem to_moves (A : Option Addr) (n c : Nat) (ms : List (Int × Int)) (w : World) (hn : ms.length = n) (hn2 : n ≤ 1048576) (hss : PairsAt w w.heap.size A ms) :
    Calls Try.prog 39 #[.slice A n c] w (IsMCopy w.heap.size n ms w) := by
  have HN := Lib.hid hn
  clear hn
  obtain ⟨i0, hi, hz0, hz1, hz2⟩ := info_parts infoMove
  go_enter Try.func39, Try.ntmps39
  go_wp2_with (refine wpList_make_full _ rfl (.tmp 6) (.tmp 6) 39 rfl w.heap.size 26 i0 (.agg #[.int .i64 0, .int .i64 0]) 2 Try.underlying39 hi hz0 hz1 .i64 .i64 n n n rfl rfl rfl rfl (by rw [hz2]; omega) (by unfold maxLen; omega) (Nat.le_refl _) ?_)
  intro w1 hown hgrow
  have hb0 : Below w.heap.size w w1 := (Below.refl _ w).grown hgrow (Nat.le_refl _) (fun k hk => by cases hk)
  obtain ⟨xs0, hx0⟩ : ∃ xs, xs = (madeCells #[Value.int .i64 0, .int .i64 0] (n * 2)).toList := ⟨_, rfl⟩
  rw [← hx0] at hown
  have HOWN := Lib.hid hown
  clear hown hgrow hx0
  go_wp2
  go_loopw [4] (fun i wr => ∃ k : Nat, k ≤ n ∧ i = .int .i64 k ∧ ∃ xs, Hid (wr.ownsRow w.heap.size 26 2 (.slice (some ⟨w.heap.size, 0, none⟩) n n) n xs) ∧ Hid (Lies xs ms k) ∧ Below w.heap.size w wr) (fun i _ => n - (intOf i).toNat)
  case atStart => exact ⟨0, Nat.zero_le _, rfl, xs0, HOWN, Lib.hid (fun j hj => absurd hj (Nat.not_lt_zero _)), hb0⟩
  case round =>
    obtain ⟨k, hk, rfl, xs, HO, HL, hbk⟩ := hrel
    clear HOWN hb0
    by_cases hlt : k < n
    · obtain ⟨b, o, rfl, hbb, hc0, hc1⟩ := (hss.below hbk) k (by rw [HN.out]; exact hlt)
      have hxl : xs.length = n * 2 := HO.out.1
      have HNX := Lib.hid (HL.out.next (k := k) (by omega))
      generalize (ms.getD k (0, 0)).1 = x at *
      generalize (ms.getD k (0, 0)).2 = y at *
      clear HL hss
      go_wp2_with fail
      refine (Fr2.to_move x y _).mono ?_
      rintro e w5 ⟨rfl, hb5⟩
      have hown5 := own_below HO.out hb5
      have HB5 := Lib.hid (hbk.trans (hb5.mono hbk.size))
      have hg0 : w5.cell? ⟨w.heap.size, k * 2, none⟩ = some (xs[k * 2]'(by omega)) := by rw [hown5.cellAt _ (by omega)]; exact List.getElem?_eq_getElem (by omega)
      have hg1 : w5.cell? ⟨w.heap.size, k * 2 + 1, none⟩ = some (xs[k * 2 + 1]'(by omega)) := by rw [hown5.cellAt _ (by omega)]; exact List.getElem?_eq_getElem (by omega)
      have hf0 := hown5.frozenAt (k * 2)
      have hf1 := hown5.frozenAt (k * 2 + 1)
      generalize xs[k * 2]'(by omega) = old0 at hg0
      generalize xs[k * 2 + 1]'(by omega) = old1 at hg1
      have st := (hown5.stored (k * 2) (.int .i64 x)).1.stored (k * 2 + 1) (.int .i64 y)
      have HST := Lib.hid st.1
      have HB6 := Lib.hid (((HB5.out).setCell (p := ⟨w.heap.size, k * 2, none⟩) (Nat.le_refl _) (.int .i64 x)).setCell (p := ⟨w.heap.size, k * 2 + 1, none⟩) (Nat.le_refl _) (.int .i64 y))
      clear st hown5 hb5 HO hbk HB5 hxl hc0 hc1
      go_wp2
      go_roundw
      case rel => exact ⟨k + 1, by omega, by go_num, _, HST, HNX, HB6.out⟩
      case measure => simp [intOf]; omega
    · have hkn : k = n := by omega
      subst hkn
      clear hss hlt
      go_wp2
      go_ret
      exact ⟨w.heap.size, rfl, MRow.mk HO.out HL.out HN.out, hbk⟩

theorem eq_move (x y : Int) (w : World) : Calls Try.prog 57 #[.agg #[.int .i64 x, .int .i64 y], .agg #[.int .i64 x, .int .i64 y]] w fun e w' => e = .returned (.bool true) ∧ Below w.heap.size w w' := by
  have hb := ((Below.refl w.heap.size w).alloc (Nat.le_refl _) (.cells #[.int .i64 x, .int .i64 y] 26)).alloc (by simp) (.cells #[.int .i64 x, .int .i64 y] 26)
  go_enter Try.func57, Try.ntmps57
  have h0 := heap_alloc_new w (.cells #[.int .i64 x, .int .i64 y] 26)
  have h1 := heap_alloc_new (w.alloc (.cells #[.int .i64 x, .int .i64 y] 26)) (.cells #[.int .i64 x, .int .i64 y] 26)
  have hs : (w.alloc (.cells #[.int .i64 x, .int .i64 y] 26)).heap.size = w.heap.size + 1 := by simp
  rw [hs] at h1
  have hkp := (Below.refl (w.heap.size + 1) (w.alloc (.cells #[.int .i64 x, .int .i64 y] 26))).alloc (by simp) (.cells #[.int .i64 x, .int .i64 y] 26)
  have h0' := (hkp.block w.heap.size (by omega)).trans h0
  have a0 := Fr2.range2 h0' 0 _ rfl
  have a1 := Fr2.range2 h0' 1 _ rfl
  have b0 := Fr2.range2 h1 0 _ rfl
  have b1 := Fr2.range2 h1 1 _ rfl
  have HB := Lib.hid hb
  clear hb h0 h1 h0' hkp
  go_wp2
  go_ret
  exact ⟨rfl, HB.out⟩
set_option maxHeartbeats 1000000 in
theorem eq_moves (A1 A2 : Option Addr) (n c1 c2 : Nat) (ms : List (Int × Int)) (w : World) (hn : ms.length = n) (hn2 : n ≤ 4194304) (h1 : PairsAt w w.heap.size A1 ms) (h2 : PairsAt w w.heap.size A2 ms) :
    Calls Try.prog 40 #[.slice A1 n c1, .slice A2 n c2] w fun e w' => e = .returned (.bool true) ∧ Below w.heap.size w w' := by
  have HN := Lib.hid hn
  clear hn
  go_enter Try.func40, Try.ntmps40
  go_wp2
  go_loopw [5] (fun i wr => ∃ k : Nat, k ≤ n ∧ i = .int .i64 k ∧ Below w.heap.size w wr) (fun i _ => n - (intOf i).toNat)
  case atStart => exact ⟨0, Nat.zero_le _, rfl, Below.refl _ _⟩
  case round =>
    obtain ⟨k, hk, rfl, hb⟩ := hrel
    by_cases hlt : k < n
    · obtain ⟨b1, o1, rfl, hbb1, hc1, hd1⟩ := (h1.below hb) k (by rw [HN.out]; exact hlt)
      obtain ⟨b2, o2, rfl, hbb2, hc2, hd2⟩ := (h2.below hb) k (by rw [HN.out]; exact hlt)
      generalize (ms.getD k (0, 0)).1 = x at *
      generalize (ms.getD k (0, 0)).2 = y at *
      have hk0 : (0 : Int) ≤ (k : Int) := by omega
      have hk1 : (k : Int) < (n : Int) := by omega
      have hw1 : b1 < wr.heap.size := Nat.lt_of_lt_of_le hbb1 hb.size
      have hw2 : b2 < wr.heap.size := Nat.lt_of_lt_of_le hbb2 hb.size
      clear h1 h2
      go_wp2_with fail
      go_region_held3 (fun w' => w'.cell? ⟨b1, o1 + k * 2, none⟩ = some (.int .i64 x) ∧ w'.cell? ⟨b1, o1 + k * 2 + 1, none⟩ = some (.int .i64 y) ∧ w'.cell? ⟨b2, o2 + k * 2, none⟩ = some (.int .i64 x) ∧ w'.cell? ⟨b2, o2 + k * 2 + 1, none⟩ = some (.int .i64 y)) ((first | exact ⟨hc1, hd1, hc2, hd2⟩ | exact ⟨(hb5.cell (p := ⟨b1, o1 + k * 2, none⟩) hw1).trans hc1, (hb5.cell (p := ⟨b1, o1 + k * 2 + 1, none⟩) hw1).trans hd1, (hb5.cell (p := ⟨b2, o2 + k * 2, none⟩) hw2).trans hc2, (hb5.cell (p := ⟨b2, o2 + k * 2 + 1, none⟩) hw2).trans hd2⟩)) ((first | (go_at_call 57; refine (eq_move x y _).mono ?_; rintro e w5 ⟨rfl, hb5⟩)))
      have HB5 := Lib.hid (hb.drew.trans (hb5.mono hb.drew.size))
      clear hb hb5
      go_wp2
      go_roundw
      case rel => exact ⟨k + 1, by omega, by go_num, HB5.out⟩
      case measure => simp [intOf]; omega
    · go_wp2
      go_ret
      exact ⟨rfl, hb⟩

set_option maxHeartbeats 1000000 in
theorem mark_moves (B : Nat) (k : Int) (n : Nat) (A : Option Addr) (c : Nat) (xs : List Value) (w : World) (hk0 : 0 ≤ k) (hkn : k + 2 * n ≤ 1073741824) (hown : w.ownsRow B 26 2 (.slice A n c) n xs) :
    Calls Try.prog 41 #[.slice A n c, .int .i64 k] w fun e w' => e = .returned (.int .i64 (k + 2 * (n : Int))) ∧ w.grownBy w' (A.map (·.block)) := by
  have HO0 := Lib.hid hown
  clear hown
  go_enter Try.func41, Try.ntmps41
  go_wp2
  go_loopw [1, 5] (fun q i wr => ∃ j : Nat, j ≤ n ∧ i = .int .i64 j ∧ q = .int .i64 (k + 2 * (j : Int)) ∧ (∃ ys, Hid (wr.ownsRow B 26 2 (.slice A n c) n ys)) ∧ w.grownBy wr (A.map (·.block))) (fun _ i _ => n - (intOf i).toNat)
  case atStart => exact ⟨0, Nat.zero_le _, rfl, by simp, ⟨xs, HO0⟩, World.grownBy.refl w _⟩
  case round =>
    obtain ⟨j, hj, rfl, rfl, ⟨ys, HO⟩, hbj⟩ := hrel
    clear HO0
    by_cases hlt : j < n
    · obtain ⟨g, rfl⟩ := own2_shape HO.out (by omega)
      have hyl : ys.length = n * 2 := HO.out.1
      have hg0 : wr.cell? ⟨g, j * 2, none⟩ = some (ys[j * 2]'(by omega)) := by rw [HO.out.cellAt _ (by omega)]; exact List.getElem?_eq_getElem (by omega)
      have st0 := HO.out.stored (j * 2) (.int .i64 (k + 2 * (j : Int)))
      have hg1 : (wr.setCell ⟨g, j * 2, none⟩ (.int .i64 (k + 2 * (j : Int)))).cell? ⟨g, j * 2 + 1, none⟩ = some (((ys.set (j * 2) (.int .i64 (k + 2 * (j : Int)))))[j * 2 + 1]'(by rw [List.length_set]; omega)) := by
        rw [st0.1.cellAt _ (by omega)]; exact List.getElem?_eq_getElem (by rw [List.length_set]; omega)
      have hf0 := HO.out.frozenAt (j * 2)
      have hf1 := st0.1.frozenAt (j * 2 + 1)
      have st1 := st0.1.stored (j * 2 + 1) (.int .i64 (k + 2 * (j : Int) + 1))
      have HST := Lib.hid st1.1
      have HB2 : Hid (w.grownBy _ ((some (⟨g, 0, none⟩ : Addr)).map (·.block))) := Lib.hid (grown_trans (grown_trans hbj st0.2) st1.2)
      generalize ys[j * 2]'(by omega) = old0 at hg0
      generalize (ys.set (j * 2) (.int .i64 (k + 2 * (j : Int))))[j * 2 + 1]'(by rw [List.length_set]; omega) = old1 at hg1
      clear st0 st1 HO hbj hyl
      go_wp2
      go_roundw
      case rel => exact ⟨j + 1, by omega, by go_num, by go_num, ⟨_, HST⟩, HB2.out⟩
      case measure => simp [intOf]; omega
    · have hjn : j = n := by omega
      have HJ := Lib.hid hjn
      have HBJ := Lib.hid hbj
      clear hjn hbj HO
      go_wp2
      go_ret
      exact ⟨congrArg (fun z : Nat => Ending.returned (.int .i64 (k + 2 * (z : Int)))) HJ.out, HBJ.out⟩
theorem sz_moves (A : Option Addr) (n c : Nat) (k : Int) (w : World) (hn2 : n ≤ 9223372036854775807) (h0 : 0 ≤ k) (h1 : k ≤ 1073741824) :
    Calls Try.prog 37 #[.slice A n c, .int .i64 k] w fun e w' => e = .returned (.int .i64 (if (n : Int) ≤ k then k - (n : Int) else -1)) ∧ w = w' := by
  by_cases h : (n : Int) ≤ k
  · rw [if_pos h]
    go_enter Try.func37, Try.ntmps37
    go_wp2
    go_ret
    exact ⟨rfl, rfl⟩
  · rw [if_neg h]
    have hneg : k - (n : Int) < 0 := by omega
    go_enter Try.func37, Try.ntmps37
    go_wp2
    go_ret
    exact ⟨rfl, rfl⟩
end Go.Proofs.Ytdelaoegfooaoaa.Mr
