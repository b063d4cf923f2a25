/- DealOrder of the program: the packet in a channel. -/
import Derived.Test.YtaacdhccebedmaaDuk
import Derived.Test.YtaacdhccebedmaaCho
import Derived.Test.YtaacdhccebedmaaRws
import Derived.RangeFuncBox
set_option linter.unusedVariables false
set_option maxRecDepth 20000
namespace Go.Proofs.Ytaacdhccebedmaa.Dch
open Go.RowKit Go.Conc Fr _root_.Go.Proofs.Ytaacdhccebedmaa.Own Pk Pok Arr Ins Nwp Prm Pfn Rws Lb Cat Mvp Mok2 Pf Pa Duk Cho

theorem load_i {W : World} {b : Nat} {v : Value} (h : Boxed W b 3 v) : (loadVar 3 ⟨b, 0, none⟩).run Try.prog W = .ok v W := by
  have hu := run_underlying Try.underlying3
  simp [go_sem, loadVar, isAgg, hu, h.cell]
theorem load_s {W : World} {b : Nat} {v : Value} (h : Boxed W b 23 v) : (loadVar 23 ⟨b, 0, none⟩).run Try.prog W = .ok v W := by
  have hu := run_underlying Try.underlying23
  simp [go_sem, loadVar, isAgg, hu, h.cell]
theorem load_c {W : World} {b : Nat} {v : Value} (h : Boxed W b 52 v) : (loadVar 52 ⟨b, 0, none⟩).run Try.prog W = .ok v W := by
  have hu := run_underlying Try.underlying52
  simp [go_sem, loadVar, isAgg, hu, h.cell]
/-- the packet in the channel, and the cards that are dealt -/
def St (w : World) (p0 ch p5 p7 m : Nat) (cl : Bool) (q o : List Int) (W : World) : Prop :=
  Below w.heap.size w W ∧ Boxed W p0 3 (.int .i64 m) ∧ Boxed W p5 52 (.chan (some ch)) ∧ (∃ s r, W.heap[ch]? = some (.chan m (vals q).toArray cl s r false)) ∧
    (∃ A c, Boxed W p7 23 (.slice A o.length c) ∧ W.ownsRow (p7 + 1) 3 1 (.slice A o.length c) o.length (vals o))

theorem St.of {w W : World} {p0 ch p5 p7 m n s r c : Nat} {cl : Bool} {q o : List Int} {A : Option Addr} (hn : o.length = n) (h1 : Below w.heap.size w W) (h2 : Boxed W p0 3 (.int .i64 m)) (h3 : Boxed W p5 52 (.chan (some ch))) (h4 : W.heap[ch]? = some (.chan m (vals q).toArray cl s r false))
    (h5 : Boxed W p7 23 (.slice A n c)) (h6 : W.ownsRow (p7 + 1) 3 1 (.slice A n c) n (vals o)) : St w p0 ch p5 p7 m cl q o W := by
  subst hn
  exact ⟨h1, h2, h3, ⟨s, r, h4⟩, A, c, h5, h6⟩
/-- whatever order the parts of 'order = append(order, <-packet)' come in -/
theorem from4 {ops : Array Oper} {Q : Exit → Act → World → Prop} {o0 o1 o2 o3 : Oper} {W W2 : World} {p0 ch p5 p7 m n s r c : Nat} {y : Int} {q : List Int} {A : Option Addr}
    (h0 : ops[0]? = some o0) (h1 : ops[1]? = some o1) (h2 : ops[2]? = some o2) (h3 : ops[3]? = some o3) (g0 : o0.guard = none) (g1 : o1.guard = none) (g2 : o2.guard = none) (g3 : o3.guard = none)
    (e0 : o0.op = .load 23 (.tmp 0)) (e1 : o1.op = .load 52 (.tmp 1)) (e2 : o2.op = .recv 52 (.tmp 4) false) (e3 : o3.op = .buildSlice 23 1 #[(0, .tmp 5)]) (d0 : o0.dst = some 3) (d1 : o1.dst = some 4) (d2 : o2.dst = some 5) (d3 : o3.dst = some 6) (t2 : o2.type = 3)
    (hx7 : Boxed W p7 23 (.slice A n c)) (hx5 : Boxed W p5 52 (.chan (some ch))) (y7 : Boxed W2 p7 23 (.slice A n c)) (hc1 : W.heap[ch]? = some (.chan m (vals (y :: q)).toArray false s r false))
    (hW2 : W2 = W.setChan ch m ((vals (y :: q)).toArray.extract 1 (vals (y :: q)).toArray.size) false s (r + 1) false)
    (H : Ops Try.prog ops Q [4, 5] ⟨#[.pointer (some ⟨p7, 0, none⟩), .pointer (some ⟨p5, 0, none⟩), .pointer (some ⟨p0, 0, none⟩), .slice A n c, .chan (some ch), .int .i64 y, .slice (some ⟨W2.heap.size, 0, none⟩) 1 1, undef, undef, undef, undef, undef, undef], []⟩ (W2.alloc (.cells #[.int .i64 y] 3)))
    (l : List Nat) (hl : l ∈ [[0, 1, 2, 3, 4, 5], [1, 0, 2, 3, 4, 5], [1, 2, 0, 3, 4, 5], [1, 2, 3, 0, 4, 5]]) :
    Ops Try.prog ops Q l ⟨#[.pointer (some ⟨p7, 0, none⟩), .pointer (some ⟨p5, 0, none⟩), .pointer (some ⟨p0, 0, none⟩), undef, undef, undef, undef, undef, undef, undef, undef, undef, undef], []⟩ W := by
  obtain ⟨dst0, op0, type0, pos0, after0, guard0⟩ := o0
  obtain ⟨dst1, op1, type1, pos1, after1, guard1⟩ := o1
  obtain ⟨dst2, op2, type2, pos2, after2, guard2⟩ := o2
  obtain ⟨dst3, op3, type3, pos3, after3, guard3⟩ := o3
  dsimp only at g0 g1 g2 g3 e0 e1 e2 e3 d0 d1 d2 d3 t2
  subst g0 g1 g2 g3 e0 e1 e2 e3 d0 d1 d2 d3 t2
  simp only [List.mem_cons, List.not_mem_nil, or_false] at hl
  have hr : ∀ a : Act, a.tmps[4]?.getD undef = .chan (some ch) → (execOp a.eval { dst := some 5, op := .recv 52 (.tmp 4) false, type := 3, pos := pos2, after := after2, guard := none }).run Try.prog W = .ok (.comm #[rcase ch (.int .i64 0)] true (.recv false)) W := by
    intro a ha
    simp [go_sem, rcase, execOp, ha]
  have hb : ∀ a : Act, a.tmps[5]?.getD undef = .int .i64 y → (execOp a.eval { dst := some 6, op := .buildSlice 23 1 #[(0, .tmp 5)], type := type3, pos := pos3, after := after3, guard := none }).run Try.prog W2 = .ok (.value (.slice (some ⟨W2.heap.size, 0, none⟩) 1 1)) (W2.alloc (.cells #[.int .i64 y] 3)) := by
    intro a ha
    simp [go_sem, execOp, ha]
  rcases hl with rfl | rfl | rfl | rfl
  · refine ops_load h0 rfl rfl rfl (load_s hx7) (ops_load h1 rfl rfl rfl (load_c hx5) (ops_recv h2 rfl (hr _ rfl) hc1 (by simp [vals]) ?_))
    rw [← hW2]
    exact ops_val h3 rfl (hb _ rfl) H
  · refine ops_load h1 rfl rfl rfl (load_c hx5) (ops_load h0 rfl rfl rfl (load_s hx7) (ops_recv h2 rfl (hr _ rfl) hc1 (by simp [vals]) ?_))
    rw [← hW2]
    exact ops_val h3 rfl (hb _ rfl) H
  · refine ops_load h1 rfl rfl rfl (load_c hx5) (ops_recv h2 rfl (hr _ rfl) hc1 (by simp [vals]) ?_)
    rw [← hW2]
    exact ops_load h0 rfl rfl rfl (load_s y7) (ops_val h3 rfl (hb _ rfl) H)
  · refine ops_load h1 rfl rfl rfl (load_c hx5) (ops_recv h2 rfl (hr _ rfl) hc1 (by simp [vals]) ?_)
    rw [← hW2]
    exact ops_val h3 rfl (hb _ rfl) (ops_load h0 rfl rfl rfl (load_s (y7.alloc _)) H)
theorem deal (w W : World) (p0 ch p5 p7 m : Nat) (y : Int) (q o : List Int) (h0 : w.heap.size ≤ p0) (h1 : p0 < ch) (h2 : ch < p5) (h3 : p5 < p7) (hm : m ≤ 12) (hl : o.length + (q.length + 1) = m) (hS : St w p0 ch p5 p7 m false (y :: q) o W) :
    Calls Try.prog 34 #[.pointer (some ⟨p7, 0, none⟩), .pointer (some ⟨p5, 0, none⟩), .pointer (some ⟨p0, 0, none⟩)] W fun e W' => e = .returned (.tuple #[]) ∧ St w p0 ch p5 p7 m (decide (q = [])) q (o ++ [y]) W' := by
  obtain ⟨hb, hx0, hx5, ⟨s, r, hc⟩, A, c, hx7, hown⟩ := hS
  have hlo : o.length ≤ 12 := by omega
  obtain ⟨i0, hi, hz0, hz1, hz2⟩ := info_parts infoInt
  have hc1 : W.drew.heap[ch]? = some (.chan m (vals (y :: q)).toArray false s r false) := hc
  obtain ⟨W2, hW2⟩ : ∃ W2, W2 = W.drew.setChan ch m ((vals (y :: q)).toArray.extract 1 (vals (y :: q)).toArray.size) false s (r + 1) false := ⟨_, rfl⟩
  have hg2 : W.drew.grownBy W2 (some ch) := hW2 ▸ chan_grown _ _ _ _ _ _ _ _
  have hsz2 := hg2.size
  have hlc : ch < W.drew.heap.size := (Array.getElem?_eq_some_iff.1 hc1).1
  have hc2 : W2.heap[ch]? = some (.chan m (vals q).toArray false s (r + 1) false) := by
    rw [hW2, heap_setChan _ _ _ _ _ _ _ _ hlc]
    simp [vals, List.take_of_length_le]
  have y0 : Boxed W2 p0 3 (.int .i64 m) := Boxed.kept (W := W.drew) hx0 hg2 (fun e => by injection e with e; omega)
  have y5 : Boxed W2 p5 52 (.chan (some ch)) := Boxed.kept (W := W.drew) hx5 hg2 (fun e => by injection e with e; omega)
  have y7 : Boxed W2 p7 23 (.slice A o.length c) := Boxed.kept (W := W.drew) hx7 hg2 (fun e => by injection e with e; omega)
  have yo : W2.ownsRow (p7 + 1) 3 1 (.slice A o.length c) o.length (vals o) := World.ownsRow.kept (w := W.drew) hown hg2 (by
    rcases A with _ | A
    · left; rfl
    · right
      intro e
      have := (hown.lt A.block rfl).1
      injection e with e
      omega)
  have yb : Below w.heap.size w W2 := hb.drew.grown hg2 hb.size (fun k hk => by injection hk with hk; omega)
  have hp7 := y7.lt
  clear hsz2 hg2 hb hown
  go_enter Try.func34, Try.ntmps34
  go_upto_region 0 with fail
  refine ops_any rfl [[0, 1, 2, 3, 4, 5], [1, 0, 2, 3, 4, 5], [1, 2, 0, 3, 4, 5], [1, 2, 3, 0, 4, 5]] (by kernel_rfl) (from4 (W := W.drew) rfl rfl rfl rfl rfl rfl rfl rfl rfl rfl rfl rfl rfl rfl rfl rfl rfl hx7 hx5 y7 hc1 hW2 ?_)
  clear hW2
  refine ops_drop (k := 4) ?_
  change wpList _ _ _ [_, _] _ _
  refine app_one rfl (.tmp 3) (.tmp 6) 23 rfl (p7 + 1) 3 i0 (.int .i64 0) 8 Try.underlying23 hi hz0 hz1 hz2 (by decide) rfl _ _ _ rfl yo _ rfl rfl (by omega) (by omega) ?_
  intro g c4 w4 hown4 hb4
  have z0 : Boxed w4 p0 3 (.int .i64 m) := (hb4.block p0 (by omega)).trans y0
  have z5 : Boxed w4 p5 52 (.chan (some ch)) := (hb4.block p5 (by omega)).trans y5
  have z7 : Boxed w4 p7 23 (.slice A o.length c) := (hb4.block p7 (by omega)).trans y7
  have zc : w4.heap[ch]? = some (.chan m (vals q).toArray false s (r + 1) false) := (hb4.block ch (by omega)).trans hc2
  have zb : Below w.heap.size w w4 := yb.trans (hb4.mono (by have := yb.size; omega))
  have hcell := z7.cell
  have hfroz := z7.frozen
  go_upto_region 1 with fail
  have hg5 := grownBy_setCell' w4 p7 (.slice (some ⟨g, 0, none⟩) (o.length + 1) c4)
  have x7 := z7.set (.slice (some ⟨g, 0, none⟩) (o.length + 1) c4)
  generalize w4.setCell ⟨p7, 0, none⟩ (.slice (some ⟨g, 0, none⟩) (o.length + 1) c4) = W5 at hg5 x7 ⊢
  have x0 := z0.kept hg5 (fun e => by injection e with e; omega)
  have x5 := z5.kept hg5 (fun e => by injection e with e; omega)
  have xc : W5.heap[ch]? = some (.chan m (vals q).toArray false s (r + 1) false) := (hg5.block ch (Array.getElem?_eq_some_iff.1 zc).1 (fun e => by injection e with e; omega)).trans zc
  have hgp := (hown4.lt g rfl).1
  have xo : W5.ownsRow (p7 + 1) 3 1 (.slice (some ⟨g, 0, none⟩) (o.length + 1) c4) (o.length + 1) (vals (o ++ [y])) := by
    rw [show vals (o ++ [y]) = vals o ++ [.int .i64 y] by simp [vals]]
    exact World.ownsRow.kept hown4 hg5 (.inr (fun e => by injection e with e; have e2 : g = p7 := e; omega))
  have xb : Below w.heap.size w W5 := zb.grown hg5 zb.size (fun k hk => by injection hk with hk; omega)
  have hlen : (o ++ [y]).length = o.length + 1 := by simp
  have k7 := x7.cell
  have k5 := x5.cell
  have k0 := x0.cell
  have HX := Lib.hid (And.intro x0 (And.intro x5 (And.intro x7 (And.intro xo xb))))
  have HC := Lib.hid xc
  have HL := Lib.hid hlen
  clear z0 z5 z7 zc zb hcell hfroz hg5 x7 x0 x5 xc xo xb hlen hown4 hb4 yb yo y7 y5 y0 hc2 hx7 hx0 hx5 hc hc1 hgp
  by_cases hq : q = []
  · subst hq
    have hmm : m = o.length + 1 := by simp only [List.length_nil] at hl; omega
    subst hmm
    have hcl := fun ats ty => run_close_open (P := Try.prog) (w := W5) ats ty HC.out
    have hcx : ch < W5.heap.size := (Array.getElem?_eq_some_iff.1 HC.out).1
    have HG := Lib.hid (chan_grown W5 ch (o.length + 1) (vals []).toArray true s (r + 1) false)
    have HN := Lib.hid (heap_setChan W5 ch (o.length + 1) (vals []).toArray true s (r + 1) false hcx)
    go_wp2
    refine ⟨rfl, .tuple #[], by simp [results, Try.f34], ?_⟩
    show _ ∧ St _ _ _ _ _ _ _ _ _ (W5.setChan ch (o.length + 1) (vals []).toArray true s (r + 1) false)
    obtain ⟨x0, x5, x7, xo, xb⟩ := HX.out
    refine ⟨rfl, St.of HL.out (xb.grown HG.out xb.size (fun k hk => by injection hk with hk; omega)) (x0.kept HG.out (fun e => by injection e with e; omega)) (x5.kept HG.out (fun e => by injection e with e; omega)) HN.out (x7.kept HG.out (fun e => by injection e with e; omega)) (World.ownsRow.kept xo HG.out (.inr (fun e => ?_)))⟩
    injection e with e
    have e2 : g = ch := e
    have := (xo.lt g rfl).1
    omega
  · have hmm : (o.length + 1 == m) = false := by
      rcases q with _ | ⟨z, q⟩
      · exact absurd rfl hq
      · simp only [List.length_cons] at hl; simp; omega
    have HQ := Lib.hid (decide_eq_false hq)
    clear hq
    go_wp2
    refine ⟨rfl, .tuple #[], by simp [results, Try.f34], ?_⟩
    obtain ⟨x0, x5, x7, xo, xb⟩ := HX.out
    exact ⟨rfl, St.of HL.out xb x0 x5 (by rw [HQ.out]; exact HC.out) x7 xo⟩

theorem bytesI : ∃ i, Try.prog.info? 3 = some i ∧ i.bytes = 8 := by
  obtain ⟨i0, hi, hz0, hz1, hz2⟩ := info_parts infoInt
  exact ⟨i0, hi, hz2⟩
theorem mk_chan (m : Nat) (hm : m ≤ 12) (w : World) : (Instr.makeChan 52 (.int .i64 (m : Int))).run Try.prog w = .ok (.chan (some w.heap.size)) (w.alloc (.chan m #[] false 0 0 false)) := by
  obtain ⟨i, hi, hb⟩ := bytesI
  exact run_makeChan (P := Try.prog) (w := w) Try.underlying52 hi .i64 m (by omega) (by rw [hb]; omega)
/-- the rounds of a deal, in plain words -/
def dl : Nat → List Int → List Int → List Int
  | 0, _, o => o
  | _ + 1, [], o => o
  | f + 1, x :: r, o => dl f ((r ++ [x]).drop 1) (o ++ (r ++ [x]).take 1)
theorem dl_chk : ((List.range 13).all fun n => n == 0 || (dl n (imarks 0 n) [] == (dkL n 0).reverse && dl (n - 1) ((imarks 0 n).drop 1) [0] == (dkL n 1).reverse)) = true := by kernel_rfl
theorem dl_at {n : Nat} (h1 : 1 ≤ n) (h12 : n ≤ 12) : dl n (imarks 0 n) [] = (dkL n 0).reverse ∧ dl (n - 1) ((imarks 0 n).drop 1) [0] = (dkL n 1).reverse := by
  have h := List.all_eq_true.1 dl_chk n (List.mem_range.2 (by omega))
  simp only [Bool.or_eq_true, beq_iff_eq, Bool.and_eq_true] at h
  rcases h with h | h
  · omega
  · exact h
def qsz (ch : Nat) (W : World) : Nat := match W.heap[ch]? with
  | some (.chan _ buf _ _ _ _) => buf.size
  | _ => 0
/-- the packet goes into the channel -/
def S1 (w : World) (p0 ch p5 m t : Nat) (W : World) : Prop :=
  Below w.heap.size w W ∧ Boxed W p0 3 (.int .i64 m) ∧ Boxed W p5 52 (.chan (some ch)) ∧ W.heap[ch]? = some (.chan m (vals (imarks 0 t)).toArray false t 0 false)
theorem entry (w w1 : World) (m : Nat) (hb : Below (w.alloc (.cells #[.int .i64 m] 3)).heap.size (w.alloc (.cells #[.int .i64 m] 3)) w1) :
    S1 w w.heap.size w1.heap.size (w1.heap.size + 1) m 0 ((w1.alloc (.chan m #[] false 0 0 false)).alloc (.cells #[.chan (some w1.heap.size)] 52)) := by
  have hsz := hb.size
  have e1 : (w.alloc (.cells #[.int .i64 m] 3)).heap.size = w.heap.size + 1 := by simp
  have hx : Boxed w1 w.heap.size 3 (.int .i64 m) := (hb.block _ (by omega)).trans (Boxed.new w _ _)
  have hbw : Below w.heap.size w w1 := ((Below.refl _ w).alloc (Nat.le_refl _) _).trans (hb.mono (by omega))
  obtain ⟨wa, hwa⟩ : ∃ wa, wa = w1.alloc (.chan m #[] false 0 0 false) := ⟨_, rfl⟩
  have hca : wa.heap[w1.heap.size]? = some (.chan m #[] false 0 0 false) := hwa ▸ heap_alloc_new w1 _
  have hsa : wa.heap.size = w1.heap.size + 1 := by rw [hwa]; simp
  have hxa : Boxed wa w.heap.size 3 (.int .i64 m) := hwa ▸ hx.alloc _
  have hba : Below w.heap.size w wa := hwa ▸ hbw.alloc (by omega) _
  rw [← hwa]
  clear hwa
  have hyb := Boxed.new wa 52 (.chan (some w1.heap.size))
  rw [hsa] at hyb
  exact ⟨hba.alloc (by omega) _, hxa.alloc _, hyb, (heap_alloc_old wa _ (by omega)).trans hca⟩

theorem S1.send {w W : World} {p0 ch p5 m t : Nat} (h : S1 w p0 ch p5 m t W) (h0 : w.heap.size ≤ p0) (h1 : p0 < ch) (h2 : ch < p5) : S1 w p0 ch p5 m (t + 1) (W.setChan ch m ((vals (imarks 0 t)).toArray.push (.int .i64 (t : Int))) false (t + 1) 0 false) := by
  obtain ⟨hb, hx, hy, hc⟩ := h
  have hg := chan_grown W ch m ((vals (imarks 0 t)).toArray.push (.int .i64 (t : Int))) false (t + 1) 0 false
  refine ⟨hb.grown hg hb.size (fun k hk => by injection hk with hk; omega), hx.kept hg (fun e => by injection e with e; omega), hy.kept hg (fun e => by injection e with e; omega), ?_⟩
  rw [heap_setChan _ _ _ _ _ _ _ _ (Array.getElem?_eq_some_iff.1 hc).1, imarks_snoc]
  simp [vals]

theorem St.start {w W : World} {p0 ch p5 m : Nat} (h : S1 w p0 ch p5 m m W) : St w p0 ch p5 W.heap.size m false (imarks 0 m) [] (W.alloc (.cells #[.slice none 0 0] 23)) := by
  obtain ⟨hb, hx, hy, hc⟩ := h
  exact St.of rfl (hb.alloc hb.size _) (hx.alloc _) (hy.alloc _) ((heap_alloc_old W _ (Array.getElem?_eq_some_iff.1 hc).1).trans hc) (Boxed.new W _ _) (World.ownsRow_nil _ _ _ _)

theorem St.chan {w W : World} {p0 ch p5 p7 m : Nat} {cl : Bool} {q o : List Int} (h : St w p0 ch p5 p7 m cl q o W) (h0 : w.heap.size ≤ p0) (h1 : p0 < ch) (h2 : ch < p5) (h3 : p5 < p7) (q' : List Int) (cl' : Bool) (s' r' : Nat) (buf' : Array Value) (hbuf : buf' = (vals q').toArray) : St w p0 ch p5 p7 m cl' q' o (W.setChan ch m buf' cl' s' r' false) := by
  obtain ⟨hb, hx, hy, ⟨s, r, hc⟩, A, c, hz, ho⟩ := h
  have hg := chan_grown W ch m buf' cl' s' r' false
  subst hbuf
  refine St.of rfl (hb.grown hg hb.size (fun k hk => by injection hk with hk; omega)) (hx.kept hg (fun e => by injection e with e; omega)) (hy.kept hg (fun e => by injection e with e; omega)) (heap_setChan _ _ _ _ _ _ _ _ (Array.getElem?_eq_some_iff.1 hc).1) (hz.kept hg (fun e => by injection e with e; omega)) (World.ownsRow.kept ho hg ?_)
  rcases A with _ | A
  · left; rfl
  · right
    intro e
    have := (ho.lt A.block rfl).1
    injection e with e
    have e2 : A.block = ch := e
    omega
/-- what holds ahead of each round -/
def LP (w : World) (p0 ch p5 p7 m : Nat) (R : List Int) (W : World) : Prop := ∃ q o, St w p0 ch p5 p7 m (decide (q = [])) q o W ∧ q.length + o.length = m ∧ dl q.length q o = R
theorem LP.chan {w W : World} {p0 ch p5 p7 m : Nat} {R : List Int} (h : LP w p0 ch p5 p7 m R W) : W.cell? ⟨p5, 0, none⟩ = some (.chan (some ch)) := by
  obtain ⟨q, o, hS, _, _⟩ := h
  exact hS.2.2.1.cell
theorem qsz_of {w W : World} {p0 ch p5 p7 m : Nat} {cl : Bool} {q o : List Int} (h : St w p0 ch p5 p7 m cl q o W) : qsz ch W = q.length := by
  obtain ⟨hb, hx, hy, ⟨s, r, hc⟩, _⟩ := h
  unfold qsz
  rw [hc]
  simp [vals]
theorem im_chk : ((List.range 13).all fun n => n == 0 || imarks 0 n == 0 :: (imarks 0 n).drop 1) = true := by kernel_rfl
theorem im_cons {n : Nat} (h1 : 1 ≤ n) (h12 : n ≤ 12) : imarks 0 n = 0 :: (imarks 0 n).drop 1 := by
  have h := List.all_eq_true.1 im_chk n (List.mem_range.2 (by omega))
  simp only [Bool.or_eq_true, beq_iff_eq] at h
  rcases h with h | h
  · omega
  · exact h
theorem LP.zero {w W : World} {p0 ch p5 p7 m : Nat} (h1 : 1 ≤ m) (h12 : m ≤ 12) (h : St w p0 ch p5 p7 m false (imarks 0 m) [] W) : LP w p0 ch p5 p7 m (dkL m 0).reverse W := by
  refine ⟨imarks 0 m, [], ?_, by rw [imarks_length]; rfl, by rw [imarks_length]; exact (dl_at h1 h12).1⟩
  rw [decide_eq_false (by rw [im_cons h1 h12]; intro e; cases e)]
  exact h
theorem LP.one {w W : World} {p0 ch p5 p7 m : Nat} (h1 : 1 ≤ m) (h12 : m ≤ 12) (h : St w p0 ch p5 p7 m (decide ((imarks 0 m).drop 1 = [])) ((imarks 0 m).drop 1) ([] ++ [0]) W) : LP w p0 ch p5 p7 m (dkL m 1).reverse W :=
  ⟨_, _, h, by rw [List.length_drop, imarks_length]; simp; omega, by rw [List.length_drop, imarks_length]; exact (dl_at h1 h12).2⟩

theorem dl_next {x y : Int} {r t2 o : List Int} (h : r ++ [x] = y :: t2) : dl (x :: r).length (x :: r) o = dl t2.length t2 (o ++ [y]) := by
  have hl := congrArg List.length h
  simp only [List.length_append, List.length_cons, List.length_nil] at hl
  show dl r.length ((r ++ [x]).drop 1) (o ++ (r ++ [x]).take 1) = _
  rw [h, show r.length = t2.length by omega]
  rfl

set_option maxHeartbeats 4000000 in
theorem impl_order (n k : Int) (w : World) (h1 : -9223372036854775808 ≤ n) (h2 : n ≤ 9223372036854775807) (h3 : -9223372036854775808 ≤ k) (h4 : k ≤ 9223372036854775807) :
    Calls Try.prog 14 #[.int .i64 n, .int .i64 k] w (IsIL w.heap.size (ordF n k) w) := by
  cases hd : dkB n k with
  | false =>
    rw [ord_no hd]
    have HD := Lib.hid hd
    clear hd
    have hb0 := Lib.hid ((Below.refl w.heap.size w).alloc (Nat.le_refl _) (.cells #[.int .i64 n] 3))
    go_enter Try.func14, Try.ntmps14
    go_wp2_with fail
    refine (impl_isduck n k _).mono ?_
    rintro e w1 ⟨rfl, hb⟩
    rw [HD.out]
    have HB := Lib.hid hb
    clear hb
    go_wp2
    go_ret
    exact ⟨none, 0, rfl, World.ownsRow_nil _ _ _ _, hb0.out.trans (HB.out.mono (by simp))⟩
  | true =>
    obtain ⟨m, j, rfl, rfl, p1, p2, p3⟩ := dk_parts hd
    rw [ord_yes hd]
    obtain ⟨R, hR⟩ : ∃ R, R = (dkL m j).reverse := ⟨_, rfl⟩
    have hRl : R.length = m := by rw [hR, List.length_reverse, dkL_len p1 p2 p3]
    have HDL := Lib.hid (dl_at p1 p2)
    rw [← hR]
    have HD := Lib.hid hd
    have HR := Lib.hid hR
    have HRL := Lib.hid hRl
    clear hd hR hRl
    have hmc := mk_chan m p2
    go_enter Try.func14, Try.ntmps14
    go_wp2_with fail
    refine (impl_isduck _ _ _).mono ?_
    rintro e w1 ⟨rfl, hb⟩
    rw [HD.out]
    have HS := Lib.hid (entry w w1 m hb)
    have hbx : Boxed w1 w.heap.size 3 (.int .i64 m) := (hb.block _ (by simp)).trans (Boxed.new w _ _)
    have hcx := hbx.cell
    have hs1 := hb.size
    clear hb hbx
    go_upto_region 4 with fail
    have hch : w.heap.size < w1.heap.size := by simp at hs1; omega
    have hlt4 : w1.heap.size + 1 < ((w1.alloc (.chan m #[] false 0 0 false)).alloc (.cells #[.chan (some w1.heap.size)] 52)).heap.size := by simp
    generalize ((w1.alloc (.chan m #[] false 0 0 false)).alloc (.cells #[.chan (some w1.heap.size)] 52)) = W4 at HS hlt4 ⊢
    generalize w1.heap.size = ch at HS hch hlt4 ⊢
    clear hs1 hcx hmc
    have hc0 := HS.out.2.1.cell
    go_wp2
    go_loopw [17] (fun s17 wr => ∃ t : Nat, t ≤ m ∧ s17 = .int .i64 (t : Int) ∧ Hid (S1 w w.heap.size ch (ch + 1) m t wr)) (fun s17 _ => m - (intOf s17).toNat)
    case atStart => exact ⟨0, Nat.zero_le _, rfl, HS⟩
    case round =>
      obtain ⟨t, ht, rfl, hS⟩ := hrel
      by_cases hlt : t < m
      · go_upto_region 7 with fail
        have hroom : (vals (imarks 0 t)).toArray.size < m := by simp [vals, imarks]; omega
        have HN := Lib.hid (S1.send hS.out (Nat.le_refl _) hch (Nat.lt_succ_self _))
        refine wp_of_ops (show Ops _ _ _ [0, 1, 2] _ _ from ops_load rfl rfl rfl rfl (load_c hS.out.2.2.1) (ops_move rfl rfl rfl (ops_send (c := ch) (cap := m) (v := .int .i64 (t : Int)) (z := .tuple #[]) (buf := (vals (imarks 0 t)).toArray) (s := t) (r := 0) (tm := false) rfl rfl (by simp [go_sem, scase, execOp, Act.eval, Act.put]) hS.out.2.2.2 hroom (ops_nil ?_))))
        generalize wr.setChan ch m ((vals (imarks 0 t)).toArray.push (.int .i64 (t : Int))) false (t + 1) 0 false = W5 at HN ⊢
        clear hS hroom
        go_wp2
        exact ⟨⟨t + 1, hlt, rfl, HN⟩, by simp [intOf]; omega⟩
      · have htm : t = m := by omega
        subst htm
        have HT := Lib.hid (St.start hS.out)
        have hsz := hS.out.2.2.1.lt
        clear hS
        go_upto_region 11 with fail
        generalize hp7 : wr.heap.size = p7 at HT hsz ⊢
        generalize wr.alloc (.cells #[.slice none 0 0] 23) = W6 at HT ⊢
        have HIC := Lib.hid (im_cons p1 p2)
        rcases (show j = 0 ∨ j = 1 by omega) with rfl | rfl
        · have HLP := Lib.hid (LP.zero p1 p2 HT.out)
          rw [← HR.out] at HLP
          clear HT HIC HDL HR
          go_upto_region 13 with fail
          generalize W6 = W7 at HLP ⊢
          have hc5 := LP.chan HLP.out
          go_wp2
          go_loopw [9] (fun s9 wr => Hid (LP w w.heap.size ch (ch + 1) p7 t R wr)) (fun _ wr => qsz ch wr)
          case atStart => exact HLP
          case round =>
            obtain ⟨q, o, hS, hql, hdl⟩ := hrel.out
            have HQZ := Lib.hid (qsz_of hS)
            rcases q with _ | ⟨x, r⟩
            · have HO := Lib.hid (show o = R from hdl)
              obtain ⟨hb, hx, hy, ⟨s, r0, hc⟩, A, c, hz, ho⟩ := hS
              go_upto_region 14 with fail
              refine wp_of_ops (show Ops _ _ _ [0, 1] _ _ from ops_shut (c := ch) (cap := t) (s := s) (r := r0) (tm := false) (z := .int .i64 0) (ok := true) rfl rfl (by simp [go_sem, rcase, execOp, Act.eval]) hc (ops_same (v := .bool false) rfl rfl (by simp [go_sem, execOp, Act.eval, Act.put, got]) (ops_nil ?_)))
              have h7 := hz.cell
              have HB := Lib.hid hb
              have HW := Lib.hid ho
              clear hb hx hy hc hz ho hdl hql hrel HLP
              go_wp2
              go_ret
              rw [← HO.out]
              exact ⟨A, c, rfl, own_mono HW.out (by omega), HB.out⟩
            · rw [show decide (x :: r = []) = false from rfl] at hS
              have hS0 := hS
              obtain ⟨hb, hx, hy, ⟨s, r0, hc⟩, _⟩ := hS0
              go_upto_region 14 with fail
              refine wp_of_ops (show Ops _ _ _ [0, 1] _ _ from ops_recv (c := ch) (cap := t) (s := s) (r := r0) (tm := false) (closed := false) (buf := (vals (x :: r)).toArray) (z := .int .i64 0) (ok := true) rfl rfl (by simp [go_sem, rcase, execOp, Act.eval]) hc (by simp [vals]) (ops_same (v := .bool true) rfl rfl (by simp [go_sem, execOp, Act.eval, Act.put, got]) (ops_nil ?_)))
              have hS2 := hS.chan (Nat.le_refl _) hch (Nat.lt_succ_self _) hsz r false s (r0 + 1) ((vals (x :: r)).toArray.extract 1 (vals (x :: r)).toArray.size) (by simp [vals, List.take_of_length_le])
              have hc2 : (wr.setChan ch t ((vals (x :: r)).toArray.extract 1 (vals (x :: r)).toArray.size) false s (r0 + 1) false).heap[ch]? = some (.chan t (vals r).toArray false s (r0 + 1) false) := by
                rw [heap_setChan _ _ _ _ _ _ _ _ (Array.getElem?_eq_some_iff.1 hc).1]
                simp [vals, List.take_of_length_le]
              generalize wr.setChan ch t ((vals (x :: r)).toArray.extract 1 (vals (x :: r)).toArray.size) false s (r0 + 1) false = W8 at hS2 hc2 ⊢
              clear hb hx hy hc hS hrel HLP hc5
              rw [show got true ((vals (x :: r)).toArray.getD 0 undef) true = .tuple #[.int .i64 x, .bool true] by simp [vals, got]]
              go_upto_region 16 with fail
              have hroom : (vals r).toArray.size < t := by simp only [List.length_cons] at hql; simp [vals]; omega
              refine wp_of_ops (show Ops _ _ _ [0, 1, 2] _ _ from ops_load rfl rfl rfl rfl (load_c hS2.2.2.1) (ops_move rfl rfl rfl (ops_send (c := ch) (cap := t) (v := .int .i64 x) (z := .tuple #[]) (buf := (vals r).toArray) (s := s) (r := r0 + 1) (tm := false) rfl rfl (by simp [go_sem, scase, execOp, Act.eval, Act.put]) hc2 hroom (ops_nil ?_))))
              have hS3 := hS2.chan (Nat.le_refl _) hch (Nat.lt_succ_self _) hsz (r ++ [x]) false (s + 1) (r0 + 1) ((vals r).toArray.push (.int .i64 x)) (by simp [vals])
              generalize W8.setChan ch t ((vals r).toArray.push (.int .i64 x)) false (s + 1) (r0 + 1) false = W9 at hS3 ⊢
              clear hS2 hc2 hroom
              obtain ⟨y, t2, hyt⟩ : ∃ y t2, r ++ [x] = y :: t2 := by
                rcases r with _ | ⟨y, r⟩
                · exact ⟨x, [], rfl⟩
                · exact ⟨y, r ++ [x], rfl⟩
              rw [hyt] at hS3
              have hl2 := congrArg List.length hyt
              simp only [List.length_append, List.length_cons, List.length_nil] at hl2 hql
              have HNX := Lib.hid (dl_next (o := o) hyt)
              have HDX := Lib.hid hdl
              clear hyt hdl
              go_wp2_with fail
              refine (deal w W9 w.heap.size ch (ch + 1) p7 t y t2 o (Nat.le_refl _) hch (Nat.lt_succ_self _) hsz p2 (by omega) hS3).mono ?_
              rintro e Wa ⟨rfl, hSa⟩
              have HQ2 := Lib.hid (qsz_of hSa)
              have HLA := Lib.hid (show LP w w.heap.size ch (ch + 1) p7 t R Wa from ⟨t2, o ++ [y], hSa, by simp; omega, by rw [← HNX.out]; exact HDX.out⟩)
              clear hSa hS3
              go_wp2
              exact ⟨⟨_, _, _, _, _, _, _, _, HLA, rfl⟩, by rw [HQ2.out, HQZ.out]; simp; omega⟩
        · rw [HIC.out] at HT
          go_wp2_with fail
          refine (deal w W6 w.heap.size ch (ch + 1) p7 t 0 _ [] (Nat.le_refl _) hch (Nat.lt_succ_self _) hsz p2 (by rw [List.length_drop, imarks_length]; simp; omega) HT.out).mono ?_
          rintro e W7 ⟨rfl, hS7⟩
          have HLP := Lib.hid (LP.one p1 p2 hS7)
          rw [← HR.out] at HLP
          clear HT HIC HDL HR hS7
          go_upto_region 13 with fail
          have hc5 := LP.chan HLP.out
          go_wp2
          go_loopw [9] (fun s9 wr => Hid (LP w w.heap.size ch (ch + 1) p7 t R wr)) (fun _ wr => qsz ch wr)
          case atStart => exact HLP
          case round =>
            obtain ⟨q, o, hS, hql, hdl⟩ := hrel.out
            have HQZ := Lib.hid (qsz_of hS)
            rcases q with _ | ⟨x, r⟩
            · have HO := Lib.hid (show o = R from hdl)
              obtain ⟨hb, hx, hy, ⟨s, r0, hc⟩, A, c, hz, ho⟩ := hS
              go_upto_region 14 with fail
              refine wp_of_ops (show Ops _ _ _ [0, 1] _ _ from ops_shut (c := ch) (cap := t) (s := s) (r := r0) (tm := false) (z := .int .i64 0) (ok := true) rfl rfl (by simp [go_sem, rcase, execOp, Act.eval]) hc (ops_same (v := .bool false) rfl rfl (by simp [go_sem, execOp, Act.eval, Act.put, got]) (ops_nil ?_)))
              have h7 := hz.cell
              have HB := Lib.hid hb
              have HW := Lib.hid ho
              clear hb hx hy hc hz ho hdl hql hrel HLP
              go_wp2
              go_ret
              rw [← HO.out]
              exact ⟨A, c, rfl, own_mono HW.out (by omega), HB.out⟩
            · rw [show decide (x :: r = []) = false from rfl] at hS
              have hS0 := hS
              obtain ⟨hb, hx, hy, ⟨s, r0, hc⟩, _⟩ := hS0
              go_upto_region 14 with fail
              refine wp_of_ops (show Ops _ _ _ [0, 1] _ _ from ops_recv (c := ch) (cap := t) (s := s) (r := r0) (tm := false) (closed := false) (buf := (vals (x :: r)).toArray) (z := .int .i64 0) (ok := true) rfl rfl (by simp [go_sem, rcase, execOp, Act.eval]) hc (by simp [vals]) (ops_same (v := .bool true) rfl rfl (by simp [go_sem, execOp, Act.eval, Act.put, got]) (ops_nil ?_)))
              have hS2 := hS.chan (Nat.le_refl _) hch (Nat.lt_succ_self _) hsz r false s (r0 + 1) ((vals (x :: r)).toArray.extract 1 (vals (x :: r)).toArray.size) (by simp [vals, List.take_of_length_le])
              have hc2 : (wr.setChan ch t ((vals (x :: r)).toArray.extract 1 (vals (x :: r)).toArray.size) false s (r0 + 1) false).heap[ch]? = some (.chan t (vals r).toArray false s (r0 + 1) false) := by
                rw [heap_setChan _ _ _ _ _ _ _ _ (Array.getElem?_eq_some_iff.1 hc).1]
                simp [vals, List.take_of_length_le]
              generalize wr.setChan ch t ((vals (x :: r)).toArray.extract 1 (vals (x :: r)).toArray.size) false s (r0 + 1) false = W8 at hS2 hc2 ⊢
              clear hb hx hy hc hS hrel HLP hc5
              rw [show got true ((vals (x :: r)).toArray.getD 0 undef) true = .tuple #[.int .i64 x, .bool true] by simp [vals, got]]
              go_upto_region 16 with fail
              have hroom : (vals r).toArray.size < t := by simp only [List.length_cons] at hql; simp [vals]; omega
              refine wp_of_ops (show Ops _ _ _ [0, 1, 2] _ _ from ops_load rfl rfl rfl rfl (load_c hS2.2.2.1) (ops_move rfl rfl rfl (ops_send (c := ch) (cap := t) (v := .int .i64 x) (z := .tuple #[]) (buf := (vals r).toArray) (s := s) (r := r0 + 1) (tm := false) rfl rfl (by simp [go_sem, scase, execOp, Act.eval, Act.put]) hc2 hroom (ops_nil ?_))))
              have hS3 := hS2.chan (Nat.le_refl _) hch (Nat.lt_succ_self _) hsz (r ++ [x]) false (s + 1) (r0 + 1) ((vals r).toArray.push (.int .i64 x)) (by simp [vals])
              generalize W8.setChan ch t ((vals r).toArray.push (.int .i64 x)) false (s + 1) (r0 + 1) false = W9 at hS3 ⊢
              clear hS2 hc2 hroom
              obtain ⟨y, t2, hyt⟩ : ∃ y t2, r ++ [x] = y :: t2 := by
                rcases r with _ | ⟨y, r⟩
                · exact ⟨x, [], rfl⟩
                · exact ⟨y, r ++ [x], rfl⟩
              rw [hyt] at hS3
              have hl2 := congrArg List.length hyt
              simp only [List.length_append, List.length_cons, List.length_nil] at hl2 hql
              have HNX := Lib.hid (dl_next (o := o) hyt)
              have HDX := Lib.hid hdl
              clear hyt hdl
              go_wp2_with fail
              refine (deal w W9 w.heap.size ch (ch + 1) p7 t y t2 o (Nat.le_refl _) hch (Nat.lt_succ_self _) hsz p2 (by omega) hS3).mono ?_
              rintro e Wa ⟨rfl, hSa⟩
              have HQ2 := Lib.hid (qsz_of hSa)
              have HLA := Lib.hid (show LP w w.heap.size ch (ch + 1) p7 t R Wa from ⟨t2, o ++ [y], hSa, by simp; omega, by rw [← HNX.out]; exact HDX.out⟩)
              clear hSa hS3
              go_wp2
              exact ⟨HLA, by rw [HQ2.out, HQZ.out]; simp; omega⟩
end Go.Proofs.Ytaacdhccebedmaa.Dch
