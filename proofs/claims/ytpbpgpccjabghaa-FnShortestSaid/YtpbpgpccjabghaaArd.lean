/- arranged, and the closure of FaroGroup. -/
import Derived.Test.YtpbpgpccjabghaaGrf
import Derived.Test.YtpbpgpccjabghaaFps
import Derived.Test.YtpbpgpccjabghaaShi
import Derived.Deep.RegionLaw
import Derived.StillTailTactics
import Derived.Laws.CopyOwn
set_option linter.unusedVariables false
set_option maxRecDepth 20000
namespace Go.Proofs.Ytpbpgpccjabghaa.Ard
open Go.RowKit Fr Own Pk Pok Arr Ins Nwp Pfn Rws Lb Cat Mvp Mv1 Mv2 Mv3 Mv4 Mk Mok2 Pf Sv Sv2 Sv3 Do Pa Fsz Prm Fpm Bfs Fps Grf Shi

theorem cells8_list (l : List Int) : (cells8 l).toList = vals (pad l) := by unfold cells8 vals; rfl
theorem ints_pad {w : World} {b : Nat} {l : List Int} {t : TypeId} {fr : Nat × Nat} (hb : w.heap[b]? = some (.cells (cells8 l) t fr)) : IntsAt w w.heap.size .i64 (some ⟨b, 0, none⟩) (pad l) := by
  intro j hj
  refine ⟨b, 0, rfl, (Array.getElem?_eq_some_iff.1 hb).1, ?_⟩
  rw [cell_of_row w b _ _ t fr hb, Nat.zero_add]
  have h := vals_get hj
  rw [← cells8_list] at h
  simpa using h
theorem join_pad {n k : Nat} {l : List Int} (hl : l.length = n) (hin : inR (pomF (n : Int) 4 (k : Int)) n) : joinF (pad l) (pomF (n : Int) 4 (k : Int)) = nxG n k l := by
  unfold nxG joinF
  apply List.map_congr_left
  intro x hx
  obtain ⟨i, hi, rfl⟩ := List.mem_iff_getElem.1 hx
  have h := hin i hi
  rw [List.getD_eq_getElem?_getD, List.getElem?_eq_getElem hi, Option.getD_some] at h
  unfold pad
  rw [List.getD_eq_getElem?_getD, List.getD_eq_getElem?_getD, List.getElem?_append_left (by omega)]
theorem nx_len {n k : Nat} {l : List Int} (hp : (pomF (n : Int) 4 (k : Int)).length = n) : (nxG n k l).length = n := by unfold nxG; rw [joinF_len, hp]
theorem cells8_one (l : List Int) : (cells8 l).all (·.oneCell') = true := by
  rw [Array.all_eq_true_iff_forall_mem]
  intro v hv
  have : v ∈ (cells8 l).toList := by simpa using hv
  rw [cells8_list] at this
  exact vals_one _ v this
theorem infoG : (Try.prog.info? 73).map (·.size) = some 8 := by kernel_rfl
theorem info8 {l : List Int} (h : l.length ≤ 8) : (Try.prog.info? 73).map (·.size) = some (cells8 l).size := by rw [cells8_size h]; exact infoG
def Z8 : Array Value := #[.int .i64 0, .int .i64 0, .int .i64 0, .int .i64 0, .int .i64 0, .int .i64 0, .int .i64 0, .int .i64 0]

theorem three (w : World) (l : List Int) : ∃ W0, W0 = ((w.alloc (.cells (cells8 l) 73)).alloc (.cells #[.int .i64 0, .int .i64 0, .int .i64 0, .int .i64 0, .int .i64 0, .int .i64 0, .int .i64 0, .int .i64 0] 73)).alloc (.cells #[.int .i64 0, .int .i64 0, .int .i64 0, .int .i64 0, .int .i64 0, .int .i64 0, .int .i64 0, .int .i64 0] 73) ∧
    W0.heap[w.heap.size]? = some (.cells (cells8 l) 73 (0, 0)) ∧ W0.heap[w.heap.size + 1]? = some (.cells Z8 73 (0, 0)) ∧ W0.heap[w.heap.size + 1 + 1]? = some (.cells Z8 73 (0, 0)) ∧ W0.heap.size = w.heap.size + 3 ∧ Below w.heap.size w W0 := by
  have e1 := heap_alloc_new w (.cells (cells8 l) 73)
  have s1 : (w.alloc (.cells (cells8 l) 73)).heap.size = w.heap.size + 1 := by simp
  have b1 := (Below.refl w.heap.size w).alloc (Nat.le_refl _) (.cells (cells8 l) 73)
  generalize w.alloc (.cells (cells8 l) 73) = w1 at *
  have e2 := heap_alloc_new w1 (.cells Z8 73)
  have c2 := (Below.refl w1.heap.size w1).alloc (Nat.le_refl _) (.cells Z8 73)
  have s2 : (w1.alloc (.cells Z8 73)).heap.size = w.heap.size + 1 + 1 := by simp [s1]
  have hZ : (Obj.cells #[.int .i64 0, .int .i64 0, .int .i64 0, .int .i64 0, .int .i64 0, .int .i64 0, .int .i64 0, .int .i64 0] 73) = .cells Z8 73 := rfl
  rw [hZ]
  have k1 := (c2.block w.heap.size (by omega)).trans e1
  have b2 := b1.alloc (by omega) (.cells Z8 73)
  rw [s1] at e2
  generalize w1.alloc (.cells Z8 73) = w2 at *
  have e3 := heap_alloc_new w2 (.cells Z8 73)
  have c3 := (Below.refl w2.heap.size w2).alloc (Nat.le_refl _) (.cells Z8 73)
  rw [s2] at e3
  exact ⟨_, rfl, (c3.block _ (by omega)).trans k1, (c3.block _ (by omega)).trans e2, e3, by simp [s2], b2.alloc (by omega) _⟩
theorem len_min {R : List Int} {n : Nat} (h : R.length = n) (h8 : n ≤ 8) : (vals R).length = Nat.min n 8 := by rw [vals_len, h]; exact (Nat.min_eq_left h8).symm
theorem copy_pos {W : World} {lo n c : Nat} {A3 : Option Addr} {R : List Int} {d : Option Addr} {x : Addr} (h : W.ownsRow lo 3 1 (.slice A3 n c) n (vals R)) (hd : d = some x) : 0 < (vals R).length → d = some x ∧ ∃ ad, A3 = some ad ∧ ∀ j v, (vals R)[j]? = some v → W.cell? (ad.add j) = some v := by
  intro hp
  have hl := h.1
  obtain ⟨g, rfl⟩ := own_shape h (by rw [Nat.mul_one] at hl; omega)
  exact ⟨hd, _, rfl, h.cells (g := g) rfl⟩
theorem splice_pad {R : List Int} (h : R.length ≤ 8) : (splice Z8.toList 0 (vals R)).toArray = cells8 R := by
  apply Array.ext'
  rw [cells8_list]
  have hz : Z8.toList = List.replicate 8 (.int .i64 0) := rfl
  unfold splice pad
  rw [hz, List.take_zero, List.nil_append, Nat.zero_add, vals_len, List.drop_replicate]
  simp [vals]
set_option maxHeartbeats 2000000 in
theorem impl_ard (n k c : Nat) (A : Option Addr) (l : List Int) (w : World) (h1 : 2 ≤ n) (h2 : n ≤ 8) (h3 : n % 2 = 0) (hk : k ≤ 1) (hl : l.length = n) (hrow : w.ownsRow 0 3 1 (.slice A n c) n (vals (pomF n 4 k))) :
    Calls Try.prog 62 #[.agg (cells8 l), .slice A n c] w fun e w' => e = .returned (.agg (cells8 (nxG n k l))) ∧ Below w.heap.size w w' := by
  obtain ⟨_, _, hpl⟩ := fp_at (n := n) (k := k) h1 (by omega) h3 hk
  have hpp := (pom_good (n := n) (k := k) (by omega) (by omega) hk).1
  have hin := inR_perm hpp
  rw [hpl] at hin
  obtain ⟨R, hR⟩ : ∃ R, R = nxG n k l := ⟨_, rfl⟩
  rw [← hR]
  go_enter Try.func62, Try.ntmps62
  obtain ⟨W0, hW0, b0, b1, b2, hs0, hB0⟩ := three w l
  have hat := Lib.hid (ints_of hrow)
  have HAT := Lib.hid (show IntsAt W0.drew W0.drew.heap.size .i64 A (pomF n 4 k) from (ints_on hat.out hB0).below (Below.refl W0.heap.size W0).drew)
  have hl8 : l.length ≤ 8 := by omega
  have HPA := Lib.hid (show IntsAt W0.drew W0.drew.heap.size .i64 (some ⟨w.heap.size, 0, none⟩) (pad l) from (ints_pad b0).below (Below.refl W0.heap.size W0).drew)
  have HP8 := Lib.hid (pad_len hl8)
  have HJ := Lib.hid ((join_pad (k := k) hl hin).trans hR.symm)
  have HNL := Lib.hid (show R.length = n by rw [hR]; exact nx_len (k := k) (l := l) hpl)
  have HPL := Lib.hid hpl
  have hinb : inR (pomF (n : Int) 4 (k : Int)) 8 := fun i hi => by have := hin i hi; omega
  have HIN := Lib.hid hinb
  have HB1 := Lib.hid b1
  have HB2 := Lib.hid b2
  have HBW := Lib.hid hB0
  have hnn : n ≤ 1048576 := by omega
  clear hin hpp hat b0 b1 b2 hB0 hpl hinb hrow hR
  go_wp2
  rw [← hW0]
  clear hW0
  have HBD := Lib.hid (show Below w.heap.size w W0.drew from HBW.out.drew)
  have HD2 := Lib.hid (show W0.drew.heap[w.heap.size + 1 + 1]? = some (.cells Z8 73 (0, 0)) from HB2.out)
  have HD1 := Lib.hid (show W0.drew.heap[w.heap.size + 1]? = some (.cells Z8 73 (0, 0)) from HB1.out)
  have hsd : W0.drew.heap.size = w.heap.size + 3 := hs0
  go_region_law (first | (go_simp; go_at_call 80; refine (arr_any A n c (pomF n 4 k) (some ⟨w.heap.size, 0, none⟩) 8 8 (pad l) W0.drew HPL.out hnn HAT.out HP8.out HPA.out HIN.out).mono ?_; rintro e w3 ⟨A3, c3, rfl, ho3, hb3⟩; rw [HJ.out, HNL.out] at ho3; rw [HJ.out, HNL.out]; have HO3 := Lib.hid ho3; have HB3 := Lib.hid (HBD.out.trans (hb3.mono (by omega))); have HE2 := Lib.hid ((hb3.block (w.heap.size + 1 + 1) (by omega)).trans HD2.out); have HE1 := Lib.hid ((hb3.block (w.heap.size + 1) (by omega)).trans HD1.out); have HG3 := Lib.hid (fun b (hb : A3.map (·.block) = some b) => (own_lo ho3 b hb).1); clear ho3 hb3) | (refine step_copy_splice rfl (.tmp 6) (.tmp 9) 24 24 rfl 3 Try.underlying24 (by kernel_rfl) (some ⟨w.heap.size + 1 + 1, 0, none⟩) A3 8 8 n c3 (by simp [Act.eval]) (by simp [Act.eval]) (w.heap.size + 1 + 1) 0 Z8.toList 73 HE2.out (vals R) (len_min HNL.out h2) (copy_pos HO3.out rfl) (by rw [vals_len, HNL.out]; show 0 + n ≤ 8; omega) (vals_one R) (w.heap.size + 1 + 1) w3 (Below.refl _ _) (Nat.le_refl _) ?_; intro w4 hg4 hb4) | fail)
  have HR8 := Lib.hid (show R.length ≤ 8 by rw [HNL.out]; exact h2)
  have HG4 := Lib.hid (show w4.heap[w.heap.size + 1 + 1]? = some (.cells (cells8 R) 73 (0, 0)) by rw [hg4.out, splice_pad HR8.out])
  have HG1 := Lib.hid ((hb4.block (w.heap.size + 1) (by omega)).trans HE1.out)
  have HB4 := Lib.hid (HB3.out.trans (hb4.mono (by omega)))
  have HI8 := Lib.hid (info8 HR8.out)
  have HZ8 := Lib.hid (show Z8.size = (cells8 R).size by rw [cells8_size HR8.out]; rfl)
  have HG5 := Lib.hid (setRow_heap w4 (w.heap.size + 1) Z8 (cells8 R) 73 (0, 0) HG1.out)
  have HB5 := Lib.hid (below_setRow HB4.out (show w.heap.size ≤ w.heap.size + 1 by omega) (cells8 R))
  clear hg4 hb4 HE1 HE2 HB3 HO3 HG3
  go_wp2_with (first | (refine wpList_load_row rfl 73 (.tmp 5) rfl (w.heap.size + 1 + 1) rfl 73 (cells8 R) (0, 0) _ HG4.out Try.underlying73 rfl HI8.out ?_) | (refine wpList_store_row rfl 73 (.tmp 4) (.tmp 11) rfl (w.heap.size + 1) (cells8 R) rfl rfl 73 Z8 HG1.out HI8.out HZ8.out (cells8_one R) ?_) | fail)
  refine bodyPost_ret (results_cell_row rfl _ _ (w.heap.size + 1) 73 (cells8 R) (0, 0) _ rfl HG5.out Try.underlying73 rfl HI8.out) rfl ?_
  exact ⟨rfl, HB5.out⟩

/-- a load of a row of cells, in a region's still head -/
theorem still_load {P : Program} {ops : Array Oper} {w : World} {Q : Act → Prop} {rest : List Oper} {o : Oper} {a : Act} (hgd : o.guard = none) (ty : TypeId) (x : Operand) (ho : o.op = .load ty x) (g : Nat) (hx : a.eval x = .pointer (some ⟨g, 0, none⟩))
    (v : Value) (hrun : (loadVar ty ⟨g, 0, none⟩).run P w = .ok v w) (h : wpStill P ops w Q rest (a.put o.dst v)) : wpStill P ops w Q (o :: rest) a := by
  have hw : Region.wanted o (yielded ops a.tmps) = true := by simp [Region.wanted, hgd]
  unfold wpStill
  rw [if_pos hw]
  unfold Oper.still execOp
  simp only [ho, hx, Instr.loadAt, Instr.sureAddr, Sem.run_bind, Sem.run_pure, Result.andThen_ok, hrun]
  rw [Oper.stillUpon_value]
  exact h
theorem two8 (w : World) (l : List Int) : ∃ W0, W0 = (w.alloc (.cells (cells8 l) 73)).alloc (.cells #[.int .i64 0, .int .i64 0, .int .i64 0, .int .i64 0, .int .i64 0, .int .i64 0, .int .i64 0, .int .i64 0] 73) ∧
    W0.heap[w.heap.size]? = some (.cells (cells8 l) 73 (0, 0)) ∧ W0.heap[w.heap.size + 1]? = some (.cells Z8 73 (0, 0)) ∧ W0.heap.size = w.heap.size + 2 ∧ Below w.heap.size w W0 := by
  have e1 := heap_alloc_new w (.cells (cells8 l) 73)
  have s1 : (w.alloc (.cells (cells8 l) 73)).heap.size = w.heap.size + 1 := by simp
  have b1 := (Below.refl w.heap.size w).alloc (Nat.le_refl _) (.cells (cells8 l) 73)
  generalize w.alloc (.cells (cells8 l) 73) = w1 at *
  have e2 := heap_alloc_new w1 (.cells Z8 73)
  have c2 := (Below.refl w1.heap.size w1).alloc (Nat.le_refl _) (.cells Z8 73)
  have hZ : (Obj.cells #[.int .i64 0, .int .i64 0, .int .i64 0, .int .i64 0, .int .i64 0, .int .i64 0, .int .i64 0, .int .i64 0] 73) = .cells Z8 73 := rfl
  rw [hZ]
  rw [s1] at e2
  exact ⟨_, rfl, (c2.block w.heap.size (by omega)).trans e1, e2, by simp [s1], b1.alloc (by omega) _⟩
theorem load8 {W : World} {b : Nat} {l : List Int} (h8 : l.length ≤ 8) (hb : W.heap[b]? = some (.cells (cells8 l) 73 (0, 0))) : (loadVar 73 ⟨b, 0, none⟩).run Try.prog W = .ok (.agg (cells8 l)) W := by
  have hr : W.rangeAt b 0 (cells8 l).toList := by
    have := World.rangeAt_of_block hb 0 (cells8 l).size
    simpa using this
  have h := run_loadVar_mid (P := Try.prog) W b 0 73 (cells8 l).toList _ hr Try.underlying73 rfl (by rw [infoG]; simp [cells8_size h8])
  simpa using h
set_option maxHeartbeats 2000000 in
theorem clos_grp (p n k B : Nat) (l : List Int) (w : World) (h1 : 2 ≤ n) (h2 : n ≤ 8) (h3 : n % 2 = 0) (hk : k ≤ 1) (hl : l.length = n) (hB : B ≤ w.heap.size) (hP : Perms n p B w) :
    Calls Try.prog 61 #[.agg (cells8 l), .int .i64 k, .pointer (some ⟨p, 0, none⟩)] w fun e w' => e = .returned (.agg (cells8 (nxG n k l))) ∧ Below w.heap.size w w' := by
  obtain ⟨W0, hW0, b0, b1, hs0, hB0⟩ := two8 w l
  have HPD := hP.below ((hB0.mono hB).drew)
  obtain ⟨hpB, v0, v1, hc, ⟨A0, c0, rfl, ho0, _⟩, ⟨A1, c1, rfl, ho1, _⟩⟩ := HPD
  obtain ⟨q0, q1, _, _⟩ := two_cells hc
  have HBW := Lib.hid (show Below w.heap.size w W0.drew from hB0.drew)
  have HLD := Lib.hid (load8 (W := W0.drew) (by omega) b0)
  have HD1 := Lib.hid (show W0.drew.heap[w.heap.size + 1]? = some (.cells Z8 73 (0, 0)) from b1)
  have hsd : W0.drew.heap.size = w.heap.size + 2 := hs0
  have hR8 : (nxG n k l).length ≤ 8 := by
    rw [nx_len (fp_at (n := n) (k := k) h1 (by omega) h3 hk).2.2]; exact h2
  have HI8 := Lib.hid (info8 hR8)
  have HZ8 := Lib.hid (show Z8.size = (cells8 (nxG n k l)).size by rw [cells8_size hR8]; rfl)
  have HCALL := Lib.hid (show ∀ A c, W0.drew.ownsRow 0 3 1 (.slice A n c) n (vals (pomF n 4 k)) → _ from fun A c h => impl_ard n k c A l W0.drew h1 h2 h3 hk hl h)
  have HC1 := Lib.hid (cells8_one (nxG n k l))
  have ho0' := Lib.hid ho0
  have ho1' := Lib.hid ho1
  clear hP b0 b1 hB0 ho0 ho1 hc hR8
  rcases (show k = 0 ∨ k = 1 by omega) with rfl | rfl
  · have HCL := Lib.hid (HCALL.out A0 c0 ho0'.out)
    clear HCALL ho0' ho1'
    obtain ⟨R, hR⟩ : ∃ R, R = nxG n 0 l := ⟨_, rfl⟩
    rw [← hR] at HI8 HZ8 HCL HC1 ⊢
    clear hR
    go_enter Try.func61, Try.ntmps61
    go_wp2
    rw [← hW0]
    clear hW0 hs0
    refine wp_region_still_tail 4 (by kernel_rfl) (by kernel_rfl) ?_
    simp only [List.take_succ_cons, List.take_zero, List.drop_succ_cons, List.drop_zero]
    change wpStill _ _ W0.drew (fun a' => wpList _ _ _ _ a' W0.drew) _ _
    generalize W0.drew = W1 at *
    refine still_load rfl 73 (.tmp 3) rfl w.heap.size rfl (.agg (cells8 l)) HLD.out ?_
    still_step
    still_step
    still_step
    refine wpStill_nil ?_
    go_wp2_with fail
    refine HCL.out.mono ?_
    rintro e w3 ⟨rfl, hb3⟩
    have HG3 := Lib.hid ((hb3.block (w.heap.size + 1) (by omega)).trans HD1.out)
    have HB3 := Lib.hid (HBW.out.trans (hb3.mono (by omega)))
    have HG5 := Lib.hid (setRow_heap w3 (w.heap.size + 1) Z8 (cells8 R) 73 (0, 0) HG3.out)
    have HB5 := Lib.hid (below_setRow HB3.out (show w.heap.size ≤ w.heap.size + 1 by omega) (cells8 R))
    clear hb3 HCL
    go_wp2_with (first | (refine wpList_store_row rfl 73 (.tmp 5) (.tmp 10) rfl (w.heap.size + 1) (cells8 R) rfl rfl 73 Z8 HG3.out HI8.out HZ8.out HC1.out ?_) | fail)
    refine bodyPost_ret (results_cell_row rfl _ _ (w.heap.size + 1) 73 (cells8 R) (0, 0) _ rfl HG5.out Try.underlying73 rfl HI8.out) rfl ?_
    exact ⟨rfl, HB5.out⟩
  · have HCL := Lib.hid (HCALL.out A1 c1 ho1'.out)
    clear HCALL ho0' ho1'
    obtain ⟨R, hR⟩ : ∃ R, R = nxG n 1 l := ⟨_, rfl⟩
    rw [← hR] at HI8 HZ8 HCL HC1 ⊢
    clear hR
    go_enter Try.func61, Try.ntmps61
    go_wp2
    rw [← hW0]
    clear hW0 hs0
    refine wp_region_still_tail 4 (by kernel_rfl) (by kernel_rfl) ?_
    simp only [List.take_succ_cons, List.take_zero, List.drop_succ_cons, List.drop_zero]
    change wpStill _ _ W0.drew (fun a' => wpList _ _ _ _ a' W0.drew) _ _
    generalize W0.drew = W1 at *
    refine still_load rfl 73 (.tmp 3) rfl w.heap.size rfl (.agg (cells8 l)) HLD.out ?_
    still_step
    still_step
    still_step
    refine wpStill_nil ?_
    go_wp2_with fail
    refine HCL.out.mono ?_
    rintro e w3 ⟨rfl, hb3⟩
    have HG3 := Lib.hid ((hb3.block (w.heap.size + 1) (by omega)).trans HD1.out)
    have HB3 := Lib.hid (HBW.out.trans (hb3.mono (by omega)))
    have HG5 := Lib.hid (setRow_heap w3 (w.heap.size + 1) Z8 (cells8 R) 73 (0, 0) HG3.out)
    have HB5 := Lib.hid (below_setRow HB3.out (show w.heap.size ≤ w.heap.size + 1 by omega) (cells8 R))
    clear hb3 HCL
    go_wp2_with (first | (refine wpList_store_row rfl 73 (.tmp 5) (.tmp 10) rfl (w.heap.size + 1) (cells8 R) rfl rfl 73 Z8 HG3.out HI8.out HZ8.out HC1.out ?_) | fail)
    refine bodyPost_ret (results_cell_row rfl _ _ (w.heap.size + 1) 73 (cells8 R) (0, 0) _ rfl HG5.out Try.underlying73 rfl HI8.out) rfl ?_
    exact ⟨rfl, HB5.out⟩
end Go.Proofs.Ytpbpgpccjabghaa.Ard
