/- slices.Insert of one element at the front of a pile. -/
import Derived.Test.YtpfbjbakcfmngaaRws
import Derived.Test.YtpfbjbakcfmngaaLb
import Derived.Shelf.Spec.SlicesInsertGrow
set_option linter.unusedVariables false
set_option linter.unusedSimpArgs false
set_option maxRecDepth 20000
namespace Go.Proofs.Ytpfbjbakcfmngaa.Inp
open Go.RowKit Go.Lib Fr _root_.Go.Proofs.Ytpfbjbakcfmngaa.Own Pk Ins Pfn Rws Lb

theorem ip_mixed : Try.prog.follows .mixedOrders = true := by kernel_rfl
theorem ip_apart (w : World) (vb vc b o lb cb kB : Nat) (tB : TypeId) (hvb : vb ≠ b) (hsa : w.shape? vb = some (3, 1)) (hsb : w.shape? b = some (tB, kB)) (hkB : kB ≠ 0) (hfz : ∀ k, w.frozen? ⟨vb, k, none⟩ = false) :
    (callFunc 84 #[.slice (some ⟨vb, 0, none⟩) 1 vc, .slice (some ⟨b, o, none⟩) lb cb]).run Try.prog w = .ok (.value (.bool false)) w := by
  rw [run_callFunc_extern Try.func84 (by kernel_rfl) (by kernel_rfl) (by kernel_rfl) (e := Extern.SlicesOverlaps.overlaps #[25, 25] #[4]) (by kernel_rfl),
    Lib.run_overlaps_apart w 25 4 3 Try.underlying25 1 Try.sizeOf3 ⟨vb, 0, none⟩ ⟨b, o, none⟩ 1 vc lb cb hvb 3 tB 1 kB hsa hsb hkB (hfz 0) (hfz 1)]
  rfl
set_option maxHeartbeats 4000000 in
/-- there is room, and i is not the end -/
theorem ip_shift (b n c i vb vc : Nat) (cs : List Value) (x : Value) (w : World) (hi : i < n) (hroom : n + 1 ≤ c) (hc63 : c ≤ 9223372036854775807) (hvb : vb ≠ b) (hcl : cs.length = n)
    (hcs : ∀ j v, cs[j]? = some v → w.cell? ⟨b, j, none⟩ = some v) (hsp : ∀ j, j < c → (w.cell? ⟨b, j, none⟩).isSome = true) (hfz : ∀ j, w.frozen? ⟨b, j, none⟩ = false)
    (hx : w.cell? ⟨vb, 0, none⟩ = some x) (h1c : ∀ v ∈ cs, v.oneCell' = true) (h1x : x.oneCell' = true) (tB : TypeId) (kB : Nat) (hsa : w.shape? vb = some (3, 1)) (hsb : w.shape? b = some (tB, kB)) (hkB : kB ≠ 0) (hfv : ∀ k, w.frozen? ⟨vb, k, none⟩ = false) :
    Calls Try.prog 82 #[.slice (some ⟨b, 0, none⟩) n c, .int .i64 (i : Int), .slice (some ⟨vb, 0, none⟩) 1 vc] w fun e w' => e = .returned (.slice (some ⟨b, 0, none⟩) (n + 1) c) ∧ w' = (w.drew.setCells b (i + 1) (cs.drop i)).setCells b i [x] := by
  have mixed := ip_mixed
  have hov := fun lb cb => ip_apart w vb vc b (i + 1) lb cb kB tB hvb hsa hsb hkB hfv
  have hsz : (Try.prog.info? 3).map (·.size) = some 1 := by kernel_rfl
  have hz2 : ¬ ((i : Int) = (n : Int)) := by omega
  have hz3 : ¬ ((c : Int) < (n : Int) + 1) := by omega
  have hdl : (cs.drop i).length = n - i := by rw [List.length_drop, hcl]
  have hw1 : IntKind.i64.wrap ((i : Int) + 1) = (i : Int) + 1 := by rw [IntKind.wrap_i64]; omega
  have hb1 : (0 : Int) ≤ (i : Int) + 1 := by omega
  have hin : i ≤ n := by omega
  have hb2 : ¬ (c = i + 1) := by omega
  have hb3 : (i : Int) ≤ (n : Int) + 1 := by omega
  have hb4 : ¬ (c = i) := by omega
  have htn : ((i : Int) + 1).toNat = i + 1 := by omega
  have hcp1 : ∀ ty dc sc, (Builtin.copy_ #[57, 57] ty #[.slice (some ⟨b, i + 1, none⟩) (n - i) dc, .slice (some ⟨b, i, none⟩) (n + 1 - i) sc]).run Try.prog w.drew = .ok (goInt (cs.drop i).length) (w.drew.setCells b (i + 1) (cs.drop i)) := fun ty dc sc =>
    run_copy_cells w.drew _ _ ty 3 b (i + 1) (n - i) dc ⟨b, i, none⟩ (n + 1 - i) sc (cs.drop i) Try.underlying57 hsz (by rw [hdl]; simp only [Nat.min_def]; split <;> omega)
      (fun j v hj => by rw [Addr.add_lit]; exact hcs (i + j) v (by rwa [List.getElem?_drop] at hj))
      (fun j hj => hsp _ (by omega)) (fun j hj => hfz _) (fun v hv => h1c v (List.mem_of_mem_drop hv))
  obtain ⟨W1, hW1⟩ : ∃ W1, W1 = w.drew.setCells b (i + 1) (cs.drop i) := ⟨_, rfl⟩
  have hcp2 : ∀ (W : World), (∀ x, W.cell? x = W1.cell? x) → (∀ x, W.frozen? x = W1.frozen? x) → ∀ ty dc, (Builtin.copy_ #[57, 25] ty #[.slice (some ⟨b, i, none⟩) (n + 1 - i) dc, .slice (some ⟨vb, 0, none⟩) 1 vc]).run Try.prog W = .ok (goInt [x].length) (W.setCells b i [x]) := fun W hWc hWf ty dc =>
    run_copy_cells W _ _ ty 3 b i (n + 1 - i) dc ⟨vb, 0, none⟩ 1 vc [x] Try.underlying57 hsz (by simp only [List.length_singleton, Nat.min_def]; split <;> omega)
      (fun j v hj => by
        have hj0 : j = 0 := by have := (List.getElem?_eq_some_iff.1 hj).1; simp at this; exact this
        subst hj0
        have e : x = v := by simpa using hj
        rw [Addr.add_lit, hWc, hW1, World.cell?_setCells_out b _ _ _ _ (fun h _ => absurd h hvb), ← e]
        exact hx)
      (fun j hj => by
        rw [hWc, hW1]
        exact isSome_setCells b (cs.drop i) (i + 1) w.drew (fun t ht => hsp (i + 1 + t) (by omega)) (i + j) (hsp (i + j) (by simp at hj; omega)))
      (fun j hj => by rw [hWf, hW1, World.frozen?_setCells]; exact hfz _) (fun v hv => by rw [List.mem_singleton.1 hv]; exact h1x)
  rw [← hW1] at hcp1
  go_enter Try.func82, Try.ntmps82
  go_wp2_with (simp only [hov])
  go_region_law_o (refine step_copy_runI rfl _ _ 57 57 rfl _ _ (by simp [Act.eval, Act.put]) (by simp [Act.eval, Act.put]) (hcp1 _ _ _) ?_)
  go_wp2_with (at_builtin; refine wpList_copy_runI _ rfl _ _ 57 25 rfl _ _ rfl rfl (hcp2 _ (fun _ => rfl) (fun _ => rfl) _ _) ?_)
  go_ret
  first | exact ⟨rfl, rfl⟩ | exact ⟨rfl, by rw [hW1]⟩
set_option maxHeartbeats 4000000 in
/-- at the end, and there is room -/
theorem ip_end (b n c vb vc : Nat) (x : Value) (w : World) (hroom : n + 1 ≤ c) (hc63 : c ≤ 9223372036854775807) (hsp : ∀ j, j < c → (w.cell? ⟨b, j, none⟩).isSome = true) (hfz : ∀ j, w.frozen? ⟨b, j, none⟩ = false)
    (hx : w.cell? ⟨vb, 0, none⟩ = some x) (h1x : x.oneCell' = true) :
    Calls Try.prog 82 #[.slice (some ⟨b, 0, none⟩) n c, .int .i64 (n : Int), .slice (some ⟨vb, 0, none⟩) 1 vc] w fun e w' => e = .returned (.slice (some ⟨b, 0, none⟩) (n + 1) c) ∧ w' = w.setCells b n [x] := by
  have mixed := ip_mixed
  have hinf : (Try.prog.info? 3).map (fun i => (i.zero, i.size, i.bytes)) = some (some (Value.int .i64 0), 1, 8) := by kernel_rfl
  have hsrc : Src Try.prog 1 25 (.slice (some ⟨vb, 0, none⟩) 1 vc) 1 [x] w := Src.ofSlice w Try.underlying25 ⟨vb, 0, none⟩ 1 vc [x] (by simp) (fun j u hj => by
    have hj0 : j = 0 := by have := (List.getElem?_eq_some_iff.1 hj).1; simp at this; exact this
    subst hj0
    have e : x = u := by simpa using hj
    rw [Addr.add_lit, ← e]; exact hx) (fun v hv => by rw [List.mem_singleton.1 hv]; exact h1x)
  go_enter Try.func82, Try.ntmps82
  go_wp2_with (at_builtin; refine wpList_append_room1 _ rfl _ _ 57 25 rfl 3 _ _ Try.underlying57 hinf b 0 n c rfl _ rfl 1 [x] hsrc hroom (fun j hj => by simp at hj; simpa using hsp (n + j) (by omega)) (fun j hj => by simpa using hfz (n + j)) ?_)
  go_ret
  simp

set_option maxHeartbeats 4000000 in
/-- at the end, and there is no room -/
theorem ip_more (base : Option Addr) (n c vb vc : Nat) (cs : List Value) (x : Value) (w : World) (hnc : n ≤ c) (hroom : c < n + 1) (hbig : (n + 1) * 8 ≤ 140737488355328) (hcl : cs.length = n) (hnil : base = none → n = 0)
    (hcs : ∀ a, base = some a → ∀ j v, cs[j]? = some v → w.cell? (a.add j) = some v) (hx : w.cell? ⟨vb, 0, none⟩ = some x) (h1x : x.oneCell' = true) :
    Calls Try.prog 82 #[.slice base n c, .int .i64 (n : Int), .slice (some ⟨vb, 0, none⟩) 1 vc] w fun e w' => e = .returned (.slice (some ⟨w.heap.size, 0, none⟩) (n + 1) (grownCap w (n + 1) c 3)) ∧
      w' = w.drew.alloc (.cells ((cs ++ [x]).toArray ++ Builtin.zeroCells ((Value.int .i64 0)).cells (grownCap w (n + 1) c 3 - (n + 1))) 3) := by
  have mixed := ip_mixed
  have hinf : (Try.prog.info? 3).map (fun i => (i.zero, i.size, i.bytes)) = some (some (Value.int .i64 0), 1, 8) := by kernel_rfl
  obtain ⟨i0, hi0, hz0, hzs, hzb⟩ := info_parts hinf
  have hsrc : Src Try.prog i0.size 25 (.slice (some ⟨vb, 0, none⟩) 1 vc) 1 [x] w := by
    rw [hzs]
    exact Src.ofSlice w Try.underlying25 ⟨vb, 0, none⟩ 1 vc [x] (by simp) (fun j u hj => by
      have hj0 : j = 0 := by have := (List.getElem?_eq_some_iff.1 hj).1; simp at this; exact this
      subst hj0
      have e : x = u := by simpa using hj
      rw [Addr.add_lit, ← e]; exact hx) (fun v hv => by rw [List.mem_singleton.1 hv]; exact h1x)
  have hold : (Builtin.firstCells i0.size n (.slice base n c)).run Try.prog w.drew = .ok cs.toArray w.drew := by
    rw [hzs]
    cases base with
    | none =>
      have h0 := hnil rfl
      subst h0
      rw [List.length_eq_zero_iff.1 hcl]
      exact run_firstCells_none w.drew 1 0 0 c
    | some a => exact run_firstCells_some w.drew 1 n a n c cs (by omega) (fun j v hj => hcs a rfl j v hj)
  have hrun : ∀ ty, (Builtin.append_ #[57, 25] ty #[.slice base n c, .slice (some ⟨vb, 0, none⟩) 1 vc]).run Try.prog w = _ := fun ty =>
    run_append_grow_src w 57 25 ty 3 i0 _ Try.underlying57 hi0 hz0 base n c cs hold _ 1 [x] hsrc hroom (by omega) (by rw [hzb]; exact growslice_fits hroom hbig)
  go_enter Try.func82, Try.ntmps82
  cases base with
  | none =>
    have h0 := hnil rfl
    subst h0
    go_wp2_with (at_builtin; refine Lib.wpList_append_run _ rfl _ _ _ _ rfl _ _ rfl rfl _ _ (hrun _) ?_)
    go_ret
    exact ⟨rfl, rfl⟩
  | some a =>
    obtain ⟨ab, ao, asp⟩ := a
    go_wp2_with (at_builtin; refine Lib.wpList_append_run _ rfl _ _ _ _ rfl _ _ rfl rfl _ _ (hrun _) ?_)
    all_goals (go_ret; exact ⟨rfl, rfl⟩)
set_option maxHeartbeats 4000000 in
/-- at the front, and there is no room -/
theorem ip_front (b n c vb vc : Nat) (cs : List Value) (x : Value) (w : World) (hi : 0 < n) (hnc : n ≤ c) (hroom : c < n + 1) (hbig : (n + 1) * 8 ≤ 140737488355328) (hcl : cs.length = n)
    (hcs : ∀ j v, cs[j]? = some v → w.cell? ⟨b, j, none⟩ = some v) (hx : w.cell? ⟨vb, 0, none⟩ = some x) (h1c : ∀ v ∈ cs, v.oneCell' = true) (h1x : x.oneCell' = true) :
    Calls Try.prog 82 #[.slice (some ⟨b, 0, none⟩) n c, .int .i64 0, .slice (some ⟨vb, 0, none⟩) 1 vc] w fun e w' => e = .returned (.slice (some ⟨w.heap.size, 0, none⟩) (n + 1) (grownCap w (n + 1) c 3)) ∧
      w' = (((w.alloc (.cells (Builtin.zeroCells ((Value.int .i64 0)).cells (n + 1) ++ Builtin.zeroCells ((Value.int .i64 0)).cells (grownCap w (n + 1) c 3 - (n + 1))) 3)).drew.setCells w.heap.size 0 [x]).drew).setCells w.heap.size 1 cs := by
  have mixed := ip_mixed
  have hinf : (Try.prog.info? 3).map (fun i => (i.zero, i.size, i.bytes)) = some (some (Value.int .i64 0), 1, 8) := by kernel_rfl
  obtain ⟨i0, hi0, hz0, hzs, hzb⟩ := info_parts hinf
  have hz2 : ¬ (0 = (n : Int)) := by omega
  have hz3 : (c : Int) < (n : Int) + 1 := by omega
  have hsz : (Try.prog.info? 3).map (·.size) = some 1 := by rw [hi0]; simp [hzs]
  have hbw : b < w.heap.size := block_lt_of_cell (hcs 0 _ (List.getElem?_eq_getElem (by omega)))
  have hvw : vb < w.heap.size := block_lt_of_cell hx
  have hold : (Builtin.firstCells i0.size 0 (.slice (some ⟨b, 0, none⟩) 0 c)).run Try.prog w.drew = .ok (#[] : Array Value) w.drew := by
    rw [hzs]
    exact run_firstCells_some w.drew 1 0 ⟨b, 0, none⟩ 0 c [] rfl (fun j v hj => by simp at hj)
  have hrz : ∀ ty, (Builtin.append_ #[57, 3] ty #[.slice (some ⟨b, 0, none⟩) 0 c, .int .i64 ((n : Int) + 1)]).run Try.prog w =
      .ok (.slice (some ⟨w.heap.size, 0, none⟩) (n + 1) (grownCap w (n + 1) c 3)) (w.drew.alloc (.cells (Builtin.zeroCells ((Value.int .i64 0)).cells (n + 1) ++ Builtin.zeroCells ((Value.int .i64 0)).cells (grownCap w (n + 1) c 3 - (n + 1))) 3)) := fun ty => by
    have h := Lib.run_append_grow_zeros w 57 3 ty 3 i0 _ .i64 .i64 Try.underlying57 Try.underlying3 hi0 hz0 (some ⟨b, 0, none⟩) 0 c [] hold (n + 1) (by omega) (by omega) (by omega) (by omega) (by rw [hzb]; omega) (by rw [hzb, Nat.zero_add]; exact growslice_fits (by omega) hbig)
    rw [Nat.zero_add] at h
    simpa using h
  obtain ⟨G, hG⟩ : ∃ G, G = grownCap w (n + 1) c 3 := ⟨_, rfl⟩
  obtain ⟨ROW, hROW⟩ : ∃ ROW : Array Value, ROW = Builtin.zeroCells ((Value.int .i64 0)).cells (n + 1) ++ Builtin.zeroCells ((Value.int .i64 0)).cells (G - (n + 1)) := ⟨_, rfl⟩
  rw [← hG] at hrz ⊢
  rw [← hROW] at hrz ⊢
  have hRl : n + 1 ≤ ROW.size := by
    rw [hROW]
    simp [Builtin.zeroCells, Value.cells]
  obtain ⟨W1, hW1⟩ : ∃ W1, W1 = w.drew.alloc (.cells ROW 3) := ⟨_, rfl⟩
  rw [← hW1] at hrz
  have hN : ∀ j, j < n + 1 → (W1.cell? ⟨w.heap.size, j, none⟩).isSome = true := fun j hj => by
    rw [hW1, World.cell?_alloc_at (w := w.drew) ROW _ w.heap.size j rfl, Array.getElem?_eq_getElem (by omega)]; rfl
  have hNf : ∀ j, W1.frozen? ⟨w.heap.size, j, none⟩ = false := fun j => by rw [hW1]; exact World.frozen?_alloc_at (w := w.drew) ROW _ w.heap.size j rfl
  have hOb : ∀ j v, w.cell? ⟨b, j, none⟩ = some v → W1.cell? ⟨b, j, none⟩ = some v := fun j v h => by rw [hW1, World.cell?_alloc_past (w := w.drew) _ b j hbw]; exact h
  have hOv : W1.cell? ⟨vb, 0, none⟩ = some x := by rw [hW1, World.cell?_alloc_past (w := w.drew) _ vb 0 hvw]; exact hx
  have hcpA : ∀ (W : World), (∀ x, W.cell? x = W1.cell? x) → (∀ x, W.frozen? x = W1.frozen? x) → ∀ ty dc, (Builtin.copy_ #[57, 25] ty #[.slice (some ⟨w.heap.size, 0, none⟩) (n + 1) dc, .slice (some ⟨vb, 0, none⟩) 1 vc]).run Try.prog W = .ok (goInt [x].length) (W.setCells w.heap.size 0 [x]) := fun W hWc hWf ty dc =>
    run_copy_cells W _ _ ty 3 w.heap.size 0 (n + 1) dc ⟨vb, 0, none⟩ 1 vc [x] Try.underlying57 hsz (by simp only [List.length_singleton, Nat.min_def]; split <;> omega)
      (fun j v hj => by
        have hj0 : j = 0 := by have := (List.getElem?_eq_some_iff.1 hj).1; simp at this; exact this
        subst hj0
        have e : x = v := by simpa using hj
        rw [Addr.add_lit, hWc, ← e]; exact hOv)
      (fun j hj => by rw [hWc, Nat.zero_add]; exact hN _ (by simp at hj; omega)) (fun j hj => by rw [hWf]; exact hNf _) (fun v hv => by rw [List.mem_singleton.1 hv]; exact h1x)
  have hGn : n + 1 ≤ G := by rw [hG]; exact grownCap_ge w _ _ _
  have hG63 : G ≤ 9223372036854775807 := by
    have := grownCap_le_maxLen w (n + 1) c 3 (by unfold maxLen; omega)
    rw [← hG] at this
    unfold maxLen at this
    omega
  have hGi : ¬ (G = 0) := by omega
  have hGim : ¬ (G = 1) := by omega
  have hci : ¬ (c = 0) := by omega
  have hbN : b ≠ w.heap.size := by omega
  have hcpB : ∀ (W : World), (∀ y, W.cell? y = (W1.setCells w.heap.size 0 [x]).cell? y) → (∀ y, W.frozen? y = (W1.setCells w.heap.size 0 [x]).frozen? y) → ∀ ty dc sc, (Builtin.copy_ #[57, 57] ty #[.slice (some ⟨w.heap.size, 1, none⟩) n dc, .slice (some ⟨b, 0, none⟩) n sc]).run Try.prog W = .ok (goInt cs.length) (W.setCells w.heap.size 1 cs) := fun W hWc hWf ty dc sc =>
    run_copy_cells W _ _ ty 3 w.heap.size 1 n dc ⟨b, 0, none⟩ n sc cs Try.underlying57 hsz (by rw [hcl]; exact (Nat.min_self n).symm)
      (fun j v hj => by
        rw [Addr.add_lit, hWc, World.cell?_setCells_out _ _ _ _ _ (fun h _ => absurd h hbN), Nat.zero_add]
        exact hOb _ v (hcs j v hj))
      (fun j hj => by rw [hWc]; exact isSome_setCells _ _ _ _ (fun t ht => by rw [Nat.zero_add]; exact hN _ (by simp at ht; omega)) _ (hN _ (by omega)))
      (fun j hj => by rw [hWf, World.frozen?_setCells]; exact hNf _) h1c
  subst hW1
  have hE1 : ∀ x, ((w.alloc (.cells ROW 3)).drew).cell? x = (w.drew.alloc (.cells ROW 3)).cell? x := fun x => rfl
  have hE2 : ∀ x, ((w.alloc (.cells ROW 3)).drew).frozen? x = (w.drew.alloc (.cells ROW 3)).frozen? x := fun x => rfl
  have hF1 : ∀ y, (((w.alloc (.cells ROW 3)).drew.setCells w.heap.size 0 [x]).drew).cell? y = ((w.drew.alloc (.cells ROW 3)).setCells w.heap.size 0 [x]).cell? y := fun x => rfl
  have hF2 : ∀ y, (((w.alloc (.cells ROW 3)).drew.setCells w.heap.size 0 [x]).drew).frozen? y = ((w.drew.alloc (.cells ROW 3)).setCells w.heap.size 0 [x]).frozen? y := fun x => rfl
  have hw1 : IntKind.i64.wrap 1 = 1 := by decide
  have hb5 : (1 : Int) ≤ (n : Int) + 1 := by omega
  clear hold hROW hG hRl
  go_enter Try.func82, Try.ntmps82
  go_wp2_with (first
    | (at_builtin; refine Lib.wpList_append_run _ rfl _ _ _ _ rfl _ _ rfl rfl _ _ (hrz _) ?_)
    | (at_builtin; refine wpList_copy_runI _ rfl _ _ 57 25 rfl _ _ rfl rfl (hcpA _ hE1 hE2 _ _) ?_)
    | (at_builtin; refine wpList_copy_runI _ rfl _ _ 57 57 rfl _ _ rfl rfl (hcpB _ (fun _ => rfl) (fun _ => rfl) _ _ _) ?_))
  go_region_law_o (refine step_copy_runI rfl _ _ 57 57 rfl (.slice (some ⟨w.heap.size, 1, none⟩) n (G - 1)) (.slice (some ⟨b, 0, none⟩) n c) (by simp [Act.eval, Act.put]) (by simp [Act.eval, Act.put]) (hcpB _ hF1 hF2 3 (G - 1) c) ?_)
  go_wp2
  go_ret
  exact ⟨rfl, rfl⟩

/-- what an insertion at the front of a pile leaves -/
def PutIn (B : Nat) (A : Option Addr) (n : Nat) (zs : List Int) (w : World) (e : Ending) (w' : World) : Prop :=
  ∃ A' c', e = .returned (.slice A' n c') ∧ w'.ownsRow B 3 1 (.slice A' n c') n (vals zs) ∧ w.grownBy w' (A.map (·.block)) ∧ ∀ k, A'.map (·.block) = some k → A.map (·.block) = some k ∨ w.heap.size ≤ k
theorem ins_pile (B : Nat) (A : Option Addr) (n c vb vc : Nat) (zs : List Int) (x : Int) (w : World) (hn2 : n ≤ 1048576) (hown : w.ownsRow B 3 1 (.slice A n c) n (vals zs))
    (hv : w.heap[vb]? = some (.cells #[.int .i64 x] 3 (0, 0))) (hvb : ∀ k, A.map (·.block) = some k → vb ≠ k) (hB : B ≤ w.heap.size) :
    Calls Try.prog 82 #[.slice A n c, .int .i64 0, .slice (some ⟨vb, 0, none⟩) 1 vc] w (PutIn B A (n + 1) (x :: zs) w) := by
  have hzl : zs.length = n := by have := hown.1; rw [vals_len] at this; omega
  have hx : w.cell? ⟨vb, 0, none⟩ = some (.int .i64 x) := by unfold World.cell?; simp [hv]
  have h1x : (Value.int .i64 x).oneCell' = true := rfl
  have hvz : vals [x] = [Value.int .i64 x] := rfl
  rcases own_full hown with ⟨rfl, rfl, rfl⟩ | ⟨g, ys, rfl, hBg, hgw, hnc, hcm, hyl, hyt, hfull, hsh⟩
  · have hz : zs = [] := List.eq_nil_of_length_eq_zero hzl
    subst hz
    refine (ip_more none 0 0 vb vc [] (.int .i64 x) w (Nat.le_refl _) (by omega) (by omega) rfl (fun _ => rfl) (fun a h => by cases h) hx h1x).mono ?_
    rintro e w' ⟨rfl, rfl⟩
    refine ⟨_, _, rfl, ?_, grown_trans (grown_drew w _) (grown_new _ _ _), fun k h => Or.inr (by simp only [Option.map_some, Option.some.injEq] at h; omega)⟩
    have hg1 := grownCap_ge w (0 + 1) 0 3
    have hg2 := grownCap_le_maxLen w (0 + 1) 0 3 (by unfold maxLen; omega)
    exact own_new_zeros w.drew B [x] 1 _ rfl hB hg1 hg2
  · have hcs : ∀ j v, (vals zs)[j]? = some v → w.cell? ⟨g, j, none⟩ = some v := by
      intro j v h
      have hj : j < n := by
        have := (List.getElem?_eq_some_iff.1 h).1
        rw [vals_len] at this; omega
      rw [hown.cellAt j (by omega), h]
    have hsp : ∀ j, j < c → (w.cell? ⟨g, j, none⟩).isSome = true := by
      intro j hj
      rw [hfull.cellAt j (by omega), List.getElem?_eq_getElem (by omega)]
      rfl
    have hne : vb ≠ g := hvb g rfl
    have hgr : ∀ (w1 : World), w.grownBy w1 (some g) → w.grownBy w1 ((some (⟨g, 0, none⟩ : Addr)).map (·.block)) := fun _ h => h
    by_cases hroom : n + 1 ≤ c
    · by_cases h0 : n = 0
      · subst h0
        have hz : zs = [] := List.eq_nil_of_length_eq_zero hzl
        subst hz
        refine (ip_end g 0 c vb vc (.int .i64 x) w hroom (by unfold maxLen at hcm; omega) hsp (fun j => hfull.frozenAt _) hx h1x).mono ?_
        rintro e w' ⟨rfl, rfl⟩
        have h2 := own_put [Value.int .i64 x] w ys 0 hfull
        rw [putAt_eq _ _ _ (by simp; omega)] at h2
        refine ⟨_, _, rfl, ?_, hgr _ h2.2, fun k h => Or.inl h⟩
        have h3 := own_cut h2.1 (n := 0 + 1) (by omega)
        have e1 : (List.take 0 ys ++ [Value.int .i64 x] ++ List.drop (0 + [Value.int .i64 x].length) ys).take (0 + 1) = vals [x] := by simp [hvz]
        rw [e1] at h3
        exact h3
      · have hsv : w.shape? vb = some (3, 1) := by
          unfold World.shape?
          rw [hv]
          simp
        have hfr : ∀ k, w.frozen? ⟨vb, k, none⟩ = false := by
          intro k
          unfold World.frozen?
          simp [hv]
        refine (ip_shift g n c 0 vb vc (vals zs) (.int .i64 x) w (by omega) hroom (by unfold maxLen at hcm; omega) hne (by rw [vals_len, hzl]) hcs hsp (fun j => hfull.frozenAt _) hx (vals_one zs) h1x _ _ hsv hsh (by omega) hfr).mono ?_
        rintro e w' ⟨rfl, rfl⟩
        have hf2 : w.drew.ownsRow B 3 1 (.slice (some ⟨g, 0, none⟩) c c) c ys := hfull
        have h2 := own_put ((vals zs).drop 0) w.drew ys (0 + 1) hf2
        have h3 := own_put [Value.int .i64 x] _ _ 0 h2.1
        refine ⟨_, _, rfl, ?_, hgr _ (grown_trans (grown_drew w _) (grown_trans h2.2 h3.2)), fun k h => Or.inl h⟩
        have h4 := own_cut h3.1 (n := n + 1) (by omega)
        have e1 : (putAt (putAt ys (0 + 1) ((vals zs).drop 0)) 0 [Value.int .i64 x]).take (n + 1) = vals (x :: zs) := by
          have hzv : (vals zs).length = n := by rw [vals_len, hzl]
          have h1 : (ys.take 1).length = 1 := by rw [List.length_take]; omega
          rw [List.drop_zero, putAt_eq _ ys _ (by omega), putAt_eq _ _ _ (by simp only [List.length_append, List.length_take, List.length_drop, List.length_singleton]; omega)]
          have e3 : List.drop 1 (List.take 1 ys) = [] := List.drop_eq_nil_of_le (by omega)
          simp only [Nat.zero_add, List.take_zero, List.nil_append, List.length_singleton]
          rw [List.append_assoc, List.drop_append_of_le_length (by omega), e3, List.nil_append, ← List.append_assoc, List.take_append_of_le_length (by rw [List.length_append, List.length_singleton]; omega), List.take_of_length_le (by rw [List.length_append, List.length_singleton]; omega)]
          rfl
        rw [e1] at h4
        exact h4
    · have hg1 := grownCap_ge w (n + 1) c 3
      have hg2 := grownCap_le_maxLen w (n + 1) c 3 (by unfold maxLen; omega)
      by_cases h0 : n = 0
      · subst h0
        have hz : zs = [] := List.eq_nil_of_length_eq_zero hzl
        subst hz
        refine (ip_more (some ⟨g, 0, none⟩) 0 c vb vc [] (.int .i64 x) w hnc (by omega) (by omega) rfl (fun _ => rfl) (fun a _ j v h => by simp at h) hx h1x).mono ?_
        rintro e w' ⟨rfl, rfl⟩
        refine ⟨_, _, rfl, ?_, grown_trans (grown_drew w _) (grown_new _ _ _), fun k h => Or.inr (by simp only [Option.map_some, Option.some.injEq] at h; omega)⟩
        exact own_new_zeros w.drew B [x] 1 _ rfl hB hg1 hg2
      · refine (ip_front g n c vb vc (vals zs) (.int .i64 x) w (by omega) hnc (by omega) (by omega) (by rw [vals_len, hzl]) hcs hx (vals_one zs) h1x).mono ?_
        rintro e w' ⟨rfl, rfl⟩
        generalize hK : grownCap w (n + 1) c 3 = K at *
        have hzv : (vals zs).length = n := by rw [vals_len, hzl]
        have ha := own_new w B 3 (Builtin.zeroCells (Value.int .i64 0).cells (n + 1) ++ Builtin.zeroCells (Value.int .i64 0).cells (K - (n + 1))) (n + 1) K hB (by rw [Array.size_append, zeros_size, zeros_size]; omega) hg1 hg2
        generalize hcells : Builtin.zeroCells (Value.int .i64 0).cells (n + 1) ++ Builtin.zeroCells (Value.int .i64 0).cells (K - (n + 1)) = cells at *
        have hsz : cells.size = K := by rw [← hcells, Array.size_append, zeros_size, zeros_size]; omega
        have ha2 : (w.alloc (.cells cells 3)).drew.ownsRow B 3 1 (.slice (some ⟨w.heap.size, 0, none⟩) (n + 1) K) (n + 1) (cells.toList.take (n + 1)) := ha
        have h2 := own_put [Value.int .i64 x] _ _ 0 ha2
        have h2' : ((w.alloc (.cells cells 3)).drew.setCells w.heap.size 0 [Value.int .i64 x]).drew.ownsRow B 3 1 (.slice (some ⟨w.heap.size, 0, none⟩) (n + 1) K) (n + 1) (putAt (cells.toList.take (n + 1)) 0 [Value.int .i64 x]) := h2.1
        have h3 := own_put (vals zs) _ _ 1 h2'
        refine ⟨_, _, rfl, ?_, ?_, fun k h => Or.inr (by simp only [Option.map_some, Option.some.injEq] at h; omega)⟩
        · have e1 : putAt (putAt (cells.toList.take (n + 1)) 0 [Value.int .i64 x]) 1 (vals zs) = vals (x :: zs) := by
            have htl : (cells.toList.take (n + 1)).length = n + 1 := by rw [List.length_take, Array.length_toList]; omega
            rw [putAt_eq _ (cells.toList.take (n + 1)) _ (by simp only [List.length_singleton]; omega), putAt_eq _ _ _ (by simp only [List.length_append, List.length_take, List.length_drop, Array.length_toList, List.length_singleton]; omega)]
            simp only [Nat.zero_add, List.take_zero, List.nil_append, List.length_singleton]
            rw [hzv, List.take_append_of_le_length (by simp), List.take_of_length_le (by simp), List.drop_eq_nil_of_le (by simp only [List.length_append, List.length_take, List.length_drop, Array.length_toList, List.length_singleton]; omega), List.append_nil]
            rfl
          rw [← e1]
          exact h3.1
        · exact grown_new_write (grown_trans (grown_new_write (grown_new w _ _) (grown_trans (grown_drew _ _) h2.2) (Nat.le_refl _)) (grown_drew _ _)) h3.2 (Nat.le_refl _)
end Go.Proofs.Ytpfbjbakcfmngaa.Inp
