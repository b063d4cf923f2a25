/- slices.Insert of one list among lists, where there is room. -/
import Derived.Test.YtpfbjbakcfmngaaRws
import Derived.Test.YtpfbjbakcfmngaaLb
import Derived.Shelf.Spec.SlicesInsertGrow
set_option linter.unusedVariables false
set_option linter.unusedSimpArgs false
set_option maxRecDepth 20000
namespace Go.Proofs.Ytpfbjbakcfmngaa.Inw
open Go.RowKit Go.Lib Fr _root_.Go.Proofs.Ytpfbjbakcfmngaa.Own Pk Ins Rws Lb

theorem iw_mixed : Try.prog.follows .mixedOrders = true := by kernel_rfl
theorem iw_apart (w : World) (vb vc b o lb cb kB : Nat) (tB : TypeId) (hvb : vb ≠ b) (hsa : w.shape? vb = some (25, 1)) (hsb : w.shape? b = some (tB, kB)) (hkB : kB ≠ 0) (hfz : ∀ k, w.frozen? ⟨vb, k, none⟩ = false) :
    (callFunc 78 #[.slice (some ⟨vb, 0, none⟩) 1 vc, .slice (some ⟨b, o, none⟩) lb cb]).run Try.prog w = .ok (.value (.bool false)) w := by
  rw [run_callFunc_extern Try.func78 (by kernel_rfl) (by kernel_rfl) (by kernel_rfl) (e := Extern.SlicesOverlaps.overlaps #[28, 28] #[4]) (by kernel_rfl),
    Lib.run_overlaps_apart w 28 4 25 Try.underlying28 1 Try.sizeOf25 ⟨vb, 0, none⟩ ⟨b, o, none⟩ 1 vc lb cb hvb 25 tB 1 kB hsa hsb hkB (hfz 0) (hfz 1)]
  rfl
set_option maxHeartbeats 4000000 in
/-- there is room, and i is not the end -/
theorem iw_shift (b n c i vb vc : Nat) (cs : List Value) (x : Value) (w : World) (hi : i < n) (hroom : n + 1 ≤ c) (hc63 : c ≤ 9223372036854775807) (hvb : vb ≠ b) (hcl : cs.length = n)
    (hcs : ∀ j v, cs[j]? = some v → w.cell? ⟨b, j, none⟩ = some v) (hsp : ∀ j, j < c → (w.cell? ⟨b, j, none⟩).isSome = true) (hfz : ∀ j, w.frozen? ⟨b, j, none⟩ = false)
    (hx : w.cell? ⟨vb, 0, none⟩ = some x) (h1c : ∀ v ∈ cs, v.oneCell' = true) (h1x : x.oneCell' = true) (tB : TypeId) (kB : Nat) (hsa : w.shape? vb = some (25, 1)) (hsb : w.shape? b = some (tB, kB)) (hkB : kB ≠ 0) (hfv : ∀ k, w.frozen? ⟨vb, k, none⟩ = false) :
    Calls Try.prog 60 #[.slice (some ⟨b, 0, none⟩) n c, .int .i64 (i : Int), .slice (some ⟨vb, 0, none⟩) 1 vc] w fun e w' => e = .returned (.slice (some ⟨b, 0, none⟩) (n + 1) c) ∧ w' = (w.drew.setCells b (i + 1) (cs.drop i)).setCells b i [x] := by
  have mixed := iw_mixed
  have hov := fun lb cb => iw_apart w vb vc b (i + 1) lb cb kB tB hvb hsa hsb hkB hfv
  have hsz : (Try.prog.info? 25).map (·.size) = some 1 := by kernel_rfl
  have hz2 : ¬ ((i : Int) = (n : Int)) := by omega
  have hz3 : ¬ ((c : Int) < (n : Int) + 1) := by omega
  have hdl : (cs.drop i).length = n - i := by rw [List.length_drop, hcl]
  have hw1 : IntKind.i64.wrap ((i : Int) + 1) = (i : Int) + 1 := by rw [IntKind.wrap_i64]; omega
  have hb1 : (0 : Int) ≤ (i : Int) + 1 := by omega
  have hin : i ≤ n := by omega
  have hb2 : ¬ (c = i + 1) := by omega
  have hb3 : (i : Int) ≤ (n : Int) + 1 := by omega
  have hb4 : ¬ (c = i) := by omega
  have htn : ((i : Int) + 1).toNat = i + 1 := by omega
  have hcp1 : ∀ ty dc sc, (Builtin.copy_ #[28, 28] ty #[.slice (some ⟨b, i + 1, none⟩) (n - i) dc, .slice (some ⟨b, i, none⟩) (n + 1 - i) sc]).run Try.prog w.drew = .ok (goInt (cs.drop i).length) (w.drew.setCells b (i + 1) (cs.drop i)) := fun ty dc sc =>
    run_copy_cells w.drew _ _ ty 25 b (i + 1) (n - i) dc ⟨b, i, none⟩ (n + 1 - i) sc (cs.drop i) Try.underlying28 hsz (by rw [hdl]; simp only [Nat.min_def]; split <;> omega)
      (fun j v hj => by rw [Addr.add_lit]; exact hcs (i + j) v (by rwa [List.getElem?_drop] at hj))
      (fun j hj => hsp _ (by omega)) (fun j hj => hfz _) (fun v hv => h1c v (List.mem_of_mem_drop hv))
  obtain ⟨W1, hW1⟩ : ∃ W1, W1 = w.drew.setCells b (i + 1) (cs.drop i) := ⟨_, rfl⟩
  have hcp2 : ∀ (W : World), (∀ x, W.cell? x = W1.cell? x) → (∀ x, W.frozen? x = W1.frozen? x) → ∀ ty dc, (Builtin.copy_ #[28, 28] ty #[.slice (some ⟨b, i, none⟩) (n + 1 - i) dc, .slice (some ⟨vb, 0, none⟩) 1 vc]).run Try.prog W = .ok (goInt [x].length) (W.setCells b i [x]) := fun W hWc hWf ty dc =>
    run_copy_cells W _ _ ty 25 b i (n + 1 - i) dc ⟨vb, 0, none⟩ 1 vc [x] Try.underlying28 hsz (by simp only [List.length_singleton, Nat.min_def]; split <;> omega)
      (fun j v hj => by
        have hj0 : j = 0 := by have := (List.getElem?_eq_some_iff.1 hj).1; simp at this; exact this
        subst hj0
        have e : x = v := by simpa using hj
        rw [Addr.add_lit, hWc, hW1, World.cell?_setCells_out b _ _ _ _ (fun h _ => absurd h hvb), ← e]
        exact hx)
      (fun j hj => by
        rw [hWc, hW1]
        exact isSome_setCells b (cs.drop i) (i + 1) w.drew (fun t ht => hsp (i + 1 + t) (by omega)) (i + j) (hsp (i + j) (by simp at hj; omega)))
      (fun j hj => by rw [hWf, hW1, World.frozen?_setCells]; exact hfz _) (fun v hv => by rw [List.mem_singleton.1 hv]; exact h1x)
  rw [← hW1] at hcp1
  go_enter Try.func60, Try.ntmps60
  go_wp2_with (simp only [hov])
  go_region_law_o (refine step_copy_runI rfl _ _ 28 28 rfl _ _ (by simp [Act.eval, Act.put]) (by simp [Act.eval, Act.put]) (hcp1 _ _ _) ?_)
  go_wp2_with (at_builtin; refine wpList_copy_runI _ rfl _ _ 28 28 rfl _ _ rfl rfl (hcp2 _ (fun _ => rfl) (fun _ => rfl) _ _) ?_)
  go_ret
  first | exact ⟨rfl, rfl⟩ | exact ⟨rfl, by rw [hW1]⟩
set_option maxHeartbeats 4000000 in
/-- at the end, and there is room -/
theorem iw_end (b n c vb vc : Nat) (x : Value) (w : World) (hroom : n + 1 ≤ c) (hc63 : c ≤ 9223372036854775807) (hsp : ∀ j, j < c → (w.cell? ⟨b, j, none⟩).isSome = true) (hfz : ∀ j, w.frozen? ⟨b, j, none⟩ = false)
    (hx : w.cell? ⟨vb, 0, none⟩ = some x) (h1x : x.oneCell' = true) :
    Calls Try.prog 60 #[.slice (some ⟨b, 0, none⟩) n c, .int .i64 (n : Int), .slice (some ⟨vb, 0, none⟩) 1 vc] w fun e w' => e = .returned (.slice (some ⟨b, 0, none⟩) (n + 1) c) ∧ w' = w.setCells b n [x] := by
  have mixed := iw_mixed
  have hinf : (Try.prog.info? 25).map (fun i => (i.zero, i.size, i.bytes)) = some (some (Value.slice none 0 0), 1, 24) := by kernel_rfl
  have hsrc : Src Try.prog 1 28 (.slice (some ⟨vb, 0, none⟩) 1 vc) 1 [x] w := Src.ofSlice w Try.underlying28 ⟨vb, 0, none⟩ 1 vc [x] (by simp) (fun j u hj => by
    have hj0 : j = 0 := by have := (List.getElem?_eq_some_iff.1 hj).1; simp at this; exact this
    subst hj0
    have e : x = u := by simpa using hj
    rw [Addr.add_lit, ← e]; exact hx) (fun v hv => by rw [List.mem_singleton.1 hv]; exact h1x)
  go_enter Try.func60, Try.ntmps60
  go_wp2_with (at_builtin; refine wpList_append_room1 _ rfl _ _ 28 28 rfl 25 _ _ Try.underlying28 hinf b 0 n c rfl _ rfl 1 [x] hsrc hroom (fun j hj => by simp at hj; simpa using hsp (n + j) (by omega)) (fun j hj => by simpa using hfz (n + j)) ?_)
  go_ret
  simp
end Go.Proofs.Ytpfbjbakcfmngaa.Inw
