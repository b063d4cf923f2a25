/- MoveName and MoveNamed of the program and of the model. -/
import Derived.Test.YtdelaoegfooaoaaMok2
set_option linter.unusedVariables false
namespace Go.Proofs.Ytdelaoegfooaoaa.Nm
open Go.RowKit Fr Own Pk Ins Pfn Rws Lb Cat Mvp Mv1 Mk Mo Mok

def names : List ByteArray := [⟨#[]⟩, ⟨#[99, 117, 116]⟩, ⟨#[100, 101, 97, 108]⟩, ⟨#[102, 108, 105, 112]⟩, ⟨#[102, 97, 114, 111]⟩, ⟨#[109, 111, 110, 103, 101]⟩, ⟨#[109, 105, 108, 107]⟩, ⟨#[100, 117, 99, 107]⟩, ⟨#[116, 117, 114, 110]⟩, ⟨#[117, 110, 100, 101, 114]⟩]
def nmN (i : Nat) : ByteArray := names.getD i ⟨#[]⟩
/-- the name of a kind -/
def nmF (kd : Int) : ByteArray := if 1 ≤ kd ∧ kd ≤ 9 then nmN kd.toNat else ⟨#[]⟩
def namedFrom (s : ByteArray) : Nat → Nat → Nat
  | 0, _ => 0
  | f + 1, i => if nmN i = s then i else namedFrom s f (i + 1)
def namedF (s : ByteArray) : Nat := namedFrom s 9 1
theorem named_hit {s : ByteArray} {f i : Nat} (h : nmN i = s) : namedFrom s (f + 1) i = i := by rw [namedFrom, if_pos h]
theorem named_miss {s : ByteArray} {f i : Nat} (h : ¬ nmN i = s) : namedFrom s (f + 1) i = namedFrom s f (i + 1) := by rw [namedFrom, if_neg h]
theorem named_empty : namedF ⟨#[]⟩ = 0 := by decide
theorem nmF_at (j : Nat) (h1 : 1 ≤ j) (h2 : j ≤ 9) : nmF (j : Int) = nmN j := by unfold nmF; rw [if_pos (by omega)]; rfl
theorem nmF_no {kd : Int} (h : ¬ (1 ≤ kd ∧ kd ≤ 9)) : nmF kd = ⟨#[]⟩ := by unfold nmF; rw [if_neg h]
theorem bytes_eq {a b : ByteArray} (h : a = b) : (a.toList == b.toList) = true := by rw [h]; exact beq_self_eq_true _
theorem bytes_ne {a b : ByteArray} (h : ¬ a = b) : (a.toList == b.toList) = false := by
  rw [beq_eq_false_iff_ne]
  intro e
  rw [ByteArray.toList_eq, ByteArray.toList_eq] at e
  apply h
  cases a; cases b
  simp only at e
  rw [Array.toList_inj.1 e]
theorem ret_s {a b : ByteArray} (h : a = b) : Ending.returned (.string a) = .returned (.string b) := by rw [h]
theorem kind_named (kv : Int) (w : World) (h : 1 ≤ kv ∧ kv ≤ 9) : Calls Try.prog 46 #[.int .i64 kv] w fun e w' => ∃ f1 c1 f2 c2, e = .returned (.tuple #[.agg #[.string (nmF kv), .func (.func f1) #[] c1, .func (.func f2) #[] c2], .bool true]) ∧ Below w.heap.size w w' := by
  rcases (show kv = 1 ∨ kv = 2 ∨ kv = 3 ∨ kv = 4 ∨ kv = 5 ∨ kv = 6 ∨ kv = 7 ∨ kv = 8 ∨ kv = 9 by omega) with rfl | rfl | rfl | rfl | rfl | rfl | rfl | rfl | rfl
  · exact (kind_1 w _ rfl).mono (by rintro e w' ⟨rfl, h⟩; exact ⟨_, _, _, _, rfl, h.below⟩)
  · exact (kind_2 w _ rfl).mono (by rintro e w' ⟨rfl, h⟩; exact ⟨_, _, _, _, rfl, h.below⟩)
  · exact (kind_3 w _ rfl).mono (by rintro e w' ⟨rfl, h⟩; exact ⟨_, _, _, _, rfl, h.below⟩)
  · exact (kind_4 w _ rfl).mono (by rintro e w' ⟨rfl, h⟩; exact ⟨_, _, _, _, rfl, h.below⟩)
  · exact (kind_5 w _ rfl).mono (by rintro e w' ⟨rfl, h⟩; exact ⟨_, _, _, _, rfl, h.below⟩)
  · exact (kind_6 w _ rfl).mono (by rintro e w' ⟨rfl, h⟩; exact ⟨_, _, _, _, rfl, h.below⟩)
  · exact (kind_7 w _ rfl).mono (by rintro e w' ⟨rfl, h⟩; exact ⟨_, _, _, _, rfl, h.below⟩)
  · exact (kind_8 w _ rfl).mono (by rintro e w' ⟨rfl, h⟩; exact ⟨_, _, _, _, rfl, h.below⟩)
  · exact (kind_9 w _ rfl).mono (by rintro e w' ⟨rfl, h⟩; exact ⟨_, _, _, _, rfl, h.below⟩)
set_option maxHeartbeats 1000000 in
theorem impl_name (kd : Int) (w : World) : Calls Try.prog 28 #[.int .i64 kd] w fun e w' => e = .returned (.string (nmF kd)) ∧ Below w.heap.size w w' := by
  by_cases h : 1 ≤ kd ∧ kd ≤ 9
  · have HC := fun w => Lib.hid (kind_named kd w h)
    clear h
    go_enter Try.func28, Try.ntmps28
    go_wp2_with fail
    refine (HC _).out.mono ?_
    rintro e W ⟨f1, c1, f2, c2, rfl, hb⟩
    have HB := fun o => Lib.hid (hb.alloc hb.size o)
    clear hb
    go_wp2
    go_ret
    exact ⟨rfl, (HB _).out⟩
  · have HC := fun w => Lib.hid (kind_no kd w h)
    have HE := Lib.hid (nmF_no h)
    clear h
    go_enter Try.func28, Try.ntmps28
    go_wp2_with fail
    refine (HC _).out.mono ?_
    rintro e W ⟨rfl, hb⟩
    have HB := fun o => Lib.hid (hb.alloc hb.size o)
    clear hb
    go_wp2
    go_ret
    exact ⟨ret_s HE.out.symm, (HB _).out⟩
set_option maxHeartbeats 1000000 in
theorem impl_named (s : ByteArray) (w : World) : Calls Try.prog 30 #[.string s] w fun e w' => e = .returned (.int .i64 (namedF s : Nat)) ∧ Below w.heap.size w w' := by
  obtain ⟨R, hR⟩ : ∃ R, R = namedF s := ⟨_, rfl⟩
  have HI0 := Lib.hid (show namedFrom s (9 - 0) (0 + 1) = R by rw [hR]; rfl)
  rw [← hR]
  clear hR
  go_enter Try.func30, Try.ntmps30
  go_wp2
  go_loopw [3] (fun i wr => ∃ j : Nat, j ≤ 9 ∧ i = .int .i64 ((j : Int) + 1) ∧ Hid (namedFrom s (9 - j) (j + 1) = R) ∧ Below w.heap.size w wr) (fun i _ => 10 - (intOf i).toNat)
  case atStart => exact ⟨0, by omega, rfl, HI0, Below.refl _ w⟩
  case round =>
    obtain ⟨j, hj, rfl, HI, hb⟩ := hrel
    clear HI0
    by_cases hlt : j < 9
    · have hc : ((j : Int) + 1 ≤ 9) := by omega
      go_wp2_with fail
      refine (impl_name _ _).mono ?_
      rintro e W ⟨rfl, hb2⟩
      have HB := Lib.hid (hb.trans (hb2.mono hb.size))
      have hn : nmF ((j : Int) + 1) = nmN (j + 1) := by have := nmF_at (j + 1) (by omega) (by omega); rw [← this]; rfl
      rw [hn]
      clear hb2 hb hn
      by_cases hs : nmN (j + 1) = s
      · have HE := Lib.hid (show j + 1 = R by
          have h := HI.out
          rw [show 9 - j = (9 - (j + 1)) + 1 by omega, named_hit hs] at h
          exact h)
        have hs2 := bytes_eq hs
        clear HI hs
        go_wp2
        go_ret
        exact ⟨congrArg (fun z : Nat => Ending.returned (.int .i64 (z : Int))) HE.out, HB.out⟩
      · have HI2 := Lib.hid (show namedFrom s (9 - (j + 1)) (j + 1 + 1) = R by
          have h := HI.out
          rw [show 9 - j = (9 - (j + 1)) + 1 by omega, named_miss hs] at h
          exact h)
        have hs2 := bytes_ne hs
        clear HI hs
        go_wp2
        go_roundw
        case rel => exact ⟨j + 1, by omega, by go_num, HI2, HB.out⟩
        case measure => simp [intOf]; omega
    · have hj9 : j = 9 := by omega
      subst hj9
      have HE := Lib.hid (show 0 = R from HI.out)
      clear HI hlt
      go_wp2
      go_ret
      exact ⟨congrArg (fun z : Nat => Ending.returned (.int .i64 (z : Int))) HE.out, hb⟩
theorem names_any (w : World) : Calls Try.prog 52 #[] w fun e w' => e = .returned (.slice (some ⟨w.heap.size, 0, none⟩) 10 10) ∧ w' = w.alloc (.cells #[.string ⟨#[]⟩, .string ⟨#[99, 117, 116]⟩, .string ⟨#[100, 101, 97, 108]⟩, .string ⟨#[102, 108, 105, 112]⟩, .string ⟨#[102, 97, 114, 111]⟩, .string ⟨#[109, 111, 110, 103, 101]⟩, .string ⟨#[109, 105, 108, 107]⟩, .string ⟨#[100, 117, 99, 107]⟩, .string ⟨#[116, 117, 114, 110]⟩, .string ⟨#[117, 110, 100, 101, 114]⟩] 9) := by
  go_enter Try.func52, Try.ntmps52
  go_wp2
  go_ret
  exact ⟨rfl, rfl⟩
theorem names_cell (w : World) (j : Nat) (hj : j < 10) : (w.alloc (.cells #[.string ⟨#[]⟩, .string ⟨#[99, 117, 116]⟩, .string ⟨#[100, 101, 97, 108]⟩, .string ⟨#[102, 108, 105, 112]⟩, .string ⟨#[102, 97, 114, 111]⟩, .string ⟨#[109, 111, 110, 103, 101]⟩, .string ⟨#[109, 105, 108, 107]⟩, .string ⟨#[100, 117, 99, 107]⟩, .string ⟨#[116, 117, 114, 110]⟩, .string ⟨#[117, 110, 100, 101, 114]⟩] 9)).cell? ⟨w.heap.size, j, none⟩ = some (.string (nmN j)) := by
  have h := heap_alloc_new w (.cells #[.string ⟨#[]⟩, .string ⟨#[99, 117, 116]⟩, .string ⟨#[100, 101, 97, 108]⟩, .string ⟨#[102, 108, 105, 112]⟩, .string ⟨#[102, 97, 114, 111]⟩, .string ⟨#[109, 111, 110, 103, 101]⟩, .string ⟨#[109, 105, 108, 107]⟩, .string ⟨#[100, 117, 99, 107]⟩, .string ⟨#[116, 117, 114, 110]⟩, .string ⟨#[117, 110, 100, 101, 114]⟩] 9)
  unfold World.cell?
  rw [h]
  rcases (show j = 0 ∨ j = 1 ∨ j = 2 ∨ j = 3 ∨ j = 4 ∨ j = 5 ∨ j = 6 ∨ j = 7 ∨ j = 8 ∨ j = 9 by omega) with rfl | rfl | rfl | rfl | rfl | rfl | rfl | rfl | rfl | rfl <;> rfl
set_option maxHeartbeats 1000000 in
theorem spec_name (kd : Int) (w : World) : Calls Try.prog 27 #[.int .i64 kd] w fun e w' => e = .returned (.string (nmF kd)) ∧ Below w.heap.size w w' := by
  by_cases h : 1 ≤ kd ∧ kd ≤ 9
  · obtain ⟨j, rfl⟩ : ∃ j : Nat, kd = j := ⟨kd.toNat, by omega⟩
    have hj : j < 10 := by omega
    have HE := Lib.hid (nmF_at j (by omega) (by omega))
    have HC := Lib.hid (names_cell w j hj)
    have HB := fun o => Lib.hid ((Below.refl w.heap.size w).alloc (Nat.le_refl _) o)
    obtain ⟨h1, h2⟩ := h
    go_enter Try.func27, Try.ntmps27
    go_wp2_with fail
    refine (in_yes _ _ _ _ h1 h2).mono ?_
    rintro e w' ⟨rfl, rfl⟩
    go_wp2_with fail
    refine (names_any _).mono ?_
    rintro e W ⟨rfl, hW⟩
    have hb : Below w.heap.size w W := by rw [hW]; exact (HB _).out
    have hc : W.cell? ⟨w.heap.size, j, none⟩ = some (.string (nmN j)) := by rw [hW]; exact HC.out
    clear hW HC HB
    generalize nmN j = x at *
    go_wp2
    go_ret
    exact ⟨ret_s HE.out.symm, hb⟩
  · have HE := Lib.hid (nmF_no h)
    have HN := Lib.hid h
    clear h
    go_enter Try.func27, Try.ntmps27
    go_wp2_with fail
    refine (in_no _ _ _ _ HN.out).mono ?_
    rintro e w' ⟨rfl, rfl⟩
    go_wp2
    go_ret
    exact ⟨ret_s HE.out.symm, Below.refl _ w⟩
set_option maxHeartbeats 1000000 in
theorem spec_named (s : ByteArray) (w : World) : Calls Try.prog 29 #[.string s] w fun e w' => e = .returned (.int .i64 (namedF s : Nat)) ∧ Below w.heap.size w w' := by
  obtain ⟨R, hR⟩ : ∃ R, R = namedF s := ⟨_, rfl⟩
  have HI0 := Lib.hid (show s = ⟨#[]⟩ → R = 0 by intro h; rw [hR, h]; exact named_empty)
  have HI1 := Lib.hid (show namedFrom s 9 1 = R by rw [hR]; rfl)
  have HC := Lib.hid (names_cell w)
  have HB := fun o => Lib.hid ((Below.refl w.heap.size w).alloc (Nat.le_refl _) o)
  rw [← hR]
  clear hR
  go_enter Try.func29, Try.ntmps29
  go_wp2_with fail
  refine (names_any _).mono ?_
  rintro e W ⟨rfl, hW⟩
  have HBW := Lib.hid (show Below w.heap.size w W by rw [hW]; exact (HB _).out)
  have HCW := Lib.hid (show ∀ j, j < 10 → W.cell? ⟨w.heap.size, j, none⟩ = some (.string (nmN j)) by rw [hW]; exact HC.out)
  clear hW HC HB
  go_wp2
  go_loop [3, 4, 7] (fun _ _ i => ∃ j : Nat, j ≤ 10 ∧ i = .int .i64 (j : Int) ∧ Hid (1 ≤ j → namedFrom s (10 - j) j = R)) (fun _ _ i => 10 - (intOf i).toNat)
  case atStart => exact ⟨0, by omega, rfl, fun h => absurd h (by decide)⟩
  case round =>
    obtain ⟨j, hj, rfl, HI⟩ := hrel
    by_cases hlt : j < 10
    · have hc := HCW.out j hlt
      by_cases hs : nmN j = s
      · have HE := Lib.hid (show j = R by
          rcases Nat.eq_zero_or_pos j with h0 | h0
          · subst h0
            exact (HI0.out hs.symm).symm
          · have h := HI.out h0
            rw [show 10 - j = (10 - (j + 1)) + 1 by omega, named_hit hs] at h
            exact h)
        have hs2 := bytes_eq hs
        clear HI hs HI0 HI1
        generalize nmN j = x at *
        go_wp2
        go_ret
        exact ⟨congrArg (fun z : Nat => Ending.returned (.int .i64 (z : Int))) HE.out, HBW.out⟩
      · have HI2 := Lib.hid (show 1 ≤ j + 1 → namedFrom s (10 - (j + 1)) (j + 1) = R by
          intro _
          rcases Nat.eq_zero_or_pos j with h0 | h0
          · subst h0
            exact HI1.out
          · have h := HI.out h0
            rw [show 10 - j = (10 - (j + 1)) + 1 by omega, named_miss hs] at h
            exact h)
        have hs2 := bytes_ne hs
        clear HI hs HI0 HI1
        generalize nmN j = x at *
        go_wp2
        go_round
        case rel => exact ⟨j + 1, by omega, by go_num, HI2⟩
        case measure => simp [intOf]; omega
    · have hj10 : j = 10 := by omega
      subst hj10
      have HE := Lib.hid (show 0 = R from HI.out (by decide))
      clear HI hlt HI0 HI1
      go_wp2
      go_ret
      exact ⟨congrArg (fun z : Nat => Ending.returned (.int .i64 (z : Int))) HE.out, HBW.out⟩
end Go.Proofs.Ytdelaoegfooaoaa.Nm
