/- FaroGroup of the program. -/
import Derived.Test.YtpbpgpccjabghaaShg
import Derived.Test.YtpbpgpccjabghaaSho
set_option linter.unusedVariables false
set_option maxRecDepth 20000
namespace Go.Proofs.Ytpbpgpccjabghaa.Fgi
open Go.RowKit Go.Maps Fr Own Pk Pok Arr Ins Nwp Pfn Rws Lb Cat Mvp Mv1 Mv2 Mv3 Mv4 Mk Mok2 Pf Sv Sv2 Sv3 Do Pa Fsz Prm Fpm Bfs Fps Map Grf Shi Ard Shg

def fgB (n : Int) : Bool := szB n && decide (n ≤ 8)
def fgF (n : Int) : Int := if fgB n then (gN n.toNat : Nat) else -1
theorem fgF_no {n : Int} (h : fgB n = false) : fgF n = -1 := by unfold fgF; rw [h]; rfl
theorem fgF_yes {n : Int} (h : fgB n = true) : fgF n = (gN n.toNat : Nat) := by unfold fgF; rw [h]; rfl
theorem fg_parts {n : Int} (h : fgB n = true) : ∃ m : Nat, n = m ∧ 2 ≤ m ∧ m ≤ 8 ∧ m % 2 = 0 ∧ szB (m : Int) = true := by
  unfold fgB at h
  rw [Bool.and_eq_true, decide_eq_true_eq] at h
  obtain ⟨p1, p2, p3⟩ := sz_parts h.1
  exact ⟨n.toNat, by omega, by omega, by omega, by omega, by have e : ((n.toNat : Nat) : Int) = n := by omega
                                                             rw [e]; exact h.1⟩
theorem Perms.mono {n p B B' : Nat} {W : World} (h : Perms n p B W) (hB : B ≤ B') : Perms n p B' W := by
  obtain ⟨h1, v0, v1, hc, ⟨A0, c0, e0, o0, b0⟩, ⟨A1, c1, e1, o1, b1⟩⟩ := h
  exact ⟨by omega, v0, v1, hc, ⟨A0, c0, e0, o0, fun j hj => by have := b0 j hj; omega⟩, ⟨A1, c1, e1, o1, fun j hj => by have := b1 j hj; omega⟩⟩

theorem five (w : World) (A0 A1 : Option Addr) (n c0 c1 : Nat) : ∃ W5, W5 = (w.alloc (.cells #[.slice A0 n c0, .slice A1 n c1] 59)).alloc (.cells #[.int .i64 0, .int .i64 0, .int .i64 0, .int .i64 0, .int .i64 0, .int .i64 0, .int .i64 0, .int .i64 0] 73) ∧
    W5.heap[w.heap.size + 1]? = some (.cells Z8 73 (0, 0)) ∧ Below (w.heap.size + 1) (w.alloc (.cells #[.slice A0 n c0, .slice A1 n c1] 59)) W5 ∧ W5.heap.size = w.heap.size + 2 := by
  have s1 : (w.alloc (.cells #[.slice A0 n c0, .slice A1 n c1] 59)).heap.size = w.heap.size + 1 := by simp
  generalize w.alloc (.cells #[.slice A0 n c0, .slice A1 n c1] 59) = w1 at *
  have e1 := heap_alloc_new w1 (.cells Z8 73)
  have b1 := (Below.refl w1.heap.size w1).alloc (Nat.le_refl _) (.cells Z8 73)
  rw [s1] at e1 b1
  exact ⟨_, rfl, e1, b1, by simp [s1]⟩
set_option maxHeartbeats 2000000 in
theorem impl_fg (n : Int) (w : World) (h1 : -9223372036854775808 ≤ n) (h2 : n ≤ 9223372036854775807) :
    Calls Try.prog 26 #[.int .i64 n] w fun e w' => e = .returned (.int .i64 (fgF n)) ∧ Below w.heap.size w w' := by
  cases hb : fgB n with
  | false =>
    rw [fgF_no hb]
    cases hs : szB n with
    | false =>
      have HS := Lib.hid hs
      clear hs hb
      go_enter Try.func26, Try.ntmps26
      go_wp2_with fail
      refine (impl_sz n _ h1 h2).mono ?_
      rintro e w1 ⟨rfl, rfl⟩
      rw [HS.out]
      go_wp2
      go_ret
      exact ⟨rfl, Below.refl _ _⟩
    | true =>
      have HS := Lib.hid hs
      have h8 : 8 < n := by
        unfold fgB at hb
        rw [hs, Bool.true_and, decide_eq_false_iff_not] at hb
        omega
      clear hs hb
      go_enter Try.func26, Try.ntmps26
      go_wp2_with fail
      refine (impl_sz n _ h1 h2).mono ?_
      rintro e w1 ⟨rfl, rfl⟩
      rw [HS.out]
      go_wp2
      go_ret
      exact ⟨rfl, Below.refl _ _⟩
  | true =>
    rw [fgF_yes hb]
    obtain ⟨m, rfl, p1, p2, p3, hs⟩ := fg_parts hb
    rw [show (m : Int).toNat = m from rfl]
    have HS := Lib.hid hs
    have h8 : decide ((8 : Int) < (m : Int)) = false := decide_eq_false (by omega)
    have HNW := Lib.hid (newF_yes m (by omega))
    have HLI := Lib.hid (imarks_length 0 m)
    have HRL := Lib.hid (run_grp p1 p2 p3).len
    clear hs hb
    go_enter Try.func26, Try.ntmps26
    go_wp2_with fail
    refine (impl_sz _ _ h1 h2).mono ?_
    rintro e w1 ⟨rfl, rfl⟩
    rw [HS.out]
    go_wp2_with fail
    refine (impl_fps m _ p1 (by omega) p3).mono ?_
    rintro e w2 ⟨v0, v1, rfl, ⟨A0, c0, rfl, ho0⟩, ⟨A1, c1, rfl, ho1⟩, hb2⟩
    have HP2 := Lib.hid (Sho.two_lie ho0 ho1)
    have hw2 := hb2.size
    have HB2 := Lib.hid (hb2.alloc hb2.size (.cells #[.slice A0 m c0, .slice A1 m c1] 59))
    clear hb2 ho0 ho1
    go_upto_region 5 with fail
    obtain ⟨W5, hW5, z5, b5, s5⟩ := five w2 A0 A1 m c0 c1
    have HP5 := Lib.hid (show Perms m w2.heap.size (w2.heap.size + 1) W5.drew from (by
      have h := HP2.out
      rw [show (w2.alloc (.cells #[.slice A0 m c0, .slice A1 m c1] 59)).heap.size = w2.heap.size + 1 by simp] at h
      exact (h.below b5).below (Below.refl _ _).drew))
    have HB5 := Lib.hid (show Below w.heap.size w W5.drew from (HB2.out.trans (b5.mono (by have := HB2.out.size; simp at this; omega))).drew)
    have HZ5 := Lib.hid (show W5.drew.heap[w2.heap.size + 1]? = some (.cells Z8 73 (0, 0)) from z5)
    have hs5 : W5.drew.heap.size = w2.heap.size + 2 := s5
    have hml : (-9223372036854775808 : Int) ≤ (m : Int) := h1
    rw [← hW5]
    clear hW5 z5 b5 s5 HP2 HB2
    go_region_law (first | (go_simp; go_at_call 21; refine (Pfn.impl_id (m : Int) W5.drew h1 h2).mono ?_; rintro e w3 ⟨A3, c3, rfl, ho3, hb3⟩; rw [HNW.out, HLI.out] at ho3; rw [HNW.out, HLI.out]; have HO3 := Lib.hid ho3; have HP3 := Lib.hid (HP5.out.below (hb3.mono (by omega))); have HB3 := Lib.hid (HB5.out.trans (hb3.mono HB5.out.size)); have HE2 := Lib.hid ((hb3.block (w2.heap.size + 1) (by omega)).trans HZ5.out); have hs3 := hb3.size; clear ho3 hb3) | (refine step_copy_splice rfl (.tmp 14) (.tmp 16) 24 24 rfl 3 Try.underlying24 (by kernel_rfl) (some ⟨w2.heap.size + 1, 0, none⟩) A3 8 8 m c3 (by simp [Act.eval]) (by simp [Act.eval]) (w2.heap.size + 1) 0 Z8.toList 73 HE2.out (vals (imarks 0 m)) (len_min HLI.out p2) (copy_pos HO3.out rfl) (by rw [vals_len, HLI.out]; show 0 + m ≤ 8; omega) (vals_one (imarks 0 m)) (w2.heap.size + 1) w3 (Below.refl _ _) (Nat.le_refl _) ?_; intro w4 hg4 hb4) | fail)
    have hi8 : (iot m).length ≤ 8 := by unfold iot; rw [HLI.out]; exact p2
    have HG4 := Lib.hid (show w4.heap[w2.heap.size + 1]? = some (.cells (cells8 (iot m)) 73 (0, 0)) by rw [hg4.out]; exact congrArg (fun c => some (Obj.cells c 73 (0, 0))) (splice_pad hi8))
    have HP4 := Lib.hid (Perms.mono (HP3.out.below hb4) (show w2.heap.size + 1 ≤ w4.heap.size by have := hb4.size; omega))
    have HB4 := Lib.hid (HB3.out.trans (hb4.mono (by omega)))
    have HI8 := Lib.hid (info8 hi8)
    clear hg4 hb4 HE2 HO3 HP3 HB3
    go_wp2_with (first | (refine wpList_load_row rfl 73 (.tmp 4) rfl (w2.heap.size + 1) rfl 73 (cells8 (iot m)) (0, 0) _ HG4.out Try.underlying73 rfl HI8.out ?_) | fail)
    refine (impl_listsG m w2.heap.size w4 p1 p2 p3 HP4.out).mono ?_
    rintro e w6 ⟨b, RS, rfl, hM, hlen, hb6⟩
    have HB6 := Lib.hid (HB4.out.trans (hb6.mono HB4.out.size))
    have hlen2 := fun ty => hM.size Try.underlying74 ty
    rw [kg_len hlen, HRL.out] at hlen2
    clear hM hlen hb6
    go_wp2
    go_ret
    exact ⟨rfl, HB6.out⟩
end Go.Proofs.Ytpbpgpccjabghaa.Fgi
