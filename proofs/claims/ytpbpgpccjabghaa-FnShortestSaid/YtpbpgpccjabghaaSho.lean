/- ShortestFaro of the program. -/
import Derived.Test.YtpbpgpccjabghaaShi
set_option linter.unusedVariables false
set_option maxRecDepth 20000
namespace Go.Proofs.Ytpbpgpccjabghaa.Sho
open Go.RowKit Go.Maps Fr Own Pk Pok Arr Ins Nwp Pfn Rws Lb Cat Mvp Mv1 Mv2 Mv3 Mv4 Mk Mok2 Pf Sv Sv2 Sv3 Do Pa Fsz Prm Fpm Bfs Fps Map Shi

def shB (n f t : Int) : Bool := szB n && decide (0 ≤ f ∧ f ≤ n - 1) && decide (0 ≤ t ∧ t ≤ n - 1)
def shF (n f t : Int) : List Int := if shB n f t then found (nxI n.toNat) 0 f n.toNat t else []
theorem shF_no {n f t : Int} (h : shB n f t = false) : shF n f t = [] := by unfold shF; rw [h]; rfl
theorem shF_yes {n f t : Int} (h : shB n f t = true) : shF n f t = found (nxI n.toNat) 0 f n.toNat t := by unfold shF; rw [h]; rfl
theorem sh_parts {n f t : Int} (h : shB n f t = true) : ∃ m : Nat, n = m ∧ 2 ≤ m ∧ m ≤ 12 ∧ m % 2 = 0 ∧ (0 ≤ f ∧ f < m) ∧ 0 ≤ t ∧ t < m := by
  unfold shB at h
  simp only [Bool.and_eq_true, decide_eq_true_eq] at h
  obtain ⟨⟨h1, h2⟩, h3⟩ := h
  obtain ⟨p1, p2, p3⟩ := sz_parts h1
  exact ⟨n.toNat, by omega, by omega, by omega, by omega, by omega, by omega⟩
theorem idx_lt {l : List Int} {x : Int} (h : x ∈ l) : l.idxOf x < l.length ∧ l.getD (l.idxOf x) 0 = x := by
  have h1 := List.idxOf_lt_length_of_mem h
  refine ⟨h1, ?_⟩
  rw [List.getD_eq_getElem?_getD, List.getElem?_eq_getElem h1]
  simp
theorem found_in {n : Nat} {f t : Int} (h1 : 2 ≤ n) (h2 : n ≤ 12) (h3 : n % 2 = 0) (hf0 : 0 ≤ f) (hf : f < n) (ht0 : 0 ≤ t) (ht : t < n) : t ∈ (runB (nxI n) 0 f n).1 := by
  have R := run_int h1 h2 h3 hf0 hf
  exact all_found R.len R.fin.nodup R.fin.good ht0 ht
theorem shF_short (n f t : Int) : (shF n f t).length ≤ 1048576 := by
  cases h : shB n f t with
  | false => rw [shF_no h]; exact Nat.zero_le _
  | true =>
    obtain ⟨m, rfl, h1, h2, h3, ⟨h4, h5⟩, h6, h7⟩ := sh_parts h
    rw [shF_yes h]
    have R := run_int h1 h2 h3 h4 h5
    have hi := (idx_lt (found_in h1 h2 h3 h4 h5 h6 h7)).1
    rw [← R.fin.same] at hi
    have := R.fin.short (found (nxI m) 0 f m t) (by
      unfold found
      rw [List.getD_eq_getElem?_getD, List.getElem?_eq_getElem hi]
      exact List.getElem_mem hi)
    show (found (nxI m) 0 f m t).length ≤ 1048576
    omega
theorem two_lie {W : World} {lo n c0 c1 : Nat} {A0 A1 : Option Addr} (h0 : W.ownsRow lo 3 1 (.slice A0 n c0) n (vals (pomF n 4 (0 : Nat)))) (h1 : W.ownsRow lo 3 1 (.slice A1 n c1) n (vals (pomF n 4 (1 : Nat)))) :
    Perms n W.heap.size (W.alloc (.cells #[.slice A0 n c0, .slice A1 n c1] 59)).heap.size (W.alloc (.cells #[.slice A0 n c0, .slice A1 n c1] 59)) := by
  refine ⟨by simp, _, _, heap_alloc_new W _, ⟨A0, c0, rfl, own_mono (h0.alloc _) (Nat.zero_le _), fun j hj => ?_⟩, ⟨A1, c1, rfl, own_mono (h1.alloc _) (Nat.zero_le _), fun j hj => ?_⟩⟩
  · exact (own_lo (h0.alloc _) j hj).2
  · exact (own_lo (h1.alloc _) j hj).2
set_option maxHeartbeats 1000000 in
theorem impl_sho (n f t : Int) (w : World) (h1 : -9223372036854775808 ≤ n) (h2 : n ≤ 9223372036854775807) (h3 : -9223372036854775808 ≤ f) (h4 : f ≤ 9223372036854775807) (h5 : -9223372036854775808 ≤ t) (h6 : t ≤ 9223372036854775807) :
    Calls Try.prog 22 #[.int .i64 n, .int .i64 f, .int .i64 t] w (IsILB w.heap.size (shF n f t) (shB n f t) w) := by
  cases hb : shB n f t with
  | false =>
    rw [shF_no hb]
    cases hs : szB n with
    | false =>
      have HS := Lib.hid hs
      clear hs hb
      go_enter Try.func22, Try.ntmps22
      go_wp2_with fail
      refine (impl_sz n _ h1 h2).mono ?_
      rintro e w1 ⟨rfl, rfl⟩
      rw [HS.out]
      go_wp2
      go_ret2
      exact nil_ilb _ _
    | true =>
      have hk : ¬ ((0 ≤ f ∧ f ≤ n - 1) ∧ 0 ≤ t ∧ t ≤ n - 1) := fun h => by unfold shB at hb; rw [hs, decide_eq_true h.1, decide_eq_true h.2] at hb; cases hb
      have HS := Lib.hid hs
      clear hs hb
      by_cases a1 : f < 0
      · clear hk
        go_enter Try.func22, Try.ntmps22
        go_wp2_with fail
        refine (impl_sz n _ h1 h2).mono ?_
        rintro e w1 ⟨rfl, rfl⟩
        rw [HS.out]
        go_wp2
        go_ret2
        exact nil_ilb _ _
      · have a1' : decide (f < 0) = false := decide_eq_false a1
        by_cases a2 : n ≤ f
        · clear hk
          go_enter Try.func22, Try.ntmps22
          go_wp2_with fail
          refine (impl_sz n _ h1 h2).mono ?_
          rintro e w1 ⟨rfl, rfl⟩
          rw [HS.out]
          go_wp2
          go_ret2
          exact nil_ilb _ _
        · have a2' : decide (n ≤ f) = false := decide_eq_false a2
          by_cases a3 : t < 0
          · clear hk
            go_enter Try.func22, Try.ntmps22
            go_wp2_with fail
            refine (impl_sz n _ h1 h2).mono ?_
            rintro e w1 ⟨rfl, rfl⟩
            rw [HS.out]
            go_wp2
            go_ret2
            exact nil_ilb _ _
          · have a3' : decide (t < 0) = false := decide_eq_false a3
            have a4 : n ≤ t := by omega
            clear hk
            go_enter Try.func22, Try.ntmps22
            go_wp2_with fail
            refine (impl_sz n _ h1 h2).mono ?_
            rintro e w1 ⟨rfl, rfl⟩
            rw [HS.out]
            go_wp2
            go_ret2
            exact nil_ilb _ _
  | true =>
    rw [shF_yes hb]
    obtain ⟨m, rfl, p1, p2, p3, ⟨p4, p5⟩, p6, p7⟩ := sh_parts hb
    have hs : szB (m : Int) = true := by unfold shB at hb; simp only [Bool.and_eq_true] at hb; exact hb.1.1
    rw [show (m : Int).toNat = m from rfl]
    have HS := Lib.hid hs
    have HIN := Lib.hid (found_in p1 p2 p3 p4 p5 p6 p7)
    have HRUN := Lib.hid (run_int p1 p2 p3 p4 p5)
    have hkt := key_int (a := t) h5 h6
    have a1' : decide (f < 0) = false := decide_eq_false (by omega)
    have a2' : decide ((m : Int) ≤ f) = false := decide_eq_false (by omega)
    have a3' : decide (t < 0) = false := decide_eq_false (by omega)
    have a4' : decide ((m : Int) ≤ t) = false := decide_eq_false (by omega)
    clear hs hb
    go_enter Try.func22, Try.ntmps22
    go_wp2_with fail
    refine (impl_sz _ _ h1 h2).mono ?_
    rintro e w1 ⟨rfl, rfl⟩
    rw [HS.out]
    go_wp2_with fail
    refine (impl_fps m _ p1 p2 p3).mono ?_
    rintro e w2 ⟨v0, v1, rfl, ⟨A0, c0, rfl, ho0⟩, ⟨A1, c1, rfl, ho1⟩, hb2⟩
    have HB2 := Lib.hid hb2
    have HO0 := Lib.hid ho0
    have HO1 := Lib.hid ho1
    clear hb2 ho0 ho1
    have HW := Lib.hid (two_lie HO0.out HO1.out)
    have HBW := Lib.hid (HB2.out.alloc HB2.out.size (.cells #[.slice A0 m c0, .slice A1 m c1] 59))
    go_wp2_with fail
    refine (impl_lists f m _ _ p1 p2 p3 p4 p5 HW.out).mono ?_
    rintro e w3 ⟨b, RS, rfl, hM, hz, hR, hb3⟩
    have hVR : (runB (nxI m) 0 f m).1.length = RS.length := by
      have h := congrArg List.length hz
      rw [List.length_map, HRUN.out.fin.same] at h
      exact h.symm
    obtain ⟨q1, q2⟩ := idx_lt HIN.out
    have HHIT := Lib.hid (show (Value.int .i64 t, (RS.getD ((runB (nxI m) 0 f m).1.idxOf t) rd0).v) ∈ kvI (runB (nxI m) 0 f m).1 RS from by
      have h := kv_at hVR q1
      rw [q2] at h
      exact h)
    obtain ⟨r, hr⟩ : ∃ r, r = RS.getD ((runB (nxI m) 0 f m).1.idxOf t) rd0 := ⟨_, rfl⟩
    have hiR : (runB (nxI m) 0 f m).1.idxOf t < RS.length := by omega
    have hrm : r ∈ RS := by
      rw [hr, List.getD_eq_getElem?_getD, List.getElem?_eq_getElem hiR]
      exact List.getElem_mem hiR
    have HRZ := Lib.hid (show r.zs = found (nxI m) 0 f m t by
      unfold found
      rw [hr, ← hz]
      simp [List.getD_eq_getElem?_getD, List.getElem?_eq_getElem hiR])
    rw [← hr] at HHIT
    have HRO := Lib.hid (own_mono (hR r hrm) HBW.out.size)
    have HND := Lib.hid (kv_nodup hVR HRUN.out.fin.nodup)
    have HM := Lib.hid hM
    have HB3 := Lib.hid (HBW.out.trans (hb3.mono HBW.out.size))
    clear hM hz hR hb3 hVR q1 q2 hr hiR hrm HRUN HIN HW HBW HO0 HO1 HB2
    generalize found (nxI m) 0 f m t = R at *
    go_wp2_with (at_lookup; refine wpList_hit rfl (.tmp 36) (.tmp 37) 61 false rfl Pok.keyed Try.underlying61 b _ HM.out rfl (.int .i64 t) _ _ rfl hkt HND.out HHIT.out ?_)
    go_ret2
    refine ⟨r.A, r.c, ?_, ?_, HB3.out⟩
    · rw [← HRZ.out]; rfl
    · rw [← HRZ.out]; exact HRO.out
end Go.Proofs.Ytpbpgpccjabghaa.Sho
