/- PlacesFor of the program. -/
import Derived.Test.YtpfbjbakcfmngaaShm
set_option linter.unusedVariables false
set_option maxRecDepth 20000
namespace Go.Proofs.Ytpfbjbakcfmngaa.Plf
open Go.RowKit Go.Maps Fr _root_.Go.Proofs.Ytpfbjbakcfmngaa.Own Pk Ins Pok Pfn Rws Lb Plk Ixa Bfm Map Shm

def plcB (n m i t : Int) : Bool := okB n m && (inB i n && inB t n)
def plcL (n m i t : Int) : List Int := if plcB n m i t then found (nxP n.toNat m.toNat) 0 i m.toNat n.toNat t else []
theorem plc_no {n m i t : Int} (h : plcB n m i t = false) : plcL n m i t = [] := by unfold plcL; rw [h]; rfl
theorem plc_yes {n m i t : Int} (h : plcB n m i t = true) : plcL n m i t = found (nxP n.toNat m.toNat) 0 i m.toNat n.toNat t := by unfold plcL; rw [h]; rfl
theorem clos_pl (n m p1 p2 : Nat) (k : Nat) (x : Int) (W : World) (hm : m = 2 ∨ m = 3 ∨ m = 4) (h1 : m ≤ n) (h2 : n ≤ 12) (h3 : n % m = 0) (hk : k < m) (hx0 : 0 ≤ x) (hx : x < n) (c1 : W.cell? ⟨p1, 0, none⟩ = some (.int .i64 (n : Int))) (c2 : W.cell? ⟨p2, 0, none⟩ = some (.int .i64 (m : Int))) :
    Calls Try.prog 63 #[.int .i64 x, .int .i64 (k : Int), .pointer (some ⟨p1, 0, none⟩), .pointer (some ⟨p2, 0, none⟩)] W fun e w' => e = .returned (.int .i64 (nxP n m k x)) ∧ Below W.heap.size W w' := by
  have HC := Lib.hid (impl_idx n m x k W (by omega) (by omega) (by omega) (by omega))
  have e : idxA n m x k = nxP n m k x := by
    have hb : idxB n m x k = true := by
      unfold idxB
      rw [ok_yes hm h1 h2 h3, show inB x n = true from decide_eq_true ⟨hx0, hx⟩, show inB (k : Int) m = true from decide_eq_true ⟨by omega, by omega⟩]
      rfl
    rw [idx_yes hb]
    rfl
  rw [e] at HC
  generalize nxP n m k x = y at *
  clear e hm h3
  go_enter Try.func63, Try.ntmps63
  go_wp2_with fail
  refine HC.out.mono ?_
  rintro e w1 ⟨rfl, hb⟩
  go_wp2
  go_ret
  exact ⟨rfl, hb⟩
theorem plc_short (n m i t : Int) : (plcL n m i t).length ≤ 1048576 := by
  cases h : plcB n m i t with
  | false => rw [plc_no h]; exact Nat.zero_le _
  | true =>
    rw [plc_yes h]
    unfold plcB at h
    simp only [Bool.and_eq_true] at h
    obtain ⟨N, M, rfl, rfl, hm, q1, q2, q3⟩ := ok_parts h.1
    have e2 := of_decide_eq_true h.2.1
    have e3 := of_decide_eq_true h.2.2
    have R := run_piles hm q1 q2 q3 e2.1 e2.2
    have hi := (idx_lt (all_found R.len R.fin.nodup R.fin.good e3.1 e3.2)).1
    rw [← R.fin.same] at hi
    have := R.fin.short (found (nxP N M) 0 i M N t) (by
      unfold found
      rw [List.getD_eq_getElem?_getD, List.getElem?_eq_getElem hi]
      exact List.getElem_mem hi)
    show (found (nxP N M) 0 i M N t).length ≤ 1048576
    omega
set_option maxHeartbeats 1000000 in
theorem impl_plc (n m i t : Int) (w : World) (n1 : -9223372036854775808 ≤ n) (n2 : n ≤ 9223372036854775807) (m1 : -9223372036854775808 ≤ m) (m2 : m ≤ 9223372036854775807) (t1 : -9223372036854775808 ≤ t) (t2 : t ≤ 9223372036854775807) :
    Calls Try.prog 25 #[.int .i64 n, .int .i64 m, .int .i64 i, .int .i64 t] w (IsILB w.heap.size (plcL n m i t) (plcB n m i t) w) := by
  obtain ⟨V, hV⟩ : ∃ V, (w.alloc (.cells #[.int .i64 n] 3)).alloc (.cells #[.int .i64 m] 3) = V := ⟨_, rfl⟩
  have hb1 := (Below.refl w.heap.size w).alloc (Nat.le_refl _) (.cells #[.int .i64 n] 3)
  have hbV : Below w.heap.size w V := by rw [← hV]; exact hb1.alloc hb1.size _
  have hsz : V.heap.size = w.heap.size + 1 + 1 := by rw [← hV]; simp
  have c1 : V.cell? ⟨w.heap.size, 0, none⟩ = some (.int .i64 n) := by
    have h : (w.alloc (.cells #[.int .i64 n] 3)).cell? ⟨w.heap.size, 0, none⟩ = some (.int .i64 n) := by unfold World.cell?; rw [heap_alloc_new]; rfl
    rw [← hV]
    exact alc h _
  have c2 : V.cell? ⟨w.heap.size + 1, 0, none⟩ = some (.int .i64 m) := by
    have h := heap_alloc_new (w.alloc (.cells #[.int .i64 n] 3)) (.cells #[.int .i64 m] 3)
    rw [show (w.alloc (.cells #[.int .i64 n] 3)).heap.size = w.heap.size + 1 by simp] at h
    rw [← hV]
    unfold World.cell?
    rw [h]
    rfl
  have HI := Lib.hid fun (a b : Int) W => impl_in a b W
  have HQ := Lib.hid fun W => impl_ok n m W n1 n2 m1 m2
  have HB := Lib.hid hbV
  have HSZ := Lib.hid hsz
  clear hb1 hbV hsz
  cases h1 : okB n m with
  | false =>
    have hbb : plcB n m i t = false := by unfold plcB; rw [h1]; rfl
    rw [plc_no hbb, hbb]
    rw [h1] at HQ
    clear h1 hbb
    go_enter Try.func25, Try.ntmps25
    go_wp2_with fail
    refine (HQ.out _).mono ?_
    rintro e w1 ⟨rfl, rfl⟩
    go_wp2
    go_ret2
    exact ⟨none, 0, rfl, World.ownsRow_nil _ _ _ _, HB.out⟩
  | true =>
    rw [h1] at HQ
    cases h2 : inB i n with
    | false =>
      have hbb : plcB n m i t = false := by unfold plcB; rw [h1, h2]; rfl
      rw [plc_no hbb, hbb]
      have H2 := Lib.hid h2
      clear h1 hbb h2
      go_enter Try.func25, Try.ntmps25
      go_wp2_with fail
      refine (HQ.out _).mono ?_
      rintro e w1 ⟨rfl, rfl⟩
      go_wp2_with fail
      refine (HI.out _ _ _).mono ?_
      rintro e w1 ⟨rfl, rfl⟩
      rw [H2.out]
      go_wp2
      go_ret2
      exact ⟨none, 0, rfl, World.ownsRow_nil _ _ _ _, HB.out⟩
    | true =>
      have H2 := Lib.hid h2
      obtain ⟨N, M, rfl, rfl, hm, q1, q2, q3⟩ := ok_parts h1
      have e2 := of_decide_eq_true h2
      have HRUN := Lib.hid (run_piles hm q1 q2 q3 e2.1 e2.2)
      have HLS := Lib.hid (impl_lists i N M w.heap.size (w.heap.size + 1) (nxP N M) V q2 (by omega) (by omega) e2.1 e2.2 HRUN.out (fun k x hk hx0 hx => nxP_lt hm q1 q2 q3 hk hx0 hx)
        (fun W hbW k x hk hx0 hx => clos_pl N M w.heap.size (w.heap.size + 1) k x W hm q1 q2 q3 hk hx0 hx ((hbW.cell (p := ⟨w.heap.size, 0, none⟩) (by have := HSZ.out; show w.heap.size < V.heap.size; omega)).trans c1) ((hbW.cell (p := ⟨w.heap.size + 1, 0, none⟩) (by have := HSZ.out; show w.heap.size + 1 < V.heap.size; omega)).trans c2)))
      have hkt := key_int (a := t) t1 t2
      obtain ⟨B, hB⟩ : ∃ B, B = plcB N M i t := ⟨_, rfl⟩
      obtain ⟨R, hR⟩ : ∃ R, R = plcL N M i t := ⟨_, rfl⟩
      rw [← hB, ← hR]
      have HYES := Lib.hid (show inB t N = true → B = true ∧ R = found (nxP N M) 0 i M N t ∧ t ∈ (runB (nxP N M) 0 i M N).1 from fun h => by
        have hb : plcB N M i t = true := by unfold plcB; rw [h1, h2, h]; rfl
        have e3 := of_decide_eq_true h
        exact ⟨hB.trans hb, hR.trans (plc_yes hb), all_found HRUN.out.len HRUN.out.fin.nodup HRUN.out.fin.good e3.1 e3.2⟩)
      have HNO := Lib.hid (show inB t N = false → B = false ∧ R = [] ∧ t ∉ (runB (nxP N M) 0 i M N).1 from fun h => by
        have hb : plcB N M i t = false := by unfold plcB; rw [h1, h2, h]; rfl
        have e3 := of_decide_eq_false h
        exact ⟨hB.trans hb, hR.trans (plc_no hb), fun hmem => e3 (good_iff.1 (HRUN.out.fin.good _ hmem))⟩)
      clear h1 h2 hB hR hm q3 e2
      cases h3 : inB t N with
      | true =>
        obtain ⟨hB, hR, hin⟩ := HYES.out h3
        subst hB
        have HR := Lib.hid hR
        have HIN := Lib.hid hin
        clear HYES HNO h3 hR hin
        go_enter Try.func25, Try.ntmps25
        go_wp2_with fail
        refine (HQ.out _).mono ?_
        rintro e w1 ⟨rfl, rfl⟩
        go_wp2_with fail
        refine (HI.out _ _ _).mono ?_
        rintro e w1 ⟨rfl, rfl⟩
        rw [H2.out]
        go_wp2_with fail
        refine HLS.out.mono ?_
        rintro e w3 ⟨b, RS, rfl, hM, hz, hRw, hb3⟩
        have hVR : (runB (nxP N M) 0 i M N).1.length = RS.length := by
          have h := congrArg List.length hz
          rw [List.length_map, HRUN.out.fin.same] at h
          exact h.symm
        obtain ⟨g1, g2⟩ := idx_lt HIN.out
        have HHIT := Lib.hid (show (Value.int .i64 t, (RS.getD ((runB (nxP N M) 0 i M N).1.idxOf t) rd0).v) ∈ kvI (runB (nxP N M) 0 i M N).1 RS from by
          have h := kv_at hVR g1
          rw [g2] at h
          exact h)
        obtain ⟨r, hr⟩ : ∃ r, r = RS.getD ((runB (nxP N M) 0 i M N).1.idxOf t) rd0 := ⟨_, rfl⟩
        have hiR : (runB (nxP N M) 0 i M N).1.idxOf t < RS.length := by omega
        have hrm : r ∈ RS := by
          rw [hr, List.getD_eq_getElem?_getD, List.getElem?_eq_getElem hiR]
          exact List.getElem_mem hiR
        have HRZ := Lib.hid (show r.zs = found (nxP N M) 0 i M N t by
          unfold found
          rw [hr, ← hz]
          simp [List.getD_eq_getElem?_getD, List.getElem?_eq_getElem hiR])
        rw [← hr] at HHIT
        have HRO := Lib.hid (own_mono (hRw r hrm) HB.out.size)
        have HND := Lib.hid (kv_nodup hVR HRUN.out.fin.nodup)
        have HM := Lib.hid hM
        have HB3 := Lib.hid (HB.out.trans (hb3.mono HB.out.size))
        clear hM hz hRw hb3 hVR g1 g2 hr hiR hrm HRUN HIN
        go_wp2_with (at_lookup; refine wpList_hit rfl (.tmp 28) (.tmp 29) 70 true rfl Pok.keyed Try.underlying70 b _ HM.out rfl (.int .i64 t) _ _ rfl hkt HND.out HHIT.out ?_)
        go_ret2
        refine ⟨r.A, r.c, ?_, ?_, HB3.out⟩
        · rw [HR.out, ← HRZ.out]; rfl
        · rw [HR.out, ← HRZ.out]; exact HRO.out
      | false =>
        obtain ⟨hB, hR, hin⟩ := HNO.out h3
        subst hB hR
        have HIN := Lib.hid hin
        clear HYES HNO h3 hin
        go_enter Try.func25, Try.ntmps25
        go_wp2_with fail
        refine (HQ.out _).mono ?_
        rintro e w1 ⟨rfl, rfl⟩
        go_wp2_with fail
        refine (HI.out _ _ _).mono ?_
        rintro e w1 ⟨rfl, rfl⟩
        rw [H2.out]
        go_wp2_with fail
        refine HLS.out.mono ?_
        rintro e w3 ⟨b, RS, rfl, hM, hz, hRw, hb3⟩
        have hVR : (runB (nxP N M) 0 i M N).1.length = RS.length := by
          have h := congrArg List.length hz
          rw [List.length_map, HRUN.out.fin.same] at h
          exact h.symm
        have HNO := Lib.hid (show Value.int .i64 t ∉ (kvI (runB (nxP N M) 0 i M N).1 RS).map Prod.fst from fun h => HIN.out ((kv_mem hVR).1 h))
        have HM := Lib.hid hM
        have hzr := zero_run w3
        have HB3 := Lib.hid (HB.out.trans (hb3.mono HB.out.size))
        clear hM hz hRw hb3 hVR HRUN HIN
        go_wp2_with (at_lookup; refine wpList_miss rfl (.tmp 28) (.tmp 29) 70 true rfl Pok.keyed Try.underlying70 b _ HM.out rfl hzr (.int .i64 t) _ rfl hkt HNO.out ?_)
        go_ret2
        exact ⟨none, 0, rfl, World.ownsRow_nil _ _ _ _, HB3.out⟩
end Go.Proofs.Ytpfbjbakcfmngaa.Plf
