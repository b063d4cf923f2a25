/- AnswersTo of the program and of the model. -/
import Derived.Test.YtjmfdflhplobmaaFde
set_option linter.unusedVariables false
set_option maxRecDepth 20000
namespace Go.Proofs.Ytjmfdflhplobmaa.Fan
open Go.RowKit Fr _root_.Go.Proofs.Ytjmfdflhplobmaa.Own Pk Ins Pfn Rws Fpl Nod Nob Tcf Fok Trs Tre Een Fde

noncomputable def wrongL (L : List NV) (ob : Int) : List Int := (wrongO L ob).getD []
noncomputable def wrongB (L : List NV) (ob : Int) : Bool := (wrongO L ob).isSome
theorem wrong_no {L : List NV} {ob : Int} (h : ¬ OkF L) : wrongL L ob = [] ∧ wrongB L ob = false := by
  unfold wrongL wrongB wrongO; rw [ok_no h]; exact ⟨rfl, rfl⟩
theorem wrong_ok {L : List NV} (h : OkF L) (ob : Int) : wrongO L ob = wrongF L ob L.length 0 := by unfold wrongO; rw [ok_yes h]; rfl
theorem wrong_is {L : List NV} (h : OkF L) (ob : Int) : wrongO L ob = ((ends L).find? fun e => !decide (e.2 = ob)).map Prod.fst := by
  rw [wrong_ok h]; exact wrong_end L ob _ _
theorem wrong_len (L : List NV) (ob : Int) : (wrongL L ob).length ≤ 1048576 := by
  by_cases h : OkF L
  · unfold wrongL
    rw [wrong_is h]
    cases hf : (ends L).find? fun e => !decide (e.2 = ob) with
    | none => exact Nat.zero_le _
    | some e =>
      have := end_len L _ _ e (List.mem_of_find?_eq_some hf)
      have := h.small
      simp only [Option.map_some, Option.getD_some]
      omega
  · rw [(wrong_no h).1]; exact Nat.zero_le _
/-- none of the first k ends is another object's -/
def sameTo (ps : List (List Int × Int)) (ob : Int) (k : Nat) : Prop := ∀ j, j < k → ∀ h : j < ps.length, (ps[j]).2 = ob
theorem find_at {ps : List (List Int × Int)} {ob : Int} {k : Nat} (hk : k < ps.length) (h : (ps[k]).2 ≠ ob) (hs : sameTo ps ob k) : (ps.find? fun e => !decide (e.2 = ob)) = some ps[k] := by
  rw [List.find?_eq_some_iff_append]
  refine ⟨by simpa using h, ps.take k, ps.drop (k + 1), ?_, fun a ha => ?_⟩
  · conv => lhs; rw [← List.take_append_drop k ps, List.drop_eq_getElem_cons hk]
  · obtain ⟨j, hj, rfl⟩ := List.getElem_of_mem ha
    rw [List.length_take] at hj
    rw [List.getElem_take]
    simp [hs j (by omega) (by omega)]
theorem find_no {ps : List (List Int × Int)} {ob : Int} (hs : sameTo ps ob ps.length) : (ps.find? fun e => !decide (e.2 = ob)) = none := by
  rw [List.find?_eq_none]
  intro e he
  obtain ⟨j, hj, rfl⟩ := List.getElem_of_mem he
  simp [hs j hj hj]
set_option maxHeartbeats 1000000 in
theorem impl_answers (A : Option Addr) (n c : Nat) (rs : List NR) (L : List NV) (ob : Int) (w : World) (hz : rs.map NR.nv = L) (hn : rs.length = n) (hnc : n ≤ c) (hfit : FitN L) (hbig : BigN L) (hat : NodesAt w w.heap.size A rs) :
    Calls Try.prog 15 #[.slice A n c, .int .i64 ob] w (IsILB w.heap.size (wrongL L ob) (wrongB L ob) w) := by
  have HT := Lib.hid (tree_any A n c rs L w hz hn hnc hfit hbig hat)
  obtain ⟨R, hR⟩ : ∃ R, R = wrongL L ob := ⟨_, rfl⟩
  obtain ⟨S, hS⟩ : ∃ S, S = wrongB L ob := ⟨_, rfl⟩
  rw [← hR, ← hS]
  have HR := Lib.hid hR
  have HS := Lib.hid hS
  clear hat hfit hbig hR hS hz
  go_enter Try.func15, Try.ntmps15
  go_wp2_with fail
  refine HT.out.mono ?_
  rintro e w1 ⟨hb, (⟨hno, rfl⟩ | ⟨hok, tp, rfl, htr⟩)⟩
  · have HB := Lib.hid hb
    obtain ⟨p1, p2⟩ := wrong_no (ob := ob) hno
    have H1 := Lib.hid (HR.out.trans p1)
    have H2 := Lib.hid (HS.out.trans p2)
    clear hb hno HT p1 p2
    go_wp2_with fail
    refine (ends_nil w1).mono ?_
    rintro e w2 ⟨A5, c5, es, rfl, hp, hr, hb2⟩
    have HB2 := Lib.hid (HB.out.trans (hb2.mono HB.out.size))
    have hl0 : ([] : List (List Int × Int)).length = 0 := rfl
    rw [hl0] at hr ⊢
    clear hb2 hr hp
    go_wp2
    go_loop [12] (fun q => q = .int .i64 0) (fun q => 0)
    case atStart => rfl
    case round =>
      subst hrel
      go_wp2
      go_ret2
      rw [H1.out, H2.out]
      exact ⟨none, 0, rfl, World.ownsRow_nil _ _ _ _, HB2.out⟩
  · have HB := Lib.hid hb
    have HD := Lib.hid (wrong_is hok ob)
    have HE := Lib.hid (ends_of hok tp w.heap.size w1 htr)
    have HFW := Lib.hid (ends_few hok)
    have HLN := Lib.hid (fun e he => end_len L L.length 0 e he)
    have hsm := hok.small
    clear hb hok htr HT
    go_wp2_with fail
    refine HE.out.mono ?_
    rintro e w2 ⟨A5, c5, es, rfl, hp, hr, hb2⟩
    obtain ⟨ps, hps⟩ : ∃ ps, ps = ends L := ⟨_, rfl⟩
    have HLP := Lib.hid (show ∀ e ∈ ps, e.1.length < L.length by rw [hps]; exact HLN.out)
    rw [← hps] at HD HFW hp hr ⊢
    obtain ⟨M, hM⟩ : ∃ M, M = ps.length := ⟨_, rfl⟩
    have hM40 := HFW.out
    rw [← hM] at hr hM40 ⊢
    have HMP := Lib.hid hM
    have HRW := Lib.hid hr
    have HPP := Lib.hid hp
    have HB2 := Lib.hid (HB.out.trans (hb2.mono HB.out.size))
    clear hb2 hr hp hps hM HLN HE
    go_wp2
    go_loopw [12] (fun q wr => ∃ (k : Nat), k ≤ M ∧ q = .int .i64 k ∧ Hid (sameTo ps ob k) ∧ Hid (Below w2.heap.size w2 wr)) (fun q _ => M - (intOf q).toNat)
    case atStart => exact ⟨0, Nat.zero_le _, rfl, Lib.hid (fun j hj => absurd hj (Nat.not_lt_zero _)), Lib.hid (Below.refl _ _)⟩
    case round =>
      obtain ⟨k, hk, rfl, HSM, HBB⟩ := hrel
      by_cases hlt : k < M
      · have hrr := HRW.out.below HBB.out
        obtain ⟨g5, rfl, hc0, hc1⟩ := hrr.cell hlt
        obtain ⟨hk2, z1, z2⟩ := end_at HRW.out HPP.out hlt
        have hown := hrr.2.2 k (by rw [hrr.2.1]; exact hlt)
        have hzl := HLP.out _ (List.getElem_mem hk2)
        have HFA := Lib.hid (find_at (ob := ob) hk2)
        have HSN := Lib.hid (fun (h : (ps[k]).2 = ob) => (show sameTo ps ob (k + 1) from fun j hj hj2 => by
          by_cases e : j = k
          · subst e; exact h
          · exact HSM.out j (by omega) hj2))
        unfold ED.v at hc0 hown
        rw [z1] at hc0 hown
        rw [z2] at hc1
        generalize (es.getD k ed0).A = Ak at *
        generalize (es.getD k ed0).c = ck at *
        clear z1 z2 hrr
        have HPK := Lib.hid (show ps[k] = ((ps[k]).1, (ps[k]).2) from rfl)
        generalize ps[k] = pk at *
        obtain ⟨zs, ox⟩ := pk
        simp only at hc0 hc1 hown hzl HSN HFA
        obtain ⟨lz, hlz⟩ : ∃ lz, lz = zs.length := ⟨_, rfl⟩
        rw [← hlz] at hc0 hown
        have HLZ := Lib.hid hlz
        clear hlz HPK
        obtain ⟨v0, v1⟩ := cellE (heap_alloc_new wr (.cells #[.slice Ak lz ck, .int .i64 ox] 63))
        have hbn := box_below wr (.cells #[.slice Ak lz ck, .int .i64 ox] 63)
        have HBN := Lib.hid (HBB.out.trans (hbn.mono HBB.out.size))
        have HOW := Lib.hid (own_below hown hbn)
        have hszw := HB.out.size
        clear hown hbn
        by_cases hox : ox = ob
        · have hox' : (ox != ob) = false := by simpa using hox
          have HSX := Lib.hid (HSN.out hox)
          clear hox HFA HSN
          go_wp2
          go_roundw
          case rel => exact ⟨k + 1, by omega, by go_num, HSX, HBN⟩
          case measure => simp [intOf]; omega
        · have hox' : (ox != ob) = true := by simpa using hox
          have hfa := HFA.out hox HSM.out
          have HW1 := Lib.hid (show R = zs by rw [HR.out]; unfold wrongL; rw [HD.out, hfa]; rfl)
          have HW2 := Lib.hid (show S = true by rw [HS.out]; unfold wrongB; rw [HD.out, hfa]; rfl)
          have HBF := Lib.hid (HB2.out.trans (HBN.out.mono HB2.out.size))
          clear hox hfa HFA HSN
          go_wp2
          go_ret2
          rw [HW1.out, HW2.out]
          refine ⟨Ak, ck, by rw [← HLZ.out]; rfl, ?_, HBF.out⟩
          rw [← HLZ.out]
          exact own_mono HOW.out hszw
      · have hkM : k = M := by omega
        have hfn := find_no (ps := ps) (ob := ob) (by rw [← HMP.out, ← hkM]; exact HSM.out)
        have HW1 := Lib.hid (show R = [] by rw [HR.out]; unfold wrongL; rw [HD.out, hfn]; rfl)
        have HW2 := Lib.hid (show S = false by rw [HS.out]; unfold wrongB; rw [HD.out, hfn]; rfl)
        have HBF := Lib.hid (HB2.out.trans (HBB.out.mono HB2.out.size))
        clear hkM hfn
        go_wp2
        go_ret2
        rw [HW1.out, HW2.out]
        exact ⟨none, 0, rfl, World.ownsRow_nil _ _ _ _, HBF.out⟩
end Go.Proofs.Ytjmfdflhplobmaa.Fan
