/- DepthOfForce of the program and of the model. -/
import Derived.Test.YtjmfdflhplobmaaEen
set_option linter.unusedVariables false
set_option maxRecDepth 20000
namespace Go.Proofs.Ytjmfdflhplobmaa.Fde
open Go.RowKit Fr _root_.Go.Proofs.Ytjmfdflhplobmaa.Own Pk Ins Pfn Rws Fpl Nod Nob Tcf Fok Trs Tre Een

theorem ml_take {ps : List (List Int × Int)} {k : Nat} (h : k < ps.length) : mlF (-1) (ps.take (k + 1)) = max (mlF (-1) (ps.take k)) ((ps[k]).1.length : Int) := by
  rw [List.take_succ_eq_append_getElem h, ml_app]
  rfl
theorem depth_no {L : List NV} (h : ¬ OkF L) : depthI L = -1 := by unfold depthI; rw [ok_no h]; rfl
theorem depth_ok {L : List NV} (h : OkF L) : depthI L = depthF L L.length 0 := by unfold depthI; rw [ok_yes h]; rfl
theorem depth_ml {L : List NV} (h : OkF L) : depthI L = mlF (-1) (ends L) := by
  rw [depth_ok h]
  exact (ml_depth h L.length 0 h.pos (by omega)).symm
/-- the ends' contract for what treeOf answers -/
theorem ends_of {L : List NV} (hok : OkF L) (tp : Nat → Nat) (lo : Nat) (w : World) (htr : ∀ k, k < L.length → TreeAt w lo L tp k) :
    Calls Try.prog 48 #[.pointer (some ⟨tp 0, 0, none⟩)] w (IsEnds w.heap.size (ends L) w) := ends_any hok tp lo L.length 0 w hok.pos (by omega) htr
theorem ends_few {L : List NV} (hok : OkF L) : (ends L).length ≤ 40 := end_few hok hok.pos (by omega)
theorem end_at {W : World} {lo n c : Nat} {A : Option Addr} {es : List ED} {ps : List (List Int × Int)} (h : ERow W lo A n c es) (hp : es.map ED.p = ps) {k : Nat} (hk : k < n) : ∃ hk2 : k < ps.length, (es.getD k ed0).zs = (ps[k]).1 ∧ (es.getD k ed0).ob = (ps[k]).2 := by
  have hke : k < es.length := by rw [h.2.1]; exact hk
  have hk2 : k < ps.length := by rw [← hp, List.length_map]; exact hke
  refine ⟨hk2, ?_⟩
  have e : (es.map ED.p)[k]? = some ps[k] := by rw [hp]; exact List.getElem?_eq_getElem hk2
  rw [List.getElem?_map, List.getElem?_eq_getElem hke] at e
  simp only [Option.map_some, Option.some.injEq] at e
  rw [← e, List.getD_eq_getElem?_getD, List.getElem?_eq_getElem hke]
  exact ⟨rfl, rfl⟩
set_option maxHeartbeats 1000000 in
theorem impl_depth (A : Option Addr) (n c : Nat) (rs : List NR) (L : List NV) (w : World) (hz : rs.map NR.nv = L) (hn : rs.length = n) (hnc : n ≤ c) (hfit : FitN L) (hbig : BigN L) (hat : NodesAt w w.heap.size A rs) :
    Calls Try.prog 20 #[.slice A n c] w fun e w' => e = .returned (.int .i64 (depthI L)) ∧ Below w.heap.size w w' := by
  have HT := Lib.hid (tree_any A n c rs L w hz hn hnc hfit hbig hat)
  obtain ⟨R, hR⟩ : ∃ R, R = depthI L := ⟨_, rfl⟩
  rw [← hR]
  have HR := Lib.hid hR
  clear hat hfit hbig hR hz
  go_enter Try.func20, Try.ntmps20
  go_wp2_with fail
  refine HT.out.mono ?_
  rintro e w1 ⟨hb, (⟨hno, rfl⟩ | ⟨hok, tp, rfl, htr⟩)⟩
  · have HB := Lib.hid hb
    have HD := Lib.hid (HR.out.trans (depth_no hno))
    clear hb hno HT
    go_wp2_with fail
    refine (ends_nil w1).mono ?_
    rintro e w2 ⟨A5, c5, es, rfl, hp, hr, hb2⟩
    have HB2 := Lib.hid (HB.out.trans (hb2.mono HB.out.size))
    have hl0 : ([] : List (List Int × Int)).length = 0 := rfl
    rw [hl0] at hr ⊢
    clear hb2 hr hp
    go_wp2
    go_loop [3, 10] (fun d q => d = .int .i64 (-1) ∧ q = .int .i64 0) (fun d q => 0)
    case atStart => exact ⟨rfl, rfl⟩
    case round =>
      obtain ⟨rfl, rfl⟩ := hrel
      go_wp2
      go_ret
      exact ⟨by rw [HD.out]; rfl, HB2.out⟩
  · have HB := Lib.hid hb
    have HD := Lib.hid (HR.out.trans (depth_ml hok))
    have HE := Lib.hid (ends_of hok tp w.heap.size w1 htr)
    have HFW := Lib.hid (ends_few hok)
    have HLN := Lib.hid (fun e he => end_len L L.length 0 e he)
    have hsm := hok.small
    clear hb hok htr HT
    go_wp2_with fail
    refine HE.out.mono ?_
    rintro e w2 ⟨A5, c5, es, rfl, hp, hr, hb2⟩
    obtain ⟨ps, hps⟩ : ∃ ps, ps = ends L := ⟨_, rfl⟩
    have HLP := Lib.hid (show ∀ e ∈ ps, e.1.length < L.length by rw [hps]; exact HLN.out)
    rw [← hps] at HD HFW hp hr ⊢
    obtain ⟨M, hM⟩ : ∃ M, M = ps.length := ⟨_, rfl⟩
    have hM40 := HFW.out
    rw [← hM] at hr hM40 ⊢
    have HMP := Lib.hid hM
    have HRW := Lib.hid hr
    have HPP := Lib.hid hp
    have HB2 := Lib.hid (HB.out.trans (hb2.mono HB.out.size))
    clear hb2 hr hp hps hM HLN HE
    go_wp2
    go_loopw [3, 10] (fun s q wr => ∃ (k : Nat), k ≤ M ∧ q = .int .i64 k ∧ s = .int .i64 (mlF (-1) (ps.take k)) ∧ Hid (Below w2.heap.size w2 wr)) (fun _ q _ => M - (intOf q).toNat)
    case atStart => exact ⟨0, Nat.zero_le _, rfl, by simp [mlF], Lib.hid (Below.refl _ _)⟩
    case round =>
      obtain ⟨k, hk, rfl, rfl, HBB⟩ := hrel
      by_cases hlt : k < M
      · obtain ⟨g5, rfl, hc0, hc1⟩ := (HRW.out.below HBB.out).cell hlt
        obtain ⟨hk2, z1, z2⟩ := end_at HRW.out HPP.out hlt
        have HNX := Lib.hid (ml_take hk2)
        have hzl := HLP.out _ (List.getElem_mem hk2)
        unfold ED.v at hc0
        rw [z1] at hc0
        rw [z2] at hc1
        generalize (es.getD k ed0).A = Ak at *
        generalize (es.getD k ed0).c = ck at *
        clear z1 z2
        generalize (ps[k]).2 = ob at *
        generalize (ps[k]).1.length = lz at *
        generalize mlF (-1) (ps.take k) = d at *
        obtain ⟨v0, v1⟩ := cellE (heap_alloc_new wr (.cells #[.slice Ak lz ck, .int .i64 ob] 63))
        have HBN := Lib.hid (HBB.out.trans ((box_below wr (.cells #[.slice Ak lz ck, .int .i64 ob] 63)).mono HBB.out.size))
        go_wp2
        go_roundw
        case rel => exact ⟨k + 1, by omega, by go_num, by rw [HNX.out], HBN⟩
        case measure => simp [intOf]; omega
      · have hkM : k = M := by omega
        have HDD := Lib.hid (show R = mlF (-1) (ps.take k) by rw [HD.out, List.take_of_length_le (by rw [← HMP.out]; omega)])
        have HBF := Lib.hid (HB2.out.trans (HBB.out.mono HB2.out.size))
        clear hkM
        go_wp2
        go_ret
        exact ⟨by rw [HDD.out]; rfl, HBF.out⟩
theorem kids_few {L : List NV} (h : OkF L) {i : Nat} (hi : i < L.length) : (nx L i).length ≤ 40 := by
  by_cases hl : nx L i = []
  · rw [hl]; exact Nat.zero_le _
  · have h1 := endT_few h (f := L.length) hi (by omega) hl (Nat.le_refl _)
    refine Nat.le_trans ?_ h1
    unfold endT
    rw [List.length_flatMap]
    have : ∀ l : List Nat, (∀ t ∈ l, t < (nx L i).length) → l.length ≤ (l.map fun t => ((endF L L.length ((nx L i).getD t 0).toNat).map fun e => ((t : Int) :: e.1, e.2)).length).sum := by
      intro l
      induction l with
      | nil => intro _; exact Nat.le_refl _
      | cons t l ihl =>
        intro ht
        obtain ⟨q, hq, hq1, hq2⟩ := h.child hi (ht t List.mem_cons_self)
        have hne := end_some h L.length q hq2 (by omega)
        have := ihl fun t' ht' => ht t' (List.mem_cons_of_mem _ ht')
        have h3 := List.length_pos_iff.2 hne
        simp only [List.map_cons, List.sum_cons, List.length_cons, List.length_map, hq, Int.toNat_natCast]
        simp only [List.length_map] at this
        omega
    have h2 := this (List.range (nx L i).length) (fun t ht => List.mem_range.1 ht)
    rwa [List.length_range] at h2
theorem depthT_bd (L : List NV) (f i t : Nat) : 0 ≤ depthT L (depthF L f) i t ∧ depthT L (depthF L f) i t ≤ f + 1 := by
  induction t with
  | zero => simp [depthT]; omega
  | succ t ih =>
    have := depth_bd L f ((nx L i).getD t 0).toNat
    simp only [depthT]
    omega
set_option maxHeartbeats 1000000 in
theorem depth_rec {L : List NV} (hok : OkF L) (A : Option Addr) (n c : Nat) (rs : List NR) (hz : rs.map NR.nv = L) (hn : rs.length = n) : ∀ (f i : Nat) (w : World), f ≤ 1000 → i < n → n ≤ i + f → NodesAt w w.heap.size A rs →
    Calls Try.prog 63 #[.slice A n c, .int .i64 (i : Int)] w fun e w' => e = .returned (.int .i64 (depthF L f i)) ∧ w = w' := by
  intro f
  induction f with
  | zero => intro i w h0 h1 h2; omega
  | succ f ih =>
    intro i w hf1000 hi hf hat
    have hl : L.length = n := by rw [← hz, List.length_map]; exact hn
    have HOK := Lib.hid hok
    have HL := Lib.hid hl
    have hsm := hok.small
    have hil : i < L.length := by omega
    obtain ⟨b, o, rfl, hbb, c0, c1, c2, hi4⟩ := hat i (by omega)
    obtain ⟨z1, z2⟩ := nv_at hz i
    unfold NR.sv at c1
    rw [z1] at c1 hi4
    generalize (rs.getD i nr0).A = A1 at c1 hi4
    generalize (rs.getD i nr0).c = d1 at c1
    have HIH := Lib.hid (fun q (h1 : q < n) (h2 : n ≤ q + f) => ih q w (by omega) h1 h2 hat)
    have HCH := Lib.hid (fun t (ht : t < (nx L i).length) => HOK.out.child hil ht)
    have HBD := Lib.hid (depth_bd L f)
    have HI4 := Lib.hid hi4
    have HX := Lib.hid (kids_few HOK.out hil)
    obtain ⟨m, hm⟩ : ∃ m, m = (nx L i).length := ⟨_, rfl⟩
    have HM := Lib.hid hm
    rw [← hm] at c1 HX
    have hm40 := HX.out
    clear z1 z2 c0 c2 ih hok hat hi4 hl hz hm
    unfold depthF
    obtain ⟨R, hR⟩ : ∃ R, R = depthT L (depthF L f) i (nx L i).length := ⟨_, rfl⟩
    rw [← hR]
    have HR := Lib.hid hR
    clear hR
    have HTB := Lib.hid (depthT_bd L f i)
    go_enter Try.func63, Try.ntmps63
    go_wp2
    go_loop [5, 14] (fun s q => ∃ t : Nat, t ≤ m ∧ q = .int .i64 t ∧ s = .int .i64 (depthT L (depthF L f) i t)) (fun _ q => m - (intOf q).toNat)
    case atStart => exact ⟨0, Nat.zero_le _, rfl, rfl⟩
    case round =>
      obtain ⟨t, ht, rfl, rfl⟩ := hrel
      by_cases hlt : t < m
      · obtain ⟨q, hq, hq1, hq2⟩ := HCH.out t (by rw [← HM.out]; exact hlt)
        obtain ⟨b3, o3, rfl, hb3, hc3⟩ := HI4.out t (by rw [← HM.out]; exact hlt)
        rw [hq] at hc3
        have HC := Lib.hid (HIH.out q (by rw [← HL.out]; exact hq2) (by omega))
        have HD := Lib.hid (show depthT L (depthF L f) i (t + 1) = max (depthT L (depthF L f) i t) (1 + depthF L f q) by
          show max _ _ = _
          rw [hq, Int.toNat_natCast])
        have hbq := HBD.out q
        have hbt := HTB.out t
        generalize depthF L f q = e at *
        generalize depthT L (depthF L f) i t = d at *
        clear hq
        go_wp2_with fail
        refine HC.out.mono ?_
        rintro e' w' ⟨rfl, rfl⟩
        go_wp2
        go_round
        case rel => exact ⟨t + 1, by omega, by go_num, by rw [HD.out]⟩
        case measure => simp [intOf]; omega
      · have htm : t = m := by omega
        have HRR := Lib.hid (show R = depthT L (depthF L f) i t by rw [HR.out, htm, HM.out])
        clear htm
        go_wp2
        go_ret
        exact ⟨by rw [HRR.out]; rfl, rfl⟩
theorem spec_depth (A : Option Addr) (n c : Nat) (rs : List NR) (L : List NV) (w : World) (hz : rs.map NR.nv = L) (hn : rs.length = n) (hnc : n ≤ c) (hfit : FitN L) (hbig : BigN L) (hat : NodesAt w w.heap.size A rs) :
    Calls Try.prog 39 #[.slice A n c] w fun e w' => e = .returned (.int .i64 (depthI L)) ∧ Below w.heap.size w w' := by
  have HT := Lib.hid (spec_ok A n c rs L w hz hn hfit hbig hat)
  have HL := Lib.hid (show L.length = n by rw [← hz, List.length_map]; exact hn)
  have HDR := Lib.hid (fun (hok : OkF L) => depth_rec hok A n c rs hz hn)
  have HAT := Lib.hid hat
  obtain ⟨R, hR⟩ : ∃ R, R = depthI L := ⟨_, rfl⟩
  rw [← hR]
  have HR := Lib.hid hR
  clear hat hfit hbig hR hz hn
  go_enter Try.func39, Try.ntmps39
  go_wp2_with fail
  refine HT.out.mono ?_
  rintro e w1 ⟨rfl, hb⟩
  have HB := Lib.hid hb
  clear hb HT
  by_cases hok : OkF L
  · rw [ok_yes hok]
    have HD := Lib.hid (HR.out.trans (depth_ok hok))
    have HC := Lib.hid (HDR.out hok L.length 0 w1 (by have := hok.small; omega) (by rw [← HL.out]; exact hok.pos) (by rw [HL.out]; omega) ((HAT.out.below HB.out).more HB.out.size))
    clear hok
    go_wp2_with fail
    refine HC.out.mono ?_
    rintro e' w' ⟨rfl, rfl⟩
    go_wp2
    go_ret
    exact ⟨by rw [HD.out]; rfl, HB.out⟩
  · rw [ok_no hok]
    have HD := Lib.hid (HR.out.trans (depth_no hok))
    clear hok
    go_wp2
    go_ret
    exact ⟨by rw [HD.out]; rfl, HB.out⟩
end Go.Proofs.Ytjmfdflhplobmaa.Fde
