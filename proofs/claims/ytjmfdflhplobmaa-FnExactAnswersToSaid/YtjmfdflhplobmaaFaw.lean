/- AnswersTo of the model: the least wrong answers. -/
import Derived.Test.YtjmfdflhplobmaaFan
set_option linter.unusedVariables false
set_option maxRecDepth 20000
namespace Go.Proofs.Ytjmfdflhplobmaa.Faw
open Go.RowKit Fr _root_.Go.Proofs.Ytjmfdflhplobmaa.Own Pk Ins Pfn Rws Fpl Nod Nob Tcf Fok Trs Tre Een Fde Fan

theorem some_first {β : Type} {g : Nat → Option β} {y : β} {m t : Nat} (ht : t < m) (h1 : ∀ j, j < t → g j = none) (h2 : g t = some y) : (List.range m).findSome? g = some y := by
  obtain ⟨d, rfl⟩ : ∃ d, m = t + 1 + d := ⟨m - t - 1, by omega⟩
  rw [List.range_add, List.range_succ, List.append_assoc, List.findSome?_append]
  have : (List.range t).findSome? g = none := by
    rw [List.findSome?_eq_none_iff]
    intro j hj
    exact h1 j (List.mem_range.1 hj)
  rw [this]
  simp [h2]
theorem some_none {β : Type} {g : Nat → Option β} {m : Nat} (h1 : ∀ j, j < m → g j = none) : (List.range m).findSome? g = none := by
  rw [List.findSome?_eq_none_iff]
  intro j hj
  exact h1 j (List.mem_range.1 hj)
def IsW (B : Nat) (r : Option (List Int)) (w : World) (e : Ending) (w' : World) : Prop :=
  ∃ A c, e = .returned (.tuple #[.slice A (r.getD []).length c, .bool r.isSome]) ∧ w'.ownsRow B 3 1 (.slice A (r.getD []).length c) (r.getD []).length ((r.getD []).map (Value.int .i64)) ∧ (r.isSome = true → ∃ g, A = some ⟨g, 0, none⟩) ∧ Below B w w'
set_option maxHeartbeats 4000000 in
theorem wrong_rec {L : List NV} (hok : OkF L) (ob : Int) (A : Option Addr) (n c : Nat) (rs : List NR) (hz : rs.map NR.nv = L) (hn : rs.length = n) : ∀ (f i : Nat) (w : World), f ≤ 1000 → i < n → n ≤ i + f → NodesAt w w.heap.size A rs →
    Calls Try.prog 62 #[.slice A n c, .int .i64 (i : Int), .int .i64 ob] w (IsW w.heap.size (wrongF L ob f i) w) := by
  intro f
  induction f with
  | zero => intro i w h0 h1 h2; omega
  | succ f ih =>
    intro i w hf1000 hi hf hat
    have hl : L.length = n := by rw [← hz, List.length_map]; exact hn
    have HOK := Lib.hid hok
    have HL := Lib.hid hl
    have hsm := hok.small
    have hil : i < L.length := by omega
    have HAT := Lib.hid hat
    obtain ⟨b, o, rfl, hbb, c0, c1, c2, hi4⟩ := hat i (by omega)
    obtain ⟨z1, z2⟩ := nv_at hz i
    unfold NR.sv at c1
    rw [z1] at c1 hi4
    rw [z2] at c2
    generalize (rs.getD i nr0).A = A1 at c1 hi4
    generalize (rs.getD i nr0).c = d1 at c1
    generalize (rs.getD i nr0).say = s1 at c0
    have HIH := Lib.hid (fun q wq (h1 : q < n) (h2 : n ≤ q + f) hq => ih q wq (by omega) h1 h2 hq)
    have HCH := Lib.hid (fun t (ht : t < (nx L i).length) => HOK.out.child hil ht)
    have HI4 := Lib.hid hi4
    have HX := Lib.hid (kids_few HOK.out hil)
    have HWE := Lib.hid (wrong_end L ob f)
    have HEL := Lib.hid (fun q (hq : q < L.length) (hq2 : L.length ≤ q + f) => (show ∀ ws, wrongF L ob f q = some ws → ws.length ≤ 40 from fun ws hws => by
      rw [wrong_end] at hws
      cases hfi : (endF L f q).find? fun e => !decide (e.2 = ob) with
      | none => rw [hfi] at hws; cases hws
      | some e =>
        rw [hfi] at hws
        simp only [Option.map_some, Option.some.injEq] at hws
        have hm := List.mem_of_find?_eq_some hfi
        rw [end_fuel HOK.out f (L.length - q) q hq hq2 (by omega)] at hm
        have := end_len L _ q e hm
        rw [← hws]
        omega))
    obtain ⟨m, hm⟩ : ∃ m, m = (nx L i).length := ⟨_, rfl⟩
    obtain ⟨fin, hfin⟩ : ∃ fin, fin = fi L i := ⟨_, rfl⟩
    have HM := Lib.hid hm
    have HFIN := Lib.hid hfin
    rw [← hm] at c1 HX
    rw [← hfin] at c2
    have hm40 := HX.out
    clear z1 z2 ih hok hat hi4 hl hz hm hfin
    obtain ⟨R, hR⟩ : ∃ R, R = wrongF L ob (f + 1) i := ⟨_, rfl⟩
    rw [← hR]
    have HR := Lib.hid hR
    clear hR
    obtain ⟨V, hV⟩ : ∃ V, w.alloc (.cells #[.string s1, .slice A1 m d1, .int .i64 fin] 37) = V := ⟨_, rfl⟩
    have hbV : Below w.heap.size w V := by rw [← hV]; exact box_below _ _
    obtain ⟨v0, v1, v2⟩ := cell3 (heap_alloc_new w (.cells #[.string s1, .slice A1 m d1, .int .i64 fin] 37))
    rw [hV] at v0 v1 v2
    have hsV : w.heap.size < V.heap.size := by rw [← hV]; simp
    have HBV := Lib.hid hbV
    clear hbV
    by_cases hm0 : m = 0
    · have hm0' : ((m : Int) == 0) = true := by rw [hm0]; rfl
      have hnil : nx L i = [] := List.length_eq_zero_iff.1 (by rw [← HM.out]; exact hm0)
      have HRR := Lib.hid (show R = if fin = ob then none else some [] by rw [HR.out, wrongF, if_pos hnil, HFIN.out])
      have HBV2 := Lib.hid (HBV.out.trans ((box_below V (.cells #[] 3)).mono HBV.out.size))
      have hva := ((box_below V (.cells #[] 3)).cell (p := ⟨w.heap.size, 2, none⟩) hsV).trans v2
      have HO := Lib.hid (World.ownsRow_lit (base := w.heap.size) (e := 3) (size := 1) V #[] 0 (by omega) (by decide) rfl)
      clear hm0 hnil
      go_enter Try.func62, Try.ntmps62
      go_upto_region 3 with fail
      go_region
      all_goals
        go_wp2
        go_ret2
        rw [HRR.out]
        by_cases hfo : fin = ob
        · rw [if_pos hfo]
          have hb : (fin != ob) = false := by simpa using hfo
          refine ⟨some ⟨V.heap.size, 0, none⟩, 0, by simp [hb], HO.out, fun h => ⟨_, rfl⟩, HBV2.out.drew⟩
        · rw [if_neg hfo]
          have hb : (fin != ob) = true := by simpa using hfo
          refine ⟨some ⟨V.heap.size, 0, none⟩, 0, by simp [hb], HO.out, fun h => ⟨_, rfl⟩, HBV2.out.drew⟩
    · have hm0' : ((m : Int) == 0) = false := by simpa using hm0
      have hnil : nx L i ≠ [] := fun h => hm0 (by rw [HM.out, h]; rfl)
      have HRR := Lib.hid (show R = (List.range m).findSome? fun t => (wrongF L ob f ((nx L i).getD t 0).toNat).map fun e => (t : Int) :: e by rw [HR.out, wrongF, if_neg hnil, HM.out])
      obtain ⟨i0, hi0, hz0, hz1, hz2⟩ := info_parts infoInt
      clear hm0 hnil
      go_enter Try.func62, Try.ntmps62
      go_wp2
      clear hV
      go_loopw [29] (fun q wr => ∃ t : Nat, t ≤ m ∧ q = .int .i64 t ∧ Hid (∀ j, j < t → (wrongF L ob f ((nx L i).getD j 0).toNat).map (fun e => (j : Int) :: e) = none) ∧ Hid (Below w.heap.size w wr)) (fun q _ => m - (intOf q).toNat)
      case atStart => exact ⟨0, Nat.zero_le _, rfl, Lib.hid (fun j hj => absurd hj (Nat.not_lt_zero _)), HBV⟩
      case round =>
        obtain ⟨t, ht, rfl, HNO, HB⟩ := hrel
        clear v0 v1 v2
        by_cases hlt : t < m
        · obtain ⟨q, hq, hq1, hq2⟩ := HCH.out t (by rw [← HM.out]; exact hlt)
          obtain ⟨b3, o3, rfl, hb3, hc3⟩ := (HI4.out.below HB.out) t (by rw [← HM.out]; exact hlt)
          rw [hq] at hc3
          have HC := Lib.hid (HIH.out q wr (by rw [← HL.out]; exact hq2) (by omega) ((HAT.out.below HB.out).more HB.out.size))
          have HE := Lib.hid (HEL.out q hq2 (by rw [HL.out]; omega))
          have hsw := HB.out.size
          have HQ := Lib.hid hq
          clear hq
          cases hw : wrongF L ob f q with
          | none =>
            rw [hw] at HC
            have HN2 := Lib.hid (show ∀ j, j < t + 1 → (wrongF L ob f ((nx L i).getD j 0).toNat).map (fun e => (j : Int) :: e) = none from fun j hj => by
              by_cases e : j = t
              · subst e; rw [HQ.out, Int.toNat_natCast, hw]; rfl
              · exact HNO.out j (by omega))
            clear hw
            go_wp2_with fail
            refine HC.out.mono ?_
            rintro e w6 ⟨A6, c6, rfl, ho6, hs6, hb6⟩
            have HB6 := Lib.hid (HB.out.trans (hb6.mono hsw))
            have e1 : (none : Option (List Int)).isSome = false := rfl
            rw [e1]
            clear ho6 hs6 hb6
            go_wp2
            go_roundw
            case rel => exact ⟨t + 1, by omega, by go_num, HN2, HB6⟩
            case measure => simp [intOf]; omega
          | some ws =>
            rw [hw] at HC
            have hwl := HE.out ws hw
            have HRF := Lib.hid (show R = some ((t : Int) :: ws) by
              rw [HRR.out]
              refine some_first hlt HNO.out ?_
              rw [HQ.out, Int.toNat_natCast, hw]; rfl)
            clear hw
            go_wp2_with fail
            refine HC.out.mono ?_
            rintro e w6 ⟨A6, c6, rfl, ho6, hs6, hb6⟩
            obtain ⟨g6, rfl⟩ := hs6 rfl
            have e1 : (some ws).isSome = true := rfl
            have e2 : (some ws).getD [] = ws := rfl
            rw [e1, e2]
            rw [e2] at ho6
            have HB6 := Lib.hid (HB.out.trans (hb6.mono hsw))
            have HO6 := Lib.hid ho6
            have hb7 := box_below w6 (.cells #[.int .i64 (t : Int)] 3)
            have HAT7 := Lib.hid (ints_of (own_below ho6 hb7))
            have HR7 := Lib.hid (World.ownsRow_lit (base := w6.heap.size) (e := 3) (size := 1) w6 #[.int .i64 (t : Int)] 1 (Nat.le_refl _) (by decide) rfl)
            have HB7 := Lib.hid (HB6.out.trans (hb7.mono HB6.out.size))
            have hs6' := hb6.size
            have hs7' := hb7.size
            clear ho6 hs6 hb6 hb7 e1 e2
            go_wp2_with (refine app_list rfl (.tmp 43) (.tmp 44) 26 rfl w6.heap.size 3 i0 8 Try.underlying26 hi0 hz0 hz1 hz2 (by omega) (some ⟨w6.heap.size, 0, none⟩) 1 1 [.int .i64 (t : Int)] rfl HR7.out g6 0 ws.length c6 ws rfl rfl _ HAT7.out (by omega) (by omega) hs7' ?_)
            rintro A8 c8 w8 ho8 hg8
            obtain ⟨g8, rfl⟩ := own_shape ho8 (by omega)
            have HB8 := Lib.hid (HB7.out.grown hg8 HB7.out.size (fun k hk => by simp only [Option.some.injEq] at hk; omega))
            have HO8 := Lib.hid (own_mono ho8 (show w.heap.size ≤ w6.heap.size by omega))
            clear ho8 hg8
            go_wp2
            go_ret2
            rw [HRF.out]
            have hlen : ((t : Int) :: ws).length = 1 + ws.length := by rw [List.length_cons]; omega
            refine ⟨some ⟨g8, 0, none⟩, c8, ?_, ?_, fun _ => ⟨g8, rfl⟩, HB8.out⟩
            · show _ = Ending.returned (.tuple #[.slice _ ((t : Int) :: ws).length c8, .bool true])
              rw [hlen]; rfl
            · show w8.ownsRow _ _ 1 (.slice _ ((t : Int) :: ws).length c8) ((t : Int) :: ws).length _
              rw [hlen]
              exact HO8.out
        · have HRF := Lib.hid (show R = none by
            rw [HRR.out]
            exact some_none fun j hj => HNO.out j (by omega))
          go_wp2
          go_ret2
          rw [HRF.out]
          exact ⟨none, 0, rfl, World.ownsRow_nil _ _ _ _, (fun h => absurd h (by decide)), HB.out⟩
theorem spec_answers (A : Option Addr) (n c : Nat) (rs : List NR) (L : List NV) (ob : Int) (w : World) (hz : rs.map NR.nv = L) (hn : rs.length = n) (hnc : n ≤ c) (hfit : FitN L) (hbig : BigN L) (hat : NodesAt w w.heap.size A rs) :
    Calls Try.prog 36 #[.slice A n c, .int .i64 ob] w (IsILB w.heap.size (wrongL L ob) (wrongB L ob) w) := by
  have HT := Lib.hid (spec_ok A n c rs L w hz hn hfit hbig hat)
  have HL := Lib.hid (show L.length = n by rw [← hz, List.length_map]; exact hn)
  have HDR := Lib.hid (fun (hok : OkF L) => wrong_rec hok ob A n c rs hz hn)
  have HAT := Lib.hid hat
  obtain ⟨R, hR⟩ : ∃ R, R = wrongL L ob := ⟨_, rfl⟩
  obtain ⟨S, hS⟩ : ∃ S, S = wrongB L ob := ⟨_, rfl⟩
  rw [← hR, ← hS]
  have HR := Lib.hid hR
  have HS := Lib.hid hS
  clear hat hfit hbig hR hS hz hn
  go_enter Try.func36, Try.ntmps36
  go_wp2_with fail
  refine HT.out.mono ?_
  rintro e w1 ⟨rfl, hb⟩
  have HB := Lib.hid hb
  clear hb HT
  by_cases hok : OkF L
  · rw [ok_yes hok]
    have hw := wrong_ok hok ob
    have HC := Lib.hid (HDR.out hok L.length 0 w1 (by have := hok.small; omega) (by rw [← HL.out]; exact hok.pos) (by rw [HL.out]; omega) ((HAT.out.below HB.out).more HB.out.size))
    have H1 := Lib.hid (show R = (wrongF L ob L.length 0).getD [] by rw [HR.out]; unfold wrongL; rw [hw])
    have H2 := Lib.hid (show S = (wrongF L ob L.length 0).isSome by rw [HS.out]; unfold wrongB; rw [hw])
    clear hok hw
    go_wp2_with fail
    refine HC.out.mono ?_
    rintro e w6 ⟨A6, c6, rfl, ho6, hs6, hb6⟩
    rw [← H1.out, ← H2.out]
    rw [← H1.out] at ho6
    have HB6 := Lib.hid (HB.out.trans (hb6.mono HB.out.size))
    have HO6 := Lib.hid (own_mono ho6 HB.out.size)
    clear ho6 hs6 hb6
    go_wp2
    go_ret2
    exact ⟨A6, c6, rfl, HO6.out, HB6.out⟩
  · rw [ok_no hok]
    obtain ⟨p1, p2⟩ := wrong_no (ob := ob) hok
    have H1 := Lib.hid (HR.out.trans p1)
    have H2 := Lib.hid (HS.out.trans p2)
    clear hok p1 p2
    go_wp2
    go_ret2
    rw [H1.out, H2.out]
    exact ⟨none, 0, rfl, World.ownsRow_nil _ _ _ _, HB.out⟩
end Go.Proofs.Ytjmfdflhplobmaa.Faw
