/- grownFrom: colors that grow as long as the last window was not there yet; for any function that tells the next color. -/
import Derived.Test.YtkonakfbidnfhaaSkv
import Derived.Test.YtkonakfbidnfhaaStp
set_option linter.unusedVariables false
set_option maxRecDepth 20000
namespace Go.Proofs.Ytkonakfbidnfhaa.Skg
open Go.RowKit Go.Maps Fr _root_.Go.Proofs.Ytkonakfbidnfhaa.Own Pk Ins Pfn Rws Lb Map Cat Cut Skw Skv Stp

/-- the window that begins at a place of a list, and the first of them -/
def wsF (C : List Int) (m i : Nat) : List Int := (C.drop i).take m
def wsL (C : List Int) (m k : Nat) : List (List Int) := (List.range k).map (wsF C m)
theorem wsL_succ (C : List Int) (m k : Nat) : wsL C m (k + 1) = wsL C m k ++ [wsF C m k] := by unfold wsL; rw [List.range_succ, List.map_append]; rfl
theorem wsL_len (C : List Int) (m k : Nat) : (wsL C m k).length = k := by simp [wsL]
/-- T colors and a window more: the windows differ until the last one comes again -/
structure Grows (C : List Int) (m T : Nat) : Prop where
  len : C.length = m + T
  m1 : 1 ≤ m
  m6 : m ≤ 6
  t1 : 1 ≤ T
  few : T ≤ 64
  nodup : (wsL C m T).Nodup
  again : wsF C m T ∈ wsL C m T
  fits : Fits C
theorem Grows.wlen {C : List Int} {m T i : Nat} (h : Grows C m T) (hi : i ≤ T) : (wsF C m i).length = m := by
  unfold wsF
  rw [List.length_take, List.length_drop, h.len]
  omega
theorem nodup_take {α : Type} {l : List α} (h : l.Nodup) (k : Nat) : (l.take k).Nodup := h.sublist (List.take_sublist k l)
theorem Grows.wnodup {C : List Int} {m T k : Nat} (h : Grows C m T) (hk : k ≤ T) : (wsL C m k).Nodup := by
  have e : wsL C m k = (wsL C m T).take k := by
    unfold wsL
    rw [← List.map_take, List.take_range, Nat.min_eq_left hk]
  rw [e]
  exact nodup_take h.nodup k
theorem Grows.fresh {C : List Int} {m T k : Nat} (h : Grows C m T) (hk : k < T) : wsF C m k ∉ wsL C m k := by
  have h2 := h.wnodup (k := k + 1) hk
  rw [wsL_succ] at h2
  intro hin
  exact (List.nodup_append.1 h2).2.2 _ hin _ (List.mem_singleton.2 rfl) rfl
theorem Grows.ok {C : List Int} {m T k : Nat} (h : Grows C m T) (hk : k ≤ T) : WinsOk m (wsL C m k) :=
  ⟨h.m6, fun v hv => by obtain ⟨i, hi, rfl⟩ := List.mem_map.1 hv; exact h.wlen (by have := List.mem_range.1 hi; omega), h.wnodup hk, by rw [wsL_len]; have := h.few; omega⟩
theorem fits_sub {C : List Int} (h : Fits C) (m i : Nat) : Fits (wsF C m i) := by
  intro j hj
  unfold wsF at hj ⊢
  rw [List.length_take, List.length_drop] at hj
  have e : ((C.drop i).take m).getD j 0 = C.getD (i + j) 0 := by
    rw [List.getD_eq_getElem?_getD, List.getD_eq_getElem?_getD, List.getElem?_take, if_pos (by omega), List.getElem?_drop]
  rw [e]
  exact h _ (by omega)
theorem take_drop_ws (C : List Int) (m t : Nat) : (C.take (m + t)).drop t = wsF C m t := by unfold wsF; rw [List.drop_take, Nat.add_sub_cancel]
theorem take_next {C : List Int} {k : Nat} (h : k < C.length) : C.take (k + 1) = C.take k ++ [C.getD k 0] := by
  rw [List.take_succ_eq_append_getElem h, List.getD_eq_getElem?_getD, List.getElem?_eq_getElem h]
  rfl
theorem mapw_ne {W : World} {b g lo m c : Nat} {V : List (List Int)} {e : TypeId} {xs : List Value} (h : MapW W b V) (ho : W.ownsRow lo e 1 (.slice (some ⟨g, 0, none⟩) m c) m xs) : g ≠ b := by
  intro hb
  subst hb
  rcases ho.2 with ⟨h2, _⟩ | ⟨g', cap, cur, hv, _, hh, _⟩
  · cases h2
  · simp only [Value.slice.injEq, Option.some.injEq, Addr.mk.injEq, and_true] at hv
    obtain ⟨rfl, _, _⟩ := hv
    obtain ⟨es, clock, hbb, _⟩ := h
    rw [hh] at hbb
    cases hbb
def lenS : Value → Nat
  | .slice _ n _ => n
  | _ => 0
/-- what the function that tells the next color has to answer -/
def Tells (w : World) (f : Nat) (p : Addr) (C : List Int) (m T : Nat) : Prop := ∀ (W : World) (t g c b : Nat), t < T → Below w.heap.size w W → m + t ≤ c → IntsAt W W.heap.size .i64 (some ⟨g, 0, none⟩) (C.take (m + t)) → MapW W b (wsL C m (t + 1)) →
  Calls Try.prog f #[.slice (some ⟨g, 0, none⟩) (m + t) c, .map (some b), .pointer (some p)] W fun e w' => e = .returned (.int .i64 (C.getD (m + t) 0)) ∧ Below W.heap.size W w'
set_option maxHeartbeats 4000000 in
theorem grown_any (f : Nat) (p : Addr) (C : List Int) (m T c : Nat) (A : Option Addr) (w : World) (hG : Grows C m T) (hss : IntsAt w w.heap.size .i64 A (C.take m)) (hce : ∀ args w, (callFunc f args).run Try.prog w = .ok (.enter f args) w) (hT : Tells w f p C m T) :
    Calls Try.prog 48 #[.slice A m c, .func (.func f) #[] #[.pointer (some p)]] w (IsIL w.heap.size (C.take T) w) := by
  obtain ⟨i0, hi, hz0, hz1, hz2⟩ := info_parts infoInt
  have hmm := @run_makeMap Try.prog
  have HG := Lib.hid hG
  have HT := Lib.hid hT
  have HSS := Lib.hid hss
  have hq : 1 ≤ m ∧ m ≤ 6 ∧ 1 ≤ T ∧ T ≤ 64 := ⟨hG.m1, hG.m6, hG.t1, hG.few⟩
  have HL0 := Lib.hid (show (C.take m).length = m by rw [List.length_take, hG.len]; omega)
  clear hG hT hss
  go_enter Try.func48, Try.ntmps48
  go_wp2_with fail
  refine (clone_any A m c (C.take m) w HL0.out (by omega) HSS.out).mono ?_
  rintro e w1 ⟨A1, c1, rfl, ho, hb⟩
  rw [HL0.out] at ho
  rw [HL0.out]
  have HO := Lib.hid ho
  have HB1 := Lib.hid hb
  have HM0 := Lib.hid (MapE.new Try.prog 75 w1)
  have HB2 := Lib.hid (hb.alloc hb.size (.map #[] 0))
  have HO2 := Lib.hid (own_below ho ((Below.refl w1.heap.size w1).alloc (Nat.le_refl _) (.map #[] 0)))
  obtain ⟨b, hbb⟩ : ∃ b, b = w1.heap.size := ⟨_, rfl⟩
  have hwb : w.heap.size ≤ b := by rw [hbb]; exact hb.size
  rw [← hbb] at HM0
  clear ho hb
  go_wp2
  rw [← hbb]
  generalize w1.alloc (.map #[] 0) = w2 at *
  clear hbb hmm HO HB1
  go_loopw [5] (fun v wr => ∃ t : Nat, t ≤ T ∧ (∃ g c5, v = .slice (some ⟨g, 0, none⟩) (m + t) c5 ∧ Hid (wr.ownsRow w.heap.size 3 1 (.slice (some ⟨g, 0, none⟩) (m + t) c5) (m + t) (vals (C.take (m + t))))) ∧ Hid (MapW wr b (wsL C m t)) ∧ Hid (Below w.heap.size w wr)) (fun v _ => T + m - lenS v)
  case atStart =>
    obtain ⟨g, rfl⟩ := own_shape HO2.out (by omega)
    exact ⟨0, Nat.zero_le _, ⟨g, c1, rfl, HO2⟩, HM0, HB2⟩
  case round =>
    obtain ⟨t, ht, ⟨g, c5, rfl, HOT⟩, HMT, HBT⟩ := hrel
    clear HO2 HM0 HB2
    have hcap : m + t ≤ c5 := own_cap HOT.out
    have htc : t ≤ c5 := by omega
    have hgb := mapw_ne HMT.out HOT.out
    have HI := Lib.hid (show IntsAt wr wr.heap.size .i64 (some ⟨g, t, none⟩) (wsF C m t) by
      have h := ints_drop (k := t) (ints_of HOT.out)
      rw [take_drop_ws, Nat.zero_add] at h
      exact h)
    have HWL := Lib.hid (HG.out.wlen ht)
    have HFZ := Lib.hid (fits_sub HG.out.fits m t)
    have HOK := Lib.hid (HG.out.ok ht)
    by_cases hlt : t < T
    · have hfr := HG.out.fresh hlt
      have HSC := Lib.hid (wsL_succ C m t)
      have HTN := Lib.hid (take_next (C := C) (k := m + t) (by rw [HG.out.len]; omega))
      go_wp2_with fail
      refine (impl_add b m (wsL C m t) (some ⟨g, t, none⟩) m (c5 - t) (wsF C m t) wr HOK.out HMT.out HWL.out HWL.out (by omega) HFZ.out HI.out).mono ?_
      rintro e w4 ⟨rfl, hm4, hg4⟩
      rw [if_neg hfr, ← HSC.out] at hm4
      rw [decide_eq_true hfr]
      have HM4 := Lib.hid hm4
      have HO4 := Lib.hid (own_gr HOT.out hg4 (fun k hk e => by simp only [Option.map_some, Option.some.injEq] at hk e; omega))
      have HB4 := Lib.hid (HBT.out.grown hg4 HBT.out.size (fun k hk => by injection hk with hk; omega))
      have HC := Lib.hid (HT.out w4 t g c5 b hlt HB4.out hcap (ints_of HO4.out) HM4.out)
      generalize C.getD (m + t) 0 = x at HC HTN
      clear hfr hm4 hg4 HI HOT HMT HBT
      go_wp2_with fail
      refine HC.out.mono ?_
      rintro e w5 ⟨rfl, hb5⟩
      have ho5 := own_below HO4.out hb5
      have HM5 := Lib.hid (HM4.out.below hb5 HM4.out.lt)
      have HB5 := Lib.hid (HB4.out.trans (hb5.mono HB4.out.size))
      have hsz5 := HB5.out.size
      clear hb5 HC HO4 HM4 HB4
      go_wp2_with (at_builtin; refine app_more rfl (.tmp 19) (.tmp 24) 23 rfl w.heap.size 3 i0 (.int .i64 0) 8 Try.underlying23 hi hz0 hz1 hz2 (by decide) rfl _ _ _ _ rfl ho5 (.int .i64 x) rfl _ rfl rfl (by omega) hsz5 ?_; intro g6 c6 w6 hown6 hgr6)
      have HO6 := Lib.hid (show w6.ownsRow w.heap.size 3 1 (.slice (some ⟨g6, 0, none⟩) (m + t + 1) c6) (m + t + 1) (vals (C.take (m + t + 1))) by rw [HTN.out]; unfold vals; rw [List.map_append]; exact hown6)
      have HM6 := Lib.hid (HM5.out.grown hgr6 (fun e => by simp only [Option.map_some, Option.some.injEq] at e; omega))
      have HB6 := Lib.hid (HB5.out.grown hgr6 hsz5 (fun k hk => (own_lo ho5 k hk).1))
      clear hown6 hgr6 ho5
      go_roundw
      case rel => exact ⟨t + 1, by omega, ⟨g6, c6, rfl, HO6⟩, HM6, HB6⟩
      case measure => simp [lenS]; omega
    · have htT : t = T := by omega
      subst htT
      have hag := HG.out.again
      have HTL := Lib.hid (show (C.take t).length = t by rw [List.length_take, HG.out.len]; omega)
      have HTT := Lib.hid (show (vals (C.take (m + t))).take t = vals (C.take t) by unfold vals; rw [← List.map_take, List.take_take, Nat.min_eq_left (by omega)])
      go_wp2_with fail
      refine (impl_add b m (wsL C m t) (some ⟨g, t, none⟩) m (c5 - t) (wsF C m t) wr HOK.out HMT.out HWL.out HWL.out (by omega) HFZ.out HI.out).mono ?_
      rintro e w4 ⟨rfl, hm4, hg4⟩
      rw [decide_eq_false (fun h => h hag)]
      have HO4 := Lib.hid (own_gr HOT.out hg4 (fun k hk e => by simp only [Option.map_some, Option.some.injEq] at hk e; omega))
      have HB4 := Lib.hid (HBT.out.grown hg4 HBT.out.size (fun k hk => by injection hk with hk; omega))
      clear hag hm4 hg4 HI HOT HMT HBT
      go_wp2
      go_ret
      refine ⟨some ⟨g, 0, none⟩, c5, by rw [HTL.out]; show Ending.returned (.slice (some ⟨g, 0, none⟩) (m + t - m) c5) = _; rw [Nat.add_sub_cancel_left], ?_, HB4.out⟩
      rw [HTL.out]
      have h := own_prefix HO4.out (m := t) (by omega)
      rw [HTT.out] at h
      exact h
end Go.Proofs.Ytkonakfbidnfhaa.Skg
