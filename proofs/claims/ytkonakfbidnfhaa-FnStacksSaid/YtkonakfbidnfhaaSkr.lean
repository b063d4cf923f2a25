/- The model's DeBruijn. -/
import Derived.Test.YtkonakfbidnfhaaSko
import Derived.Test.YtkonakfbidnfhaaAat
import Derived.Test.YtkonakfbidnfhaaFnd
set_option linter.unusedVariables false
set_option maxRecDepth 20000
namespace Go.Proofs.Ytkonakfbidnfhaa.Skr
open Go.RowKit Go.Maps Fr _root_.Go.Proofs.Ytkonakfbidnfhaa.Own Pk Ins Pfn Rws Lb Map Cat Cut Stk Skp Sks Skw Skv Ski Skj Skk Stp Skg Skq Skm Skn Sko Fnd

/-- the windows seen so far: rows of the call's own, none of them the colors' block g -/
def Seen (lo g : Nat) (wr : World) (V : List (List Int)) (A : Option Addr) (c : Nat) (RS : List RD) : Prop :=
  wr.ownsRow lo 23 1 (.slice A V.length c) V.length (RS.map RD.v) ∧ RS.map RD.zs = V ∧ ∀ r ∈ RS, wr.ownsRow lo 3 1 r.v r.zs.length (vals r.zs) ∧ r.b ≠ some g
section
variable {lo g : Nat} {W W' : World} {V : List (List Int)} {A : Option Addr} {c : Nat} {RS : List RD}
theorem Seen.below (h : Seen lo g W V A c RS) (hb : Below W.heap.size W W') : Seen lo g W' V A c RS := ⟨own_below h.1 hb, h.2.1, fun r hr => ⟨own_below (h.2.2 r hr).1 hb, (h.2.2 r hr).2⟩⟩
theorem Seen.other {j : Nat} (h : Seen lo g W V A c RS) (hg : W.grownBy W' (some j)) (hA : A.map (·.block) ≠ some j) (hR : ∀ r ∈ RS, r.b ≠ some j) : Seen lo g W' V A c RS :=
  ⟨own_gr h.1 hg (fun k hk e => hA (by rw [hk, e])), h.2.1, fun r hr => ⟨own_gr (h.2.2 r hr).1 hg (fun k hk e => hR r hr (by show r.A.map (·.block) = _; rw [hk, e])), (h.2.2 r hr).2⟩⟩
theorem Seen.ll (h : Seen lo g W V A c RS) (hl : RS.length = V.length) : LL W A RS := own_rows h.1 hl (fun r hr => (h.2.2 r hr).1)
theorem Seen.len (h : Seen lo g W V A c RS) : RS.length = V.length := by
  have := congrArg List.length h.2.1
  simpa using this
theorem Seen.put {g5 c5 : Nat} {r : RD} (h : Seen lo g W V A c RS) (hr : W.ownsRow lo 3 1 r.v r.zs.length (vals r.zs)) (hrb : r.b ≠ some g)
    (h5 : W'.ownsRow lo 23 1 (.slice (some ⟨g5, 0, none⟩) (V.length + 1) c5) (V.length + 1) (RS.map RD.v ++ [r.v])) (hg5 : W.grownBy W' (A.map (·.block))) : Seen lo g W' (V ++ [r.zs]) (some ⟨g5, 0, none⟩) c5 (RS ++ [r]) := by
  have e1 : (V ++ [r.zs]).length = V.length + 1 := by simp
  refine ⟨by rw [e1, List.map_append]; exact h5, by rw [List.map_append, h.2.1]; rfl, fun s hs => ?_⟩
  have k1 : W.ownsRow lo 3 1 s.v s.zs.length (vals s.zs) ∧ s.b ≠ some g := by
    rcases List.mem_append.1 hs with hs | hs
    · exact h.2.2 s hs
    · rw [List.mem_singleton.1 hs]; exact ⟨hr, hrb⟩
  exact ⟨own_gr k1.1 hg5 (fun k hk e => own_diff h.1 k1.1 (by decide) k e hk), k1.2⟩
theorem Seen.after {g' : Nat} (h : Seen lo g W V A c RS) (hg : W.grownBy W' (some g)) (hA : A.map (·.block) ≠ some g) (hg' : (some (⟨g, 0, none⟩ : Addr)).map (·.block) = some g' ∨ W.heap.size ≤ g') : Seen lo g' W' V A c RS := by
  refine ⟨own_gr h.1 hg (fun k hk e => hA (by rw [hk, e])), h.2.1, fun r hr => ⟨own_gr (h.2.2 r hr).1 hg (fun k hk e => (h.2.2 r hr).2 (by show r.A.map (·.block) = _; rw [hk, e])), fun e => ?_⟩⟩
  rcases hg' with hg' | hg'
  · simp only [Option.map_some, Option.some.injEq] at hg'
    subst hg'
    exact (h.2.2 r hr).2 e
  · have := (own_lo (h.2.2 r hr).1 g' e).2
    omega
end
theorem short_seen {m : Nat} {V : List (List Int)} {RS : List RD} (hz : RS.map RD.zs = V) (hl : ∀ v ∈ V, v.length = m) (hm : m ≤ 6) : ∀ i, i < RS.length → (RS.getD i rd0).zs.length ≤ 1048576 := by
  intro i hi
  have hm2 : (RS.getD i rd0).zs ∈ V := by
    rw [← hz]
    refine List.mem_map.2 ⟨_, ?_, rfl⟩
    rw [List.getD_eq_getElem?_getD, List.getElem?_eq_getElem hi]
    exact List.getElem_mem _
  rw [hl _ hm2]
  omega
theorem last_at {W : World} {lo g c m : Nat} {L : List Int} {x : Int} (h : W.ownsRow lo 3 1 (.slice (some ⟨g, 0, none⟩) m c) m (vals (L ++ [x]))) (hl : L.length = m - 1) (hm : 1 ≤ m) : W.cell? ⟨g, m - 1, none⟩ = some (.int .i64 x) := by
  rw [h.cellAt (m - 1) (by omega), vals_get (by rw [List.length_append, hl]; show m - 1 < m - 1 + 1; omega), ← hl]
  simp [List.getD_eq_getElem?_getD]
/-- a box for the result, and the colors and the windows at the start -/
theorem ws_next {C : List Int} {m T t : Nat} (hG : Grows C m T) (ht : t < T) : wsF C m (t + 1) = (C.take (m + t)).drop (t + 1) ++ [C.getD (m + t) 0] := by
  have h := take_drop_ws C m (t + 1)
  rw [← h, show m + (t + 1) = m + t + 1 by omega, take_next (by rw [hG.len]; omega), List.drop_append_of_le_length (by rw [List.length_take, hG.len]; have := hG.m1; omega)]
theorem set_last {L : List Int} (x y : Int) : (vals (L ++ [x])).set L.length (.int .i64 y) = vals (L ++ [y]) := by
  unfold vals
  rw [List.map_append, List.map_append]
  simp
theorem made_zeros {W : World} {lo g m : Nat} (h : W.ownsRow lo 3 1 (.slice (some ⟨g, 0, none⟩) m m) m (madeCells #[Value.int .i64 0] m).toList) : W.ownsRow lo 3 1 (.slice (some ⟨g, 0, none⟩) m m) m (vals (List.replicate m 0)) := by
  have e : (madeCells #[Value.int .i64 0] m).toList = vals (List.replicate m 0) := by
    rw [toList_madeCells_one]
    unfold vals
    rw [List.map_replicate]
  rw [e] at h
  exact h
theorem lit00 (w : World) : (w.alloc (.cells #[] 3)).ownsRow w.heap.size 3 1 (.slice (some ⟨w.heap.size, 0, none⟩) 0 0) 0 (vals []) := World.ownsRow_lit (base := w.heap.size) (e := 3) (size := 1) w #[] 0 (Nat.le_refl _) (Nat.zero_le _) rfl
theorem lit00_below (w : World) : Below w.heap.size w (w.alloc (.cells #[] 3)) := box_below w _
theorem lit00_size (w : World) : w.heap.size ≤ (w.alloc (.cells #[] 3)).heap.size := (lit00_below w).size
set_option maxHeartbeats 8000000 in
theorem spec_db (m0 : Int) (w : World) (h1 : -9223372036854775808 ≤ m0) (h2 : m0 ≤ 9223372036854775807) :
    Calls Try.prog 32 #[.int .i64 m0] w (IsSB w.heap.size (dbS m0) (dbM m0) (dbB m0) w) := by
  have c1 := heap_alloc_new w (.cells #[.slice none 0 0, .int .i64 0] 25)
  have hb0 := box_below w (.cells #[.slice none 0 0, .int .i64 0] 25)
  have hs1 : w.heap.size < (w.alloc (.cells #[.slice none 0 0, .int .i64 0] 25)).heap.size := by simp
  obtain ⟨W, hW⟩ : ∃ W, W = w.alloc (.cells #[.slice none 0 0, .int .i64 0] 25) := ⟨_, rfl⟩
  rw [← hW] at c1 hb0 hs1
  have HB0 := Lib.hid hb0
  have HC1 := Lib.hid c1
  by_cases hm : 1 ≤ m0 ∧ m0 ≤ 6
  · have HMM := Lib.hid (decide_eq_true hm)
    have hd : dbB m0 = true := decide_eq_true hm
    obtain ⟨m, rfl⟩ : ∃ m : Nat, m0 = (m : Int) := ⟨m0.toNat, by omega⟩
    have hq : 1 ≤ m ∧ m ≤ 6 := by omega
    rw [(db_yes hd).1, (db_yes hd).2, hd]
    obtain ⟨hG, hN, hz, _⟩ := cb_all hq.1 hq.2
    have e0 : ((m : Int)).toNat = m := rfl
    rw [e0]
    obtain ⟨C, hC⟩ : ∃ C, C = cbL m := ⟨_, rfl⟩
    obtain ⟨T, hT⟩ : ∃ T, T = 2 ^ m := ⟨_, rfl⟩
    rw [← hC, ← hT] at hG hN
    rw [← hC] at hz
    rw [← hC, ← hT]
    have HL := Lib.hid (show (C.take T).length = T by rw [List.length_take, hG.len]; omega)
    have HG := Lib.hid hG
    have HNX := Lib.hid hN
    have hTT : 1 ≤ T ∧ T ≤ 64 := ⟨hG.t1, hG.few⟩
    have HZ := Lib.hid hz
    obtain ⟨i0, hi, hz0, hz1, hz2⟩ := info_parts infoInt
    obtain ⟨i1, hj1, hy0, hy1, hy2⟩ := infos_parts
    clear hd hm hG hN hz hC hT e0 hb0 c1
    go_enter Try.func32, Try.ntmps32
    go_wp2_with fail
    rw [← hW]
    clear hW
    refine (in_any _ 1 6 _).mono ?_
    rintro e w1 ⟨rfl, rfl⟩
    rw [HMM.out]
    go_wp2_with (refine wpList_make_full _ rfl (.tmp 12) (.tmp 12) 23 rfl W.heap.size 3 i0 (.int .i64 0) 1 Try.underlying23 hi hz0 hz1 .i64 .i64 m m m rfl rfl rfl rfl (by rw [hz2]; omega) (by unfold maxLen; omega) (Nat.le_refl _) ?_)
    intro w2 hown2 hgr2
    replace hown2 := made_zeros hown2
    have hb2 : Below W.heap.size W w2 := (Below.refl _ _).grown hgr2 (Nat.le_refl _) (fun k hk => by cases hk)
    have hsz2 := hb2.size
    go_wp2_with (refine wpList_make_full _ rfl (.tmp 14) (.tmp 14) 23 rfl W.heap.size 3 i0 (.int .i64 0) 1 Try.underlying23 hi hz0 hz1 .i64 .i64 m m m rfl rfl rfl rfl (by rw [hz2]; omega) (by unfold maxLen; omega) hsz2 ?_)
    intro w3 hown3 hgr3
    replace hown3 := made_zeros hown3
    have hown2' := own_gr hown2 hgr3 (fun k hk e => by cases e)
    have hb3 : Below W.heap.size W w3 := hb2.grown hgr3 hsz2 (fun k hk => by cases hk)
    have hsz3 := hb3.size
    have hlt2 := (own_lo hown2 W.heap.size rfl).2
    have hw23 := (own_lo hown3 w2.heap.size rfl).2
    have hl4 := World.ownsRow_lit (base := W.heap.size) (e := 23) (size := 1) w3 #[.slice (some ⟨w2.heap.size, 0, none⟩) m m] 1 hsz3 (by decide) rfl
    obtain ⟨W4, hW4⟩ : ∃ W4, W4 = w3.alloc (.cells #[.slice (some ⟨w2.heap.size, 0, none⟩) m m] 23) := ⟨_, rfl⟩
    have hb4 : Below w3.heap.size w3 W4 := by rw [hW4]; exact box_below _ _
    have HO4 := Lib.hid (own_below hown2' hb4)
    have hLn : (List.replicate m (0 : Int)).length = m := List.length_replicate
    have HS4 := Lib.hid (show Seen W.heap.size W.heap.size W4 (wsL C m 1) (some ⟨w3.heap.size, 0, none⟩) 1 [⟨some ⟨w2.heap.size, 0, none⟩, m, List.replicate m 0⟩] from by
      have e1 : wsL C m 1 = [List.replicate m 0] := by
        show [wsF C m 0] = _
        unfold wsF
        rw [List.drop_zero, HZ.out]
      rw [e1]
      refine ⟨?_, rfl, fun r hr => ?_⟩
      · have h := hl4
        rw [← hW4] at h
        unfold RD.v
        simp only [List.map_cons, List.map_nil, hLn]
        exact h
      · rw [List.mem_singleton.1 hr]
        refine ⟨?_, fun e => by have h : w2.heap.size = W.heap.size := (by injection e); omega⟩
        unfold RD.v
        simp only [hLn]
        exact own_below hown3 hb4)
    have HB4 := Lib.hid (hb3.trans (hb4.mono hsz3))
    clear hown2 hgr2 hown3 hgr3 hown2' hl4 hb4 hb2 hb3 hsz2 hsz3
    go_wp2
    rw [← hW4]
    clear hW4
    have hWs := HB4.out.size
    go_loopw [4, 5, 6, 7] (fun v4 v5 _ _ wr => ∃ t : Nat, t < T ∧ (∃ g c4 A5 c5 RS, v4 = .slice (some ⟨g, 0, none⟩) (m + t) c4 ∧ v5 = .slice A5 (t + 1) c5 ∧ Hid (wr.ownsRow W.heap.size 3 1 (.slice (some ⟨g, 0, none⟩) (m + t) c4) (m + t) (vals (C.take (m + t)))) ∧ Hid (Seen W.heap.size g wr (wsL C m (t + 1)) A5 c5 RS)) ∧ Hid (Below W.heap.size W wr)) (fun v4 _ _ _ _ => T + m - lenS v4)
    case atStart => exact ⟨0, by omega, ⟨W.heap.size, m, some ⟨w3.heap.size, 0, none⟩, 1, _, rfl, rfl, by rw [Nat.add_zero, HZ.out]; exact HO4, HS4⟩, HB4⟩
    case round =>
      obtain ⟨t, ht, ⟨g, c4, A5, c5, RS, rfl, rfl, HCOL, HSN⟩, HBT⟩ := hrel
      clear HO4 HS4
      have hcap : m + t ≤ c4 := own_cap HCOL.out
      obtain ⟨L, hL⟩ : ∃ L, L = (C.take (m + t)).drop (t + 1) := ⟨_, rfl⟩
      have hLl : L.length = m - 1 := by rw [hL, List.length_drop, List.length_take, HG.out.len]; omega
      have HLL := Lib.hid hLl
      have e1 : m + t - (t + 1) = m - 1 := by omega
      have e2 : m + t - m = t := by omega
      have hmq : m - 1 ≤ 4294967296 := by omega
      have hmq1 : 1 ≤ m := hq.1
      have hm1 : m - 1 + 1 = m := by omega
      have HWN := Lib.hid (show wsF C m (t + 1) = L ++ [C.getD (m + t) 0] by rw [ws_next HG.out ht, hL])
      have HX := Lib.hid (show C.getD (m + t) 0 = if decide (L ++ [1] ∈ wsL C m (t + 1)) then 0 else 1 by rw [HNX.out t ht, hL]; rfl)
      have HTN := Lib.hid (take_next (C := C) (k := m + t) (by rw [HG.out.len]; omega))
      have HQL1 := Lib.hid (show (L ++ [1]).length = m by rw [List.length_append, hLl]; show m - 1 + 1 = m; omega)
      have HQL0 := Lib.hid (show (L ++ [0]).length = m by rw [List.length_append, hLl]; show m - 1 + 1 = m; omega)
      have HCI := Lib.hid (ints_of HCOL.out)
      have HRL := Lib.hid (HSN.out.len)
      have HSH := Lib.hid (short_seen HSN.out.2.1 (HG.out.ok (k := t + 1) (by omega)).2.1 hq.2)
      by_cases hct : c4 = t + 1
      · have HAT := Lib.hid (show IntsAt (wr.alloc (.cells #[] 3)) (wr.alloc (.cells #[] 3)).heap.size .i64 (some ⟨g, 0, none⟩) L from ints_none _ _ _ (by omega))
        clear hL hLl
        subst hct
        go_wp2_with (first
          | (at_builtin; simp only [e2, e1]; refine app_any rfl (.tmp 24) (.tmp 25) 23 rfl wr.heap.size 3 i0 8 Try.underlying23 hi hz0 hz1 hz2 (by decide) _ 0 0 [] rfl (lit00 wr) (some ⟨g, 0, none⟩) (m - 1) _ L rfl HLL.out (fun h => by cases h) _ HAT.out (by decide) hmq (lit00_size wr) spot_some ?_; intro A6 c6 w6 hown6 hgr6; rw [Nat.zero_add, List.nil_append] at hown6; rw [Nat.zero_add]; have hb6 := (lit00_below wr).grown hgr6 (lit00_size wr) (fun k hk => by simp only [Option.map_some, Option.some.injEq] at hk; omega); have hs6 := hb6.size)
          | (at_builtin; refine app_more rfl (.tmp 26) (.tmp 27) 23 rfl wr.heap.size 3 i0 (.int .i64 0) 8 Try.underlying23 hi hz0 hz1 hz2 (by decide) rfl _ _ _ _ rfl hown6 (.int .i64 1) rfl _ rfl rfl (by omega) hs6 ?_; intro g7 c7 w7 hown7 hgr7))
        have HO7 := Lib.hid (show w7.ownsRow wr.heap.size 3 1 (.slice (some ⟨g7, 0, none⟩) m c7) m (vals (L ++ [1])) by have h := hown7; (try rw [hm1] at h); unfold vals; rw [List.map_append]; exact h)
        have HB7 := Lib.hid (hb6.grown hgr7 hs6 (fun k hk => (own_lo hown6 k hk).1))
        have hseen7 := HSN.out.below HB7.out
        have hl7 := hseen7.ll HRL.out
        have HRZ := Lib.hid HSN.out.2.1
        have hRL : RS.length = t + 1 := by rw [HRL.out, wsL_len]
        refine (spec_fnd A5 (some ⟨g7, 0, none⟩) (t + 1) c5 m c7 RS (L ++ [1]) w7 hRL hl7 (fun i hi => HSH.out i (by omega)) (by omega) HQL1.out (by omega) (ints_of HO7.out)).mono ?_
        rintro e w8 ⟨rfl, rfl⟩
        rw [HRZ.out]
        clear hseen7 hl7 hown6 hgr6 hown7 hgr7 hb6 hs6 HAT
        by_cases hin : L ++ [1] ∈ wsL C m (t + 1)
        · rw [decide_eq_true hin]
          have HXV := Lib.hid (show C.getD (m + t) 0 = 0 by rw [HX.out, decide_eq_true hin]; rfl)
          clear hin HX
          have hstc : w7.cell? ⟨g7, m - 1, none⟩ = some (.int .i64 1) := last_at HO7.out HLL.out hmq1
          have hstf := HO7.out.frozenAt (m - 1)
          have hst := HO7.out.stored (m - 1) (.int .i64 0)
          rw [← HLL.out, set_last, HLL.out] at hst
          obtain ⟨w9, hw9⟩ : ∃ w9, w9 = w7.setCell ⟨g7, m - 1, none⟩ (.int .i64 0) := ⟨_, rfl⟩
          rw [← hw9] at hst
          have HO9 := Lib.hid hst.1
          have HB9 := Lib.hid (HB7.out.grown hst.2 HB7.out.size (fun k hk => by simp only [Option.some.injEq] at hk; have := (own_lo HO7.out g7 rfl).1; omega))
          have hseen9' := HSN.out.below HB9.out
          have hl9 := hseen9'.ll HRL.out
          clear hst HO7 HB7
          go_wp2_with fail
          rw [← hw9]
          clear hw9 hstc hstf
          refine (spec_fnd A5 (some ⟨g7, 0, none⟩) (t + 1) c5 m c7 RS (L ++ [0]) w9 hRL hl9 (fun i hi => HSH.out i (by omega)) (by omega) HQL0.out (by omega) (ints_of HO9.out)).mono ?_
          rintro e w8 ⟨rfl, rfl⟩
          rw [HRZ.out]
          by_cases hin0 : L ++ [0] ∈ wsL C m (t + 1)
          · rw [decide_eq_true hin0]
            have htT : t + 1 = T := by
              by_cases e : t + 1 = T
              · exact e
              · have h := HG.out.fresh (k := t + 1) (by omega)
                rw [HWN.out, HXV.out] at h
                exact absurd hin0 h
            have HCOL9 := Lib.hid (own_below HCOL.out HB9.out)
            have HB9W := Lib.hid (HBT.out.trans (HB9.out.mono HBT.out.size))
            clear hin0 hl9 hseen9'
            have hns : T ≤ 4294967296 := by omega
            have HLT9 := Lib.hid (show IntsAt (w9.alloc (.cells #[] 3)) (w9.alloc (.cells #[] 3)).heap.size .i64 (some ⟨g, 0, none⟩) (C.take T) by
              have h := Prm.ints_take T (ints_on (ints_of HCOL9.out) (box_below w9 (.cells #[] 3)))
              rw [List.take_take, Nat.min_eq_left (by omega)] at h
              exact h)
            go_wp2_with (at_builtin; (try simp only [e2, htT]); refine app_any rfl (.tmp 51) (.tmp 58) 23 rfl w9.heap.size 3 i0 8 Try.underlying23 hi hz0 hz1 hz2 (by decide) _ 0 0 [] rfl (lit00 w9) (some ⟨g, 0, none⟩) T _ (C.take T) rfl HL.out (fun h => by cases h) _ HLT9.out (by decide) hns (lit00_size w9) spot_some ?_; intro A12 c12 w12 hown12 hgr12; rw [Nat.zero_add, List.nil_append] at hown12; rw [Nat.zero_add]; have hb12 := (lit00_below w9).grown hgr12 (lit00_size w9) (fun k hk => by simp only [Option.map_some, Option.some.injEq] at hk; omega); have HBW := Lib.hid (HB9W.out.trans (hb12.mono HB9W.out.size)); have HX := Lib.hid ((HBW.out.block w.heap.size hs1).trans HC1.out); have HBw := Lib.hid (HB0.out.trans (HBW.out.mono HB0.out.size)); obtain ⟨k4, k5⟩ := cell2 HX.out; have f4 := frz HX.out 0; have f5 := frz HX.out 1; obtain ⟨HP1, HP2, HP3⟩ := put_box (x := .slice A12 T c12) (y := .int .i64 (m : Int)) HX.out HBw.out (Nat.le_refl _); have HP1 := Lib.hid HP1; have HP2 := Lib.hid HP2; have hsw9 := HB9W.out.size; have HO := Lib.hid (own_mono (own_gr hown12 HP3 (fun j hj e => by have h1 := (own_lo hown12 j hj).1; injection e with e; omega)) (Nat.le_trans HB0.out.size hsw9)); clear hown12 hgr12 hb12 HP3)
            (try simp only [Exit.inBlock, Exit.then])
            refine bodyPost_ret (results_cs rfl _ rfl rfl HP1.out) rfl ?_
            exact ⟨A12, c12, by rw [HL.out]; rfl, by rw [HL.out]; exact HO.out, HP2.out⟩
          · rw [decide_eq_false hin0]
            have htT1 : t + 1 < T := by
              rcases Nat.lt_or_ge (t + 1) T with h | h
              · exact h
              · have e : t + 1 = T := by omega
                have h2 := HG.out.again
                rw [← e, HWN.out, HXV.out] at h2
                exact absurd h2 hin0
            clear hin0 hl9 hseen9'
            have HSN9 := Lib.hid (HSN.out.below HB9.out)
            have hw9 := HB9.out.size
            have hg7 := (own_lo HO9.out g7 rfl).1
            have hgw := (own_lo HCOL.out g rfl).2
            have HRV := Lib.hid (show (RD.mk (some ⟨g7, 0, none⟩) c7 (L ++ [0])).v = .slice (some ⟨g7, 0, none⟩) m c7 by unfold RD.v; rw [HQL0.out])
            have hcol9 := own_below HCOL.out HB9.out
            have HNE := Lib.hid (fun c (l : List Int) => (show (RD.mk (some ⟨g7, 0, none⟩) c l).b ≠ some g from fun e => by have h : g7 = g := (by injection e); omega))
            have hsz9 : W.heap.size ≤ w9.heap.size := Nat.le_trans HBT.out.size hw9
            have hseen9 := HSN9.out.1
            rw [wsL_len] at hseen9
            have hown9 := HO9.out
            have HNEW := Lib.hid (show w9.ownsRow W.heap.size 3 1 (RD.mk (some ⟨g7, 0, none⟩) c7 (L ++ [0])).v (L ++ [0]).length (vals (L ++ [0])) by rw [HRV.out, HQL0.out]; exact own_mono hown9 HBT.out.size)
            have HB9W := Lib.hid (HBT.out.trans (HB9.out.mono HBT.out.size))
            have HXX := Lib.hid (show C.getD (m + t) 0 = 0 from HXV.out)
            have HTN0 := Lib.hid (show C.take (m + t + 1) = C.take (m + t) ++ [0] by rw [HTN.out, HXX.out])
            have HWQ0 := Lib.hid (show wsL C m (t + 1 + 1) = wsL C m (t + 1) ++ [L ++ [0]] by rw [wsL_succ, HWN.out, HXX.out])
            clear HXX
            go_wp2_with (first
              | (at_builtin; refine app_more rfl (.tmp 39) (.tmp 41) 65 rfl W.heap.size 23 i1 (.slice none 0 0) 24 Try.underlying65 hj1 hy0 hy1 hy2 (by decide) rfl _ _ _ _ rfl hseen9 (.slice (some ⟨g7, 0, none⟩) m c7) rfl _ rfl rfl (by omega) hsz9 ?_; intro g8 c8 w10 hown10 hgr10; have HSN10 := Lib.hid (show Seen W.heap.size g w10 (wsL C m (t + 1) ++ [L ++ [0]]) (some ⟨g8, 0, none⟩) c8 (RS ++ [⟨some ⟨g7, 0, none⟩, c7, L ++ [0]⟩]) from HSN9.out.put (r := ⟨some ⟨g7, 0, none⟩, c7, L ++ [0]⟩) HNEW.out (HNE.out _ _) (by rw [wsL_len, HRV.out]; exact hown10) hgr10); have hcol10 := own_gr hcol9 hgr10 (fun k hk e => own_diff hseen9 hcol9 (by decide) k e hk); have hnx10 := own_gr hown9 hgr10 (fun k hk e => own_diff hseen9 hown9 (by decide) k e hk); have HB10 := Lib.hid (HB9W.out.grown hgr10 hsz9 (fun k hk => (own_lo hseen9 k hk).1)); have hcx : w10.cell? ⟨g7, m - 1, none⟩ = some (.int .i64 0) := (last_at hnx10 HLL.out hmq1); have hsz10 := HB10.out.size; clear hown10 hgr10)
              | (at_builtin; refine Aat.app_at rfl (.tmp 43) (.tmp 49) 23 rfl W.heap.size 3 i0 (.int .i64 0) 8 Try.underlying23 hi hz0 hz1 hz2 (by decide) rfl _ _ _ _ rfl hcol10 (.int .i64 0) rfl _ rfl rfl (by omega) hsz10 ?_; intro g11 c11 w11 hown11 hgr11 hat11))
            have HCOL11 := Lib.hid (show w11.ownsRow W.heap.size 3 1 (.slice (some ⟨g11, 0, none⟩) (m + (t + 1)) c11) (m + (t + 1)) (vals (C.take (m + (t + 1)))) by rw [show m + (t + 1) = m + t + 1 by omega, HTN0.out]; unfold vals; rw [List.map_append]; exact hown11)
            have HSN11 := Lib.hid (show Seen W.heap.size g11 w11 (wsL C m (t + 1 + 1)) (some ⟨g8, 0, none⟩) c8 (RS ++ [⟨some ⟨g7, 0, none⟩, c7, L ++ [0]⟩]) by
              rw [HWQ0.out]
              exact HSN10.out.after hgr11 (fun e => own_diff HSN10.out.1 hcol10 (by decide) _ e rfl) hat11)
            have HB11 := Lib.hid (HB10.out.grown hgr11 hsz10 (fun k hk => (own_lo hcol10 k hk).1))
            clear hown11 hgr11 hat11 hcol10 hnx10 hcol9 hseen9 hown9 hcx
            go_roundw
            all_goals
              first
                | exact ⟨t + 1, htT1, ⟨g11, c11, some ⟨g8, 0, none⟩, c8, _, rfl, rfl, HCOL11, HSN11⟩, HB11⟩
                | (refine ⟨⟨t + 1, htT1, ⟨g11, c11, some ⟨g8, 0, none⟩, c8, _, rfl, rfl, HCOL11, HSN11⟩, HB11⟩, ?_⟩; simp [lenS]; omega)
                | (simp [lenS]; omega)
        · rw [decide_eq_false hin]
          have HXV := Lib.hid (show C.getD (m + t) 0 = 1 by rw [HX.out, decide_eq_false hin]; rfl)
          have hl7b := (HSN.out.below HB7.out).ll HRL.out
          go_wp2_with fail
          refine (spec_fnd A5 (some ⟨g7, 0, none⟩) (t + 1) c5 m c7 RS (L ++ [1]) w7 hRL hl7b (fun i hi => HSH.out i (by omega)) (by omega) HQL1.out (by omega) (ints_of HO7.out)).mono ?_
          rintro e w9 ⟨rfl, rfl⟩
          rw [HRZ.out, decide_eq_false hin]
          have htT1 : t + 1 < T := by
            rcases Nat.lt_or_ge (t + 1) T with h | h
            · exact h
            · have e : t + 1 = T := by omega
              have h2 := HG.out.again
              rw [← e, HWN.out, HXV.out] at h2
              exact absurd h2 hin
          clear hin hl7b HX
          obtain ⟨w9, hw79⟩ : ∃ w9, w9 = w7 := ⟨_, rfl⟩
          rw [← hw79] at HO7 HB7 ⊢
          have HO9 := HO7
          have HB9 := HB7
          clear hw79 HO7 HB7
          have HSN9 := Lib.hid (HSN.out.below HB9.out)
          have hw9 := HB9.out.size
          have hg7 := (own_lo HO9.out g7 rfl).1
          have hgw := (own_lo HCOL.out g rfl).2
          have HRV := Lib.hid (show (RD.mk (some ⟨g7, 0, none⟩) c7 (L ++ [1])).v = .slice (some ⟨g7, 0, none⟩) m c7 by unfold RD.v; rw [HQL1.out])
          have hcol9 := own_below HCOL.out HB9.out
          have HNE := Lib.hid (fun c (l : List Int) => (show (RD.mk (some ⟨g7, 0, none⟩) c l).b ≠ some g from fun e => by have h : g7 = g := (by injection e); omega))
          have hsz9 : W.heap.size ≤ w9.heap.size := Nat.le_trans HBT.out.size hw9
          have hseen9 := HSN9.out.1
          rw [wsL_len] at hseen9
          have hown9 := HO9.out
          have HNEW := Lib.hid (show w9.ownsRow W.heap.size 3 1 (RD.mk (some ⟨g7, 0, none⟩) c7 (L ++ [1])).v (L ++ [1]).length (vals (L ++ [1])) by rw [HRV.out, HQL1.out]; exact own_mono hown9 HBT.out.size)
          have HB9W := Lib.hid (HBT.out.trans (HB9.out.mono HBT.out.size))
          have HXX := Lib.hid (show C.getD (m + t) 0 = 1 from HXV.out)
          have HTN1 := Lib.hid (show C.take (m + t + 1) = C.take (m + t) ++ [1] by rw [HTN.out, HXX.out])
          have HWQ1 := Lib.hid (show wsL C m (t + 1 + 1) = wsL C m (t + 1) ++ [L ++ [1]] by rw [wsL_succ, HWN.out, HXX.out])
          clear HXX
          go_wp2_with (first
            | (at_builtin; refine app_more rfl (.tmp 39) (.tmp 41) 65 rfl W.heap.size 23 i1 (.slice none 0 0) 24 Try.underlying65 hj1 hy0 hy1 hy2 (by decide) rfl _ _ _ _ rfl hseen9 (.slice (some ⟨g7, 0, none⟩) m c7) rfl _ rfl rfl (by omega) hsz9 ?_; intro g8 c8 w10 hown10 hgr10; have HSN10 := Lib.hid (show Seen W.heap.size g w10 (wsL C m (t + 1) ++ [L ++ [1]]) (some ⟨g8, 0, none⟩) c8 (RS ++ [⟨some ⟨g7, 0, none⟩, c7, L ++ [1]⟩]) from HSN9.out.put (r := ⟨some ⟨g7, 0, none⟩, c7, L ++ [1]⟩) HNEW.out (HNE.out _ _) (by rw [wsL_len, HRV.out]; exact hown10) hgr10); have hcol10 := own_gr hcol9 hgr10 (fun k hk e => own_diff hseen9 hcol9 (by decide) k e hk); have hnx10 := own_gr hown9 hgr10 (fun k hk e => own_diff hseen9 hown9 (by decide) k e hk); have HB10 := Lib.hid (HB9W.out.grown hgr10 hsz9 (fun k hk => (own_lo hseen9 k hk).1)); have hcx : w10.cell? ⟨g7, m - 1, none⟩ = some (.int .i64 1) := (last_at hnx10 HLL.out hmq1); have hsz10 := HB10.out.size; clear hown10 hgr10)
            | (at_builtin; refine Aat.app_at rfl (.tmp 43) (.tmp 49) 23 rfl W.heap.size 3 i0 (.int .i64 0) 8 Try.underlying23 hi hz0 hz1 hz2 (by decide) rfl _ _ _ _ rfl hcol10 (.int .i64 1) rfl _ rfl rfl (by omega) hsz10 ?_; intro g11 c11 w11 hown11 hgr11 hat11))
          have HCOL11 := Lib.hid (show w11.ownsRow W.heap.size 3 1 (.slice (some ⟨g11, 0, none⟩) (m + (t + 1)) c11) (m + (t + 1)) (vals (C.take (m + (t + 1)))) by rw [show m + (t + 1) = m + t + 1 by omega, HTN1.out]; unfold vals; rw [List.map_append]; exact hown11)
          have HSN11 := Lib.hid (show Seen W.heap.size g11 w11 (wsL C m (t + 1 + 1)) (some ⟨g8, 0, none⟩) c8 (RS ++ [⟨some ⟨g7, 0, none⟩, c7, L ++ [1]⟩]) by
            rw [HWQ1.out]
            exact HSN10.out.after hgr11 (fun e => own_diff HSN10.out.1 hcol10 (by decide) _ e rfl) hat11)
          have HB11 := Lib.hid (HB10.out.grown hgr11 hsz10 (fun k hk => (own_lo hcol10 k hk).1))
          clear hown11 hgr11 hat11 hcol10 hnx10 hcol9 hseen9 hown9 hcx
          (try go_roundw)
          all_goals
            first
              | exact ⟨t + 1, htT1, ⟨g11, c11, some ⟨g8, 0, none⟩, c8, _, rfl, rfl, HCOL11, HSN11⟩, HB11⟩
              | (refine ⟨⟨t + 1, htT1, ⟨g11, c11, some ⟨g8, 0, none⟩, c8, _, rfl, rfl, HCOL11, HSN11⟩, HB11⟩, ?_⟩; simp [lenS]; omega)
              | (simp [lenS]; omega)
      · have HAT := Lib.hid (show IntsAt (wr.alloc (.cells #[] 3)) (wr.alloc (.cells #[] 3)).heap.size .i64 (some ⟨g, t + 1, none⟩) L by
          have h := ints_drop (k := t + 1) (ints_on HCI.out (box_below wr (.cells #[] 3)))
          rw [Nat.zero_add, ← hL] at h
          exact h)
        clear hL hLl
        go_wp2_with (first
          | (at_builtin; simp only [e2, e1]; refine app_any rfl (.tmp 24) (.tmp 25) 23 rfl wr.heap.size 3 i0 8 Try.underlying23 hi hz0 hz1 hz2 (by decide) _ 0 0 [] rfl (lit00 wr) (some ⟨g, t + 1, none⟩) (m - 1) _ L rfl HLL.out (fun h => by cases h) _ HAT.out (by decide) hmq (lit00_size wr) spot_some ?_; intro A6 c6 w6 hown6 hgr6; rw [Nat.zero_add, List.nil_append] at hown6; rw [Nat.zero_add]; have hb6 := (lit00_below wr).grown hgr6 (lit00_size wr) (fun k hk => by simp only [Option.map_some, Option.some.injEq] at hk; omega); have hs6 := hb6.size)
          | (at_builtin; refine app_more rfl (.tmp 26) (.tmp 27) 23 rfl wr.heap.size 3 i0 (.int .i64 0) 8 Try.underlying23 hi hz0 hz1 hz2 (by decide) rfl _ _ _ _ rfl hown6 (.int .i64 1) rfl _ rfl rfl (by omega) hs6 ?_; intro g7 c7 w7 hown7 hgr7))
        have HO7 := Lib.hid (show w7.ownsRow wr.heap.size 3 1 (.slice (some ⟨g7, 0, none⟩) m c7) m (vals (L ++ [1])) by have h := hown7; (try rw [hm1] at h); unfold vals; rw [List.map_append]; exact h)
        have HB7 := Lib.hid (hb6.grown hgr7 hs6 (fun k hk => (own_lo hown6 k hk).1))
        have hseen7 := HSN.out.below HB7.out
        have hl7 := hseen7.ll HRL.out
        have HRZ := Lib.hid HSN.out.2.1
        have hRL : RS.length = t + 1 := by rw [HRL.out, wsL_len]
        refine (spec_fnd A5 (some ⟨g7, 0, none⟩) (t + 1) c5 m c7 RS (L ++ [1]) w7 hRL hl7 (fun i hi => HSH.out i (by omega)) (by omega) HQL1.out (by omega) (ints_of HO7.out)).mono ?_
        rintro e w8 ⟨rfl, rfl⟩
        rw [HRZ.out]
        clear hseen7 hl7 hown6 hgr6 hown7 hgr7 hb6 hs6 HAT
        by_cases hin : L ++ [1] ∈ wsL C m (t + 1)
        · rw [decide_eq_true hin]
          have HXV := Lib.hid (show C.getD (m + t) 0 = 0 by rw [HX.out, decide_eq_true hin]; rfl)
          clear hin HX
          have hstc : w7.cell? ⟨g7, m - 1, none⟩ = some (.int .i64 1) := last_at HO7.out HLL.out hmq1
          have hstf := HO7.out.frozenAt (m - 1)
          have hst := HO7.out.stored (m - 1) (.int .i64 0)
          rw [← HLL.out, set_last, HLL.out] at hst
          obtain ⟨w9, hw9⟩ : ∃ w9, w9 = w7.setCell ⟨g7, m - 1, none⟩ (.int .i64 0) := ⟨_, rfl⟩
          rw [← hw9] at hst
          have HO9 := Lib.hid hst.1
          have HB9 := Lib.hid (HB7.out.grown hst.2 HB7.out.size (fun k hk => by simp only [Option.some.injEq] at hk; have := (own_lo HO7.out g7 rfl).1; omega))
          have hseen9' := HSN.out.below HB9.out
          have hl9 := hseen9'.ll HRL.out
          clear hst HO7 HB7
          go_wp2_with fail
          rw [← hw9]
          clear hw9 hstc hstf
          refine (spec_fnd A5 (some ⟨g7, 0, none⟩) (t + 1) c5 m c7 RS (L ++ [0]) w9 hRL hl9 (fun i hi => HSH.out i (by omega)) (by omega) HQL0.out (by omega) (ints_of HO9.out)).mono ?_
          rintro e w8 ⟨rfl, rfl⟩
          rw [HRZ.out]
          by_cases hin0 : L ++ [0] ∈ wsL C m (t + 1)
          · rw [decide_eq_true hin0]
            have htT : t + 1 = T := by
              by_cases e : t + 1 = T
              · exact e
              · have h := HG.out.fresh (k := t + 1) (by omega)
                rw [HWN.out, HXV.out] at h
                exact absurd hin0 h
            have HCOL9 := Lib.hid (own_below HCOL.out HB9.out)
            have HB9W := Lib.hid (HBT.out.trans (HB9.out.mono HBT.out.size))
            clear hin0 hl9 hseen9'
            have hns : T ≤ 4294967296 := by omega
            have HLT9 := Lib.hid (show IntsAt (w9.alloc (.cells #[] 3)) (w9.alloc (.cells #[] 3)).heap.size .i64 (some ⟨g, 0, none⟩) (C.take T) by
              have h := Prm.ints_take T (ints_on (ints_of HCOL9.out) (box_below w9 (.cells #[] 3)))
              rw [List.take_take, Nat.min_eq_left (by omega)] at h
              exact h)
            go_wp2_with (at_builtin; (try simp only [e2, htT]); refine app_any rfl (.tmp 51) (.tmp 58) 23 rfl w9.heap.size 3 i0 8 Try.underlying23 hi hz0 hz1 hz2 (by decide) _ 0 0 [] rfl (lit00 w9) (some ⟨g, 0, none⟩) T _ (C.take T) rfl HL.out (fun h => by cases h) _ HLT9.out (by decide) hns (lit00_size w9) spot_some ?_; intro A12 c12 w12 hown12 hgr12; rw [Nat.zero_add, List.nil_append] at hown12; rw [Nat.zero_add]; have hb12 := (lit00_below w9).grown hgr12 (lit00_size w9) (fun k hk => by simp only [Option.map_some, Option.some.injEq] at hk; omega); have HBW := Lib.hid (HB9W.out.trans (hb12.mono HB9W.out.size)); have HX := Lib.hid ((HBW.out.block w.heap.size hs1).trans HC1.out); have HBw := Lib.hid (HB0.out.trans (HBW.out.mono HB0.out.size)); obtain ⟨k4, k5⟩ := cell2 HX.out; have f4 := frz HX.out 0; have f5 := frz HX.out 1; obtain ⟨HP1, HP2, HP3⟩ := put_box (x := .slice A12 T c12) (y := .int .i64 (m : Int)) HX.out HBw.out (Nat.le_refl _); have HP1 := Lib.hid HP1; have HP2 := Lib.hid HP2; have hsw9 := HB9W.out.size; have HO := Lib.hid (own_mono (own_gr hown12 HP3 (fun j hj e => by have h1 := (own_lo hown12 j hj).1; injection e with e; omega)) (Nat.le_trans HB0.out.size hsw9)); clear hown12 hgr12 hb12 HP3)
            (try simp only [Exit.inBlock, Exit.then])
            refine bodyPost_ret (results_cs rfl _ rfl rfl HP1.out) rfl ?_
            exact ⟨A12, c12, by rw [HL.out]; rfl, by rw [HL.out]; exact HO.out, HP2.out⟩
          · rw [decide_eq_false hin0]
            have htT1 : t + 1 < T := by
              rcases Nat.lt_or_ge (t + 1) T with h | h
              · exact h
              · have e : t + 1 = T := by omega
                have h2 := HG.out.again
                rw [← e, HWN.out, HXV.out] at h2
                exact absurd h2 hin0
            clear hin0 hl9 hseen9'
            have HSN9 := Lib.hid (HSN.out.below HB9.out)
            have hw9 := HB9.out.size
            have hg7 := (own_lo HO9.out g7 rfl).1
            have hgw := (own_lo HCOL.out g rfl).2
            have HRV := Lib.hid (show (RD.mk (some ⟨g7, 0, none⟩) c7 (L ++ [0])).v = .slice (some ⟨g7, 0, none⟩) m c7 by unfold RD.v; rw [HQL0.out])
            have hcol9 := own_below HCOL.out HB9.out
            have HNE := Lib.hid (fun c (l : List Int) => (show (RD.mk (some ⟨g7, 0, none⟩) c l).b ≠ some g from fun e => by have h : g7 = g := (by injection e); omega))
            have hsz9 : W.heap.size ≤ w9.heap.size := Nat.le_trans HBT.out.size hw9
            have hseen9 := HSN9.out.1
            rw [wsL_len] at hseen9
            have hown9 := HO9.out
            have HNEW := Lib.hid (show w9.ownsRow W.heap.size 3 1 (RD.mk (some ⟨g7, 0, none⟩) c7 (L ++ [0])).v (L ++ [0]).length (vals (L ++ [0])) by rw [HRV.out, HQL0.out]; exact own_mono hown9 HBT.out.size)
            have HB9W := Lib.hid (HBT.out.trans (HB9.out.mono HBT.out.size))
            have HXX := Lib.hid (show C.getD (m + t) 0 = 0 from HXV.out)
            have HTN0 := Lib.hid (show C.take (m + t + 1) = C.take (m + t) ++ [0] by rw [HTN.out, HXX.out])
            have HWQ0 := Lib.hid (show wsL C m (t + 1 + 1) = wsL C m (t + 1) ++ [L ++ [0]] by rw [wsL_succ, HWN.out, HXX.out])
            clear HXX
            go_wp2_with (first
              | (at_builtin; refine app_more rfl (.tmp 39) (.tmp 41) 65 rfl W.heap.size 23 i1 (.slice none 0 0) 24 Try.underlying65 hj1 hy0 hy1 hy2 (by decide) rfl _ _ _ _ rfl hseen9 (.slice (some ⟨g7, 0, none⟩) m c7) rfl _ rfl rfl (by omega) hsz9 ?_; intro g8 c8 w10 hown10 hgr10; have HSN10 := Lib.hid (show Seen W.heap.size g w10 (wsL C m (t + 1) ++ [L ++ [0]]) (some ⟨g8, 0, none⟩) c8 (RS ++ [⟨some ⟨g7, 0, none⟩, c7, L ++ [0]⟩]) from HSN9.out.put (r := ⟨some ⟨g7, 0, none⟩, c7, L ++ [0]⟩) HNEW.out (HNE.out _ _) (by rw [wsL_len, HRV.out]; exact hown10) hgr10); have hcol10 := own_gr hcol9 hgr10 (fun k hk e => own_diff hseen9 hcol9 (by decide) k e hk); have hnx10 := own_gr hown9 hgr10 (fun k hk e => own_diff hseen9 hown9 (by decide) k e hk); have HB10 := Lib.hid (HB9W.out.grown hgr10 hsz9 (fun k hk => (own_lo hseen9 k hk).1)); have hcx : w10.cell? ⟨g7, m - 1, none⟩ = some (.int .i64 0) := (last_at hnx10 HLL.out hmq1); have hsz10 := HB10.out.size; clear hown10 hgr10)
              | (at_builtin; refine Aat.app_at rfl (.tmp 43) (.tmp 49) 23 rfl W.heap.size 3 i0 (.int .i64 0) 8 Try.underlying23 hi hz0 hz1 hz2 (by decide) rfl _ _ _ _ rfl hcol10 (.int .i64 0) rfl _ rfl rfl (by omega) hsz10 ?_; intro g11 c11 w11 hown11 hgr11 hat11))
            have HCOL11 := Lib.hid (show w11.ownsRow W.heap.size 3 1 (.slice (some ⟨g11, 0, none⟩) (m + (t + 1)) c11) (m + (t + 1)) (vals (C.take (m + (t + 1)))) by rw [show m + (t + 1) = m + t + 1 by omega, HTN0.out]; unfold vals; rw [List.map_append]; exact hown11)
            have HSN11 := Lib.hid (show Seen W.heap.size g11 w11 (wsL C m (t + 1 + 1)) (some ⟨g8, 0, none⟩) c8 (RS ++ [⟨some ⟨g7, 0, none⟩, c7, L ++ [0]⟩]) by
              rw [HWQ0.out]
              exact HSN10.out.after hgr11 (fun e => own_diff HSN10.out.1 hcol10 (by decide) _ e rfl) hat11)
            have HB11 := Lib.hid (HB10.out.grown hgr11 hsz10 (fun k hk => (own_lo hcol10 k hk).1))
            clear hown11 hgr11 hat11 hcol10 hnx10 hcol9 hseen9 hown9 hcx
            go_roundw
            all_goals
              first
                | exact ⟨t + 1, htT1, ⟨g11, c11, some ⟨g8, 0, none⟩, c8, _, rfl, rfl, HCOL11, HSN11⟩, HB11⟩
                | (refine ⟨⟨t + 1, htT1, ⟨g11, c11, some ⟨g8, 0, none⟩, c8, _, rfl, rfl, HCOL11, HSN11⟩, HB11⟩, ?_⟩; simp [lenS]; omega)
                | (simp [lenS]; omega)
        · rw [decide_eq_false hin]
          have HXV := Lib.hid (show C.getD (m + t) 0 = 1 by rw [HX.out, decide_eq_false hin]; rfl)
          have hl7b := (HSN.out.below HB7.out).ll HRL.out
          go_wp2_with fail
          refine (spec_fnd A5 (some ⟨g7, 0, none⟩) (t + 1) c5 m c7 RS (L ++ [1]) w7 hRL hl7b (fun i hi => HSH.out i (by omega)) (by omega) HQL1.out (by omega) (ints_of HO7.out)).mono ?_
          rintro e w9 ⟨rfl, rfl⟩
          rw [HRZ.out, decide_eq_false hin]
          have htT1 : t + 1 < T := by
            rcases Nat.lt_or_ge (t + 1) T with h | h
            · exact h
            · have e : t + 1 = T := by omega
              have h2 := HG.out.again
              rw [← e, HWN.out, HXV.out] at h2
              exact absurd h2 hin
          clear hin hl7b HX
          obtain ⟨w9, hw79⟩ : ∃ w9, w9 = w7 := ⟨_, rfl⟩
          rw [← hw79] at HO7 HB7 ⊢
          have HO9 := HO7
          have HB9 := HB7
          clear hw79 HO7 HB7
          have HSN9 := Lib.hid (HSN.out.below HB9.out)
          have hw9 := HB9.out.size
          have hg7 := (own_lo HO9.out g7 rfl).1
          have hgw := (own_lo HCOL.out g rfl).2
          have HRV := Lib.hid (show (RD.mk (some ⟨g7, 0, none⟩) c7 (L ++ [1])).v = .slice (some ⟨g7, 0, none⟩) m c7 by unfold RD.v; rw [HQL1.out])
          have hcol9 := own_below HCOL.out HB9.out
          have HNE := Lib.hid (fun c (l : List Int) => (show (RD.mk (some ⟨g7, 0, none⟩) c l).b ≠ some g from fun e => by have h : g7 = g := (by injection e); omega))
          have hsz9 : W.heap.size ≤ w9.heap.size := Nat.le_trans HBT.out.size hw9
          have hseen9 := HSN9.out.1
          rw [wsL_len] at hseen9
          have hown9 := HO9.out
          have HNEW := Lib.hid (show w9.ownsRow W.heap.size 3 1 (RD.mk (some ⟨g7, 0, none⟩) c7 (L ++ [1])).v (L ++ [1]).length (vals (L ++ [1])) by rw [HRV.out, HQL1.out]; exact own_mono hown9 HBT.out.size)
          have HB9W := Lib.hid (HBT.out.trans (HB9.out.mono HBT.out.size))
          have HXX := Lib.hid (show C.getD (m + t) 0 = 1 from HXV.out)
          have HTN1 := Lib.hid (show C.take (m + t + 1) = C.take (m + t) ++ [1] by rw [HTN.out, HXX.out])
          have HWQ1 := Lib.hid (show wsL C m (t + 1 + 1) = wsL C m (t + 1) ++ [L ++ [1]] by rw [wsL_succ, HWN.out, HXX.out])
          clear HXX
          go_wp2_with (first
            | (at_builtin; refine app_more rfl (.tmp 39) (.tmp 41) 65 rfl W.heap.size 23 i1 (.slice none 0 0) 24 Try.underlying65 hj1 hy0 hy1 hy2 (by decide) rfl _ _ _ _ rfl hseen9 (.slice (some ⟨g7, 0, none⟩) m c7) rfl _ rfl rfl (by omega) hsz9 ?_; intro g8 c8 w10 hown10 hgr10; have HSN10 := Lib.hid (show Seen W.heap.size g w10 (wsL C m (t + 1) ++ [L ++ [1]]) (some ⟨g8, 0, none⟩) c8 (RS ++ [⟨some ⟨g7, 0, none⟩, c7, L ++ [1]⟩]) from HSN9.out.put (r := ⟨some ⟨g7, 0, none⟩, c7, L ++ [1]⟩) HNEW.out (HNE.out _ _) (by rw [wsL_len, HRV.out]; exact hown10) hgr10); have hcol10 := own_gr hcol9 hgr10 (fun k hk e => own_diff hseen9 hcol9 (by decide) k e hk); have hnx10 := own_gr hown9 hgr10 (fun k hk e => own_diff hseen9 hown9 (by decide) k e hk); have HB10 := Lib.hid (HB9W.out.grown hgr10 hsz9 (fun k hk => (own_lo hseen9 k hk).1)); have hcx : w10.cell? ⟨g7, m - 1, none⟩ = some (.int .i64 1) := (last_at hnx10 HLL.out hmq1); have hsz10 := HB10.out.size; clear hown10 hgr10)
            | (at_builtin; refine Aat.app_at rfl (.tmp 43) (.tmp 49) 23 rfl W.heap.size 3 i0 (.int .i64 0) 8 Try.underlying23 hi hz0 hz1 hz2 (by decide) rfl _ _ _ _ rfl hcol10 (.int .i64 1) rfl _ rfl rfl (by omega) hsz10 ?_; intro g11 c11 w11 hown11 hgr11 hat11))
          have HCOL11 := Lib.hid (show w11.ownsRow W.heap.size 3 1 (.slice (some ⟨g11, 0, none⟩) (m + (t + 1)) c11) (m + (t + 1)) (vals (C.take (m + (t + 1)))) by rw [show m + (t + 1) = m + t + 1 by omega, HTN1.out]; unfold vals; rw [List.map_append]; exact hown11)
          have HSN11 := Lib.hid (show Seen W.heap.size g11 w11 (wsL C m (t + 1 + 1)) (some ⟨g8, 0, none⟩) c8 (RS ++ [⟨some ⟨g7, 0, none⟩, c7, L ++ [1]⟩]) by
            rw [HWQ1.out]
            exact HSN10.out.after hgr11 (fun e => own_diff HSN10.out.1 hcol10 (by decide) _ e rfl) hat11)
          have HB11 := Lib.hid (HB10.out.grown hgr11 hsz10 (fun k hk => (own_lo hcol10 k hk).1))
          clear hown11 hgr11 hat11 hcol10 hnx10 hcol9 hseen9 hown9 hcx
          (try go_roundw)
          all_goals
            first
              | exact ⟨t + 1, htT1, ⟨g11, c11, some ⟨g8, 0, none⟩, c8, _, rfl, rfl, HCOL11, HSN11⟩, HB11⟩
              | (refine ⟨⟨t + 1, htT1, ⟨g11, c11, some ⟨g8, 0, none⟩, c8, _, rfl, rfl, HCOL11, HSN11⟩, HB11⟩, ?_⟩; simp [lenS]; omega)
              | (simp [lenS]; omega)
  · have HMM := Lib.hid (decide_eq_false hm)
    have hd : dbB m0 = false := decide_eq_false hm
    rw [(db_no hd).1, (db_no hd).2, hd]
    clear hd hm hb0 c1
    go_enter Try.func32, Try.ntmps32
    go_wp2_with fail
    rw [← hW]
    clear hW
    refine (in_any _ 1 6 _).mono ?_
    rintro e w1 ⟨rfl, rfl⟩
    rw [HMM.out]
    obtain ⟨k4, k5⟩ := cell2 HC1.out
    have f4 := frz HC1.out 0
    have f5 := frz HC1.out 1
    obtain ⟨HP1, HP2, _⟩ := put_box (x := .slice none 0 0) (y := .int .i64 0) HC1.out HB0.out (Nat.le_refl _)
    have HP1 := Lib.hid HP1
    have HP2 := Lib.hid HP2
    go_wp2
    (try simp only [Exit.inBlock, Exit.then])
    refine bodyPost_ret (results_cs rfl _ rfl rfl HP1.out) rfl ?_
    exact ⟨none, 0, rfl, World.ownsRow_nil _ _ _ _, HP2.out⟩
end Go.Proofs.Ytkonakfbidnfhaa.Skr
