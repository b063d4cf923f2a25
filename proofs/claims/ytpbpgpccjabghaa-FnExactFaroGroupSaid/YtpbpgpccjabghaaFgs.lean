/- FaroGroup of the model. -/
import Derived.Test.YtpbpgpccjabghaaFgi
import Derived.Test.YtpbpgpccjabghaaSsf
import Derived.Test.YtpbpgpccjabghaaSame
set_option linter.unusedVariables false
set_option maxRecDepth 20000
namespace Go.Proofs.Ytpbpgpccjabghaa.Fgs
open Go.RowKit Go.Maps Fr Own Pk Pok Arr Ins Nwp Pfn Rws Lb Cat Mvp Mv1 Mv2 Mv3 Mv4 Mk Mok2 Pf Sv Sv2 Sv3 Do Pa Fsz Prm Fpm Bfs Fps Grf Shi Fgi Ssf Sam

/-- a list of lists in memory -/
def LL (w : World) (A : Option Addr) (ls : List RD) : Prop := ∀ k, k < ls.length → ∃ b o, A = some ⟨b, o, none⟩ ∧ w.cell? ⟨b, o + k, none⟩ = some (ls.getD k rd0).v ∧ IntsAt w w.heap.size .i64 (ls.getD k rd0).A (ls.getD k rd0).zs
def inK (q : List Int) (ls : List RD) (k : Nat) : Bool := decide (q ∈ (ls.take k).map RD.zs)
theorem inK_next {q : List Int} {ls : List RD} {k : Nat} (h : k < ls.length) : inK q ls (k + 1) = (inK q ls k || decide ((ls.getD k rd0).zs = q)) := by
  unfold inK
  rw [List.take_succ_eq_append_getElem h, List.map_append, Bool.eq_iff_iff]
  simp only [decide_eq_true_eq, List.mem_append, Bool.or_eq_true, List.map_cons, List.map_nil, List.mem_singleton, List.getD_eq_getElem?_getD, List.getElem?_eq_getElem h, Option.getD_some]
  constructor
  · rintro (h | h)
    · exact Or.inl h
    · exact Or.inr h.symm
  · rintro (h | h)
    · exact Or.inl h
    · exact Or.inr h.symm
theorem inK_more {q : List Int} {ls : List RD} {k : Nat} (h : inK q ls k = true) : inK q ls ls.length = true := by
  unfold inK at *
  rw [decide_eq_true_eq] at h ⊢
  obtain ⟨r, hr, e⟩ := List.mem_map.1 h
  exact List.mem_map.2 ⟨r, by rw [List.take_length]; exact List.mem_of_mem_take hr, e⟩
set_option maxHeartbeats 1000000 in
theorem spec_fnd (A B : Option Addr) (n c nq cq : Nat) (ls : List RD) (q : List Int) (w : World) (hn : ls.length = n) (hat : LL w A ls) (hz : ∀ i, i < n → (ls.getD i rd0).zs.length ≤ 1048576) (hn2 : n ≤ 1048576)
    (hq : q.length = nq) (hq2 : nq ≤ 9223372036854775807) (hqat : IntsAt w w.heap.size .i64 B q) :
    Calls Try.prog 72 #[.slice A n c, .slice B nq cq] w fun e w' => e = .returned (.bool (decide (q ∈ ls.map RD.zs))) ∧ w = w' := by
  have HN := Lib.hid hn
  have HZ := Lib.hid hz
  have HAT := Lib.hid hat
  have HQ := Lib.hid hqat
  obtain ⟨R, hR⟩ : ∃ R, R = decide (q ∈ ls.map RD.zs) := ⟨_, rfl⟩
  rw [← hR]
  have HR := Lib.hid (show R = inK q ls n by rw [hR, ← hn]; unfold inK; rw [List.take_length])
  clear hR hn hz hat hqat
  go_enter Try.func72, Try.ntmps72
  go_wp2
  go_loop [6, 9] (fun _ i => ∃ k : Nat, k ≤ n ∧ i = .int .i64 (k : Int) ∧ Hid (inK q ls k = false)) (fun _ i => n - (intOf i).toNat)
  case atStart => exact ⟨0, Nat.zero_le _, rfl, (show inK q ls 0 = false from by unfold inK; simp)⟩
  case round =>
    obtain ⟨k, hk, rfl, HF⟩ := hrel
    by_cases hlt : k < n
    · obtain ⟨b, o, rfl, hc, hi⟩ := HAT.out k (by rw [HN.out]; exact hlt)
      have hzk := HZ.out k hlt
      have HE := Lib.hid (inK_next (q := q) (ls := ls) (k := k) (by rw [HN.out]; exact hlt))
      have HMO := Lib.hid (show inK q ls (k + 1) = true → inK q ls n = true from fun h => by
        have h2 := inK_more h
        rw [HN.out] at h2
        exact h2)
      generalize ls.getD k rd0 = r at *
      obtain ⟨B1, d1, zs⟩ := r
      simp only [RD.v] at hc hi hzk HE
      have C := spec_same B1 B zs.length nq d1 cq zs q w rfl hq (by omega) hq2 hi HQ.out
      clear hi
      go_wp2_with fail
      refine C.mono ?_
      rintro e w' ⟨rfl, rfl⟩
      by_cases hb : zs = q
      · have HT := Lib.hid (HMO.out (by rw [HE.out, decide_eq_true hb, Bool.or_true]))
        have HSB := Lib.hid (show sameB zs q = true from decide_eq_true hb)
        rw [HSB.out]
        clear hb C
        go_wp2
        go_ret
        exact ⟨congrArg (fun z => Ending.returned (.bool z)) (by rw [HR.out, HT.out]), rfl⟩
      · have HT := Lib.hid (show inK q ls (k + 1) = false by rw [HE.out, HF.out, decide_eq_false hb]; rfl)
        have HSB := Lib.hid (show sameB zs q = false from decide_eq_false hb)
        rw [HSB.out]
        clear hb C
        go_wp2
        go_round
        case rel => exact ⟨k + 1, by omega, by go_num, HT⟩
        case measure => simp [intOf]; omega
    · have hkn : k = n := by omega
      subst hkn
      go_wp2
      go_ret
      exact ⟨congrArg (fun z => Ending.returned (.bool z)) (by rw [HR.out, HF.out]), rfl⟩
def SplG (w : World) (V : List (List Int)) (s3 : Value) (wr : World) : Prop :=
  ∃ (A3 : Option Addr) (c3 : Nat) (RS : List RD), s3 = .slice A3 V.length c3 ∧ wr.ownsRow w.heap.size 24 1 (.slice A3 V.length c3) V.length (RS.map RD.v) ∧ RS.map RD.zs = V ∧ (∀ r ∈ RS, wr.ownsRow w.heap.size 3 1 r.v r.zs.length (vals r.zs)) ∧ Below w.heap.size w wr
theorem spg_below {w wr w' : World} {V : List (List Int)} {s3 : Value} (h : SplG w V s3 wr) (hb : Below wr.heap.size wr w') : SplG w V s3 w' := by
  obtain ⟨A3, c3, RS, e1, h3, hz, hR, hbw⟩ := h
  exact ⟨A3, c3, RS, e1, own_below h3 hb, hz, fun r hr => own_below (hR r hr) hb, hbw.trans (hb.mono hbw.size)⟩
theorem spg_put {w w1 w5 : World} {V : List (List Int)} {RS : List RD} {A3 : Option Addr} {c3 g3 c3' : Nat} {r : RD} (hz : RS.map RD.zs = V) (hB1 : Below w.heap.size w w1)
    (h3 : w1.ownsRow w.heap.size 24 1 (.slice A3 V.length c3) V.length (RS.map RD.v)) (hR : ∀ r ∈ RS, w1.ownsRow w.heap.size 3 1 r.v r.zs.length (vals r.zs)) (hr : w1.ownsRow w.heap.size 3 1 r.v r.zs.length (vals r.zs))
    (h3' : w5.ownsRow w.heap.size 24 1 (.slice (some ⟨g3, 0, none⟩) (V.length + 1) c3') (V.length + 1) (RS.map RD.v ++ [r.v])) (hg5 : w1.grownBy w5 (A3.map (·.block))) :
    SplG w (V ++ [r.zs]) (.slice (some ⟨g3, 0, none⟩) (V.length + 1) c3') w5 := by
  have e1 : (V ++ [r.zs]).length = V.length + 1 := by simp
  have keep : ∀ s ∈ RS ++ [r], w5.ownsRow w.heap.size 3 1 s.v s.zs.length (vals s.zs) := fun s hs => by
    have k1 : w1.ownsRow w.heap.size 3 1 s.v s.zs.length (vals s.zs) := by
      rcases List.mem_append.1 hs with hs | hs
      · exact hR s hs
      · rw [List.mem_singleton.1 hs]; exact hr
    exact own_gr k1 hg5 (fun k hk e => own_diff h3 k1 (by decide) k e hk)
  exact ⟨_, c3', RS ++ [r], by rw [e1], by rw [e1, List.map_append]; exact h3', by rw [List.map_append, hz]; rfl, keep, hB1.grown hg5 hB1.size (fun k hk => (own_lo h3 k hk).1)⟩
theorem own_rows {w : World} {lo : Nat} {A3 : Option Addr} {n c3 : Nat} {RS : List RD} (h : w.ownsRow lo 24 1 (.slice A3 n c3) n (RS.map RD.v)) (hl : RS.length = n) (hR : ∀ r ∈ RS, w.ownsRow lo 3 1 r.v r.zs.length (vals r.zs)) : LL w A3 RS := by
  intro k hk
  obtain ⟨g, rfl⟩ := own_addr h (by omega)
  have hm : RS.getD k rd0 ∈ RS := by
    rw [List.getD_eq_getElem?_getD, List.getElem?_eq_getElem hk]
    exact List.getElem_mem hk
  refine ⟨g, 0, rfl, ?_, ints_of (hR _ hm)⟩
  rw [Nat.zero_add, h.cellAt k (by omega), List.getElem?_map, List.getElem?_eq_getElem hk, List.getD_eq_getElem?_getD, List.getElem?_eq_getElem hk]
  rfl

set_option maxHeartbeats 4000000 in
theorem spec_fg (n : Int) (w : World) (h1 : -9223372036854775808 ≤ n) (h2 : n ≤ 9223372036854775807) :
    Calls Try.prog 36 #[.int .i64 n] w fun e w' => e = .returned (.int .i64 (fgF n)) ∧ Below w.heap.size w w' := by
  obtain ⟨i1, hj, hy0, hy1, hy2⟩ := infos_parts
  cases hb : fgB n with
  | false =>
    rw [fgF_no hb]
    cases hs : szB n with
    | false =>
      have HS := Lib.hid hs
      clear hs hb
      go_enter Try.func36, Try.ntmps36
      go_wp2_with fail
      refine (spec_sz n _ h1 h2).mono ?_
      rintro e w1 ⟨rfl, rfl⟩
      rw [HS.out]
      go_wp2
      go_ret
      exact ⟨rfl, Below.refl _ _⟩
    | true =>
      have HS := Lib.hid hs
      have h8 : 8 < n := by
        unfold fgB at hb
        rw [hs, Bool.true_and, decide_eq_false_iff_not] at hb
        omega
      clear hs hb
      go_enter Try.func36, Try.ntmps36
      go_wp2_with fail
      refine (spec_sz n _ h1 h2).mono ?_
      rintro e w1 ⟨rfl, rfl⟩
      rw [HS.out]
      go_wp2
      go_ret
      exact ⟨rfl, Below.refl _ _⟩
  | true =>
    rw [fgF_yes hb]
    obtain ⟨m, rfl, p1, p2, p3, hs⟩ := fg_parts hb
    rw [show (m : Int).toNat = m from rfl]
    have HS := Lib.hid hs
    have h8 : decide ((8 : Int) < (m : Int)) = false := decide_eq_false (by omega)
    have HNW := Lib.hid (newF_yes m (by omega))
    have HLI := Lib.hid (imarks_length 0 m)
    have HRUN := Lib.hid (run_grp p1 p2 p3)
    have HFAR := Lib.hid (fun (k : Nat) (l : List Int) (hk : k ≤ 1) (hl : l.length = m) => faro_is (n := m) (k := k) (l := l) (by omega) (by omega) hk hl)
    have HGP := Lib.hid (fun (l : List Int) (h : goodG m l = true) => good_parts h)
    have hN24 := gN_few (n := m)
    have HIO : Hid (imarks 0 m = iot m) := rfl
    clear hs hb
    generalize nxG m = nx at *
    generalize gN m = N at *
    go_enter Try.func36, Try.ntmps36
    go_wp2_with fail
    refine (spec_sz _ _ h1 h2).mono ?_
    rintro e w1 ⟨rfl, rfl⟩
    rw [HS.out]
    go_wp2_with fail
    refine (Nwp.spec_new (m : Int) _ h1 h2).mono ?_
    rintro e w2 ⟨A2, c2, rfl, ho2, hb2⟩
    rw [HNW.out, HLI.out] at ho2
    rw [HNW.out, HLI.out]
    have HSP0 := Lib.hid (show SplG w (runB nx [] (iot m) 0).1 (.slice (some ⟨w2.heap.size, 0, none⟩) 1 1) (w2.alloc (.cells #[.slice A2 m c2] 24)) from by
      have hl := World.ownsRow_lit (base := w.heap.size) (e := 24) (size := 1) w2 #[.slice A2 m c2] 1 hb2.size (by decide) rfl
      have hv : (RD.mk A2 c2 (imarks 0 m)).v = .slice A2 m c2 := by unfold RD.v; rw [HLI.out]
      refine ⟨_, 1, [⟨A2, c2, imarks 0 m⟩], rfl, ?_, rfl, fun r hr => ?_, hb2.alloc hb2.size _⟩
      · show World.ownsRow _ _ _ _ _ _ [(RD.mk A2 c2 (imarks 0 m)).v]
        rw [hv]; exact hl
      · rw [List.mem_singleton.1 hr, hv]
        show World.ownsRow _ _ _ _ _ (imarks 0 m).length _
        rw [HLI.out]
        exact ho2.alloc _)
    clear ho2 hb2
    go_wp2
    go_loopw [3, 4] (fun s3 s4 wr => ∃ t : Nat, t ≤ N ∧ s4 = .int .i64 (t : Int) ∧ Hid (SplG w (runB nx [] (iot m) t).1 s3 wr)) (fun _ s4 _ => N - (intOf s4).toNat)
    case atStart => exact ⟨0, Nat.zero_le _, rfl, HSP0⟩
    case round =>
      obtain ⟨t, ht, rfl, HSP⟩ := hrel
      clear HSP0
      by_cases hlt : t < N
      · obtain ⟨hst, htl⟩ := HRUN.out.st (k := 0) hlt (by omega)
        obtain ⟨A3, c3, RS, rfl, h3, hz, hR, hbw⟩ := HSP.out
        have hst0 : stH nx [] (iot m) t 0 = runB nx [] (iot m) t := rfl
        rw [hst0] at htl
        have htV : (t : Int) < ((runB nx [] (iot m) t).1.length : Int) := by omega
        have HSI : Hid (SplG w (stH nx [] (iot m) t 0).1 (.slice A3 (runB nx [] (iot m) t).1.length c3) wr) := by rw [hst0]; exact HSP
        clear h3 hz hR hbw hst hst0 HSP
        go_wp2
        go_loopw [3, 5] (fun s3 s5 wr => ∃ k : Nat, k ≤ 2 ∧ s5 = .int .i64 (k : Int) ∧ Hid (SplG w (stH nx [] (iot m) t k).1 s3 wr)) (fun _ s5 _ => 2 - (intOf s5).toNat)
        case atStart => exact ⟨0, by omega, rfl, HSI⟩
        case round =>
          obtain ⟨k, hk, rfl, HSK⟩ := hrel
          clear HSI htV
          by_cases hk2 : k < 2
          · obtain ⟨hst, htl⟩ := HRUN.out.st (k := k) hlt (by omega)
            obtain ⟨A4, c4, RS, rfl, h3, hz, hR, hbw⟩ := HSK.out
            have hk1' : (k : Int) < 2 := by omega
            have hfew := hst.few
            have hgood := hst.good
            have hhalf : stH nx [] (iot m) t (k + 1) = half nx [] (stH nx [] (iot m) t k) t k := rfl
            have hsamelen : RS.length = (stH nx [] (iot m) t k).1.length := by
              have h := congrArg List.length hz
              rw [List.length_map] at h
              exact h
            obtain ⟨x0, hx0⟩ : ∃ x, x = (stH nx [] (iot m) t k).1.getD t [] := ⟨_, rfl⟩
            obtain ⟨y, hy⟩ : ∃ y, y = nx k x0 := ⟨_, rfl⟩
            have hmem : x0 ∈ (stH nx [] (iot m) t k).1 := by
              rw [hx0, List.getD_eq_getElem?_getD, List.getElem?_eq_getElem htl]
              exact List.getElem_mem htl
            have hxl := (HGP.out x0 (hgood x0 hmem)).1
            have hyl : y.length = m := (HGP.out y ((HRUN.out.st (k := k + 1) hlt (by omega)).1.good y (by
              have h := half_mem nx [] (stH nx [] (iot m) t k) t k
              rw [← hx0, ← hy] at h
              rw [hhalf]
              exact h))).1
            have hold : y ∈ (stH nx [] (iot m) t k).1 → stH nx [] (iot m) t (k + 1) = stH nx [] (iot m) t k := fun h => by rw [hhalf]; exact half_old (by rw [← hx0, ← hy]; exact h)
            have hnew : y ∉ (stH nx [] (iot m) t k).1 → (stH nx [] (iot m) t (k + 1)).1 = (stH nx [] (iot m) t k).1 ++ [y] := fun h => by
              rw [hhalf, half_new (by rw [← hx0, ← hy]; exact h), ← hx0, ← hy]
            have hfy : faroL x0 k = y := by rw [hy]; exact HFAR.out k x0 (by omega) hxl
            have htR : t < RS.length := by omega
            obtain ⟨r, hr⟩ : ∃ r, r = RS.getD t rd0 := ⟨_, rfl⟩
            have hrm : r ∈ RS := by
              rw [hr, List.getD_eq_getElem?_getD, List.getElem?_eq_getElem htR]
              exact List.getElem_mem htR
            have hrz : r.zs = x0 := by
              rw [hx0, hr, ← hz]
              simp [List.getD_eq_getElem?_getD, List.getElem?_eq_getElem htR]
            obtain ⟨g4, hg4⟩ := own_addr h3 (by omega)
            subst hg4
            have hc4 : wr.cell? ⟨g4, t, none⟩ = some (.slice r.A r.zs.length r.c) := by
              rw [h3.cellAt t (by omega), List.getElem?_map, List.getElem?_eq_getElem htR, hr, List.getD_eq_getElem?_getD, List.getElem?_eq_getElem htR]
              rfl
            have hrl : r.zs.length = m := by rw [hrz, hxl]
            have HRO := Lib.hid (hR r hrm)
            have HCAP := Lib.hid (row_cap (hR r hrm))
            have HFY := Lib.hid (show faroL r.zs k = y by rw [hrz]; exact hfy)
            have HRL := Lib.hid hrl
            have hkv : ((k : Int) = 0 ∧ k = 0) ∨ ((k : Int) = 1 ∧ k = 1) := by omega
            have HKV := Lib.hid hkv
            have HYL := Lib.hid hyl
            have hshort : ∀ i, i < RS.length → (RS.getD i rd0).zs.length ≤ 1048576 := fun i hi => by
              have h : (RS.getD i rd0).zs ∈ (stH nx [] (iot m) t k).1 := by
                rw [← hz]
                refine List.mem_map.2 ⟨_, ?_, rfl⟩
                rw [List.getD_eq_getElem?_getD, List.getElem?_eq_getElem hi]
                exact List.getElem_mem hi
              have := (HGP.out _ (hgood _ h)).1
              omega
            have HSH := Lib.hid hshort
            have H3 := Lib.hid h3
            have HZ := Lib.hid hz
            have HR := Lib.hid hR
            have HBW := Lib.hid hbw
            have HSL := Lib.hid hsamelen
            have hszw := hbw.size
            have htV2 : (t : Int) < ((stH nx [] (iot m) t k).1.length : Int) := by omega
            have h1m : (stH nx [] (iot m) t k).1.length ≤ 1048576 := by omega
            have HOLD := Lib.hid hold
            have HNEW := Lib.hid hnew
            generalize hV2 : (stH nx [] (iot m) t k).1 = V2 at *
            have HV2 := Lib.hid hV2
            clear h3 hz hR hbw hst hfew hgood hhalf hsamelen hx0 hy hmem hxl hyl hold hnew hfy htR hr hrm hrz hrl hkv hshort hV2 htl
            go_wp2_with fail
            refine (spec_faro_at r.A r.zs.length r.c k (k : Int) r.zs wr rfl (by rw [HRL.out]; omega) (by rw [HRL.out]; omega) HCAP.out HKV.out (ints_of HRO.out)).mono ?_
            rintro e w5 ⟨A5, c5, rfl, ho5, hb5⟩
            rw [HFY.out, HYL.out] at ho5
            rw [HFY.out, HYL.out]
            have HO5 := Lib.hid ho5
            have HB5 := Lib.hid (HBW.out.trans (hb5.mono hszw))
            have H35 := Lib.hid (own_below H3.out hb5)
            have HR5 := Lib.hid (show ∀ r ∈ RS, w5.ownsRow w.heap.size 3 1 r.v r.zs.length (vals r.zs) from fun r hr => own_below (HR.out r hr) hb5)
            have HSK5 := Lib.hid (spg_below HSK.out hb5)
            have hsz5 : w.heap.size ≤ w5.heap.size := HB5.out.size
            have HNW5 := Lib.hid (own_mono ho5 hszw)
            clear ho5 hb5
            go_wp2_with fail
            refine (spec_fnd (some ⟨g4, 0, none⟩) A5 V2.length c4 m c5 RS y w5 HSL.out (own_rows H35.out HSL.out HR5.out) (fun i hi => HSH.out i (by rw [HSL.out]; exact hi)) h1m HYL.out (by omega) (ints_of HO5.out)).mono ?_
            rintro e w6 ⟨rfl, rfl⟩
            rw [HZ.out]
            by_cases hin : y ∈ V2
            · have HSF : Hid (SplG w (stH nx [] (iot m) t (k + 1)).1 (.slice (some ⟨g4, 0, none⟩) V2.length c4) w5) := by rw [HOLD.out hin, HV2.out]; exact HSK5
              rw [decide_eq_true hin]
              clear hin
              go_wp2
              refine ⟨⟨k + 1, by omega, by go_num, HSF⟩, ?_⟩
              simp [intOf]; omega
            · have HNV := Lib.hid (HNEW.out hin)
              rw [decide_eq_false hin]
              clear hin
              go_wp2_with (first | (at_builtin; refine Aat.app_at rfl (.tmp 37) (.tmp 39) 36 rfl w.heap.size 24 i1 (.slice none 0 0) 24 Try.underlying36 hj hy0 hy1 hy2 (by decide) rfl (some ⟨g4, 0, none⟩) c4 V2.length (RS.map RD.v) rfl H35.out (.slice A5 m c5) rfl _ rfl rfl h1m hsz5 ?_; intro g8 c8 w7 hown8 hgr8 hat8; skip) | fail)
              have HSN := Lib.hid (spg_put (r := ⟨A5, c5, y⟩) HZ.out HB5.out H35.out HR5.out (by show World.ownsRow _ _ _ _ (.slice A5 y.length c5) y.length _; rw [HYL.out]; exact HNW5.out) (by show World.ownsRow _ _ _ _ _ _ (_ ++ [.slice A5 y.length c5]); rw [HYL.out]; exact hown8) hgr8)
              have HSF := Lib.hid (show SplG w (stH nx [] (iot m) t (k + 1)).1 (.slice (some ⟨g8, 0, none⟩) (V2.length + 1) c8) w7 by rw [HNV.out]; exact HSN.out)
              clear HSN hown8 hgr8 hat8
              refine ⟨⟨k + 1, by omega, by go_num, HSF⟩, ?_⟩
              simp [intOf]; omega
          · have hk2' : k = 2 := by omega
            subst hk2'
            have HSN := Lib.hid (show SplG w (runB nx [] (iot m) (t + 1)).1 _ _ from HSK.out)
            clear HSK
            go_wp2
            refine ⟨⟨t + 1, by omega, by go_num, HSN⟩, ?_⟩
            simp [intOf]; omega
      · have htn : t = N := by omega
        subst htn
        obtain ⟨A3, c3, RS, rfl, h3, hz, hR, hbw⟩ := HSP.out
        have hl := HRUN.out.len
        have HBW := Lib.hid hbw
        rw [hl]
        clear h3 hz hR hbw HSP hl
        go_wp2
        go_ret
        exact ⟨rfl, HBW.out⟩
end Go.Proofs.Ytpbpgpccjabghaa.Fgs
