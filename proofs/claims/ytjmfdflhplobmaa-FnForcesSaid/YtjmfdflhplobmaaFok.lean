/- ForceOk of the model: the followers are counted. -/
import Derived.Test.YtjmfdflhplobmaaNob
set_option linter.unusedVariables false
set_option maxRecDepth 20000
namespace Go.Proofs.Ytjmfdflhplobmaa.Fok
open Go.RowKit Fr _root_.Go.Proofs.Ytjmfdflhplobmaa.Own Pk Ins Rws Fpl Nod Nom Nob

/-- how often each index occurs -/
def crow (n : Nat) (l : List Int) : List Int := (List.range n).map fun j : Nat => ((l.count (j : Int) : Nat) : Int)
theorem crow_len (n : Nat) (l : List Int) : (crow n l).length = n := by simp [crow]
theorem crow_get {n j : Nat} (l : List Int) (h : j < n) : (crow n l)[j]? = some (l.count (j : Int) : Int) := by simp [crow, h]
theorem crow_nil (n : Nat) : (crow n []).map (Value.int .i64) = List.replicate n (.int .i64 0) := by
  refine List.ext_getElem (by simp [crow]) fun i h1 h2 => ?_
  simp [crow]
theorem crow_set {n : Nat} (l : List Int) (k : Nat) (h : k < n) : ((crow n l).map (Value.int .i64)).set k (.int .i64 ((l.count (k : Int) : Int) + 1)) = (crow n (l ++ [(k : Int)])).map (Value.int .i64) := by
  refine List.ext_getElem (by simp [crow]) fun i h1 h2 => ?_
  rw [List.getElem_set]
  simp only [crow, List.getElem_map, List.getElem_range, List.count_append]
  by_cases e : k = i
  · subst e; rw [if_pos rfl]; simp
  · rw [if_neg e]
    have : (List.count (i : Int) [(k : Int)]) = 0 := by
      rw [List.count_eq_zero]; simp; omega
    rw [this]; simp
/-- the nodes before i are as they must be -/
def PreOk (L : List NV) (i : Nat) : Prop := ∀ j, j < i → (∀ k ∈ nx L j, (j : Int) < k ∧ k < L.length) ∧ 0 ≤ fi L j ∧ (nx L j ≠ [] → fi L j = 0)
theorem upto_small {L : List NV} : ∀ i, (upto L i).length ≤ nsum L := by
  intro i
  have h1 : ∀ M : List NV, (M.flatMap NV.next).length = nsum M := by
    intro M
    induction M with
    | nil => rfl
    | cons x M ih => rw [List.flatMap_cons, List.length_append, ih]; rfl
  unfold upto
  rw [h1]
  have := nsum_app (L.take i) (L.drop i)
  rw [List.take_append_drop] at this
  omega
theorem pre_bad {L : List NV} {i : Nat} (hi : i < L.length) (h : (∃ k ∈ nx L i, ¬ ((i : Int) < k ∧ k < L.length)) ∨ fi L i < 0 ∨ (nx L i ≠ [] ∧ fi L i ≠ 0)) : ¬ OkF L := by
  intro ok
  rcases h with ⟨k, hk, hb⟩ | h | ⟨h1, h2⟩
  · exact hb (ok.down i hi k hk)
  · have := (ok.fin i hi).1; omega
  · exact h2 ((ok.fin i hi).2 h1)
theorem ok_mk {L : List NV} (h1 : 1 ≤ L.length) (h2 : L.length ≤ 40) (hp : PreOk L L.length) (hc : ∀ k : Nat, 1 ≤ k → k < L.length → (upto L L.length).count (k : Int) = 1) : OkF L :=
  ⟨h1, h2, fun i hi => (hp i hi).1, fun i hi => (hp i hi).2, fun k h3 h4 => by rw [← upto_all]; exact hc k h3 h4⟩
theorem cnt_bad {L : List NV} {k : Nat} (h1 : 1 ≤ k) (h2 : k < L.length) (h : ¬ (upto L L.length).count (k : Int) = 1) : ¬ OkF L := fun ok => h (by rw [upto_all]; exact ok.one k h1 h2)
def Res (w : World) (b : Bool) (e : Ending) (w' : World) : Prop := e = .returned (.bool b) ∧ Below w.heap.size w w'
set_option maxHeartbeats 4000000 in
theorem spec_ok (A : Option Addr) (n c : Nat) (rs : List NR) (L : List NV) (w : World) (hz : rs.map NR.nv = L) (hn : rs.length = n) (hfit : FitN L) (hbig : BigN L) (hat : NodesAt w w.heap.size A rs) :
    Calls Try.prog 27 #[.slice A n c] w fun e w' => e = .returned (.bool (okB L)) ∧ Below w.heap.size w w' := by
  have hl : L.length = n := by rw [← hz, List.length_map]; exact hn
  have hn2 : n ≤ 1048576 := by unfold BigN at hbig; omega
  obtain ⟨R, hR⟩ : ∃ R, R = okB L := ⟨_, rfl⟩
  rw [← hR]
  have HR := Lib.hid hR
  have HL := Lib.hid hl
  have HN := Lib.hid hn
  have HZ := Lib.hid (fun j => nv_at hz j)
  have HF := Lib.hid (fit_at hfit)
  have HX := Lib.hid (nx_small hbig)
  have HS := Lib.hid (show ∀ i, (upto L i).length ≤ 1048576 from fun i => by have := @upto_small L i; unfold BigN at hbig; omega)
  have HAT := Lib.hid hat
  clear hR hl hn hz hfit hbig hat
  by_cases hr : (1 : Int) ≤ (n : Int) ∧ (n : Int) ≤ 40
  · have HI := Lib.hid (in_yes (n : Int) 1 40 w hr.1 hr.2)
    have hn40 : n ≤ 40 := by omega
    have hn1 : 1 ≤ n := by omega
    obtain ⟨i0, hi, hz0, hz1, hz2⟩ := info_parts infoInt
    clear hr
    go_enter Try.func27, Try.ntmps27
    go_wp2_with fail
    refine HI.out.mono ?_
    rintro e w' ⟨rfl, rfl⟩
    go_wp2_with (refine wpList_make_full _ rfl (.tmp 15) (.tmp 15) 26 rfl w.heap.size 3 i0 (.int .i64 0) 1 Try.underlying26 hi hz0 hz1 .i64 .i64 n n n rfl rfl rfl rfl (by rw [hz2]; omega) (by unfold maxLen; omega) (Nat.le_refl _) ?_)
    intro w1 hown hgrow
    have hb0 : Below w.heap.size w w1 := (Below.refl _ w).grown hgrow (Nat.le_refl _) (fun k hk => by cases hk)
    have hown0 : w1.ownsRow w.heap.size 3 1 (.slice (some ⟨w.heap.size, 0, none⟩) n n) n ((crow n (upto L 0)).map (Value.int .i64)) := by
      rw [upto_zero, crow_nil]
      have e : (madeCells #[Value.int .i64 0] n).toList = List.replicate n (.int .i64 0) := by
        rw [toList_madeCells_one]
      rw [← e]
      simpa using hown
    have HO0 := Lib.hid hown0
    have HB0 := Lib.hid hb0
    have hsz0 := (hown0.lt w.heap.size rfl).2
    have HSZ0 := Lib.hid hsz0
    clear hown hgrow hown0 hb0 hsz0
    go_wp2
    go_loopw [19] (fun i wr => ∃ k : Nat, k ≤ n ∧ i = .int .i64 k ∧ Hid (PreOk L k) ∧ Hid (wr.ownsRow w.heap.size 3 1 (.slice (some ⟨w.heap.size, 0, none⟩) n n) n ((crow n (upto L k)).map (Value.int .i64))) ∧ Hid (Below w.heap.size w wr) ∧ Hid (w.heap.size < wr.heap.size)) (fun i _ => n - (intOf i).toNat)
    case atStart => exact ⟨0, Nat.zero_le _, rfl, Lib.hid (fun j hj => absurd hj (Nat.not_lt_zero _)), HO0, HB0, HSZ0⟩
    case round =>
      obtain ⟨k, hk, rfl, HP, HO, HB, HG⟩ := hrel
      clear HO0 HB0 HSZ0
      by_cases hlt : k < n
      · obtain ⟨b, o, rfl, hbb, hc0, hc1, hc2, hi4⟩ := HAT.out k (by rw [HN.out]; exact hlt)
        replace hc0 := (HB.out.cell (p := ⟨b, o + k * 3, none⟩) hbb).trans hc0
        replace hc1 := (HB.out.cell (p := ⟨b, o + k * 3 + 1, none⟩) hbb).trans hc1
        replace hc2 := (HB.out.cell (p := ⟨b, o + k * 3 + 2, none⟩) hbb).trans hc2
        obtain ⟨e1, e2⟩ := HZ.out k
        unfold NR.sv at hc1
        rw [e1] at hc1 hi4
        rw [e2] at hc2
        generalize (rs.getD k nr0).A = A1 at hc1 hi4
        generalize (rs.getD k nr0).c = c1 at hc1
        generalize (rs.getD k nr0).say = s1 at hc0
        clear e1 e2
        have hkl : k < L.length := by rw [HL.out]; exact hlt
        have HBAD := Lib.hid (fun h => (show R = false by rw [HR.out]; exact ok_no (pre_bad hkl h)))
        have HST := Lib.hid (upto_step hkl)
        have HPN := Lib.hid (fun (h1 : ∀ x ∈ nx L k, (k : Int) < x ∧ x < L.length) (h2 : 0 ≤ fi L k ∧ (nx L k ≠ [] → fi L k = 0)) => (show PreOk L (k + 1) from fun j hj => by
          by_cases e : j = k
          · subst e; exact ⟨h1, h2⟩
          · exact HP.out j (by omega)))
        have hfk := HF.out k
        have hxk := HX.out k
        have hUS := HS.out (k + 1)
        rw [upto_step hkl, List.length_append] at hUS
        generalize upto L k = us at HO HST hUS
        have hU2 := HST.out
        obtain ⟨us2, hus2⟩ : ∃ us2, us2 = upto L (k + 1) := ⟨_, rfl⟩
        rw [← hus2] at HST hU2
        have HUS2 := Lib.hid hus2
        clear hus2
        obtain ⟨m, hm⟩ : ∃ m, m = (nx L k).length := ⟨_, rfl⟩
        have HM := Lib.hid hm
        rw [← hm] at hc1 hxk hUS
        generalize nx L k = zs at *
        generalize fi L k = fin at *
        have hsw := HG.out
        -- the node in a box of its own
        have q1 := heap_alloc_new wr (.cells #[.string s1, .slice A1 m c1, .int .i64 fin] 37)
        have hbV := box_below wr (.cells #[.string s1, .slice A1 m c1, .int .i64 fin] 37)
        obtain ⟨V, hV⟩ : ∃ V, wr.alloc (.cells #[.string s1, .slice A1 m c1, .int .i64 fin] 37) = V := ⟨_, rfl⟩
        rw [hV] at q1 hbV
        have HOV := Lib.hid (own_below HO.out hbV)
        have HBV := Lib.hid (HB.out.trans (hbV.mono HB.out.size))
        obtain ⟨bx, hbx⟩ : ∃ bx, bx = wr.heap.size := ⟨_, rfl⟩
        have HQ := Lib.hid q1
        have HIW := Lib.hid hi4
        obtain ⟨t0, t1, t2⟩ := cell3 q1
        clear hi4 hbV q1 HO HB HP hm
        go_wp2
        rw [← hbx]
        rw [← hbx] at HQ hsw
        clear hV hbx
        go_loopw [27] (fun i wr => ∃ t : Nat, t ≤ m ∧ i = .int .i64 t ∧ Hid (∀ x ∈ zs.take t, (k : Int) < x ∧ x < L.length) ∧ Hid (wr.ownsRow w.heap.size 3 1 (.slice (some ⟨w.heap.size, 0, none⟩) n n) n ((crow n (us ++ zs.take t)).map (Value.int .i64))) ∧ Hid (Below w.heap.size w wr) ∧ Hid (wr.heap[bx]? = some (.cells #[.string s1, .slice A1 m c1, .int .i64 fin] 37 (0, 0)))) (fun i _ => m - (intOf i).toNat)
        case atStart => exact ⟨0, Nat.zero_le _, rfl, Lib.hid (fun x hx => by cases hx), Lib.hid (by rw [List.take_zero, List.append_nil]; exact HOV.out), HBV, HQ⟩
        case round =>
          obtain ⟨t, ht, rfl, HA, HOW, HBW, HQW⟩ := hrel
          clear HOV HBV HQ t0 t1 t2
          by_cases hlt2 : t < m
          · obtain ⟨b3, o3, rfl, hb3, hc3⟩ := (HIW.out.below HBW.out) t (by rw [← HM.out]; exact hlt2)
            obtain ⟨hx1, hx2⟩ := hfk.1 t (by rw [← HM.out]; exact hlt2)
            have HTK := Lib.hid (show zs.take (t + 1) = zs.take t ++ [zs.getD t 0] by
              rw [List.take_succ_eq_append_getElem (by rw [← HM.out]; exact hlt2), List.getD_eq_getElem?_getD, List.getElem?_eq_getElem (by rw [← HM.out]; exact hlt2)]
              rfl)
            have HMEM := Lib.hid (show zs.getD t 0 ∈ zs by
              rw [List.getD_eq_getElem?_getD, List.getElem?_eq_getElem (by rw [← HM.out]; exact hlt2)]
              exact List.getElem_mem _)
            have HTL := Lib.hid (show (zs.take t).length ≤ m by rw [List.length_take]; omega)
            generalize zs.getD t 0 = x at *
            have HI2 := Lib.hid (in_any x ((k : Int) + 1) ((n : Int) - 1) wr)
            cases hd : decide ((k : Int) + 1 ≤ x ∧ x ≤ (n : Int) - 1) with
            | false =>
              have HF2 := Lib.hid (HBAD.out (Or.inl ⟨x, HMEM.out, by rw [HL.out]; have := of_decide_eq_false hd; omega⟩))
              rw [hd] at HI2
              clear hd
              go_wp2_with fail
              refine HI2.out.mono ?_
              rintro e w' ⟨rfl, rfl⟩
              go_wp2
              go_ret
              exact ⟨by rw [HF2.out]; rfl, HBW.out⟩
            | true =>
              have hin := of_decide_eq_true hd
              rw [hd] at HI2
              obtain ⟨y, rfl⟩ : ∃ y : Nat, x = (y : Int) := ⟨x.toNat, by omega⟩
              have hyn : y < n := by omega
              have HA2 := Lib.hid (show ∀ x ∈ zs.take (t + 1), (k : Int) < x ∧ x < L.length from fun x hx => by
                rw [HTK.out] at hx
                rcases List.mem_append.1 hx with hx | hx
                · exact HA.out x hx
                · simp at hx; subst hx; rw [HL.out]; omega)
              have hcell : wr.cell? ⟨w.heap.size, y, none⟩ = some (.int .i64 (((us ++ zs.take t).count (y : Int) : Nat) : Int)) := by
                rw [HOW.out.cellAt y (by omega), List.getElem?_map, crow_get _ hyn]; rfl
              have hcb : (us ++ zs.take t).count (y : Int) ≤ 1048576 := by
                have h1 := @List.count_le_length _ _ (y : Int) (us ++ zs.take t)
                have h2 := HTL.out
                rw [List.length_append] at h1
                omega
              have st := HOW.out.stored y (.int .i64 ((((us ++ zs.take t).count (y : Int) : Nat) : Int) + 1))
              have hfz := HOW.out.frozenAt y
              have HO2 := Lib.hid (show (wr.setCell ⟨w.heap.size, y, none⟩ (.int .i64 ((((us ++ zs.take t).count (y : Int) : Nat) : Int) + 1))).ownsRow w.heap.size 3 1 (.slice (some ⟨w.heap.size, 0, none⟩) n n) n ((crow n (us ++ zs.take (t + 1))).map (Value.int .i64)) by
                rw [HTK.out, ← List.append_assoc, ← crow_set _ y hyn]
                exact st.1)
              have HB2 := Lib.hid (HBW.out.setCell (p := ⟨w.heap.size, y, none⟩) (Nat.le_refl _) (.int .i64 ((((us ++ zs.take t).count (y : Int) : Nat) : Int) + 1)))
              have HQ2 := Lib.hid ((st.2.block bx (Array.getElem?_eq_some_iff.1 HQW.out).1 (by simp; omega)).trans HQW.out)
              generalize (us ++ zs.take t).count (y : Int) = cnt at *
              clear hd hin st HA HOW HBW HQW HTK HMEM HTL
              go_wp2_with fail
              refine HI2.out.mono ?_
              rintro e w' ⟨rfl, rfl⟩
              go_wp2
              go_roundw
              case rel => exact ⟨t + 1, by omega, by go_num, HA2, HO2, HB2, HQ2⟩
              case measure => simp [intOf]; omega
          · have htm : t = m := by omega
            have HZA := Lib.hid (show zs.take t = zs by rw [List.take_of_length_le (by rw [← HM.out]; omega)])
            have HA2 := Lib.hid (show ∀ x ∈ zs, (k : Int) < x ∧ x < L.length by have := HA.out; rwa [HZA.out] at this)
            have HO2 := Lib.hid (show wr.ownsRow w.heap.size 3 1 (.slice (some ⟨w.heap.size, 0, none⟩) n n) n ((crow n us2).map (Value.int .i64)) by
              have := HOW.out
              rwa [HZA.out, ← hU2] at this)
            obtain ⟨t0, t1, t2⟩ := cell3 HQW.out
            clear HA HOW htm HZA
            by_cases hf0 : fin < 0
            · have HF2 := Lib.hid (HBAD.out (Or.inr (Or.inl hf0)))
              go_wp2
              go_ret
              exact ⟨by rw [HF2.out]; rfl, HBW.out⟩
            · have hf0' : decide (fin < 0) = false := decide_eq_false hf0
              by_cases hm0 : 0 < m
              · by_cases hff : fin = 0
                · have HP2 := Lib.hid (HPN.out HA2.out ⟨by omega, fun _ => hff⟩)
                  have hff' : (fin != 0) = false := by rw [hff]; rfl
                  have HGG := Lib.hid (show w.heap.size < wr.heap.size from (HO2.out.lt w.heap.size rfl).2)
                  clear hff
                  go_wp2
                  go_roundw
                  case rel => exact ⟨k + 1, by omega, by go_num, HP2, (by rw [← HUS2.out]; exact HO2), HBW, HGG⟩
                  case measure => simp [intOf]; omega
                · have hff' : (fin != 0) = true := by simpa using hff
                  have HF2 := Lib.hid (HBAD.out (Or.inr (Or.inr ⟨fun e => by rw [e] at HM; have := HM.out; simp at this; omega, hff⟩)))
                  clear hff
                  go_wp2
                  go_ret
                  exact ⟨by rw [HF2.out]; rfl, HBW.out⟩
              · have hm0' : decide (0 < m) = false := decide_eq_false hm0
                have hm1' : decide ((0 : Int) < (m : Int)) = false := decide_eq_false (by omega)
                have HP2 := Lib.hid (HPN.out HA2.out ⟨by omega, fun h => absurd (List.length_eq_zero_iff.1 (by rw [← HM.out]; omega)) h⟩)
                have HGG := Lib.hid (show w.heap.size < wr.heap.size from (HO2.out.lt w.heap.size rfl).2)
                go_wp2
                go_roundw
                case rel => exact ⟨k + 1, by omega, by go_num, HP2, (by rw [← HUS2.out]; exact HO2), HBW, HGG⟩
                case measure => simp [intOf]; omega
      · have hkn : k = n := by omega
        have HP2 := Lib.hid (show PreOk L L.length by rw [HL.out, ← hkn]; exact HP.out)
        have HO2 := Lib.hid (show wr.ownsRow w.heap.size 3 1 (.slice (some ⟨w.heap.size, 0, none⟩) n n) n ((crow n (upto L L.length)).map (Value.int .i64)) by rw [HL.out, ← hkn]; rw [← hkn] at HO; exact HO.out)
        clear hkn HO
        go_wp2
        go_loop [63] (fun i => ∃ j : Nat, j ≤ n ∧ i = .int .i64 j ∧ Hid (∀ q : Nat, 1 ≤ q → q < j → (upto L L.length).count (q : Int) = 1)) (fun i => n - (intOf i).toNat)
        case atStart => exact ⟨0, Nat.zero_le _, rfl, Lib.hid (fun q h1 h2 => absurd h2 (Nat.not_lt_zero _))⟩
        case round =>
          obtain ⟨j, hj, rfl, HC⟩ := hrel
          by_cases hlt2 : j < n
          · have hcell : wr.cell? ⟨w.heap.size, j, none⟩ = some (.int .i64 (((upto L L.length).count (j : Int) : Nat) : Int)) := by
              rw [HO2.out.cellAt j (by omega), List.getElem?_map, crow_get _ hlt2]; rfl
            have HCB := Lib.hid (fun h1 h => (show R = false by rw [HR.out]; exact ok_no (cnt_bad (L := L) (k := j) h1 (by rw [HL.out]; exact hlt2) h)))
            have HCN := Lib.hid (fun (h1 : 1 ≤ j → (upto L L.length).count (j : Int) = 1) => (show ∀ q : Nat, 1 ≤ q → q < j + 1 → (upto L L.length).count (q : Int) = 1 from fun q h2 h3 => by
              by_cases e : q = j
              · subst e; exact h1 h2
              · exact HC.out q h2 (by omega)))
            generalize (upto L L.length).count (j : Int) = cnt at hcell HCB HCN
            by_cases hj0 : 0 < j
            · by_cases hc1 : cnt = 1
              · have HN2 := Lib.hid (HCN.out (fun _ => hc1))
                have hc1' : ((cnt : Int) != 1) = false := by rw [hc1]; rfl
                clear hc1
                go_wp2
                go_round
                case rel => exact ⟨j + 1, by omega, by go_num, HN2⟩
                case measure => simp [intOf]; omega
              · have hc1' : ((cnt : Int) != 1) = true := by simp only [bne_iff_ne, ne_eq]; omega
                have HF2 := Lib.hid (HCB.out hj0 hc1)
                clear hc1
                go_wp2
                go_ret
                exact ⟨by rw [HF2.out]; rfl, HB.out⟩
            · have hj0' : decide (0 < j) = false := decide_eq_false hj0
              have hj1' : decide ((0 : Int) < (j : Int)) = false := decide_eq_false (by omega)
              have HN2 := Lib.hid (HCN.out (fun h => by omega))
              go_wp2
              go_round
              case rel => exact ⟨j + 1, by omega, by go_num, HN2⟩
              case measure => simp [intOf]; omega
          · have hjn : j = n := by omega
            have HT := Lib.hid (show R = true by rw [HR.out]; exact ok_yes (ok_mk (by rw [HL.out]; exact hn1) (by rw [HL.out]; exact hn40) HP2.out (fun q h1 h2 => HC.out q h1 (by rw [hjn, ← HL.out]; exact h2))))
            clear hjn
            go_wp2
            go_ret
            exact ⟨by rw [HT.out]; rfl, HB.out⟩
  · have HI := Lib.hid (in_no (n : Int) 1 40 w hr)
    have HF2 := Lib.hid (show R = false by rw [HR.out]; exact ok_no fun ok => hr (by have h1 := ok.pos; have h2 := ok.small; rw [HL.out] at h1 h2; omega))
    clear hr
    go_enter Try.func27, Try.ntmps27
    go_wp2_with fail
    refine HI.out.mono ?_
    rintro e w' ⟨rfl, rfl⟩
    go_wp2
    go_ret
    exact ⟨by rw [HF2.out]; rfl, Below.refl _ _⟩
end Go.Proofs.Ytjmfdflhplobmaa.Fok
