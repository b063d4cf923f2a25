/- The rising sequences as the model has them; where a card lies. -/
import Derived.Test.YtceolmihglhijaaRsc
set_option linter.unusedVariables false
set_option maxRecDepth 20000
namespace Go.Proofs.Ytceolmihglhijaa.Rss
open Go.RowKit Fr _root_.Go.Proofs.Ytceolmihglhijaa.Own Pk Ins Pl Prm Pfn Rws Orb Cyc Rsm Rsc

theorem posFrom_to (zs : List Int) (card : Int) : ∀ (d f i : Nat), (∀ j, i ≤ j → j < i + d → ¬ (0 ≤ card ∧ cardF (zs.getD j 0) = card)) → posFrom zs card (d + f) i = posFrom zs card f (i + d) := by
  intro d
  induction d with
  | zero => intro f i _; rw [Nat.zero_add]; rfl
  | succ d ih =>
    intro f i h
    rw [show d + 1 + f = (d + f) + 1 by omega, posFrom_miss zs card _ i (h i (Nat.le_refl _) (by omega)), ih f (i + 1) fun j h1 h2 => h j (by omega) (by omega)]
    rw [show i + 1 + d = i + (d + 1) by omega]
theorem pos_pv {zs : List Int} (h : permB zs = true) {v : Nat} (hv : v < zs.length) : posF zs (v : Int) = (pv zs v : Nat) := by
  have h12 := (permB_yes h).1
  have hp := pv_lt h hv
  have hc : ∀ j, j < zs.length → cardF (zs.getD j 0) = (fOf zs j : Nat) := by
    intro j hj
    have := (bij_of h).lt j hj
    rw [fOf_get h hj, cardF_down (by omega) (by omega)]
  unfold posF
  have e : zs.length = pv zs v + (zs.length - pv zs v - 1 + 1) := by omega
  rw [e, posFrom_to zs v (pv zs v) _ 0, posFrom_hit zs v _ _ (by omega)]
  · rw [Nat.zero_add]
  · rw [Nat.zero_add, hc _ hp, at_pv h hv]
  · intro j _ hj q
    rw [hc j (by omega)] at q
    have e1 : fOf zs j = v := by omega
    have := pv_at h (show j < zs.length by omega)
    rw [e1] at this
    omega
theorem own_raise {W : World} {B B' : Nat} {e : TypeId} {size : Nat} {A : Option Addr} {n c m : Nat} {xs : List Value} (h : W.ownsRow B e size (.slice A n c) m xs) (hb : ∀ k, A.map (·.block) = some k → B' ≤ k) : W.ownsRow B' e size (.slice A n c) m xs := by
  refine ⟨h.1, ?_⟩
  rcases h.2 with h2 | ⟨g, cap, cur, hv, hg, r⟩
  · exact Or.inl h2
  · refine Or.inr ⟨g, cap, cur, hv, hb g ?_, r⟩
    simp only [Value.slice.injEq] at hv
    rw [hv.1]; rfl
theorem getD_left {rs : List RD} {r : RD} {i : Nat} (h : i < rs.length) : (rs ++ [r]).getD i rd0 = rs.getD i rd0 := by
  simp only [List.getD_eq_getElem?_getD]
  rw [List.getElem?_append_left h]
theorem getD_last (rs : List RD) (r : RD) : (rs ++ [r]).getD rs.length rd0 = r := by
  simp [List.getD_eq_getElem?_getD]
/-- the last list has grown, and lies anew in the outer row -/
theorem setlast {W W1 : World} {lo b0 : Nat} {g n c : Nat} {rs : List RD} {r : RD} {A' : Option Addr} {c' : Nat} {zs' : List Int}
    (h : SSRow W lo W.heap.size (some ⟨g, 0, none⟩) n c (rs ++ [r])) (ho : W1.ownsRow b0 3 1 (.slice A' zs'.length c') zs'.length (zs'.map (Value.int .i64))) (hg : W.grownBy W1 r.b)
    (hlow : ∀ i, i < rs.length → ∀ b, (rs.getD i rd0).b = some b → b < b0) (hlo : lo ≤ b0) :
    SSRow (W1.setCell ⟨g, rs.length, none⟩ (.slice A' zs'.length c')) lo (W1.setCell ⟨g, rs.length, none⟩ (.slice A' zs'.length c')).heap.size (some ⟨g, 0, none⟩) n c (rs ++ [⟨A', c', zs'⟩]) := by
  have hl := h.len
  have hlast := h.2.1 rs.length (by simp)
  rw [getD_last] at hlast
  have hout1 : W1.ownsRow lo 24 1 (.slice (some ⟨g, 0, none⟩) n c) n ((rs ++ [r]).map RD.v) := own_gr h.1 hg fun k hk e => own_diff h.1 hlast.1 (by decide) k hk e
  have hst := hout1.stored rs.length (.slice A' zs'.length c')
  have hgs : W1.grownBy (W1.setCell ⟨g, rs.length, none⟩ (.slice A' zs'.length c')) (some g) := hst.2
  have hs1 := hg.size
  have hs2 := hgs.size
  have hgl := (own_lo hout1 g rfl).2
  have hA' := fun k hk => own_lo ho k hk
  refine ⟨?_, ?_, ?_, ?_, Nat.le_refl _⟩
  · have e : ((rs ++ [r]).map RD.v).set rs.length (.slice A' zs'.length c') = (rs ++ [(⟨A', c', zs'⟩ : RD)]).map RD.v := by
      rw [List.map_append, List.map_append]
      have : rs.length = (rs.map RD.v).length := by simp
      rw [this, List.set_append_right _ _ (Nat.le_refl _)]
      simp [RD.v]
    rw [← e]
    exact hst.1
  · intro i hi
    rw [List.length_append] at hi
    simp only [List.length_cons, List.length_nil] at hi
    by_cases e : i < rs.length
    · rw [getD_left e]
      have hr := h.2.1 i (by simp; omega)
      have hdis := h.2.2.1 i rs.length (by simp; omega) (by simp) (by omega)
      rw [getD_left e] at hr hdis
      rw [getD_last] at hdis
      have h1 : W1.ownsRow lo 3 1 (.slice (rs.getD i rd0).A (rs.getD i rd0).zs.length (rs.getD i rd0).c) (rs.getD i rd0).zs.length ((rs.getD i rd0).zs.map (Value.int .i64)) := own_gr hr.1 hg fun k hk e2 => hdis k hk e2
      refine ⟨own_gr h1 hgs fun k hk e2 => own_diff h1 hout1 (by decide) k hk e2, fun a ha => ?_, Nat.le_refl _⟩
      have := hr.2.1 a ha
      omega
    · have ei : i = rs.length := by omega
      subst ei
      rw [getD_last]
      refine ⟨own_mono (own_gr ho hgs fun k hk e2 => own_diff ho hout1 (by decide) k hk e2) hlo, fun a ha => ?_, Nat.le_refl _⟩
      have := hA' a.block (by rw [show A' = some a from ha]; rfl)
      omega
  · intro i j hi hj hne b hb
    rw [List.length_append] at hi hj
    simp only [List.length_cons, List.length_nil] at hi hj
    by_cases ei : i < rs.length
    · rw [getD_left ei] at hb
      by_cases ej : j < rs.length
      · rw [getD_left ej]
        have := h.2.2.1 i j (by simp; omega) (by simp; omega) hne b
        rw [getD_left ei, getD_left ej] at this
        exact this hb
      · have e : j = rs.length := by omega
        subst e
        rw [getD_last]
        intro e2
        have h1 := hlow i ei b hb
        have h2 := (hA' b e2).1
        omega
    · have e : i = rs.length := by omega
      subst e
      rw [getD_last] at hb
      rw [getD_left (by omega)]
      intro e2
      have h1 := hlow j (by omega) b e2
      have h2 := (hA' b hb).1
      omega
  · intro a ha
    simp only [Option.some.injEq] at ha
    subst ha
    show g < _
    omega
/-- the lists that there are, the last of them above all others -/
def Top (rs : List RD) (b0 : Nat) : Prop := (∀ i, i + 1 < rs.length → ∀ b, (rs.getD i rd0).b = some b → b < b0) ∧ (∀ b, (rs.getD (rs.length - 1) rd0).b = some b → b0 ≤ b)
set_option maxHeartbeats 2000000 in
theorem spec_rise (A : Option Addr) (n c : Nat) (zs : List Int) (w : World) (hn : zs.length = n) (hnc : n ≤ c) (hn2 : n ≤ 9223372036854775807) (hz : Fits zs) (hss : IntsAt w w.heap.size .i64 A zs) :
    Calls Try.prog 20 #[.slice A n c] w (IsSS w.heap.size (riseI zs) w) := by
  have HN := Lib.hid hn
  clear hn
  cases hp : permB zs with
  | false =>
    have HP := Lib.hid hp
    have HF := Lib.hid (riseI_no hp)
    clear hp
    go_enter Try.func20, Try.ntmps20
    go_wp2_with fail
    refine (spec_perm A n c zs _ HN.out hnc hn2 hz hss).mono ?_
    rintro e w1 ⟨rfl, rfl⟩
    rw [HP.out]
    go_wp2
    go_ret
    rw [HF.out]
    exact ⟨none, 0, [], rfl, rfl, SSRow.empty (World.ownsRow_nil _ _ _ _), Below.refl _ _⟩
  | true =>
    obtain ⟨i0, hi, hz0, hz1, hz2⟩ := info_parts infoInt
    obtain ⟨i1, hj, hy0, hy1, hy2⟩ := infos_parts
    have h12 := (permB_yes hp).1
    rw [HN.out] at h12
    have HP := Lib.hid hp
    have hri := riseI_yes hp
    rw [HN.out] at hri
    have HF := Lib.hid hri
    have HPV := Lib.hid (fun v (hv : v < n) => pos_pv hp (v := v) (by rw [HN.out]; exact hv))
    have HNE := Lib.hid (fun v (hv : v + 1 < n) (e : pv zs v = pv zs (v + 1)) => show False by
      have q1 := at_pv hp (show v < zs.length by rw [HN.out]; omega)
      have q2 := at_pv hp (show v + 1 < zs.length by rw [HN.out]; omega)
      rw [e, q2] at q1
      omega)
    have HSP := Lib.hid (fun k (hk : 0 < k) => (rsF_spec (b := nb zs) (nb_zero zs) (k - 1)).2.1)
    have HNB := Lib.hid (Rsh.nb_succ zs)
    have HB0 := Lib.hid (nb_zero zs)
    have HPL := Lib.hid (fun v (hv : v < n) => pv_lt hp (v := v) (by rw [HN.out]; exact hv))
    clear hri hp
    generalize nb zs = b at *
    go_enter Try.func20, Try.ntmps20
    go_wp2_with fail
    refine (spec_perm A n c zs _ HN.out hnc hn2 hz hss).mono ?_
    rintro e w1 ⟨rfl, rfl⟩
    rw [HP.out]
    have HOUT := Lib.hid (SSRow.empty (World.ownsRow_lit (base := w.heap.size) (e := 24) (size := 1) w #[] 0 (Nat.le_refl _) (Nat.zero_le _) rfl))
    have HBA := Lib.hid ((Below.refl w.heap.size w).alloc (Nat.le_refl _) (.cells #[] 24))
    go_wp2
    go_loopw [3, 4, 13] (fun v x i wr => ∃ k : Nat, k ≤ n ∧ i = .int .i64 (k : Int) ∧ (∃ y : Int, x = .int .i64 y ∧ (k = 0 → y = -1) ∧ (0 < k → y = (pv zs (k - 1) : Nat))) ∧ (∃ A2 q c2 rs b0, v = .slice A2 q c2 ∧ q ≤ k ∧ SSRow wr w.heap.size wr.heap.size A2 q c2 rs ∧ Hid (rs.map RD.zs = (rsF b k).map ints) ∧ Hid (Top rs b0) ∧ Hid (w.heap.size ≤ b0 ∧ b0 ≤ wr.heap.size)) ∧ Below w.heap.size w wr) (fun _ _ i _ => n - (intOf i).toNat)
    case atStart => exact ⟨0, Nat.zero_le _, rfl, ⟨-1, rfl, fun _ => rfl, fun h => by omega⟩, ⟨_, _, _, [], w.heap.size, rfl, Nat.le_refl _, HOUT.out, rfl, ⟨fun i hi => by simp at hi, fun b hb => by cases hb⟩, ⟨Nat.le_refl _, HBA.out.size⟩⟩, HBA.out⟩
    case round =>
      obtain ⟨k, hk, rfl, ⟨y, rfl, hy00, hy01⟩, ⟨A2, q, c2, rs, b0, rfl, hq, hrow, HRS, HTOP, HB00⟩, hbw⟩ := hrel
      by_cases hlt : k < n
      · have hszk := hbw.size
        have hss1 := (hss.below hbw).more hszk
        have hpk := HPV.out k hlt
        have HROW := Lib.hid hrow
        have HBW := Lib.hid hbw
        clear hrow hbw
        go_wp2_with fail
        refine (spec_pos A n c zs (k : Int) wr HN.out hn2 hz hss1).mono ?_
        rintro e w1 ⟨rfl, rfl⟩
        rw [hpk]
        have hqz : q = 0 ↔ k = 0 := by
          have h1 : rs.length = q := HROW.out.len
          have h2 : rs.length = (rsF b k).length := by have := congrArg List.length HRS.out; simpa using this
          constructor
          · intro e
            rcases Nat.eq_zero_or_pos k with h | h
            · exact h
            · obtain ⟨L, r, h3, _⟩ := HSP.out k h
              rw [show k - 1 + 1 = k by omega] at h3
              rw [h3] at h2
              simp at h2
              omega
          · intro e; omega
        have hqk : rs.length = q := HROW.out.len
        cases hbk : b k with
        | true =>
          have HNEW := Lib.hid (rsF_new hbk)
          have hcnd : (decide (y < ((pv zs k : Nat) : Int)) && decide ((0 : Int) < (q : Int))) = false := by
            rcases Nat.eq_zero_or_pos k with h | h
            · have : q = 0 := hqz.2 h
              subst this
              simp
            · have h1 := HNB.out (k - 1)
              rw [show k - 1 + 1 = k by omega, hbk] at h1
              have h2 := of_decide_eq_true h1.symm
              rw [hy01 h, decide_eq_false (by omega)]
              rfl
          have HRA := Lib.hid (HROW.out.below ((Below.refl wr.heap.size wr).alloc (Nat.le_refl _) (.cells #[.int .i64 (k : Int)] 3)))
          have HBA2 := Lib.hid (HBW.out.alloc hszk (.cells #[.int .i64 (k : Int)] 3))
          have HIN : Hid ((wr.alloc (.cells #[.int .i64 (k : Int)] 3)).ownsRow wr.heap.size 3 1 (.slice (some ⟨wr.heap.size, 0, none⟩) 1 1) 1 [.int .i64 (k : Int)]) := World.ownsRow_lit wr _ 1 (Nat.le_refl _) (by decide) rfl
          have HSA := Lib.hid (show w.heap.size ≤ (wr.alloc (.cells #[.int .i64 (k : Int)] 3)).heap.size by simp; omega)
          have HTL : Hid (∀ i, i < rs.length → ∀ b, (rs.getD i rd0).b = some b → b < wr.heap.size) := fun i hi b hb => (HROW.out.2.1 i hi).hi b hb
          clear hbk HBA HOUT hy00 hy01
          generalize hP : pv zs k = P at *
          have HPK := Lib.hid hP
          clear hP
          cases hd1 : decide (y < (P : Int)) with
          | true =>
            have hd2 : decide (0 < q) = false := by rw [hd1] at hcnd; simpa using hcnd
            clear hcnd
            go_wp2_with (at_builtin; refine app_more rfl (.tmp 41) (.tmp 44) 26 rfl w.heap.size 24 i1 (.slice none 0 0) 24 Try.underlying26 hj hy0 hy1 hy2 (by decide) rfl _ _ _ _ rfl HRA.out.1 (.slice (some ⟨wr.heap.size, 0, none⟩) 1 1) rfl _ rfl (by simp) (by omega) HSA.out ?_; intro g c4 w2 hown2 hgr2)
            have HB2 := Lib.hid (HBA2.out.grown hgr2 HSA.out HRA.out.outlo)
            have HSN := Lib.hid (SSRow.snoc (zs := [(k : Int)]) (A1 := some ⟨wr.heap.size, 0, none⟩) (c1 := 1) HRA.out hszk HIN.out hown2 hgr2)
            have HTP : Hid (Top (rs ++ [(⟨some ⟨wr.heap.size, 0, none⟩, 1, [(k : Int)]⟩ : RD)]) wr.heap.size) := by
              refine ⟨fun i hi b hb => ?_, fun b hb => ?_⟩
              · have hi2 : i < rs.length := by simp at hi; omega
                rw [getD_left hi2] at hb
                exact HTL.out i hi2 b hb
              · rw [show (rs ++ [(⟨some ⟨wr.heap.size, 0, none⟩, 1, [(k : Int)]⟩ : RD)]).length - 1 = rs.length by simp, getD_last] at hb
                cases hb
                exact Nat.le_refl _
            have hs2 := hgr2.size
            clear hown2
            go_roundw
            case rel => exact ⟨k + 1, by omega, by go_num, ⟨_, rfl, fun e => by omega, fun _ => by rw [Nat.add_sub_cancel, HPK.out]⟩, ⟨_, _, _, _, wr.heap.size, rfl, by omega, HSN.out, by show _ = _; rw [List.map_append, HRS.out, HNEW.out, List.map_append]; rfl, HTP.out, ⟨hszk, by have h9 : (wr.alloc (.cells #[.int .i64 (k : Int)] 3)).heap.size ≤ w2.heap.size := hs2; simp at h9; omega⟩⟩, HB2.out⟩
            case measure => simp [intOf]; omega
          | false =>
            clear hcnd
            go_wp2_with (at_builtin; refine app_more rfl (.tmp 41) (.tmp 44) 26 rfl w.heap.size 24 i1 (.slice none 0 0) 24 Try.underlying26 hj hy0 hy1 hy2 (by decide) rfl _ _ _ _ rfl HRA.out.1 (.slice (some ⟨wr.heap.size, 0, none⟩) 1 1) rfl _ rfl (by simp) (by omega) HSA.out ?_; intro g c4 w2 hown2 hgr2)
            have HB2 := Lib.hid (HBA2.out.grown hgr2 HSA.out HRA.out.outlo)
            have HSN := Lib.hid (SSRow.snoc (zs := [(k : Int)]) (A1 := some ⟨wr.heap.size, 0, none⟩) (c1 := 1) HRA.out hszk HIN.out hown2 hgr2)
            have HTP : Hid (Top (rs ++ [(⟨some ⟨wr.heap.size, 0, none⟩, 1, [(k : Int)]⟩ : RD)]) wr.heap.size) := by
              refine ⟨fun i hi b hb => ?_, fun b hb => ?_⟩
              · have hi2 : i < rs.length := by simp at hi; omega
                rw [getD_left hi2] at hb
                exact HTL.out i hi2 b hb
              · rw [show (rs ++ [(⟨some ⟨wr.heap.size, 0, none⟩, 1, [(k : Int)]⟩ : RD)]).length - 1 = rs.length by simp, getD_last] at hb
                cases hb
                exact Nat.le_refl _
            have hs2 := hgr2.size
            clear hown2
            go_roundw
            case rel => exact ⟨k + 1, by omega, by go_num, ⟨_, rfl, fun e => by omega, fun _ => by rw [Nat.add_sub_cancel, HPK.out]⟩, ⟨_, _, _, _, wr.heap.size, rfl, by omega, HSN.out, by show _ = _; rw [List.map_append, HRS.out, HNEW.out, List.map_append]; rfl, HTP.out, ⟨hszk, by have h9 : (wr.alloc (.cells #[.int .i64 (k : Int)] 3)).heap.size ≤ w2.heap.size := hs2; simp at h9; omega⟩⟩, HB2.out⟩
            case measure => simp [intOf]; omega
        | false =>
          have hk0 : 0 < k := by
            rcases Nat.eq_zero_or_pos k with h | h
            · rw [h, HB0.out] at hbk; cases hbk
            · exact h
          obtain ⟨m, rfl⟩ : ∃ m, q = m + 1 := ⟨q - 1, by have := mt hqz.1 (by omega); omega⟩
          obtain ⟨rs0, r, rfl⟩ : ∃ rs0 r, rs = rs0 ++ [r] := by
            have hne : rs ≠ [] := by intro e; rw [e] at hqk; simp at hqk
            exact ⟨rs.dropLast, rs.getLast hne, (List.dropLast_concat_getLast hne).symm⟩
          have hm : rs0.length = m := by simpa using hqk
          obtain ⟨L, x, h3, _⟩ := HSP.out k hk0
          rw [show k - 1 + 1 = k by omega] at h3
          have hmz : rs0.map RD.zs = L.map ints ∧ r.zs = ints x := by
            have := HRS.out
            rw [h3, List.map_append, List.map_append] at this
            have h5 := List.append_inj' this rfl
            exact ⟨h5.1, by simpa using h5.2⟩
          have HNEW := Lib.hid (rsF_more hbk h3)
          have hlt2 : y < ((pv zs k : Nat) : Int) := by
            have h1 := HNB.out (k - 1)
            rw [show k - 1 + 1 = k by omega, hbk] at h1
            have h2 := of_decide_eq_false h1.symm
            have h4 : pv zs (k - 1) ≠ pv zs k := by
              have := HNE.out (k - 1) (by omega)
              rw [show k - 1 + 1 = k by omega] at this
              exact this
            rw [hy01 hk0]
            omega
          obtain ⟨g, rfl, hc⟩ := HROW.out.cell m (by omega)
          rw [← hm, getD_last] at hc
          have hr := HROW.out.2.1 m (by simp; omega)
          rw [← hm, getD_last] at hr
          have hrb := HTOP.out.2
          rw [show (rs0 ++ [r]).length - 1 = rs0.length by simp, getD_last] at hrb
          have hrown := own_raise (B' := b0) hr.1 hrb
          have htop := HTOP.out.1
          have HLOW : Hid (∀ i, i < rs0.length → ∀ b, (rs0.getD i rd0).b = some b → b < b0) := fun i hi b hb => htop i (by simp; omega) b (by rw [getD_left hi]; exact hb)
          have hgo := HROW.out.outlo g rfl
          have HMZ := Lib.hid hmz
          have HM := Lib.hid hm
          have HR0 := Lib.hid hrown
          have hrl : r.zs.length ≤ 12 := by
            rw [hmz.2, ints_len]
            have h6 := (rsF_spec (b := b) HB0.out (k - 1)).2.2.2.1 L.length
            have h7 := (rsF_spec (b := b) HB0.out (k - 1)).2.2.2.2 L.length
            rw [show k - 1 + 1 = k by omega, h3] at h6 h7
            have e : (L ++ [x]).getD L.length [] = x := by simp [List.getD_eq_getElem?_getD]
            rw [e] at h6 h7
            have := h6.length_le_of_subset (l₂ := List.range k) (fun v hv => List.mem_range.2 (by have := (h7 v).1 hv; omega))
            rw [List.length_range] at this
            omega
          have hd1 : decide (y < ((pv zs k : Nat) : Int)) = true := decide_eq_true hlt2
          have hd2 : decide (0 < m + 1) = true := decide_eq_true (by omega)
          have HB0L := Lib.hid HB00.out.1
          have HB0H := Lib.hid HB00.out.2
          simp only [RD.v] at hc
          rw [hm] at hc
          have HRB := Lib.hid (show r.b = r.A.map (·.block) from rfl)
          clear hmz hm hrown hr hrb htop h3 hbk HBA HOUT hlt2 hqz hqk hy00 hy01 HTOP HB00
          generalize hP : pv zs k = P at *
          have HPK := Lib.hid hP
          clear hP
          have HMG := Lib.hid (show ((rs0 ++ [r]).map RD.v)[m]? = some (.slice r.A r.zs.length r.c) by rw [← HM.out]; simp [RD.v])
          have HOK : Hid (∀ {W2 : World}, wr.grownBy W2 (r.A.map (·.block)) → W2.ownsRow w.heap.size 24 1 (.slice (some ⟨g, 0, none⟩) (m + 1) c2) (m + 1) ((rs0 ++ [r]).map RD.v)) := fun hg2 => own_gr HROW.out.1 hg2 fun k hk e => own_diff HROW.out.1 HR0.out (by decide) k hk e
          go_wp2_with (at_builtin; refine app_more rfl (.tmp 36) (.tmp 38) 24 rfl b0 3 i0 (.int .i64 0) 8 Try.underlying24 hi hz0 hz1 hz2 (by decide) rfl _ _ _ _ rfl HR0.out (.int .i64 (k : Int)) rfl _ rfl rfl (by omega) HB0H.out ?_; intro g2 c4 w2 hown2 hgr2; have HO2 := Lib.hid (HOK.out hgr2); have hc2 := (HO2.out.cellAt m (by omega)).trans HMG.out; have hf2 := HO2.out.frozenAt m)
          obtain ⟨zs', hz'⟩ : ∃ zs', zs' = r.zs ++ [(k : Int)] := ⟨_, rfl⟩
          have hzl : zs'.length = r.zs.length + 1 := by rw [hz']; simp
          have ho3 : w2.ownsRow b0 3 1 (.slice (some ⟨g2, 0, none⟩) zs'.length c4) zs'.length (zs'.map (Value.int .i64)) := by
            rw [hzl, hz', List.map_append]; exact hown2
          have hsl := setlast (A' := some ⟨g2, 0, none⟩) (c' := c4) (b0 := b0) HROW.out ho3 hgr2 HLOW.out HB0L.out
          rw [hzl, HM.out] at hsl
          have HSL := Lib.hid hsl
          have HBF := Lib.hid ((HBW.out.grown hgr2 hszk (fun b hb => Nat.le_trans HB0L.out (own_lo HR0.out b hb).1)).setCell (p := ⟨g, m, none⟩) hgo (.slice (some ⟨g2, 0, none⟩) (r.zs.length + 1) c4))
          have HTP : Hid (Top (rs0 ++ [(⟨some ⟨g2, 0, none⟩, c4, zs'⟩ : RD)]) b0) := by
            refine ⟨fun i hi b hb => ?_, fun b hb => ?_⟩
            · have hi2 : i < rs0.length := by simp at hi; omega
              rw [getD_left hi2] at hb
              exact HLOW.out i hi2 b hb
            · rw [show (rs0 ++ [(⟨some ⟨g2, 0, none⟩, c4, zs'⟩ : RD)]).length - 1 = rs0.length by simp, getD_last] at hb
              exact (own_lo ho3 b hb).1
          have HZ' := Lib.hid hz'
          have HS2 := Lib.hid (Nat.le_trans HB0H.out hgr2.size)
          clear hz' hzl ho3 hsl hown2
          go_roundw
          case rel =>
            refine ⟨k + 1, by omega, by go_num, ⟨_, rfl, fun e => by omega, fun _ => by rw [Nat.add_sub_cancel, HPK.out]⟩, ⟨_, _, _, _, b0, rfl, by omega, HSL.out, ?_, HTP.out, ⟨HB0L.out, by simpa using HS2.out⟩⟩, HBF.out⟩
            show _ = _
            rw [List.map_append, HMZ.out.1, HNEW.out, List.map_append]
            show _ ++ [zs'] = _
            rw [HZ'.out, HMZ.out.2]
            simp [ints]
          case measure => simp [intOf]; omega
      · have hkn : k = n := by omega
        subst hkn
        have HR := Lib.hid hrow
        have HL2 := Lib.hid (show (riseI zs).length = q by rw [HF.out, ← HRS.out, List.length_map]; exact hrow.len)
        clear hrow
        go_wp2
        go_ret
        refine ⟨A2, c2, rs, by rw [HL2.out]; rfl, by rw [HF.out]; exact HRS.out, ?_, hbw⟩
        rw [HL2.out]
        exact HR.out
end Go.Proofs.Ytceolmihglhijaa.Rss
