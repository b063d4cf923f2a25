/- EndsOf and IsForced of the model: the leaves' objects, each once, by an insertion sort. -/
import Derived.Test.YtjmfdflhplobmaaFen
import Derived.Test.YtjmfdflhplobmaaPok
set_option linter.unusedVariables false
set_option maxRecDepth 20000
namespace Go.Proofs.Ytjmfdflhplobmaa.Fes
open Go.RowKit Fr _root_.Go.Proofs.Ytjmfdflhplobmaa.Own Pk Ins Pfn Rws Fpl Nod Nob Tcf Fok Trs Tre Een Fde Fan Sam Fen Pok

/-! ### a place kept free in a list -/
def gap (T : List Int) (i : Nat) (d : Int) : List Int := T.take i ++ d :: T.drop i
theorem gap_len {T : List Int} {i : Nat} (h : i ≤ T.length) (d : Int) : (gap T i d).length = T.length + 1 := by
  unfold gap
  rw [List.length_append, List.length_take, List.length_cons, List.length_drop]
  omega
theorem gap_top (T : List Int) (d : Int) : T ++ [d] = gap T T.length d := by unfold gap; rw [List.take_length, List.drop_length]
theorem gap_set {T : List Int} {i : Nat} (h : i ≤ T.length) (d x : Int) : (gap T i d).set i x = gap T i x := by
  unfold gap
  rw [List.set_append_right _ _ (by rw [List.length_take]; omega)]
  rw [List.length_take, Nat.min_eq_left h, Nat.sub_self]
  rfl
theorem gap_get {T : List Int} {k : Nat} (h : k + 1 ≤ T.length) (d : Int) : (gap T (k + 1) d).getD k 0 = T.getD k 0 := by
  unfold gap
  rw [List.getD_eq_getElem?_getD, List.getElem?_append_left (by rw [List.length_take]; omega), List.getElem?_take_of_lt (by omega), ← List.getD_eq_getElem?_getD]
theorem drop_at {T : List Int} {k : Nat} (h : k + 1 ≤ T.length) : T.drop k = T.getD k 0 :: T.drop (k + 1) := by
  rw [List.drop_eq_getElem_cons (by omega), List.getD_eq_getElem?_getD, List.getElem?_eq_getElem (by omega)]
  rfl
theorem gap_down {T : List Int} {k : Nat} (h : k + 1 ≤ T.length) (d : Int) : (gap T (k + 1) d).set (k + 1) (T.getD k 0) = gap T k (T.getD k 0) := by
  rw [gap_set h]
  unfold gap
  rw [drop_at h, List.take_succ_eq_append_getElem (by omega), List.append_assoc, List.getD_eq_getElem?_getD, List.getElem?_eq_getElem (by omega)]
  rfl
theorem gap_perm (T : List Int) (i : Nat) (d : Int) : (gap T i d).Perm (T ++ [d]) := by
  unfold gap
  refine List.perm_middle.trans ?_
  rw [List.take_append_drop]
  exact (List.perm_append_singleton d T).symm
theorem gap_le {T : List Int} {i : Nat} {x : Int} (h : LeS T) (hl : ∀ y ∈ T.take i, y ≤ x) (hr : ∀ y ∈ T.drop i, x < y) : LeS (gap T i x) := by
  unfold gap LeS
  have h0 : LeS (T.take i ++ T.drop i) := by rw [List.take_append_drop]; exact h
  obtain ⟨a1, a2, a3⟩ := List.pairwise_append.1 h0
  refine List.pairwise_append.2 ⟨a1, List.pairwise_cons.2 ⟨fun y hy => Int.le_of_lt (hr y hy), a2⟩, fun y hy z hz => ?_⟩
  rcases List.mem_cons.1 hz with rfl | hz
  · exact hl y hy
  · exact a3 y hy z hz
theorem take_le {T : List Int} {k : Nat} {x : Int} (h : LeS T) (hk : k + 1 ≤ T.length) (hx : T.getD k 0 ≤ x) : ∀ y ∈ T.take (k + 1), y ≤ x := by
  intro y hy
  obtain ⟨j, hj, rfl⟩ := List.getElem_of_mem hy
  rw [List.length_take] at hj
  have := le_at h (show j ≤ k by omega) (by omega)
  rw [List.getElem_take]
  rw [List.getD_eq_getElem?_getD, List.getElem?_eq_getElem (by omega)] at this
  simp only [Option.getD_some] at this
  omega
theorem val_get {zs : List Int} {k : Nat} (h : k < zs.length) : (zs.map (Value.int .i64))[k]? = some (.int .i64 (zs.getD k 0)) := by
  simp [List.getElem?_map, List.getElem?_eq_getElem h, List.getD_eq_getElem?_getD]
def IsSorted (B : Nat) (n : Nat) (zs : List Int) (w : World) (e : Ending) (w' : World) : Prop :=
  ∃ A2 c2 T, e = .returned (.slice A2 n c2) ∧ w'.ownsRow B 3 1 (.slice A2 n c2) n (T.map (Value.int .i64)) ∧ T.Perm zs ∧ LeS T ∧ Below B w w'
set_option maxHeartbeats 4000000 in
theorem sorted_any (A : Option Addr) (n c : Nat) (zs : List Int) (w : World) (hn : zs.length = n) (hn2 : n ≤ 1048576) (hs : IntsAt w w.heap.size .i64 A zs) :
    Calls Try.prog 59 #[.slice A n c] w (IsSorted w.heap.size n zs w) := by
  have HN := Lib.hid hn
  have HS := Lib.hid hs
  clear hn hs
  obtain ⟨i0, hi, hz0, hz1, hz2⟩ := info_parts infoInt
  go_enter Try.func59, Try.ntmps59
  have hb0 := box_below w (.cells #[] 3)
  have HO0 := Lib.hid (World.ownsRow_lit (base := w.heap.size) (e := 3) (size := 1) w #[] 0 (Nat.le_refl _) (by decide) rfl)
  have HB0 := Lib.hid hb0
  clear hb0
  go_wp2
  go_loopw [3, 10] (fun s q wr => ∃ (t : Nat) (A3 : Option Addr) (c3 : Nat) (T : List Int), t ≤ n ∧ q = .int .i64 t ∧ s = .slice A3 t c3 ∧ Hid (wr.ownsRow w.heap.size 3 1 (.slice A3 t c3) t (T.map (Value.int .i64))) ∧ Hid (T.Perm (zs.take t)) ∧ Hid (LeS T) ∧ Hid (Below w.heap.size w wr)) (fun _ q _ => n - (intOf q).toNat)
  case atStart => exact ⟨0, _, 0, [], Nat.zero_le _, rfl, rfl, HO0, Lib.hid (List.Perm.refl _), Lib.hid List.Pairwise.nil, HB0⟩
  case round =>
    obtain ⟨t, A3, c3, T, ht, rfl, rfl, HO, HP, HLE, HB⟩ := hrel
    by_cases hlt : t < n
    · obtain ⟨b, o, rfl, hbb, hc⟩ := (HS.out.below HB.out) t (by rw [HN.out]; exact hlt)
      have htl : T.length = t := by have := HO.out.1; simpa using this
      have HTL := Lib.hid htl
      have HTK := Lib.hid (show zs.take (t + 1) = zs.take t ++ [zs.getD t 0] by
        rw [List.take_succ_eq_append_getElem (by rw [HN.out]; exact hlt), List.getD_eq_getElem?_getD, List.getElem?_eq_getElem (by rw [HN.out]; exact hlt)]; rfl)
      generalize zs.getD t 0 = x at hc HTK
      have hsw := HB.out.size
      have HOW := Lib.hid HO.out
      clear htl HO
      go_wp2_with (at_builtin; refine app_one rfl (.tmp 14) (.tmp 15) 26 rfl w.heap.size 3 i0 (.int .i64 0) 8 Try.underlying26 hi hz0 hz1 hz2 (by decide) rfl _ t _ rfl HOW.out (.int .i64 0) rfl rfl (by omega) hsw ?_; intro g c4 w4 hown4 hb4)
      have HB4 := Lib.hid (HB.out.trans hb4)
      have HO4 := Lib.hid (show w4.ownsRow w.heap.size 3 1 (.slice (some ⟨g, 0, none⟩) (t + 1) c4) (t + 1) ((gap T t 0).map (Value.int .i64)) by
        have e : gap T t 0 = T ++ [0] := by rw [gap_top, HTL.out]
        rw [e, List.map_append]
        exact hown4)
      clear hown4 hb4
      go_loopw [6] (fun q wx => ∃ (i : Nat) (d : Int), i ≤ t ∧ q = .int .i64 i ∧ Hid (wx.ownsRow w.heap.size 3 1 (.slice (some ⟨g, 0, none⟩) (t + 1) c4) (t + 1) ((gap T i d).map (Value.int .i64))) ∧ Hid (∀ y ∈ T.drop i, x < y) ∧ Hid (Below w.heap.size w wx)) (fun q _ => (intOf q).toNat)
      case atStart => exact ⟨t, 0, Nat.le_refl _, rfl, HO4, Lib.hid (by rw [List.drop_eq_nil_of_le (by rw [HTL.out]; exact Nat.le_refl _)]; intro y hy; cases hy), HB4⟩
      case round =>
        obtain ⟨i, d, hit, rfl, HOX, HDR, HBX⟩ := hrel
        have hgl := HOX.out.lt g rfl
        clear HO4 HB4 HOW
        cases i with
        | zero =>
          have hst := HOX.out.stored 0 (.int .i64 x)
          have hfr := HOX.out.frozenAt 0
          have hc0 := HOX.out.cellAt 0 (by omega)
          rw [val_get (by rw [gap_len (Nat.zero_le _)]; omega)] at hc0
          rw [← List.map_set, gap_set (Nat.zero_le _)] at hst
          have HST := Lib.hid hst.1
          have HBS := Lib.hid (HBX.out.grown hst.2 HBX.out.size (fun k hk => by simp only [Option.some.injEq] at hk; omega))
          have HPN := Lib.hid (show (gap T 0 x).Perm (zs.take (t + 1)) by rw [HTK.out]; exact (gap_perm T 0 x).trans (HP.out.append_right _))
          have HLN := Lib.hid (gap_le (i := 0) (x := x) HLE.out (by intro y hy; cases hy) HDR.out)
          clear hst HP HLE HDR HTK
          go_wp2
          go_roundw
          case rel => exact ⟨t + 1, some ⟨g, 0, none⟩, c4, gap T 0 x, by omega, by go_num, rfl, HST, HPN, HLN, HBS⟩
          case measure => simp [intOf]; omega
        | succ k =>
          have hgk : (0 : Int) < ((k + 1 : Nat) : Int) := by omega
          have hgd : decide ((0 : Int) < ((k + 1 : Nat) : Int)) = true := decide_eq_true hgk
          have hck := HOX.out.cellAt k (by omega)
          rw [val_get (by rw [gap_len (by rw [HTL.out]; exact hit)]; rw [HTL.out]; omega), gap_get (by rw [HTL.out]; exact hit)] at hck
          have hfr := HOX.out.frozenAt (k + 1)
          have hcs := HOX.out.cellAt (k + 1) (by omega)
          rw [val_get (by rw [gap_len (by rw [HTL.out]; exact hit)]; rw [HTL.out]; omega)] at hcs
          generalize (gap T (k + 1) d).getD (k + 1) 0 = z at hcs
          by_cases hx : x < T.getD k 0
          · have hst := HOX.out.stored (k + 1) (.int .i64 (T.getD k 0))
            rw [← List.map_set, gap_down (by rw [HTL.out]; exact hit)] at hst
            have HST := Lib.hid hst.1
            have HBS := Lib.hid (HBX.out.grown hst.2 HBX.out.size (fun k hk => by simp only [Option.some.injEq] at hk; omega))
            have HDN := Lib.hid (show ∀ y ∈ T.drop k, x < y by
              rw [drop_at (by rw [HTL.out]; exact hit)]
              intro y hy
              rcases List.mem_cons.1 hy with rfl | hy
              · exact hx
              · exact HDR.out y hy)
            have hxd : decide (x < T.getD k 0) = true := decide_eq_true hx
            clear hst HDR hx
            generalize T.getD k 0 = y at *
            go_wp2
            go_roundw
            case rel => exact ⟨k, y, by omega, by go_num, HST, HDN, HBS⟩
            case measure => simp [intOf]
          · have hst := HOX.out.stored (k + 1) (.int .i64 x)
            rw [← List.map_set, gap_set (by rw [HTL.out]; exact hit)] at hst
            have HST := Lib.hid hst.1
            have HBS := Lib.hid (HBX.out.grown hst.2 HBX.out.size (fun k hk => by simp only [Option.some.injEq] at hk; omega))
            have HPN := Lib.hid (show (gap T (k + 1) x).Perm (zs.take (t + 1)) by rw [HTK.out]; exact (gap_perm T (k + 1) x).trans (HP.out.append_right _))
            have HLN := Lib.hid (gap_le (i := k + 1) (x := x) HLE.out (take_le HLE.out (by rw [HTL.out]; exact hit) (by omega)) HDR.out)
            have hxd : decide (x < T.getD k 0) = false := decide_eq_false hx
            clear hst HP HLE HDR HTK hx
            generalize T.getD k 0 = y at *
            go_wp2
            go_roundw
            case rel => exact ⟨t + 1, some ⟨g, 0, none⟩, c4, gap T (k + 1) x, by omega, by go_num, rfl, HST, HPN, HLN, HBS⟩
            case measure => simp [intOf]; omega
    · have htn : t = n := by omega
      subst htn
      have HPF := Lib.hid (show T.Perm zs by have h := HP.out; rw [List.take_of_length_le (by rw [HN.out]; exact Nat.le_refl _)] at h; exact h)
      go_wp2
      go_ret
      exact ⟨A3, c3, T, rfl, HO.out, HPF.out, HLE.out, HB.out⟩
/-! ### the leaves' objects, each once -/
def cur (L : List NV) : Nat → List Int
  | 0 => []
  | k + 1 => if nx L k = [] ∧ fi L k ∉ cur L k then cur L k ++ [fi L k] else cur L k
theorem leaves_step (L : List NV) (k : Nat) : leaves L (k + 1) = leaves L k ++ if nx L k = [] then [fi L k] else [] := by
  unfold leaves
  rw [List.range_succ, List.filter_append, List.map_append]
  congr 1
  by_cases h : nx L k = [] <;> simp [h]
theorem cur_len (L : List NV) : ∀ k, (cur L k).length ≤ k
  | 0 => Nat.le_refl _
  | k + 1 => by
    have := cur_len L k
    rw [cur]
    split
    · rw [List.length_append]; simp; omega
    · omega
theorem cur_nodup (L : List NV) : ∀ k, (cur L k).Nodup
  | 0 => List.nodup_nil
  | k + 1 => by
    have := cur_nodup L k
    rw [cur]
    split
    · rename_i h
      refine List.nodup_append.2 ⟨this, by simp, fun x hx y hy => ?_⟩
      rw [List.mem_singleton] at hy
      subst hy
      exact fun e => h.2 (e ▸ hx)
    · exact this
theorem cur_mem (L : List NV) (x : Int) : ∀ k, x ∈ cur L k ↔ x ∈ leaves L k
  | 0 => by simp [cur, leaves]
  | k + 1 => by
    rw [leaves_step, List.mem_append, ← cur_mem L x k, cur]
    by_cases h : nx L k = []
    · rw [if_pos h]
      by_cases h2 : fi L k ∈ cur L k
      · rw [if_neg (fun h3 => h3.2 h2)]
        constructor
        · exact Or.inl
        · rintro (h3 | h3)
          · exact h3
          · rw [List.mem_singleton] at h3; rw [h3]; exact h2
      · rw [if_pos ⟨h, h2⟩, List.mem_append]
    · rw [if_neg (fun h3 => h h3.1), if_neg h]
      simp
theorem sort_of {T zs : List Int} (h : LeS T) (hp : T.Perm zs) (hd : zs.Nodup) : SortS T := by
  have h2 : T.Nodup := hp.nodup_iff.2 hd
  unfold SortS
  unfold LeS at h
  rw [List.pairwise_iff_getElem] at *
  intro i j hi hj hij
  have h3 := h i j hi hj hij
  have h4 : T[i] ≠ T[j] := (List.pairwise_iff_getElem.1 h2) i j hi hj hij
  omega
theorem sorted_is {L : List NV} (h : OkF L) {T : List Int} (hp : T.Perm (cur L L.length)) (hl : LeS T) : T = endsI L := by
  unfold endsI
  rw [ok_yes h]
  exact sortU_of (sort_of hl hp (cur_nodup L _)) fun x => by rw [hp.mem_iff, cur_mem]
set_option maxHeartbeats 4000000 in
theorem spec_ends (A : Option Addr) (n c : Nat) (rs : List NR) (L : List NV) (w : World) (hz : rs.map NR.nv = L) (hn : rs.length = n) (hnc : n ≤ c) (hfit : FitN L) (hbig : BigN L) (hat : NodesAt w w.heap.size A rs) :
    Calls Try.prog 30 #[.slice A n c] w (IsIL w.heap.size (endsI L) w) := by
  have HT := Lib.hid (spec_ok A n c rs L w hz hn hfit hbig hat)
  have HL := Lib.hid (show L.length = n by rw [← hz, List.length_map]; exact hn)
  have HZ := Lib.hid (nv_at hz)
  have HRL := Lib.hid hn
  have HAT := Lib.hid hat
  obtain ⟨R, hR⟩ : ∃ R, R = endsI L := ⟨_, rfl⟩
  rw [← hR]
  have HR := Lib.hid hR
  clear hat hfit hbig hR hz hn
  obtain ⟨i0, hi, hz0, hz1, hz2⟩ := info_parts infoInt
  go_enter Try.func30, Try.ntmps30
  go_wp2_with fail
  refine HT.out.mono ?_
  rintro e w1 ⟨rfl, hb⟩
  have HB := Lib.hid hb
  clear hb HT
  by_cases hok : OkF L
  · rw [ok_yes hok]
    have hn40 : n ≤ 40 := by rw [← HL.out]; exact hok.small
    have HSI := Lib.hid (fun (T : List Int) (hp : T.Perm (cur L L.length)) (hl : LeS T) => HR.out.trans (sorted_is hok hp hl).symm)
    have HCL := Lib.hid (cur_len L)
    clear hok
    have hb0 := box_below w1 (.cells #[] 3)
    have HO0 := Lib.hid (World.ownsRow_lit (base := w1.heap.size) (e := 3) (size := 1) w1 #[] 0 (Nat.le_refl _) (by decide) rfl)
    have HB0 := Lib.hid hb0
    have hs1 := HB.out.size
    clear hb0
    go_wp2
    go_loopw [3, 12] (fun s q wr => ∃ (k m : Nat) (A3 : Option Addr) (c3 : Nat), k ≤ n ∧ q = .int .i64 k ∧ m ≤ 40 ∧ s = .slice A3 m c3 ∧ Hid ((cur L k).length = m) ∧ Hid (wr.ownsRow w1.heap.size 3 1 (.slice A3 m c3) m ((cur L k).map (Value.int .i64))) ∧ Hid (Below w1.heap.size w1 wr)) (fun _ q _ => n - (intOf q).toNat)
    case atStart => exact ⟨0, 0, _, 0, Nat.zero_le _, rfl, by omega, rfl, Lib.hid rfl, HO0, HB0⟩
    case round =>
      obtain ⟨k, m, A3, c3, hk, rfl, hm, rfl, HM, HO3, HBB⟩ := hrel
      by_cases hlt : k < n
      · have hsr := HBB.out.size
        obtain ⟨b, o, rfl, hbb, c0, c1, c2, hi4⟩ := ((HAT.out.below HB.out).below (HBB.out.mono hs1)) k (by rw [HRL.out]; exact hlt)
        obtain ⟨z1, z2⟩ := HZ.out k
        have HNX := Lib.hid (show cur L (k + 1) = if (nx L k).length = 0 ∧ fi L k ∉ cur L k then cur L k ++ [fi L k] else cur L k by
          rw [cur]; simp only [List.length_eq_zero_iff])
        unfold NR.sv at c1
        rw [z1] at c1
        rw [z2] at c2
        generalize (rs.getD k nr0).A = A1 at *
        generalize (rs.getD k nr0).c = d1 at *
        generalize (rs.getD k nr0).say = s1 at *
        clear z1 z2 hi4
        generalize nx L k = xs at *
        generalize fi L k = fin at *
        generalize xs.length = u at *
        obtain ⟨V, hV⟩ : ∃ V, wr.alloc (.cells #[.string s1, .slice A1 u d1, .int .i64 fin] 37) = V := ⟨_, rfl⟩
        have hbV : Below wr.heap.size wr V := by rw [← hV]; exact box_below _ _
        obtain ⟨v0, v1, v2⟩ := cell3 (heap_alloc_new wr (.cells #[.string s1, .slice A1 u d1, .int .i64 fin] 37))
        rw [hV] at v0 v1 v2
        have HBV := Lib.hid (HBB.out.trans (hbV.mono HBB.out.size))
        have hsn := HBV.out.size
        have HON := Lib.hid (own_below HO3.out hbV)
        clear hbV HO3
        by_cases hu : u = 0
        · have hu' : ((u : Int) == 0) = true := by rw [hu]; rfl
          have HC := Lib.hid (has_any A3 m c3 (cur L k) fin V HM.out (by omega) (ints_of HON.out))
          unfold hasB at HC
          cases hin : decide (fin ∈ cur L k) with
          | true =>
            rw [hin] at HC
            have HE := Lib.hid (show cur L (k + 1) = cur L k by rw [HNX.out, if_neg (fun h => h.2 (of_decide_eq_true hin))])
            clear hin HNX hu
            go_wp2_with fail
            refine HC.out.mono ?_
            rintro e w6 ⟨rfl, rfl⟩
            go_wp2
            go_roundw
            case rel => exact ⟨k + 1, m, A3, c3, by omega, by go_num, hm, rfl, Lib.hid (by rw [HE.out]; exact HM.out), Lib.hid (by rw [HE.out]; exact HON.out), HBV⟩
            case measure => simp [intOf]; omega
          | false =>
            rw [hin] at HC
            have HE := Lib.hid (show cur L (k + 1) = cur L k ++ [fin] by rw [HNX.out, if_pos ⟨hu, of_decide_eq_false hin⟩])
            have HMN := Lib.hid (show (cur L (k + 1)).length = m + 1 by rw [HE.out, List.length_append, HM.out]; rfl)
            have hm1 : m + 1 ≤ 40 := by
              have h1 := HCL.out (k + 1)
              rw [HMN.out] at h1
              omega
            clear hin HNX hu
            go_wp2_with fail
            refine HC.out.mono ?_
            rintro e w6 ⟨rfl, rfl⟩
            go_wp2_with (at_builtin; refine app_one rfl (.tmp 27) (.tmp 30) 26 rfl w1.heap.size 3 i0 (.int .i64 0) 8 Try.underlying26 hi hz0 hz1 hz2 (by decide) rfl _ m _ rfl HON.out (.int .i64 fin) rfl rfl (by omega) hsn ?_; intro g c4 w4 hown4 hb4)
            have HB4 := Lib.hid (HBV.out.trans hb4)
            go_roundw
            case rel =>
              refine ⟨k + 1, m + 1, some ⟨g, 0, none⟩, c4, by omega, by go_num, hm1, rfl, HMN, Lib.hid ?_, HB4⟩
              rw [HE.out, List.map_append]
              exact hown4
            case measure => simp [intOf]; omega
        · have hu' : ((u : Int) == 0) = false := by simpa using hu
          have HE := Lib.hid (show cur L (k + 1) = cur L k by rw [HNX.out, if_neg (fun h => hu h.1)])
          clear HNX
          go_wp2
          go_roundw
          case rel => exact ⟨k + 1, m, A3, c3, by omega, by go_num, hm, rfl, Lib.hid (by rw [HE.out]; exact HM.out), Lib.hid (by rw [HE.out]; exact HON.out), HBV⟩
          case measure => simp [intOf]; omega
      · have hkn : k = n := by omega
        subst hkn
        have HS := Lib.hid (sorted_any A3 m c3 (cur L k) wr HM.out (by omega) (ints_of HO3.out))
        go_wp2_with fail
        refine HS.out.mono ?_
        rintro e w6 ⟨A6, c6, T, rfl, ho6, hp6, hl6, hb6⟩
        have hRT := HSI.out T (by rw [HL.out]; exact hp6) hl6
        have hlen : R.length = m := by rw [hRT, hp6.length_eq]; exact HM.out
        have HRT := Lib.hid hRT
        have HLE := Lib.hid hlen
        have hsr := HBB.out.size
        have HO6 := Lib.hid (own_mono ho6 (show w.heap.size ≤ wr.heap.size by omega))
        have HB6 := Lib.hid (HB.out.trans ((HBB.out.trans (hb6.mono hsr)).mono hs1))
        clear ho6 hp6 hl6 hb6 hRT hlen
        go_wp2
        go_ret
        refine ⟨A6, c6, by rw [HLE.out]; rfl, ?_, HB6.out⟩
        rw [HLE.out, HRT.out]
        exact HO6.out
  · rw [ok_no hok]
    have H1 := Lib.hid (HR.out.trans (ends_no hok))
    clear hok
    go_wp2
    go_ret
    rw [H1.out]
    exact ⟨none, 0, rfl, World.ownsRow_nil _ _ _ _, HB.out⟩
theorem spec_forced (A : Option Addr) (n c : Nat) (rs : List NR) (L : List NV) (ob : Int) (w : World) (hz : rs.map NR.nv = L) (hn : rs.length = n) (hnc : n ≤ c) (hfit : FitN L) (hbig : BigN L) (hat : NodesAt w w.heap.size A rs) :
    Calls Try.prog 35 #[.slice A n c, .int .i64 ob] w fun e w' => e = .returned (.bool (forcedB L ob)) ∧ Below w.heap.size w w' := by
  have HC := Lib.hid (spec_ends A n c rs L w hz hn hnc hfit hbig hat)
  have hlen := ends_len L hbig
  rw [← forced_is]
  obtain ⟨R, hR⟩ : ∃ R, R = endsI L := ⟨_, rfl⟩
  rw [← hR] at HC hlen ⊢
  clear hat hfit hbig hR hz
  go_enter Try.func35, Try.ntmps35
  go_wp2_with fail
  refine HC.out.mono ?_
  rintro e w1 ⟨A1, c1, rfl, ho, hb⟩
  have HB := Lib.hid hb
  have hb1 := box_below w1 (.cells #[.int .i64 ob] 3)
  have HO1 := Lib.hid (ints_of (own_below ho hb1))
  have HO2 := Lib.hid (ints_of (n := 1) (c := 1) (zs := [ob]) (World.ownsRow_lit (base := w1.heap.size) (e := 3) (size := 1) w1 #[.int .i64 ob] 1 (Nat.le_refl _) (by decide) rfl))
  have HB1 := Lib.hid (HB.out.trans (hb1.mono HB.out.size))
  clear hb ho hb1
  go_wp2_with fail
  refine (spec_same A1 (some ⟨w1.heap.size, 0, none⟩) R.length 1 c1 1 R [ob] _ rfl rfl (by omega) (by omega) HO1.out HO2.out).mono ?_
  rintro e w2 ⟨rfl, rfl⟩
  go_wp2
  go_ret
  exact ⟨rfl, HB1.out⟩
end Go.Proofs.Ytjmfdflhplobmaa.Fes
