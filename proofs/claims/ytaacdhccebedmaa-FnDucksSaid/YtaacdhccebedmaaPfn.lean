/- What the functions on permutations do, in the program and in the model: composing, inverting, raising to a power, arranging a packet, and the permutation between two packets. What the functions on permutations do, second part: inverting, raising to a power, and the permutation between two packets, in the program and in the model. -/
import Derived.Test.YtaacdhccebedmaaPerm
import Derived.Test.YtaacdhccebedmaaArr
import Derived.Test.YtaacdhccebedmaaNewp
set_option linter.unusedVariables false
set_option maxRecDepth 20000
namespace Go.Proofs.Ytaacdhccebedmaa.Pfn
open Go.RowKit Fr Own Pk Ins Pok Prm

/-- a call hands back a list of ints of its own and a bool -/
def IsILB (B : Nat) (zs : List Int) (b : Bool) (w : World) (e : Ending) (w' : World) : Prop :=
  ∃ A c, e = .returned (.tuple #[.slice A zs.length c, .bool b]) ∧ w'.ownsRow B 3 1 (.slice A zs.length c) zs.length (zs.map (Value.int .i64)) ∧ Below B w w'
theorem own_cap {w : World} {B : Nat} {e : TypeId} {size : Nat} {A : Option Addr} {n c : Nat} {xs : List Value} (h : w.ownsRow B e size (.slice A n c) n xs) : n ≤ c := by
  rcases h.2 with ⟨h1, h2⟩ | ⟨g, cap, cur, hv, _, _, hc, _⟩
  · omega
  · simp only [Value.slice.injEq] at hv
    omega

/-- the elements of ls at the places that zs names -/
def joinF (ls zs : List Int) : List Int := zs.map fun x => ls.getD x.toNat 0
theorem joinF_len (ls zs : List Int) : (joinF ls zs).length = zs.length := by simp [joinF]
theorem joinF_get (ls zs : List Int) (k : Nat) (h : k < zs.length) : (joinF ls zs).getD k 0 = ls.getD (zs.getD k 0).toNat 0 := by
  simp [joinF, List.getD_eq_getElem?_getD, List.getElem?_map, List.getElem?_eq_getElem h]
theorem joinF_snoc (ls zs : List Int) (k : Nat) (h : k < zs.length) (y : Nat) (hy : zs.getD k 0 = (y : Int)) : joinF ls (zs.take (k + 1)) = joinF ls (zs.take k) ++ [ls.getD y 0] := by
  rw [take_snoc zs k h, hy]; simp [joinF]
/-- all places named are there -/
def inR (zs : List Int) (m : Nat) : Prop := ∀ i, i < zs.length → 0 ≤ zs.getD i 0 ∧ zs.getD i 0 < (m : Int)
theorem inR_perm {zs : List Int} (h : permB zs = true) : inR zs zs.length := fun i hi => ((permB_yes h).2 i hi).1

set_option maxHeartbeats 1000000 in
theorem arr_any (A : Option Addr) (n c : Nat) (zs : List Int) (A2 : Option Addr) (n2 c2 : Nat) (ls : List Int) (w : World) (hn : zs.length = n) (hn2 : n ≤ 1048576) (hss : IntsAt w w.heap.size .i64 A zs)
    (hm : ls.length = n2) (hls : IntsAt w w.heap.size .i64 A2 ls) (hin : inR zs n2) :
    Calls Try.prog 54 #[.slice A n c, .slice A2 n2 c2] w (IsIL w.heap.size (joinF ls zs) w) := by
  have HN := Lib.hid hn
  have HM := Lib.hid hm
  have HL := Lib.hid (show (joinF ls zs).length = n by rw [joinF_len, hn])
  clear hn hm
  obtain ⟨i0, hi, hz0, hz1, hz2⟩ := info_parts infoInt
  go_enter Try.func54, Try.ntmps54
  go_wp2_with (refine wpList_make_full _ rfl (.tmp 9) (.tmp 9) 23 rfl w.heap.size 3 i0 (.int .i64 0) 1 Try.underlying23 hi hz0 hz1 .i64 .i64 n n n rfl rfl rfl rfl (by rw [hz2]; omega) (by unfold maxLen; omega) (Nat.le_refl _) ?_)
  intro w1 hown hgrow
  have hb0 : Below w.heap.size w w1 := (Below.refl _ w).grown hgrow (Nat.le_refl _) (fun k hk => by cases hk)
  have hown0 : w1.ownsRow w.heap.size 3 1 (.slice (some ⟨w.heap.size, 0, none⟩) n n) n (icopied (joinF ls zs) n 0) := by
    have e : (madeCells #[Value.int .i64 0] n).toList = icopied (joinF ls zs) n 0 := by
      rw [toList_madeCells_one]
      rfl
    rw [← e]
    simpa using hown
  clear hown hgrow
  go_wp2
  go_loopw [6, 7, 13] (fun _ _ i wr => ∃ k : Nat, k ≤ n ∧ i = .int .i64 k ∧ wr.ownsRow w.heap.size 3 1 (.slice (some ⟨w.heap.size, 0, none⟩) n n) n (icopied (joinF ls zs) n k) ∧ Below w.heap.size w wr) (fun _ _ i _ => n - (intOf i).toNat)
  case atStart => exact ⟨0, Nat.zero_le _, rfl, hown0, hb0⟩
  case round =>
    obtain ⟨k, hk, rfl, hownk, hbk⟩ := hrel
    by_cases hlt : k < n
    · obtain ⟨b, o, rfl, hbb, hc⟩ := hss.below hbk k (by rw [HN.out]; exact hlt)
      have hnext := icopied_next (joinF ls zs) n k HL.out hlt
      rw [joinF_get ls zs k (by rw [HN.out]; exact hlt)] at hnext
      have hxin := hin k (by rw [HN.out]; exact hlt)
      generalize zs.getD k 0 = x at hnext hc hxin
      obtain ⟨y, rfl⟩ : ∃ y : Nat, x = y := ⟨x.toNat, by omega⟩
      have hy : y < n2 := by omega
      obtain ⟨b2, o2, rfl, hbb2, hc2⟩ := hls.below hbk y (by rw [HM.out]; exact hy)
      rw [Int.toNat_natCast] at hnext
      generalize ls.getD y 0 = v at hnext hc2
      have hst := hownk.stored k (.int .i64 v)
      rw [hnext] at hst
      have hlen : (icopied (joinF ls zs) n k).length = n := by have := hownk.1; omega
      have hcell : wr.cell? ⟨w.heap.size, k, none⟩ = some ((icopied (joinF ls zs) n k)[k]'(by omega)) := by
        rw [hownk.cellAt k (by omega)]; exact List.getElem?_eq_getElem (by omega)
      have hfz := hownk.frozenAt k
      generalize (icopied (joinF ls zs) n k)[k]'(by omega) = old at hcell
      have hb2 := hbk.setCell (p := ⟨w.heap.size, k, none⟩) (Nat.le_refl _) (.int .i64 v)
      have HST := Lib.hid hst
      have HB2 := Lib.hid hb2
      clear hnext hst hlen hb2 hownk hbk hxin hown0
      go_wp2
      go_roundw
      case rel => exact ⟨k + 1, by omega, by go_num, HST.out.1, HB2.out⟩
      case measure => simp [intOf]; omega
    · have hkn : k = n := by omega
      rw [hkn, icopied_all (joinF ls zs) n HL.out] at hownk
      have HO := Lib.hid hownk
      clear hownk hkn hown0
      go_wp2
      go_ret
      exact ⟨some ⟨w.heap.size, 0, none⟩, n, by rw [HL.out]; rfl, by rw [HL.out]; exact HO.out, hbk⟩

/-! ### ComposePerms -/
def compB (us bs : List Int) : Bool := permB us && permB bs && decide (us.length = bs.length)
def compF (us bs : List Int) : List Int := if compB us bs then joinF us bs else []
theorem compF_yes {us bs : List Int} (h : compB us bs = true) : compF us bs = joinF us bs := by unfold compF; rw [if_pos h]
theorem compF_no {us bs : List Int} (h : compB us bs = false) : compF us bs = [] := by unfold compF; rw [h]; rfl
theorem nil_ilb (w : World) (B : Nat) : IsILB B [] false w (.returned (.tuple #[.slice none 0 0, .bool false])) w := ⟨none, 0, rfl, World.ownsRow_nil _ _ _ _, Below.refl _ _⟩
theorem perm_short {zs : List Int} (h : permB zs = true) : zs.length ≤ 12 := (permB_yes h).1
theorem il_after {B : Nat} {zs : List Int} {w w1 w2 : World} {e : Ending} (h : IsIL w1.heap.size zs w1 e w2) (hb : Below B w w1) (hs : B ≤ w1.heap.size) : IsIL B zs w e w2 := by
  obtain ⟨A, c, he, ho, hb2⟩ := h
  exact ⟨A, c, he, own_mono ho hs, hb.trans (hb2.mono hs)⟩


/-! ### ArrangeBy -/
def arrgB (us bs : List Int) : Bool := okB us && permB bs && decide (us.length = bs.length)
def arrgF (us bs : List Int) : List Int := if arrgB us bs then joinF us bs else []
theorem arrgF_yes {us bs : List Int} (h : arrgB us bs = true) : arrgF us bs = joinF us bs := by unfold arrgF; rw [if_pos h]
theorem arrgF_no {us bs : List Int} (h : arrgB us bs = false) : arrgF us bs = [] := by unfold arrgF; rw [h]; rfl
set_option maxHeartbeats 1000000 in
theorem impl_arrg (A : Option Addr) (n c : Nat) (us : List Int) (A2 : Option Addr) (n2 c2 : Nat) (bs : List Int) (w : World) (hn : us.length = n) (hn2 : n ≤ 9223372036854775807) (hz : Fits us) (hss : IntsAt w w.heap.size .i64 A us)
    (hm : bs.length = n2) (hm2 : n2 ≤ 9223372036854775807) (hz2 : Fits bs) (hbs : IntsAt w w.heap.size .i64 A2 bs) :
    Calls Try.prog 37 #[.slice A n c, .slice A2 n2 c2] w (IsILB w.heap.size (arrgF us bs) (arrgB us bs) w) := by
  have HN := Lib.hid hn
  have HM := Lib.hid hm
  have hcb : arrgB us bs = (okB us && permB bs && decide (n = n2)) := by unfold arrgB; rw [hn, hm]
  have hyes := @arrgF_yes us bs
  have hno := @arrgF_no us bs
  have hsh := @perm_short bs
  have hir := @inR_perm bs
  rw [hm] at hsh hir
  clear hn hm
  generalize arrgB us bs = B at *
  generalize arrgF us bs = F at *
  go_enter Try.func37, Try.ntmps37
  go_wp2_with fail
  refine (impl_ok A n c us _ HN.out hn2 hz hss).mono ?_
  rintro e w1 ⟨rfl, hb⟩
  replace hss := (hss.below hb).more hb.size
  replace hbs := (hbs.below hb).more hb.size
  cases hp : okB us with
  | false =>
    have hB : B = false := by rw [hcb, hp]; rfl
    have hF := hno hB
    subst hB hF
    clear hcb hyes hno hp hsh hir
    go_wp2
    go_ret2
    exact ⟨none, 0, rfl, World.ownsRow_nil _ _ _ _, hb⟩
  | true =>
    rw [hp, Bool.true_and] at hcb
    clear hp
    go_wp2_with fail
    refine (impl_perm A2 n2 c2 bs _ HM.out hm2 hz2 hbs).mono ?_
    rintro e w2 ⟨rfl, hb2⟩
    replace hss := (hss.below hb2).more hb2.size
    replace hbs := (hbs.below hb2).more hb2.size
    replace hb := hb.trans (hb2.mono hb.size)
    clear hb2
    cases hq : permB bs with
    | false =>
      have hB : B = false := by rw [hcb, hq]; rfl
      have hF := hno hB
      subst hB hF
      clear hcb hyes hno hq hsh hir
      go_wp2
      go_ret2
      exact ⟨none, 0, rfl, World.ownsRow_nil _ _ _ _, hb⟩
    | true =>
      rw [hq, Bool.true_and] at hcb
      replace hsh := hsh hq
      replace hir := hir hq
      clear hq
      by_cases hl : n = n2
      · subst hl
        have hB : B = true := by rw [hcb]; exact decide_eq_true rfl
        have hF := hyes hB
        subst hB hF
        clear hcb hyes hno
        go_wp2_with fail
        refine (arr_any A2 n c2 bs A n c us _ HM.out (by omega) hbs HN.out hss hir).mono ?_
        rintro e w3 ⟨A3, c3, rfl, hown, hb3⟩
        have HO := Lib.hid (own_mono hown hb.size)
        clear hown
        go_wp2
        go_ret2
        exact ⟨A3, c3, rfl, HO.out, hb.trans (hb3.mono hb.size)⟩
      · have hB : B = false := by rw [hcb]; exact decide_eq_false hl
        have hF := hno hB
        subst hB hF
        have hne : ((n : Int) == (n2 : Int)) = false := by simpa using (fun e => hl (by omega))
        clear hcb hyes hno hsh hir hl
        go_wp2
        go_ret2
        exact ⟨none, 0, rfl, World.ownsRow_nil _ _ _ _, hb⟩
theorem comp_len {us bs : List Int} (h : compB us bs = true) : bs.length ≤ 12 ∧ permB us = true ∧ permB bs = true ∧ us.length = bs.length := by
  unfold compB at h
  rw [Bool.and_eq_true, Bool.and_eq_true, decide_eq_true_eq] at h
  exact ⟨(permB_yes h.1.2).1, h.1.1, h.1.2, h.2⟩
theorem compF_short (us bs : List Int) : (compF us bs).length ≤ 1048576 := by
  unfold compF
  split
  · rename_i h; have := (comp_len h).1; rw [joinF_len]; omega
  · exact Nat.zero_le _
theorem arrg_len {us bs : List Int} (h : arrgB us bs = true) : bs.length ≤ 12 ∧ okB us = true ∧ permB bs = true ∧ us.length = bs.length := by
  unfold arrgB at h
  rw [Bool.and_eq_true, Bool.and_eq_true, decide_eq_true_eq] at h
  exact ⟨(permB_yes h.1.2).1, h.1.1, h.1.2, h.2⟩
theorem arrgF_short (us bs : List Int) : (arrgF us bs).length ≤ 1048576 := by
  unfold arrgF
  split
  · rename_i h; have := (arrg_len h).1; rw [joinF_len]; omega
  · exact Nat.zero_le _
end Go.Proofs.Ytaacdhccebedmaa.Pfn

namespace Go.Proofs.Ytaacdhccebedmaa.Pfn
open Go.RowKit Fr Own Pk Ins Pok Prm Pl Arr

/-! ### InversePerm -/
def invTo (zs : List Int) : Nat → List Int
  | 0 => List.replicate zs.length 0
  | k + 1 => (invTo zs k).set (zs.getD k 0).toNat (k : Int)
theorem invTo_len (zs : List Int) (k : Nat) : (invTo zs k).length = zs.length := by
  induction k with
  | zero => simp [invTo]
  | succ k ih => simp [invTo, ih]
theorem invTo_next (zs : List Int) (k y : Nat) (h : zs.getD k 0 = (y : Int)) : (invTo zs k).set y (k : Int) = invTo zs (k + 1) := by
  simp only [invTo]; rw [h]; rfl
def invF (zs : List Int) : List Int := if permB zs then invTo zs zs.length else []
theorem invF_yes {zs : List Int} (h : permB zs = true) : invF zs = invTo zs zs.length := by unfold invF; rw [if_pos h]
theorem invF_no {zs : List Int} (h : permB zs = false) : invF zs = [] := by unfold invF; rw [h]; rfl
def vals (zs : List Int) : List Value := zs.map (Value.int .i64)
theorem vals_len (zs : List Int) : (vals zs).length = zs.length := by simp [vals]
theorem vals_get {zs : List Int} {k : Nat} (h : k < zs.length) : (vals zs)[k]? = some (.int .i64 (zs.getD k 0)) := by
  simp [vals, List.getElem?_map, List.getElem?_eq_getElem h, List.getD_eq_getElem?_getD]
theorem vals_set (zs : List Int) (k : Nat) (x : Int) : (vals zs).set k (.int .i64 x) = vals (zs.set k x) := by
  simp [vals, List.map_set]
theorem vals_rep (n : Nat) : vals (List.replicate n 0) = List.replicate n (.int .i64 0) := by simp [vals]

set_option maxHeartbeats 1000000 in
theorem impl_inv (A : Option Addr) (n c : Nat) (zs : List Int) (w : World) (hn : zs.length = n) (hn2 : n ≤ 9223372036854775807) (hz : Fits zs) (hss : IntsAt w w.heap.size .i64 A zs) :
    Calls Try.prog 36 #[.slice A n c] w (IsILB w.heap.size (invF zs) (permB zs) w) := by
  have HN := Lib.hid hn
  clear hn
  obtain ⟨i0, hi, hz0, hz1, hz2⟩ := info_parts infoInt
  cases hp : permB zs with
  | false =>
    have HP := Lib.hid hp
    have HF := Lib.hid (invF_no hp)
    clear hp
    go_enter Try.func36, Try.ntmps36
    go_wp2_with fail
    refine (impl_perm A n c zs _ HN.out hn2 hz hss).mono ?_
    rintro e w1 ⟨rfl, hb⟩
    have hss0 := hss
    replace hss := (hss.below hb).more hb.size
    have HSZ := Lib.hid hb.size
    rw [HP.out]
    go_wp2
    go_ret2
    rw [HF.out]
    exact ⟨none, 0, rfl, World.ownsRow_nil _ _ _ _, hb⟩
  | true =>
    have h12 := perm_short hp
    rw [HN.out] at h12
    have hin := inR_perm hp
    rw [HN.out] at hin
    have HP := Lib.hid hp
    have HF := Lib.hid (invF_yes hp)
    have HL := Lib.hid (show (invF zs).length = n by rw [invF_yes hp, invTo_len]; exact HN.out)
    clear hp
    go_enter Try.func36, Try.ntmps36
    go_wp2_with fail
    refine (impl_perm A n c zs _ HN.out hn2 hz hss).mono ?_
    rintro e w1 ⟨rfl, hb⟩
    have hss0 := hss
    replace hss := (hss.below hb).more hb.size
    have HSZ := Lib.hid hb.size
    rw [HP.out]
    have hsz := hb.size
    go_wp2_with (refine wpList_make_full _ rfl (.tmp 11) (.tmp 11) 23 rfl w.heap.size 3 i0 (.int .i64 0) 1 Try.underlying23 hi hz0 hz1 .i64 .i64 n n n rfl rfl rfl rfl (by rw [hz2]; omega) (by unfold maxLen; omega) hsz ?_)
    intro w2 hown hgrow
    have hb0 : Below w.heap.size w w2 := hb.grown hgrow hsz (fun k hk => by cases hk)
    have hown0 : w2.ownsRow w.heap.size 3 1 (.slice (some ⟨w1.heap.size, 0, none⟩) n n) n (vals (invTo zs 0)) := by
      have e : (madeCells #[Value.int .i64 0] n).toList = vals (invTo zs 0) := by
        rw [toList_madeCells_one]
        unfold invTo
        rw [vals_rep, HN.out]
      rw [← e]
      simpa using hown
    clear hown hgrow hb hsz
    go_wp2
    go_loopw [5, 6, 15] (fun _ _ i wr => ∃ k : Nat, k ≤ n ∧ i = .int .i64 k ∧ wr.ownsRow w.heap.size 3 1 (.slice (some ⟨w1.heap.size, 0, none⟩) n n) n (vals (invTo zs k)) ∧ Below w.heap.size w wr) (fun _ _ i _ => n - (intOf i).toNat)
    case atStart => exact ⟨0, Nat.zero_le _, rfl, hown0, hb0⟩
    case round =>
      obtain ⟨k, hk, rfl, hownk, hbk⟩ := hrel
      have hszk := hbk.size
      by_cases hlt : k < n
      · obtain ⟨b, o, rfl, hbb, hc⟩ := ((hss0.below hbk).more hszk) k (by rw [HN.out]; exact hlt)
        have hnext := invTo_next zs k
        have hxin := hin k (by rw [HN.out]; exact hlt)
        generalize zs.getD k 0 = x at hnext hc hxin
        obtain ⟨y, rfl⟩ : ∃ y : Nat, x = y := ⟨x.toNat, by omega⟩
        have hy : y < n := by omega
        have hlen : (invTo zs k).length = n := by rw [invTo_len]; exact HN.out
        have hst := hownk.stored y (.int .i64 (k : Int))
        rw [vals_set, hnext y rfl] at hst
        have hcell : wr.cell? ⟨w1.heap.size, y, none⟩ = some (.int .i64 ((invTo zs k).getD y 0)) := by
          rw [hownk.cellAt y (by omega)]; exact vals_get (by omega)
        have hfz := hownk.frozenAt y
        generalize (invTo zs k).getD y 0 = old at hcell
        have hb2 := hbk.setCell (p := ⟨w1.heap.size, y, none⟩) (by show w.heap.size ≤ w1.heap.size; exact HSZ.out) (.int .i64 (k : Int))
        have HST := Lib.hid hst
        have HB2 := Lib.hid hb2
        clear hnext hst hlen hb2 hownk hbk hxin hown0
        go_wp2
        go_roundw
        case rel => exact ⟨k + 1, by omega, by go_num, HST.out.1, HB2.out⟩
        case measure => simp [intOf]; omega
      · have hkn : k = n := by omega
        subst hkn
        have HO := Lib.hid hownk
        clear hownk hown0
        go_wp2
        go_ret2
        have e : vals (invTo zs k) = (invF zs).map (Value.int .i64) := by rw [HF.out, HN.out]; rfl
        refine ⟨some ⟨w1.heap.size, 0, none⟩, k, by rw [HL.out]; rfl, ?_, hbk⟩
        rw [HL.out, ← e]
        exact HO.out


/-! ### PowerPerm -/
def powTo (zs : List Int) : Nat → List Int
  | 0 => imarks 0 zs.length
  | k + 1 => joinF (powTo zs k) zs
theorem powTo_len (zs : List Int) (k : Nat) : (powTo zs k).length = zs.length := by
  cases k with
  | zero => simp [powTo, imarks_length]
  | succ k => simp [powTo, joinF_len]
theorem powTo_next (zs : List Int) (k : Nat) : joinF (powTo zs k) zs = powTo zs (k + 1) := rfl
def powB (zs : List Int) (k : Int) : Bool := permB zs && decide (0 ≤ k ∧ k ≤ 1000)
def powF (zs : List Int) (k : Int) : List Int := if powB zs k then powTo zs k.toNat else []
theorem powF_yes {zs : List Int} {k : Int} (h : powB zs k = true) : powF zs k = powTo zs k.toNat := by unfold powF; rw [if_pos h]
theorem powF_no {zs : List Int} {k : Int} (h : powB zs k = false) : powF zs k = [] := by unfold powF; rw [h]; rfl
theorem newF_id (zs : List Int) (n : Nat) (h : zs.length = n) (h2 : n ≤ 12) : Nwp.newF (n : Int) = powTo zs 0 := by rw [Nwp.newF_yes n h2]; unfold powTo; rw [h]

/-! ### PermBetween -/
def btwF (ps qs : List Int) : List Int := qs.map fun x => posF ps (cardF x)
theorem btw_len (ps qs : List Int) : (btwF ps qs).length = qs.length := by simp [btwF]
theorem btw_get (ps qs : List Int) (k : Nat) (h : k < qs.length) : (btwF ps qs).getD k 0 = posF ps (cardF (qs.getD k 0)) := by
  simp [btwF, List.getD_eq_getElem?_getD, List.getElem?_map, List.getElem?_eq_getElem h]
theorem btw_snoc (ps qs : List Int) (k : Nat) (h : k < qs.length) : btwF ps (qs.take (k + 1)) = btwF ps (qs.take k) ++ [posF ps (cardF (qs.getD k 0))] := by
  rw [take_snoc qs k h]; simp [btwF]
def betF (ps qs : List Int) : List Int := if arrB ps qs then btwF ps qs else []
theorem betF_yes {ps qs : List Int} (h : arrB ps qs = true) : betF ps qs = btwF ps qs := by unfold betF; rw [if_pos h]
theorem betF_no {ps qs : List Int} (h : arrB ps qs = false) : betF ps qs = [] := by unfold betF; rw [h]; rfl
theorem arr_short {ps qs : List Int} (h : arrB ps qs = true) : qs.length ≤ 12 := by
  unfold arrB at h
  rw [Bool.and_eq_true, Bool.and_eq_true, Bool.and_eq_true] at h
  exact (okB_yes h.1.1.2).1

set_option maxHeartbeats 1000000 in
theorem impl_bet (A : Option Addr) (n c : Nat) (ps : List Int) (A2 : Option Addr) (n2 c2 : Nat) (qs : List Int) (w : World) (hn : ps.length = n) (hn2 : n ≤ 9223372036854775807) (hz : Fits ps) (hss : IntsAt w w.heap.size .i64 A ps)
    (hm : qs.length = n2) (hm2 : n2 ≤ 9223372036854775807) (hz2 : Fits qs) (hbs : IntsAt w w.heap.size .i64 A2 qs) :
    Calls Try.prog 52 #[.slice A n c, .slice A2 n2 c2] w (IsILB w.heap.size (betF ps qs) (arrB ps qs) w) := by
  have HN := Lib.hid hn
  have HM := Lib.hid hm
  clear hn hm
  obtain ⟨i0, hi, hz0, hz1, hz2'⟩ := info_parts infoInt
  cases hp : arrB ps qs with
  | false =>
    have HP := Lib.hid hp
    have HF := Lib.hid (betF_no hp)
    clear hp
    go_enter Try.func52, Try.ntmps52
    go_wp2_with fail
    refine (impl_arr A n c ps A2 n2 c2 qs _ HN.out hn2 hz hss HM.out hm2 hz2 hbs).mono ?_
    rintro e w1 ⟨rfl, hb⟩
    rw [HP.out]
    go_wp2
    go_ret2
    rw [HF.out]
    exact ⟨none, 0, rfl, World.ownsRow_nil _ _ _ _, hb⟩
  | true =>
    have h12 := arr_short hp
    rw [HM.out] at h12
    have HP := Lib.hid hp
    have HF := Lib.hid (betF_yes hp)
    have HL := Lib.hid (show (betF ps qs).length = n2 by rw [betF_yes hp, btw_len]; exact HM.out)
    have HBL := Lib.hid (show (btwF ps qs).length = n2 by rw [btw_len]; exact HM.out)
    clear hp
    go_enter Try.func52, Try.ntmps52
    go_wp2_with fail
    refine (impl_arr A n c ps A2 n2 c2 qs _ HN.out hn2 hz hss HM.out hm2 hz2 hbs).mono ?_
    rintro e w1 ⟨rfl, hb⟩
    rw [HP.out]
    have hsz := hb.size
    go_wp2_with (refine wpList_make_full _ rfl (.tmp 14) (.tmp 14) 23 rfl w.heap.size 3 i0 (.int .i64 0) 1 Try.underlying23 hi hz0 hz1 .i64 .i64 n2 n2 n2 rfl rfl rfl rfl (by rw [hz2']; omega) (by unfold maxLen; omega) hsz ?_)
    intro w2 hown hgrow
    have hb0 : Below w.heap.size w w2 := hb.grown hgrow hsz (fun k hk => by cases hk)
    have hown0 : w2.ownsRow w.heap.size 3 1 (.slice (some ⟨w1.heap.size, 0, none⟩) n2 n2) n2 (icopied (btwF ps qs) n2 0) := by
      have e : (madeCells #[Value.int .i64 0] n2).toList = icopied (btwF ps qs) n2 0 := by
        rw [toList_madeCells_one]
        rfl
      rw [← e]
      simpa using hown
    have HSZ := Lib.hid hsz
    clear hown hgrow hb hsz
    go_wp2
    go_loopw [7, 8, 18] (fun _ _ i wr => ∃ k : Nat, k ≤ n2 ∧ i = .int .i64 k ∧ wr.ownsRow w.heap.size 3 1 (.slice (some ⟨w1.heap.size, 0, none⟩) n2 n2) n2 (icopied (btwF ps qs) n2 k) ∧ Below w.heap.size w wr) (fun _ _ i _ => n2 - (intOf i).toNat)
    case atStart => exact ⟨0, Nat.zero_le _, rfl, hown0, hb0⟩
    case round =>
      obtain ⟨k, hk, rfl, hownk, hbk⟩ := hrel
      clear hown0
      have hszk := hbk.size
      by_cases hlt : k < n2
      · obtain ⟨b, o, rfl, hbb, hc⟩ := ((hbs.below hbk).more hszk) k (by rw [HM.out]; exact hlt)
        obtain ⟨hx1, hx2⟩ := hz2 k (by rw [HM.out]; exact hlt)
        have hnext := icopied_next (btwF ps qs) n2 k HBL.out hlt
        rw [btw_get ps qs k (by rw [HM.out]; exact hlt)] at hnext
        generalize qs.getD k 0 = x at hnext hc hx1 hx2
        have hps := (hss.below hbk).more hszk
        have hst := hownk.stored k (.int .i64 (posF ps (cardF x)))
        rw [hnext] at hst
        have hlen : (icopied (btwF ps qs) n2 k).length = n2 := by have := hownk.1; omega
        have hcell : wr.cell? ⟨w1.heap.size, k, none⟩ = some ((icopied (btwF ps qs) n2 k)[k]'(by omega)) := by
          rw [hownk.cellAt k (by omega)]; exact List.getElem?_eq_getElem (by omega)
        have hfz := hownk.frozenAt k
        generalize (icopied (btwF ps qs) n2 k)[k]'(by omega) = old at hcell
        have hb2 := hbk.setCell (p := ⟨w1.heap.size, k, none⟩) (by show w.heap.size ≤ w1.heap.size; exact HSZ.out) (.int .i64 (posF ps (cardF x)))
        have HST := Lib.hid hst
        have HB2 := Lib.hid hb2
        clear hnext hst hlen hb2 hownk hbk
        go_wp2_with fail
        refine (impl_card x _ hx1 hx2).mono ?_
        rintro e w' ⟨rfl, rfl⟩
        go_wp2_with fail
        refine (impl_pos A n c ps (cardF x) _ HN.out hn2 hz hps).mono ?_
        rintro e w' ⟨rfl, rfl⟩
        go_wp2
        go_roundw
        case rel => exact ⟨k + 1, by omega, by go_num, HST.out.1, HB2.out⟩
        case measure => simp [intOf]; omega
      · have hkn : k = n2 := by omega
        rw [hkn, icopied_all (btwF ps qs) n2 HBL.out] at hownk
        have HO := Lib.hid hownk
        clear hownk hkn
        go_wp2
        go_ret2
        refine ⟨some ⟨w1.heap.size, 0, none⟩, n2, by rw [HL.out]; rfl, ?_, hbk⟩
        rw [HL.out, HF.out]
        exact HO.out

theorem invF_short (zs : List Int) : (invF zs).length ≤ 1048576 := by
  unfold invF
  split
  · rename_i h; have := (permB_yes h).1; rw [invTo_len]; omega
  · exact Nat.zero_le _
theorem powF_short (zs : List Int) (k : Int) : (powF zs k).length ≤ 1048576 := by
  unfold powF
  split
  · rename_i h; unfold powB at h; rw [Bool.and_eq_true] at h; have := (permB_yes h.1).1; rw [powTo_len]; omega
  · exact Nat.zero_le _
theorem betF_short (ps qs : List Int) : (betF ps qs).length ≤ 1048576 := by
  unfold betF
  split
  · rename_i h; have := arr_short h; rw [btw_len]; omega
  · exact Nat.zero_le _
end Go.Proofs.Ytaacdhccebedmaa.Pfn
