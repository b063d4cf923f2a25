/- What the functions on permutations do, in the program and in the model: composing, inverting, raising to a power, arranging a packet, and the permutation between two packets. -/
import Derived.Test.YtijlfgbinpjkiaaPerm
import Derived.Test.YtijlfgbinpjkiaaArr
import Derived.Test.YtijlfgbinpjkiaaNewp
set_option linter.unusedVariables false
namespace Go.Proofs.Ytijlfgbinpjkiaa.Pfn
open Go.RowKit Fr Own Pk Ins Pok Prm

/-- a call hands back a list of ints of its own and a bool -/
def IsILB (B : Nat) (zs : List Int) (b : Bool) (w : World) (e : Ending) (w' : World) : Prop :=
  ∃ A c, e = .returned (.tuple #[.slice A zs.length c, .bool b]) ∧ w'.ownsRow B 3 1 (.slice A zs.length c) zs.length (zs.map (Value.int .i64)) ∧ Below B w w'
theorem own_cap {w : World} {B : Nat} {e : TypeId} {size : Nat} {A : Option Addr} {n c : Nat} {xs : List Value} (h : w.ownsRow B e size (.slice A n c) n xs) : n ≤ c := by
  rcases h.2 with ⟨h1, h2⟩ | ⟨g, cap, cur, hv, _, _, hc, _⟩
  · omega
  · simp only [Value.slice.injEq] at hv
    omega

/-- the elements of ls at the places that zs names -/
def joinF (ls zs : List Int) : List Int := zs.map fun x => ls.getD x.toNat 0
theorem joinF_len (ls zs : List Int) : (joinF ls zs).length = zs.length := by simp [joinF]
theorem joinF_get (ls zs : List Int) (k : Nat) (h : k < zs.length) : (joinF ls zs).getD k 0 = ls.getD (zs.getD k 0).toNat 0 := by
  simp [joinF, List.getD_eq_getElem?_getD, List.getElem?_map, List.getElem?_eq_getElem h]
theorem joinF_snoc (ls zs : List Int) (k : Nat) (h : k < zs.length) (y : Nat) (hy : zs.getD k 0 = (y : Int)) : joinF ls (zs.take (k + 1)) = joinF ls (zs.take k) ++ [ls.getD y 0] := by
  rw [take_snoc zs k h, hy]; simp [joinF]
/-- all places named are there -/
def inR (zs : List Int) (m : Nat) : Prop := ∀ i, i < zs.length → 0 ≤ zs.getD i 0 ∧ zs.getD i 0 < (m : Int)
theorem inR_perm {zs : List Int} (h : permB zs = true) : inR zs zs.length := fun i hi => ((permB_yes h).2 i hi).1

set_option maxHeartbeats 1000000 in
theorem arr_any (A : Option Addr) (n c : Nat) (zs : List Int) (A2 : Option Addr) (n2 c2 : Nat) (ls : List Int) (w : World) (hn : zs.length = n) (hn2 : n ≤ 1048576) (hss : IntsAt w w.heap.size .i64 A zs)
    (hm : ls.length = n2) (hls : IntsAt w w.heap.size .i64 A2 ls) (hin : inR zs n2) :
    Calls Try.prog 56 #[.slice A n c, .slice A2 n2 c2] w (IsIL w.heap.size (joinF ls zs) w) := by
  have HN := Lib.hid hn
  have HM := Lib.hid hm
  have HL := Lib.hid (show (joinF ls zs).length = n by rw [joinF_len, hn])
  clear hn hm
  obtain ⟨i0, hi, hz0, hz1, hz2⟩ := info_parts infoInt
  go_enter Try.func56, Try.ntmps56
  go_wp2_with (refine wpList_make_full _ rfl (.tmp 9) (.tmp 9) 24 rfl w.heap.size 3 i0 (.int .i64 0) 1 Try.underlying24 hi hz0 hz1 .i64 .i64 n n n rfl rfl rfl rfl (by rw [hz2]; omega) (by unfold maxLen; omega) (Nat.le_refl _) ?_)
  intro w1 hown hgrow
  have hb0 : Below w.heap.size w w1 := (Below.refl _ w).grown hgrow (Nat.le_refl _) (fun k hk => by cases hk)
  have hown0 : w1.ownsRow w.heap.size 3 1 (.slice (some ⟨w.heap.size, 0, none⟩) n n) n (icopied (joinF ls zs) n 0) := by
    have e : (madeCells #[Value.int .i64 0] n).toList = icopied (joinF ls zs) n 0 := by
      rw [toList_madeCells_one]
      rfl
    rw [← e]
    simpa using hown
  clear hown hgrow
  go_wp2
  go_loopw [6, 7, 13] (fun _ _ i wr => ∃ k : Nat, k ≤ n ∧ i = .int .i64 k ∧ wr.ownsRow w.heap.size 3 1 (.slice (some ⟨w.heap.size, 0, none⟩) n n) n (icopied (joinF ls zs) n k) ∧ Below w.heap.size w wr) (fun _ _ i _ => n - (intOf i).toNat)
  case atStart => exact ⟨0, Nat.zero_le _, rfl, hown0, hb0⟩
  case round =>
    obtain ⟨k, hk, rfl, hownk, hbk⟩ := hrel
    by_cases hlt : k < n
    · obtain ⟨b, o, rfl, hbb, hc⟩ := hss.below hbk k (by rw [HN.out]; exact hlt)
      have hnext := icopied_next (joinF ls zs) n k HL.out hlt
      rw [joinF_get ls zs k (by rw [HN.out]; exact hlt)] at hnext
      have hxin := hin k (by rw [HN.out]; exact hlt)
      generalize zs.getD k 0 = x at hnext hc hxin
      obtain ⟨y, rfl⟩ : ∃ y : Nat, x = y := ⟨x.toNat, by omega⟩
      have hy : y < n2 := by omega
      obtain ⟨b2, o2, rfl, hbb2, hc2⟩ := hls.below hbk y (by rw [HM.out]; exact hy)
      rw [Int.toNat_natCast] at hnext
      generalize ls.getD y 0 = v at hnext hc2
      have hst := hownk.stored k (.int .i64 v)
      rw [hnext] at hst
      have hlen : (icopied (joinF ls zs) n k).length = n := by have := hownk.1; omega
      have hcell : wr.cell? ⟨w.heap.size, k, none⟩ = some ((icopied (joinF ls zs) n k)[k]'(by omega)) := by
        rw [hownk.cellAt k (by omega)]; exact List.getElem?_eq_getElem (by omega)
      have hfz := hownk.frozenAt k
      generalize (icopied (joinF ls zs) n k)[k]'(by omega) = old at hcell
      have hb2 := hbk.setCell (p := ⟨w.heap.size, k, none⟩) (Nat.le_refl _) (.int .i64 v)
      have HST := Lib.hid hst
      have HB2 := Lib.hid hb2
      clear hnext hst hlen hb2 hownk hbk hxin hown0
      go_wp2
      go_roundw
      case rel => exact ⟨k + 1, by omega, by go_num, HST.out.1, HB2.out⟩
      case measure => simp [intOf]; omega
    · have hkn : k = n := by omega
      rw [hkn, icopied_all (joinF ls zs) n HL.out] at hownk
      have HO := Lib.hid hownk
      clear hownk hkn hown0
      go_wp2
      go_ret
      exact ⟨some ⟨w.heap.size, 0, none⟩, n, by rw [HL.out]; rfl, by rw [HL.out]; exact HO.out, hbk⟩
theorem then_any (A : Option Addr) (n c : Nat) (zs : List Int) (A2 : Option Addr) (n2 c2 : Nat) (bs : List Int) (w : World) (hn : zs.length = n) (hss : IntsAt w w.heap.size .i64 A zs)
    (hm : bs.length = n2) (hm2 : n2 ≤ 1048576) (hbs : IntsAt w w.heap.size .i64 A2 bs) (hin : inR bs n) :
    Calls Try.prog 47 #[.slice A n c, .slice A2 n2 c2] w (IsIL w.heap.size (joinF zs bs) w) := by
  have HN := Lib.hid hn
  have HM := Lib.hid hm
  clear hn hm
  go_enter Try.func47, Try.ntmps47
  go_wp2_with fail
  refine (arr_any A2 n2 c2 bs A n c zs _ HM.out hm2 hbs HN.out hss hin).mono ?_
  rintro e w1 ⟨A3, c3, rfl, hown, hb⟩
  go_wp2
  go_ret
  exact ⟨A3, c3, rfl, hown, hb⟩
set_option maxHeartbeats 1000000 in
theorem join_any (A : Option Addr) (n c : Nat) (ls : List Int) (A2 : Option Addr) (n2 c2 : Nat) (zs : List Int) (w : World) (hn : ls.length = n) (hls : IntsAt w w.heap.size .i64 A ls)
    (hm : zs.length = n2) (hm2 : n2 ≤ 1048576) (hss : IntsAt w w.heap.size .i64 A2 zs) (hin : inR zs n) :
    Calls Try.prog 52 #[.slice A n c, .slice A2 n2 c2] w (IsIL w.heap.size (joinF ls zs) w) := by
  have HN := Lib.hid hn
  have HM := Lib.hid hm
  have HL := Lib.hid (show (joinF ls zs).length = n2 by rw [joinF_len, hm])
  clear hn hm
  obtain ⟨i0, hi, hz0, hz1, hz2⟩ := info_parts infoInt
  go_enter Try.func52, Try.ntmps52
  go_wp2
  go_loopw [5, 7, 11] (fun v _ i wr => ∃ k : Nat, k ≤ n2 ∧ i = .int .i64 k ∧ (∃ A c, v = .slice A k c) ∧ wr.ownsRow w.heap.size 3 1 v k ((joinF ls (zs.take k)).map (Value.int .i64)) ∧ Below w.heap.size w wr) (fun _ _ i _ => n2 - (intOf i).toNat)
  case atStart => exact ⟨0, Nat.zero_le _, rfl, ⟨_, _, rfl⟩, World.ownsRow_lit w #[] 0 (Nat.le_refl _) (Nat.zero_le _) rfl, (Below.refl _ w).alloc (Nat.le_refl _) _⟩
  case round =>
    obtain ⟨k, hk, rfl, ⟨A3, c3, rfl⟩, hown, hbw⟩ := hrel
    have hsz := hbw.size
    by_cases hlt : k < n2
    · obtain ⟨b, o, rfl, hbb, hc⟩ := hss.below hbw k (by rw [HM.out]; exact hlt)
      have hxin := hin k (by rw [HM.out]; exact hlt)
      have hsn := joinF_snoc ls zs k (by rw [HM.out]; exact hlt)
      generalize zs.getD k 0 = x at hc hxin hsn
      obtain ⟨y, rfl⟩ : ∃ y : Nat, x = y := ⟨x.toNat, by omega⟩
      have hy : y < n := by omega
      obtain ⟨b2, o2, rfl, hbb2, hc2⟩ := hls.below hbw y (by rw [HN.out]; exact hy)
      replace hsn := hsn y rfl
      generalize ls.getD y 0 = v at hsn hc2
      have HS := Lib.hid hsn
      clear hsn hxin
      go_wp2_with (at_builtin; refine app_one rfl (.tmp 15) (.tmp 20) 24 rfl w.heap.size 3 i0 (.int .i64 0) 8 Try.underlying24 hi hz0 hz1 hz2 (by decide) rfl _ _ _ rfl hown (.int .i64 v) rfl rfl (by omega) (by omega) ?_; intro g c4 w2 hown2 hb2)
      go_roundw
      case rel => exact ⟨k + 1, by omega, by go_num, ⟨_, _, rfl⟩, by rw [HS.out]; simpa using hown2, hbw.trans hb2⟩
      case measure => simp [intOf]; omega
    · have hkm : k = n2 := by omega
      have ht : zs.take k = zs := List.take_of_length_le (by rw [HM.out]; omega)
      rw [ht] at hown
      subst hkm
      have HO := Lib.hid hown
      clear hown ht
      go_wp2
      go_ret
      exact ⟨A3, c3, by rw [HL.out]; rfl, by rw [HL.out]; exact HO.out, hbw⟩

/-! ### ComposePerms -/
def compB (us bs : List Int) : Bool := permB us && permB bs && decide (us.length = bs.length)
def compF (us bs : List Int) : List Int := if compB us bs then joinF us bs else []
theorem compF_yes {us bs : List Int} (h : compB us bs = true) : compF us bs = joinF us bs := by unfold compF; rw [if_pos h]
theorem compF_no {us bs : List Int} (h : compB us bs = false) : compF us bs = [] := by unfold compF; rw [h]; rfl
theorem nil_ilb (w : World) (B : Nat) : IsILB B [] false w (.returned (.tuple #[.slice none 0 0, .bool false])) w := ⟨none, 0, rfl, World.ownsRow_nil _ _ _ _, Below.refl _ _⟩
theorem perm_short {zs : List Int} (h : permB zs = true) : zs.length ≤ 12 := (permB_yes h).1
theorem il_after {B : Nat} {zs : List Int} {w w1 w2 : World} {e : Ending} (h : IsIL w1.heap.size zs w1 e w2) (hb : Below B w w1) (hs : B ≤ w1.heap.size) : IsIL B zs w e w2 := by
  obtain ⟨A, c, he, ho, hb2⟩ := h
  exact ⟨A, c, he, own_mono ho hs, hb.trans (hb2.mono hs)⟩

set_option maxHeartbeats 1000000 in
theorem impl_comp (A : Option Addr) (n c : Nat) (us : List Int) (A2 : Option Addr) (n2 c2 : Nat) (bs : List Int) (w : World) (hn : us.length = n) (hn2 : n ≤ 9223372036854775807) (hz : Fits us) (hss : IntsAt w w.heap.size .i64 A us)
    (hm : bs.length = n2) (hm2 : n2 ≤ 9223372036854775807) (hz2 : Fits bs) (hbs : IntsAt w w.heap.size .i64 A2 bs) :
    Calls Try.prog 16 #[.slice A n c, .slice A2 n2 c2] w (IsILB w.heap.size (compF us bs) (compB us bs) w) := by
  have HN := Lib.hid hn
  have HM := Lib.hid hm
  have hcb : compB us bs = (permB us && permB bs && decide (n = n2)) := by unfold compB; rw [hn, hm]
  have hyes := @compF_yes us bs
  have hno := @compF_no us bs
  have hsh := @perm_short bs
  have hir := @inR_perm bs
  rw [hm] at hsh hir
  clear hn hm
  generalize compB us bs = B at *
  generalize compF us bs = F at *
  go_enter Try.func16, Try.ntmps16
  go_wp2_with fail
  refine (impl_perm A n c us _ HN.out hn2 hz hss).mono ?_
  rintro e w1 ⟨rfl, hb⟩
  replace hss := (hss.below hb).more hb.size
  replace hbs := (hbs.below hb).more hb.size
  cases hp : permB us with
  | false =>
    have hB : B = false := by rw [hcb, hp]; rfl
    have hF := hno hB
    subst hB hF
    clear hcb hyes hno hp hsh hir
    go_wp2
    go_ret2
    exact ⟨none, 0, rfl, World.ownsRow_nil _ _ _ _, hb⟩
  | true =>
    rw [hp, Bool.true_and] at hcb
    clear hp
    go_wp2_with fail
    refine (impl_perm A2 n2 c2 bs _ HM.out hm2 hz2 hbs).mono ?_
    rintro e w2 ⟨rfl, hb2⟩
    replace hss := (hss.below hb2).more hb2.size
    replace hbs := (hbs.below hb2).more hb2.size
    replace hb := hb.trans (hb2.mono hb.size)
    clear hb2
    cases hq : permB bs with
    | false =>
      have hB : B = false := by rw [hcb, hq]; rfl
      have hF := hno hB
      subst hB hF
      clear hcb hyes hno hq hsh hir
      go_wp2
      go_ret2
      exact ⟨none, 0, rfl, World.ownsRow_nil _ _ _ _, hb⟩
    | true =>
      rw [hq, Bool.true_and] at hcb
      replace hsh := hsh hq
      replace hir := hir hq
      clear hq
      by_cases hl : n = n2
      · subst hl
        have hB : B = true := by rw [hcb]; exact decide_eq_true rfl
        have hF := hyes hB
        subst hB hF
        clear hcb hyes hno
        go_wp2_with fail
        refine (then_any A n c us A2 n c2 bs _ HN.out hss HM.out (by omega) hbs hir).mono ?_
        rintro e w3 ⟨A3, c3, rfl, hown, hb3⟩
        have HO := Lib.hid (own_mono hown hb.size)
        clear hown
        go_wp2
        go_ret2
        exact ⟨A3, c3, rfl, HO.out, hb.trans (hb3.mono hb.size)⟩
      · have hB : B = false := by rw [hcb]; exact decide_eq_false hl
        have hF := hno hB
        subst hB hF
        have hne : ((n : Int) == (n2 : Int)) = false := by simpa using (fun e => hl (by omega))
        clear hcb hyes hno hsh hir hl
        go_wp2
        go_ret2
        exact ⟨none, 0, rfl, World.ownsRow_nil _ _ _ _, hb⟩
set_option maxHeartbeats 1000000 in
theorem spec_comp (A : Option Addr) (n c : Nat) (us : List Int) (A2 : Option Addr) (n2 c2 : Nat) (bs : List Int) (w : World) (hn : us.length = n) (hnc : n ≤ c) (hn2 : n ≤ 9223372036854775807) (hz : Fits us) (hss : IntsAt w w.heap.size .i64 A us)
    (hm : bs.length = n2) (hmc : n2 ≤ c2) (hm2 : n2 ≤ 9223372036854775807) (hz2 : Fits bs) (hbs : IntsAt w w.heap.size .i64 A2 bs) :
    Calls Try.prog 31 #[.slice A n c, .slice A2 n2 c2] w (IsILB w.heap.size (compF us bs) (compB us bs) w) := by
  have HN := Lib.hid hn
  have HM := Lib.hid hm
  have hcb : compB us bs = (permB us && permB bs && decide (n = n2)) := by unfold compB; rw [hn, hm]
  have hyes := @compF_yes us bs
  have hno := @compF_no us bs
  have hsh := @perm_short bs
  have hir := @inR_perm bs
  rw [hm] at hsh hir
  clear hn hm
  generalize compB us bs = B at *
  generalize compF us bs = F at *
  go_enter Try.func31, Try.ntmps31
  go_wp2_with fail
  refine (spec_perm A n c us _ HN.out hnc hn2 hz hss).mono ?_
  rintro e w1 ⟨rfl, rfl⟩
  have hb := Below.refl w.heap.size w
  cases hp : permB us with
  | false =>
    have hB : B = false := by rw [hcb, hp]; rfl
    have hF := hno hB
    subst hB hF
    clear hcb hyes hno hp hsh hir
    go_wp2
    go_ret2
    exact ⟨none, 0, rfl, World.ownsRow_nil _ _ _ _, hb⟩
  | true =>
    rw [hp, Bool.true_and] at hcb
    clear hp
    go_wp2_with fail
    refine (spec_perm A2 n2 c2 bs _ HM.out hmc hm2 hz2 hbs).mono ?_
    rintro e w2 ⟨rfl, rfl⟩
    cases hq : permB bs with
    | false =>
      have hB : B = false := by rw [hcb, hq]; rfl
      have hF := hno hB
      subst hB hF
      clear hcb hyes hno hq hsh hir
      go_wp2
      go_ret2
      exact ⟨none, 0, rfl, World.ownsRow_nil _ _ _ _, hb⟩
    | true =>
      rw [hq, Bool.true_and] at hcb
      replace hsh := hsh hq
      replace hir := hir hq
      clear hq
      by_cases hl : n = n2
      · subst hl
        have hB : B = true := by rw [hcb]; exact decide_eq_true rfl
        have hF := hyes hB
        subst hB hF
        clear hcb hyes hno
        go_wp2_with fail
        refine (join_any A n c us A2 n c2 bs _ HN.out hss HM.out (by omega) hbs hir).mono ?_
        rintro e w3 ⟨A3, c3, rfl, hown, hb3⟩
        have HO := Lib.hid (own_mono hown hb.size)
        clear hown
        go_wp2
        go_ret2
        exact ⟨A3, c3, rfl, HO.out, hb.trans (hb3.mono hb.size)⟩
      · have hB : B = false := by rw [hcb]; exact decide_eq_false hl
        have hF := hno hB
        subst hB hF
        have hne : ((n : Int) == (n2 : Int)) = false := by simpa using (fun e => hl (by omega))
        clear hcb hyes hno hsh hir hl
        go_wp2
        go_ret2
        exact ⟨none, 0, rfl, World.ownsRow_nil _ _ _ _, hb⟩

/-! ### ArrangeBy -/
def arrgB (us bs : List Int) : Bool := okB us && permB bs && decide (us.length = bs.length)
def arrgF (us bs : List Int) : List Int := if arrgB us bs then joinF us bs else []
theorem arrgF_yes {us bs : List Int} (h : arrgB us bs = true) : arrgF us bs = joinF us bs := by unfold arrgF; rw [if_pos h]
theorem arrgF_no {us bs : List Int} (h : arrgB us bs = false) : arrgF us bs = [] := by unfold arrgF; rw [h]; rfl
set_option maxHeartbeats 1000000 in
theorem impl_arrg (A : Option Addr) (n c : Nat) (us : List Int) (A2 : Option Addr) (n2 c2 : Nat) (bs : List Int) (w : World) (hn : us.length = n) (hn2 : n ≤ 9223372036854775807) (hz : Fits us) (hss : IntsAt w w.heap.size .i64 A us)
    (hm : bs.length = n2) (hm2 : n2 ≤ 9223372036854775807) (hz2 : Fits bs) (hbs : IntsAt w w.heap.size .i64 A2 bs) :
    Calls Try.prog 41 #[.slice A n c, .slice A2 n2 c2] w (IsILB w.heap.size (arrgF us bs) (arrgB us bs) w) := by
  have HN := Lib.hid hn
  have HM := Lib.hid hm
  have hcb : arrgB us bs = (okB us && permB bs && decide (n = n2)) := by unfold arrgB; rw [hn, hm]
  have hyes := @arrgF_yes us bs
  have hno := @arrgF_no us bs
  have hsh := @perm_short bs
  have hir := @inR_perm bs
  rw [hm] at hsh hir
  clear hn hm
  generalize arrgB us bs = B at *
  generalize arrgF us bs = F at *
  go_enter Try.func41, Try.ntmps41
  go_wp2_with fail
  refine (impl_ok A n c us _ HN.out hn2 hz hss).mono ?_
  rintro e w1 ⟨rfl, hb⟩
  replace hss := (hss.below hb).more hb.size
  replace hbs := (hbs.below hb).more hb.size
  cases hp : okB us with
  | false =>
    have hB : B = false := by rw [hcb, hp]; rfl
    have hF := hno hB
    subst hB hF
    clear hcb hyes hno hp hsh hir
    go_wp2
    go_ret2
    exact ⟨none, 0, rfl, World.ownsRow_nil _ _ _ _, hb⟩
  | true =>
    rw [hp, Bool.true_and] at hcb
    clear hp
    go_wp2_with fail
    refine (impl_perm A2 n2 c2 bs _ HM.out hm2 hz2 hbs).mono ?_
    rintro e w2 ⟨rfl, hb2⟩
    replace hss := (hss.below hb2).more hb2.size
    replace hbs := (hbs.below hb2).more hb2.size
    replace hb := hb.trans (hb2.mono hb.size)
    clear hb2
    cases hq : permB bs with
    | false =>
      have hB : B = false := by rw [hcb, hq]; rfl
      have hF := hno hB
      subst hB hF
      clear hcb hyes hno hq hsh hir
      go_wp2
      go_ret2
      exact ⟨none, 0, rfl, World.ownsRow_nil _ _ _ _, hb⟩
    | true =>
      rw [hq, Bool.true_and] at hcb
      replace hsh := hsh hq
      replace hir := hir hq
      clear hq
      by_cases hl : n = n2
      · subst hl
        have hB : B = true := by rw [hcb]; exact decide_eq_true rfl
        have hF := hyes hB
        subst hB hF
        clear hcb hyes hno
        go_wp2_with fail
        refine (arr_any A2 n c2 bs A n c us _ HM.out (by omega) hbs HN.out hss hir).mono ?_
        rintro e w3 ⟨A3, c3, rfl, hown, hb3⟩
        have HO := Lib.hid (own_mono hown hb.size)
        clear hown
        go_wp2
        go_ret2
        exact ⟨A3, c3, rfl, HO.out, hb.trans (hb3.mono hb.size)⟩
      · have hB : B = false := by rw [hcb]; exact decide_eq_false hl
        have hF := hno hB
        subst hB hF
        have hne : ((n : Int) == (n2 : Int)) = false := by simpa using (fun e => hl (by omega))
        clear hcb hyes hno hsh hir hl
        go_wp2
        go_ret2
        exact ⟨none, 0, rfl, World.ownsRow_nil _ _ _ _, hb⟩
set_option maxHeartbeats 1000000 in
theorem spec_arrg (A : Option Addr) (n c : Nat) (us : List Int) (A2 : Option Addr) (n2 c2 : Nat) (bs : List Int) (w : World) (hn : us.length = n) (hnc : n ≤ c) (hn2 : n ≤ 9223372036854775807) (hz : Fits us) (hss : IntsAt w w.heap.size .i64 A us)
    (hm : bs.length = n2) (hmc : n2 ≤ c2) (hm2 : n2 ≤ 9223372036854775807) (hz2 : Fits bs) (hbs : IntsAt w w.heap.size .i64 A2 bs) :
    Calls Try.prog 40 #[.slice A n c, .slice A2 n2 c2] w (IsILB w.heap.size (arrgF us bs) (arrgB us bs) w) := by
  have HN := Lib.hid hn
  have HM := Lib.hid hm
  have hcb : arrgB us bs = (okB us && permB bs && decide (n = n2)) := by unfold arrgB; rw [hn, hm]
  have hyes := @arrgF_yes us bs
  have hno := @arrgF_no us bs
  have hsh := @perm_short bs
  have hir := @inR_perm bs
  rw [hm] at hsh hir
  clear hn hm
  generalize arrgB us bs = B at *
  generalize arrgF us bs = F at *
  go_enter Try.func40, Try.ntmps40
  go_wp2_with fail
  refine (spec_ok A n c us _ HN.out hn2 hz hss).mono ?_
  rintro e w1 ⟨rfl, hb⟩
  replace hss := (hss.below hb).more hb.size
  replace hbs := (hbs.below hb).more hb.size
  cases hp : okB us with
  | false =>
    have hB : B = false := by rw [hcb, hp]; rfl
    have hF := hno hB
    subst hB hF
    clear hcb hyes hno hp hsh hir
    go_wp2
    go_ret2
    exact ⟨none, 0, rfl, World.ownsRow_nil _ _ _ _, hb⟩
  | true =>
    rw [hp, Bool.true_and] at hcb
    clear hp
    go_wp2_with fail
    refine (spec_perm A2 n2 c2 bs _ HM.out hmc hm2 hz2 hbs).mono ?_
    rintro e w2 ⟨rfl, rfl⟩
    cases hq : permB bs with
    | false =>
      have hB : B = false := by rw [hcb, hq]; rfl
      have hF := hno hB
      subst hB hF
      clear hcb hyes hno hq hsh hir
      go_wp2
      go_ret2
      exact ⟨none, 0, rfl, World.ownsRow_nil _ _ _ _, hb⟩
    | true =>
      rw [hq, Bool.true_and] at hcb
      replace hsh := hsh hq
      replace hir := hir hq
      clear hq
      by_cases hl : n = n2
      · subst hl
        have hB : B = true := by rw [hcb]; exact decide_eq_true rfl
        have hF := hyes hB
        subst hB hF
        clear hcb hyes hno
        go_wp2_with fail
        refine (join_any A n c us A2 n c2 bs _ HN.out hss HM.out (by omega) hbs hir).mono ?_
        rintro e w3 ⟨A3, c3, rfl, hown, hb3⟩
        have HO := Lib.hid (own_mono hown hb.size)
        clear hown
        go_wp2
        go_ret2
        exact ⟨A3, c3, rfl, HO.out, hb.trans (hb3.mono hb.size)⟩
      · have hB : B = false := by rw [hcb]; exact decide_eq_false hl
        have hF := hno hB
        subst hB hF
        have hne : ((n : Int) == (n2 : Int)) = false := by simpa using (fun e => hl (by omega))
        clear hcb hyes hno hsh hir hl
        go_wp2
        go_ret2
        exact ⟨none, 0, rfl, World.ownsRow_nil _ _ _ _, hb⟩
theorem comp_len {us bs : List Int} (h : compB us bs = true) : bs.length ≤ 12 ∧ permB us = true ∧ permB bs = true ∧ us.length = bs.length := by
  unfold compB at h
  rw [Bool.and_eq_true, Bool.and_eq_true, decide_eq_true_eq] at h
  exact ⟨(permB_yes h.1.2).1, h.1.1, h.1.2, h.2⟩
theorem compF_short (us bs : List Int) : (compF us bs).length ≤ 1048576 := by
  unfold compF
  split
  · rename_i h; have := (comp_len h).1; rw [joinF_len]; omega
  · exact Nat.zero_le _
theorem arrg_len {us bs : List Int} (h : arrgB us bs = true) : bs.length ≤ 12 ∧ okB us = true ∧ permB bs = true ∧ us.length = bs.length := by
  unfold arrgB at h
  rw [Bool.and_eq_true, Bool.and_eq_true, decide_eq_true_eq] at h
  exact ⟨(permB_yes h.1.2).1, h.1.1, h.1.2, h.2⟩
theorem arrgF_short (us bs : List Int) : (arrgF us bs).length ≤ 1048576 := by
  unfold arrgF
  split
  · rename_i h; have := (arrg_len h).1; rw [joinF_len]; omega
  · exact Nat.zero_le _
end Go.Proofs.Ytijlfgbinpjkiaa.Pfn
