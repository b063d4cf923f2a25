/- CyclesOf of the program and of the model: the orbits of the opening points, for every list of ints. -/
import Derived.Test.YtpbpgpccjabghaaPerm
import Derived.Test.YtpbpgpccjabghaaRws
import Derived.Test.YtpbpgpccjabghaaOrb
set_option linter.unusedVariables false
set_option maxRecDepth 20000
namespace Go.Proofs.Ytpbpgpccjabghaa.Cyc
open Go.RowKit Fr Own Pk Ins Pok Prm Rws Orb

/-! ### lists as permutations -/
def fOf (zs : List Int) (x : Nat) : Nat := (zs.getD x 0).toNat
theorem bij_of {zs : List Int} (h : permB zs = true) : Bij (fOf zs) zs.length := by
  obtain ⟨_, hall⟩ := permB_yes h
  refine ⟨fun x hx => ?_, fun x y hx hy e => ?_⟩
  · have := (hall x hx).1; unfold fOf; omega
  · have hmem : ∀ i j, i < j → j < zs.length → zs.getD i 0 ∈ zs.take j := by
      intro i j hij hj
      rw [List.getD_eq_getElem?_getD, List.getElem?_eq_getElem (by omega)]
      exact List.mem_take_iff_getElem.2 ⟨i, by omega, rfl⟩
    have hx1 := (hall x hx).1
    have hy1 := (hall y hy).1
    have e2 : zs.getD x 0 = zs.getD y 0 := by unfold fOf at e; omega
    rcases Nat.lt_trichotomy x y with h1 | h1 | h1
    · exact absurd (e2 ▸ hmem x y h1 hy) (hall y hy).2
    · exact h1
    · exact absurd (e2 ▸ hmem y x h1 hx) (hall x hx).2
theorem fOf_get {zs : List Int} (h : permB zs = true) {x : Nat} (hx : x < zs.length) : zs.getD x 0 = (fOf zs x : Nat) := by
  have := ((permB_yes h).2 x hx).1
  unfold fOf; omega
def ints (l : List Nat) : List Int := l.map fun t : Nat => (t : Int)
theorem ints_len (l : List Nat) : (ints l).length = l.length := by simp [ints]
theorem ints_snoc (l : List Nat) (x : Nat) : ints (l ++ [x]) = ints l ++ [(x : Int)] := by simp [ints]
def cycI (zs : List Int) : List (List Int) := if permB zs then (cycTo (fOf zs) zs.length zs.length).map ints else []
theorem cycI_yes {zs : List Int} (h : permB zs = true) : cycI zs = (cycTo (fOf zs) zs.length zs.length).map ints := by unfold cycI; rw [if_pos h]
theorem cycI_no {zs : List Int} (h : permB zs = false) : cycI zs = [] := by unfold cycI; rw [h]; rfl

def lenOf : Value → Nat
  | .slice _ n _ => n
  | _ => 0
theorem orb_pos {f : Nat → Nat} {n : Nat} (h : Bij f n) {k : Nat} (hk : k < n) : 1 ≤ per f n k := (per_spec h hk).1
theorem it_per {f : Nat → Nat} {n : Nat} (h : Bij f n) {k : Nat} (hk : k < n) : it f (per f n k) k = k := (per_spec h hk).2.2.1
theorem per_le {f : Nat → Nat} {n : Nat} (h : Bij f n) {k : Nat} (hk : k < n) : per f n k ≤ n := (per_spec h hk).2.1

set_option maxHeartbeats 2000000 in
theorem impl_cyc (A : Option Addr) (n c : Nat) (zs : List Int) (w : World) (hn : zs.length = n) (hn2 : n ≤ 9223372036854775807) (hz : Fits zs) (hss : IntsAt w w.heap.size .i64 A zs) :
    Calls Try.prog 79 #[.slice A n c] w (IsSS w.heap.size (cycI zs) w) := by
  have HN := Lib.hid hn
  clear hn
  cases hp : permB zs with
  | false =>
    have HP := Lib.hid hp
    have HF := Lib.hid (cycI_no hp)
    clear hp
    go_enter Try.func79, Try.ntmps79
    go_wp2_with fail
    refine (impl_perm A n c zs _ HN.out hn2 hz hss).mono ?_
    rintro e w1 ⟨rfl, hb⟩
    rw [HP.out]
    go_wp2
    go_ret
    rw [HF.out]
    exact ⟨none, 0, [], rfl, rfl, SSRow.empty (World.ownsRow_nil _ _ _ _), hb⟩
  | true =>
    obtain ⟨i0, hi, hz0, hz1, hz2⟩ := info_parts infoInt
    obtain ⟨i1, hj, hy0, hy1, hy2⟩ := infos_parts
    have h12 := (permB_yes hp).1
    rw [HN.out] at h12
    have hbij := bij_of hp
    have hget := fun x => @fOf_get zs hp x
    rw [HN.out] at hbij hget
    have HP := Lib.hid hp
    have hcy := cycI_yes hp
    rw [HN.out] at hcy
    have HF := Lib.hid hcy
    have HG := Lib.hid hget
    have HBJ := Lib.hid hbij
    clear hp hcy hget hbij
    generalize fOf zs = f at *
    go_enter Try.func79, Try.ntmps79
    go_wp2_with fail
    refine (impl_perm A n c zs _ HN.out hn2 hz hss).mono ?_
    rintro e w1 ⟨rfl, hb⟩
    rw [HP.out]
    have hss0 := hss
    have hsz := hb.size
    have hseen0 : (w1.alloc (.cells #[.bool false, .bool false, .bool false, .bool false, .bool false, .bool false, .bool false, .bool false, .bool false, .bool false, .bool false, .bool false] 91)).ownsRow w.heap.size 91 1 (.slice (some ⟨w1.heap.size, 0, none⟩) 12 12) 12 (brow 12 (old f n 0)) := by
      rw [show brow 12 (old f n 0) = List.replicate 12 (.bool false) from by rw [← brow_none]; exact brow_congr fun v _ => old_zero f n v]
      exact World.ownsRow_lit w1 _ 12 hsz (by unfold maxLen; omega) rfl
    have hb0 := hb.alloc hsz (.cells #[.bool false, .bool false, .bool false, .bool false, .bool false, .bool false, .bool false, .bool false, .bool false, .bool false, .bool false, .bool false] 91)
    have HS0 := Lib.hid hseen0
    have HB0 := Lib.hid hb0
    have HSZ := Lib.hid hsz
    clear hseen0 hb0 hb hsz
    go_wp2
    go_loopw [3, 13] (fun v i wr => ∃ k : Nat, k ≤ n ∧ i = .int .i64 k ∧ (∃ A m c rs, v = .slice A m c ∧ m ≤ k ∧ SSRow wr w.heap.size wr.heap.size A m c rs ∧ Hid (rs.map RD.zs = (cycTo f n k).map ints)) ∧ wr.ownsRow w.heap.size 91 1 (.slice (some ⟨w1.heap.size, 0, none⟩) 12 12) 12 (brow 12 (old f n k)) ∧ Below w.heap.size w wr ∧ w1.heap.size < wr.heap.size) (fun _ i _ => n - (intOf i).toNat)
    case atStart => exact ⟨0, Nat.zero_le _, rfl, ⟨_, _, _, [], rfl, Nat.le_refl _, SSRow.empty (World.ownsRow_nil _ _ _ _), rfl⟩, HS0.out, HB0.out, by simp⟩
    case round =>
      obtain ⟨k, hk, rfl, ⟨A2, m2, c2, rs, rfl, hm2, hrow, HRS⟩, hseen, hbw, hSB⟩ := hrel
      have hszk := hbw.size
      clear HS0 HB0
      by_cases hlt : k < n
      · have hcell : wr.cell? ⟨w1.heap.size, k, none⟩ = some (.bool (old f n k k)) := by rw [hseen.cellAt k (by omega)]; exact brow_get (by omega)
        cases hl : lead f n k with
        | false =>
          have ho : old f n k k = true := by unfold lead at hl; simpa using hl
          rw [ho] at hcell
          have HO := Lib.hid (brow_congr (m := 12) fun v _ => old_stay HBJ.out hlt hl v)
          have HC := Lib.hid (cycTo_no (f := f) (n := n) hl)
          have HSEEN := Lib.hid hseen
          have HROW := Lib.hid hrow
          clear hl ho hseen hrow
          go_wp2
          go_loopw [6, 7] (fun v x wt => v = .slice none 0 0 ∧ x = .int .i64 (k : Int) ∧ wt = wr) (fun _ _ _ => 0)
          case atStart => exact ⟨rfl, rfl, rfl⟩
          case round =>
            obtain ⟨rfl, rfl, rfl⟩ := hrel
            go_wp2
            go_roundw
            case rel => exact ⟨k + 1, by omega, by go_num, ⟨_, _, _, rs, rfl, by omega, HROW.out, by show _ = _; rw [HC.out]; exact HRS.out⟩, by rw [HO.out]; exact HSEEN.out, hbw, hSB⟩
            case measure => simp [intOf]; omega
        | true =>
          have ho : old f n k k = false := by unfold lead at hl; simpa using hl
          have HFREE := Lib.hid (fun t => @mid_free f n HBJ.out k t hlt hl)
          have HLT := Lib.hid (fun t => it_lt HBJ.out t hlt)
          have HMN := Lib.hid (fun t (ht : t < per f n k) => brow_congr (m := 12) fun v _ => mid_next f n k t v ht)
          have HMA := Lib.hid (brow_congr (m := 12) fun v _ => mid_all HBJ.out hlt v)
          have HMB := Lib.hid (mid_back HBJ.out hlt)
          have HOT := Lib.hid (orb_take f n k)
          have HOL := Lib.hid (orb_len f n k)
          have HC := Lib.hid (cycTo_yes (f := f) (n := n) hl)
          have hmid0 := hseen
          rw [← brow_congr (m := 12) (fun v _ => mid_zero f n k v)] at hmid0
          have HMID0 := Lib.hid hmid0
          have HROW := Lib.hid hrow
          have HRL := Lib.hid hrow.len
          have hL1 := orb_pos HBJ.out hlt
          have hL2 := per_le HBJ.out hlt
          clear hl ho hcell hseen hrow hmid0
          generalize per f n k = L at *
          generalize orb f n k = ob at *
          obtain ⟨b0, hb0⟩ : ∃ b, b = wr.heap.size := ⟨_, rfl⟩
          rw [← hb0] at HROW hSB hszk
          have HB0 := Lib.hid hb0
          clear hb0
          go_wp2
          go_loopw [6, 7] (fun v x wr => ∃ t : Nat, t ≤ L ∧ x = .int .i64 (it f t k : Nat) ∧ (∃ A c, v = .slice A t c ∧ wr.ownsRow b0 3 1 (.slice A t c) t ((ints (ob.take t)).map (Value.int .i64))) ∧ wr.ownsRow w.heap.size 91 1 (.slice (some ⟨w1.heap.size, 0, none⟩) 12 12) 12 (brow 12 (mid f n k t)) ∧ SSRow wr w.heap.size b0 A2 m2 c2 rs ∧ Below w.heap.size w wr ∧ b0 ≤ wr.heap.size) (fun v _ _ => L - lenOf v)
          case atStart => exact ⟨0, Nat.zero_le _, rfl, ⟨_, _, rfl, World.ownsRow_nil _ _ _ _⟩, HMID0.out, HROW.out, hbw, Nat.le_of_eq HB0.out⟩
          case round =>
            obtain ⟨t, ht, rfl, ⟨A3, c3, rfl, hcyc⟩, hmid, hrow, hbt, hszt⟩ := hrel
            clear HMID0 HROW
            have hxn := HLT.out t
            by_cases htl : t < L
            · obtain ⟨b, o, rfl, hbb, hcw⟩ := hss0 (it f t k) (by rw [HN.out]; exact hxn)
              rw [HG.out (it f t k) hxn, ← it_succ f t k] at hcw
              have hc := (hbt.cell (p := ⟨b, o + it f t k, none⟩) hbb).trans hcw
              have hcell : wr.cell? ⟨w1.heap.size, it f t k, none⟩ = some (.bool false) := by rw [hmid.cellAt (it f t k) (by omega), brow_get (by omega), HFREE.out t htl]
              have hst := hmid.stored (it f t k) (.bool true)
              rw [brow_set, ← HMN.out t htl] at hst
              have hfz := hmid.frozenAt (it f t k)
              have hgr : wr.grownBy (wr.setCell ⟨w1.heap.size, it f t k, none⟩ (.bool true)) (some w1.heap.size) := set_grown wr _ _
              have HCYC := Lib.hid (own_gr hcyc hgr (fun b hb e => by simp only [Option.some.injEq] at e; have := own_lo hcyc b hb; omega))
              have HROW2 := Lib.hid (hrow.other hmid (by decide) (by decide) hgr)
              have HBT := Lib.hid (hbt.setCell (p := ⟨w1.heap.size, it f t k, none⟩) HSZ.out (.bool true))
              have HSZS := Lib.hid (show b0 ≤ (wr.setCell ⟨w1.heap.size, it f t k, none⟩ (.bool true)).heap.size by simpa using hszt)
              have HMID := Lib.hid hst.1
              have HOT2 := Lib.hid (HOT.out t htl)
              have HCW := Lib.hid hcw
              clear hcw
              clear hst hgr hcyc hrow hbt hmid
              generalize hx : it f t k = x at *
              generalize hx' : it f (t + 1) k = x' at *
              have HX' := Lib.hid hx'
              clear hx hx'
              go_wp2_with (at_builtin; refine app_more rfl (.tmp 27) (.tmp 29) 24 rfl b0 3 i0 (.int .i64 0) 8 Try.underlying24 hi hz0 hz1 hz2 (by decide) rfl _ _ _ _ rfl HCYC.out (.int .i64 (x : Int)) rfl _ rfl (by simp) (by omega) HSZS.out ?_; intro g c4 w2 hown2 hgr2; have HB2 := Lib.hid (HBT.out.grown hgr2 (Nat.le_trans hszk HSZS.out) (fun k hk => Nat.le_trans hszk (own_lo HCYC.out k hk).1)); have hc2 := (HB2.out.cell (p := ⟨b, o + x, none⟩) hbb).trans HCW.out)
              go_roundw
              case rel => exact ⟨t + 1, by omega, by rw [HX'.out], ⟨_, _, rfl, by rw [HOT2.out, ints_snoc, List.map_append]; exact hown2⟩, own_gr HMID.out hgr2 (fun k hk e => by have h1 := (own_lo HCYC.out k e).1; simp only [Option.map_some, Option.some.injEq] at hk; omega), HROW2.out.grown hgr2 (fun k hk => Or.inr (own_lo HCYC.out k hk).1), HB2.out, Nat.le_trans HSZS.out hgr2.size⟩
              case measure => simp [lenOf]; omega
            · have htl' : t = L := by omega
              subst htl'
              have hcell : wr.cell? ⟨w1.heap.size, it f t k, none⟩ = some (.bool true) := by rw [hmid.cellAt (it f t k) (by omega), brow_get (by omega), HMB.out]
              have ht2 : ob.take t = ob := List.take_of_length_le (by rw [HOL.out]; exact Nat.le_refl _)
              rw [ht2] at hcyc
              have HLE := Lib.hid (show (ints ob).length = t by rw [ints_len]; exact HOL.out)
              rw [HMA.out] at hmid
              have HMID := Lib.hid hmid
              have HCYC := Lib.hid hcyc
              have HROW2 := Lib.hid hrow
              have HBT := Lib.hid hbt
              have hb0t : (0 : Int) < (t : Int) := by omega
              clear hmid hcyc hrow hbt ht2
              generalize it f t k = x at *
              go_wp2_with (at_builtin; refine app_more rfl (.tmp 34) (.tmp 36) 36 rfl w.heap.size 24 i1 (.slice none 0 0) 24 Try.underlying36 hj hy0 hy1 hy2 (by decide) rfl _ _ _ _ rfl HROW2.out.1 (.slice A3 t c3) rfl _ rfl rfl (by omega) (Nat.le_trans hszk hszt) ?_; intro g c4 w2 hown2 hgr2)
              have HB2 := Lib.hid (HBT.out.grown hgr2 (Nat.le_trans hszk hszt) HROW2.out.outlo)
              have HSN := Lib.hid (SSRow.snoc (zs := ints ob) (A1 := A3) (c1 := c3) HROW2.out hszk (by rw [HLE.out]; exact HCYC.out) (by rw [HLE.out]; exact hown2) hgr2)
              have HM2 := Lib.hid (own_gr HMID.out hgr2 (fun k hk e => own_diff HMID.out HROW2.out.1 (by decide) k hk e))
              have hs2 := hgr2.size
              clear hown2
              go_roundw
              case rel => exact ⟨k + 1, by omega, by go_num, ⟨_, _, _, _, rfl, by omega, HSN.out, by show _ = _; rw [List.map_append, HRS.out, HC.out, List.map_append]; rfl⟩, HM2.out, HB2.out, by omega⟩
              case measure => simp [intOf]; omega
      · have hkn : k = n := by omega
        subst hkn
        have HR := Lib.hid hrow
        have HL2 := Lib.hid (show (cycI zs).length = m2 by rw [HF.out, ← HRS.out, List.length_map]; exact hrow.len)
        clear hrow hseen
        go_wp2
        go_ret
        refine ⟨A2, c2, rs, by rw [HL2.out]; rfl, by rw [HF.out]; exact HRS.out, ?_, hbw⟩
        rw [HL2.out]
        exact HR.out
theorem infoBool : (Try.prog.info? 4).map (fun i => (i.zero, i.size, i.bytes)) = some (some (.bool false), 1, 1) := by kernel_rfl
theorem infob_parts : ∃ i, Try.prog.info? 4 = some i ∧ i.zero = some (.bool false) ∧ i.size = 1 ∧ i.bytes = 1 := by
  have h := infoBool
  cases hi : Try.prog.info? 4 with
  | none => rw [hi] at h; cases h
  | some i =>
    rw [hi] at h
    simp only [Option.map_some, Option.some.injEq, Prod.mk.injEq] at h
    exact ⟨i, rfl, h.1, h.2.1, h.2.2⟩
theorem cyc_small (zs : List Int) : SmallSS (cycI zs) := by
  cases h : permB zs with
  | false => rw [cycI_no h]; exact ⟨Nat.zero_le _, fun l hl => by cases hl⟩
  | true =>
    have h12 := (permB_yes h).1
    rw [cycI_yes h]
    refine ⟨?_, fun l hl => ?_⟩
    · rw [List.length_map]; have := cycTo_len (fOf zs) zs.length zs.length; omega
    · obtain ⟨c, hc, rfl⟩ := List.mem_map.1 hl
      have := cyc_len (bij_of h) (Nat.le_refl _) hc
      rw [ints_len]; omega
end Go.Proofs.Ytpbpgpccjabghaa.Cyc
