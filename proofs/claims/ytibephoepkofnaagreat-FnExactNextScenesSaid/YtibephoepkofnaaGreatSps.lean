/- How the model compares two lists (l05Less), and what the model's merging needs of memory. How the model merges two sorted lists of lists (l05Merge). How the model sorts lists of lists (SortPackets). -/
import Derived.Test.YtibephoepkofnaaGreatSrt
import Derived.Test.YtibephoepkofnaaGreatSame
import Derived.Test.YtibephoepkofnaaGreatCat
import Derived.BigQuiet
import Derived.Deep.QuietTactic
import Derived.Deep.CutRange
import Derived.Deep.LoopGhost
import Derived.Deep.RegionHeldLaw
import Derived.Deep.RegionHeld3
set_option linter.unusedVariables false
set_option maxRecDepth 20000
namespace Go.Proofs.YtibephoepkofnaaGreat.Spl
open Go.RowKit Fr Own Ins Rws Sam Srt Sst Cat

theorem less_step {us vs : List Int} {k : Nat} (h1 : k < us.length) (h2 : k < vs.length) :
    lessL (us.drop k) (vs.drop k) = if us.getD k 0 = vs.getD k 0 then lessL (us.drop (k + 1)) (vs.drop (k + 1)) else decide (us.getD k 0 < vs.getD k 0) := by
  rw [List.drop_eq_getElem_cons h1, List.drop_eq_getElem_cons h2, lessL]
  simp only [List.getD_eq_getElem?_getD, List.getElem?_eq_getElem h1, List.getElem?_eq_getElem h2, Option.getD_some]
theorem less_out {us vs : List Int} {k : Nat} (h1 : k < us.length) (h2 : vs.length ≤ k) : lessL (us.drop k) (vs.drop k) = false := by
  rw [List.drop_eq_getElem_cons h1, List.drop_eq_nil_of_le h2, lessL]
theorem less_end {us vs : List Int} : lessL (us.drop us.length) (vs.drop us.length) = decide (us.length < vs.length) := by
  rw [List.drop_eq_nil_of_le (Nat.le_refl _)]
  by_cases h : us.length < vs.length
  · rw [List.drop_eq_getElem_cons h, lessL, decide_eq_true h]
  · rw [List.drop_eq_nil_of_le (by omega), lessL, decide_eq_false h]
set_option maxHeartbeats 1000000 in
theorem less_any (A1 A2 : Option Addr) (n m c1 c2 : Nat) (us vs : List Int) (w : World) (hn : us.length = n) (hm : vs.length = m) (hn2 : n ≤ 9223372036854775807) (hm2 : m ≤ 9223372036854775807) (h1 : IntsAt w w.heap.size .i64 A1 us) (h2 : IntsAt w w.heap.size .i64 A2 vs) :
    Calls Tryz.prog 82 #[.slice A1 n c1, .slice A2 m c2] w fun e w' => e = .returned (.bool (lessL us vs)) ∧ w = w' := by
  have HN := Lib.hid hn
  have HM := Lib.hid hm
  obtain ⟨R, hR⟩ : ∃ R, R = lessL us vs := ⟨_, rfl⟩
  rw [← hR]
  have HR0 := Lib.hid (show lessL (us.drop 0) (vs.drop 0) = R by rw [List.drop_zero, List.drop_zero, hR])
  clear hn hm hR
  go_enter Tryz.func82, Tryz.ntmps82
  go_wp2
  go_loop [5, 6, 9] (fun _ _ ix => ∃ k : Nat, k ≤ n ∧ k ≤ m ∧ ix = .int .i64 (k : Int) ∧ Hid (lessL (us.drop k) (vs.drop k) = R)) (fun _ _ ix => n - (intOf ix).toNat)
  case atStart => exact ⟨0, Nat.zero_le _, Nat.zero_le _, rfl, HR0⟩
  case round =>
    obtain ⟨k, hk, hkm, rfl, HRK⟩ := hrel
    clear HR0
    by_cases hlt : k < n
    · obtain ⟨b1, o1, rfl, hbb1, hc1⟩ := h1 k (by rw [HN.out]; exact hlt)
      by_cases hlm : k < m
      · obtain ⟨b2, o2, rfl, hbb2, hc2⟩ := h2 k (by rw [HM.out]; exact hlm)
        have HST := Lib.hid ((less_step (us := us) (vs := vs) (k := k) (by rw [HN.out]; exact hlt) (by rw [HM.out]; exact hlm)).symm.trans HRK.out)
        generalize us.getD k 0 = x at *
        generalize vs.getD k 0 = y at *
        clear h1 h2 HRK
        by_cases hxy : x = y
        · subst hxy
          have HS2 := Lib.hid (show lessL (us.drop (k + 1)) (vs.drop (k + 1)) = R by have h := HST.out; rw [if_pos rfl] at h; exact h)
          clear HST
          go_wp2
          go_round
          case rel => exact ⟨k + 1, by omega, by omega, by go_num, HS2⟩
          case measure => simp [intOf]; omega
        · have HS2 := Lib.hid (show decide (x < y) = R by have h := HST.out; rw [if_neg hxy] at h; exact h)
          have hne : (x == y) = false := by simpa using hxy
          clear HST
          go_wp2
          go_ret
          exact ⟨congrArg (fun b => Ending.returned (.bool b)) HS2.out, rfl⟩
      · have HS2 := Lib.hid (show false = R by rw [← HRK.out, less_out (by rw [HN.out]; exact hlt) (by rw [HM.out]; omega)])
        have hge : (m : Int) ≤ (k : Int) := by omega
        clear HRK h1 h2
        go_wp2
        go_ret
        exact ⟨congrArg (fun b => Ending.returned (.bool b)) HS2.out, rfl⟩
    · have hkn : k = n := by omega
      have HS2 := Lib.hid (show decide (n < m) = R by rw [← HRK.out, hkn, ← HN.out, less_end, HM.out])
      clear HRK h1 h2 hlt
      go_wp2
      go_ret
      exact ⟨congrArg (fun b => Ending.returned (.bool b)) HS2.out, rfl⟩
theorem less_q (A1 A2 : Option Addr) (n m c1 c2 : Nat) (us vs : List Int) (w : World) (hn : us.length = n) (hm : vs.length = m) (hn2 : n ≤ 9223372036854775807) (hm2 : m ≤ 9223372036854775807) (h1 : IntsAt w w.heap.size .i64 A1 us) (h2 : IntsAt w w.heap.size .i64 A2 vs) :
    Calls Tryz.prog 82 #[.slice A1 n c1, .slice A2 m c2] w fun e w' => e = .returned (.bool (lessL us vs)) ∧ ∃ d, w' = w.drewN d :=
  (less_any A1 A2 n m c1 c2 us vs w hn hm hn2 hm2 h1 h2).mono fun e w' h => ⟨h.1, 0, h.2.symm⟩
/-- every row is not too long, and is no part of a cell -/
def RowsOk (rs : List RD) : Prop := ∀ i, i < rs.length → (rs.getD i rd0).zs.length ≤ 1048576 ∧ ((rs.getD i rd0).A = none → (rs.getD i rd0).c = 0) ∧ (∀ a, (rs.getD i rd0).A = some a → a.spot = none)
theorem RowsOk.tail {r : RD} {rs : List RD} (h : RowsOk (r :: rs)) : RowsOk rs := fun i hi => by
  have := h (i + 1) (by simp; omega)
  simpa using this
theorem RowsOk.nil : RowsOk [] := fun i hi => absurd hi (Nat.not_lt_zero _)
theorem SSAt.tail {w : World} {B b o : Nat} {r : RD} {rs : List RD} (h : SSAt w B (some ⟨b, o, none⟩) (r :: rs)) : SSAt w B (some ⟨b, o + 1, none⟩) rs := by
  intro j hj
  obtain ⟨b', o', hA, hlt, hc, hi⟩ := h (j + 1) (by simp; omega)
  simp only [Option.some.injEq, Addr.mk.injEq, and_true] at hA
  obtain ⟨rfl, rfl⟩ := hA
  refine ⟨b, o + 1, rfl, hlt, ?_, ?_⟩
  · rw [show o + 1 + j = o + (j + 1) by omega]
    simpa using hc
  · simpa using hi
theorem SSAt.drop {w : World} {B b o : Nat} {rs : List RD} (k : Nat) (h : SSAt w B (some ⟨b, o, none⟩) rs) : SSAt w B (some ⟨b, o + k, none⟩) (rs.drop k) := by
  intro j hj
  rw [List.length_drop] at hj
  obtain ⟨b', o', hA, hlt, hc, hi⟩ := h (k + j) (by omega)
  simp only [Option.some.injEq, Addr.mk.injEq, and_true] at hA
  obtain ⟨rfl, rfl⟩ := hA
  have e : (rs.drop k).getD j rd0 = rs.getD (k + j) rd0 := by simp [List.getD_eq_getElem?_getD]
  rw [e]
  exact ⟨b, o + k, rfl, hlt, by rw [Nat.add_assoc]; exact hc, hi⟩
theorem SSAt.take {w : World} {B : Nat} {A : Option Addr} {rs : List RD} (k : Nat) (h : SSAt w B A rs) : SSAt w B A (rs.take k) := by
  intro j hj
  rw [List.length_take] at hj
  have e : (rs.take k).getD j rd0 = rs.getD j rd0 := by simp [List.getD_eq_getElem?_getD, show j < k by omega]
  rw [e]
  exact h j (by omega)
theorem RowsOk.drop {rs : List RD} (k : Nat) (h : RowsOk rs) : RowsOk (rs.drop k) := by
  intro i hi
  rw [List.length_drop] at hi
  have e : (rs.drop k).getD i rd0 = rs.getD (k + i) rd0 := by simp [List.getD_eq_getElem?_getD]
  rw [e]
  exact h _ (by omega)
theorem RowsOk.take {rs : List RD} (k : Nat) (h : RowsOk rs) : RowsOk (rs.take k) := by
  intro i hi
  rw [List.length_take] at hi
  have e : (rs.take k).getD i rd0 = rs.getD i rd0 := by simp [List.getD_eq_getElem?_getD, show i < k by omega]
  rw [e]
  exact h _ (by omega)
def lenV : Value → Nat
  | .slice _ n _ => n
  | _ => 0
end Go.Proofs.YtibephoepkofnaaGreat.Spl

namespace Go.Proofs.YtibephoepkofnaaGreat.Spm
open Go.RowKit Fr Own Ins Rws Sam Srt Sst Spl Cat

theorem merge_a {f : Nat} {x : RD} {a ro : List RD} : mergeF (f + 1) ((x :: a).map RD.zs) [] (ro.map RD.zs) = mergeF f (a.map RD.zs) [] (push (ro.map RD.zs) x.zs) := rfl
theorem merge_b {f : Nat} {y : RD} {b ro : List RD} : mergeF (f + 1) [] ((y :: b).map RD.zs) (ro.map RD.zs) = mergeF f [] (b.map RD.zs) (push (ro.map RD.zs) y.zs) := rfl
theorem merge_aa {f : Nat} {x y : RD} {a b ro : List RD} (h : lessL y.zs x.zs = false) : mergeF (f + 1) ((x :: a).map RD.zs) ((y :: b).map RD.zs) (ro.map RD.zs) = mergeF f (a.map RD.zs) ((y :: b).map RD.zs) (push (ro.map RD.zs) x.zs) := by
  show mergeF (f + 1) (x.zs :: a.map RD.zs) (y.zs :: b.map RD.zs) _ = _
  rw [mergeF, if_neg (by rw [h]; decide)]
  rfl
theorem merge_bb {f : Nat} {x y : RD} {a b ro : List RD} (h : lessL y.zs x.zs = true) : mergeF (f + 1) ((x :: a).map RD.zs) ((y :: b).map RD.zs) (ro.map RD.zs) = mergeF f ((x :: a).map RD.zs) (b.map RD.zs) (push (ro.map RD.zs) y.zs) := by
  show mergeF (f + 1) (x.zs :: a.map RD.zs) (y.zs :: b.map RD.zs) _ = _
  rw [mergeF, if_pos h]
  rfl
theorem push_new {ro : List RD} {r : RD} {zs : List Int} (h : (ro.map RD.zs).getLast? ≠ some zs) (hr : r.zs = zs) : push (ro.map RD.zs) zs = (ro ++ [r]).map RD.zs := by
  unfold push
  rw [if_neg h, List.map_append, ← hr]
  rfl
theorem push_old {ro : List RD} {zs : List Int} (h : (ro.map RD.zs).getLast? = some zs) : push (ro.map RD.zs) zs = ro.map RD.zs := by unfold push; rw [if_pos h]
theorem last_at {ro : List RD} {m : Nat} (hm : ro.length = m + 1) : (ro.map RD.zs).getLast? = some (ro.getD m rd0).zs := by
  rw [List.getLast?_eq_getElem?, List.length_map, hm, List.getElem?_map, Nat.add_sub_cancel, List.getElem?_eq_getElem (by omega), List.getD_eq_getElem?_getD, List.getElem?_eq_getElem (by omega)]
  rfl
theorem merge_ta {f : Nat} {x : RD} {a b ro : List RD} (h : b = [] ∨ lessL (b.getD 0 rd0).zs x.zs = false) : mergeF (f + 1) ((x :: a).map RD.zs) (b.map RD.zs) (ro.map RD.zs) = mergeF f (a.map RD.zs) (b.map RD.zs) (push (ro.map RD.zs) x.zs) := by
  cases b with
  | nil => rfl
  | cons y b => exact merge_aa (by rcases h with h | h; cases h; exact h)
theorem merge_tb {f : Nat} {y : RD} {a b ro : List RD} (h : a = [] ∨ lessL y.zs (a.getD 0 rd0).zs = true) : mergeF (f + 1) (a.map RD.zs) ((y :: b).map RD.zs) (ro.map RD.zs) = mergeF f (a.map RD.zs) (b.map RD.zs) (push (ro.map RD.zs) y.zs) := by
  cases a with
  | nil => rfl
  | cons x a => exact merge_bb (by rcases h with h | h; cases h; exact h)
set_option maxHeartbeats 4000000 in
theorem merge_any (Aa : Option Addr) (na ca : Nat) (la : List RD) (Ab : Option Addr) (nb cb : Nat) (lb : List RD) (w : World) (hna : la.length = na) (hnb : lb.length = nb) (ha : SSAt w w.heap.size Aa la) (hb : SSAt w w.heap.size Ab lb) (hoa : RowsOk la) (hob : RowsOk lb)
    (hca : na ≤ ca) (hcb : nb ≤ cb) (hn : na + nb ≤ 4194304) :
    Calls Tryz.prog 69 #[.slice Aa na ca, .slice Ab nb cb] w (IsSS w.heap.size (mergeL (la.map RD.zs) (lb.map RD.zs)) w) := by
  obtain ⟨i0, hi, hz0, hz1, hz2⟩ := info_parts infoInt
  obtain ⟨i1, hj, hy0, hy1, hy2⟩ := infos_parts
  obtain ⟨R, hR⟩ : ∃ R, R = mergeL (la.map RD.zs) (lb.map RD.zs) := ⟨_, rfl⟩
  rw [← hR]
  have HR0 := Lib.hid (show mergeF (na + nb) (la.map RD.zs) (lb.map RD.zs) (([] : List RD).map RD.zs) = R by rw [hR, ← hna, ← hnb]; unfold mergeL; rw [List.length_map, List.length_map]; rfl)
  have hal := (Below.refl w.heap.size w).alloc (Nat.le_refl _) (.cells #[] 22)
  have HO0 := Lib.hid (SSRow.empty (World.ownsRow_lit (base := w.heap.size) (e := 22) (size := 1) w #[] 0 (Nat.le_refl _) (Nat.zero_le _) rfl))
  have HAL := Lib.hid hal
  have HA := Lib.hid ha
  have HB := Lib.hid hb
  have HOA := Lib.hid hoa
  have HOB := Lib.hid hob
  have HNA := Lib.hid hna
  have HNB := Lib.hid hnb
  clear hR hal ha hb hoa hob hna hnb
  go_enter Tryz.func69, Tryz.ntmps69
  go_wp2
  go_loopg [0, 1, 5, 6] (na + nb) (fun g s0 s1 s5 _ wr => ∃ (Aa : Option Addr) (na ca : Nat) (ra : List RD) (Ab : Option Addr) (nb cb : Nat) (rb : List RD) (Ao : Option Addr) (no co : Nat) (ro : List RD), s0 = .slice Aa na ca ∧ s1 = .slice Ab nb cb ∧ s5 = .slice Ao no co ∧ g = na + nb ∧ na ≤ ca ∧ nb ≤ cb ∧ no + na + nb ≤ 4194304 ∧
    Hid (ra.length = na) ∧ Hid (rb.length = nb) ∧ Hid (SSAt w w.heap.size Aa ra) ∧ Hid (SSAt w w.heap.size Ab rb) ∧ Hid (RowsOk ra) ∧ Hid (RowsOk rb) ∧ Hid (SSRow wr w.heap.size wr.heap.size Ao no co ro) ∧ Hid (mergeF (na + nb) (ra.map RD.zs) (rb.map RD.zs) (ro.map RD.zs) = R) ∧ Hid (Below w.heap.size w wr))
  case atStart => exact ⟨Aa, na, ca, la, Ab, nb, cb, lb, _, 0, 0, [], rfl, rfl, rfl, rfl, hca, hcb, by omega, HNA, HNB, HA, HB, HOA, HOB, HO0, HR0, HAL⟩
  case round =>
    clear HO0 HR0 HAL HA HB HOA HOB HNA HNB hca hcb hn
    obtain ⟨Aa, na, ca, ra, Ab, nb, cb, rb, Ao, no, co, ro, rfl, rfl, rfl, hgk, hca, hcb, hno, HNA, HNB, HA, HB, HOA, HOB, HO, HR, HBW⟩ := hrel
    have hsz := HBW.out.size
    have HOL := Lib.hid HO.out.len
    by_cases hnul : na = 0 ∧ nb = 0
    · obtain ⟨rfl, rfl⟩ := hnul
      have e1 : ra = [] := List.length_eq_zero_iff.1 HNA.out
      have e2 : rb = [] := List.length_eq_zero_iff.1 HNB.out
      subst e1 e2
      have HRR := Lib.hid (show ro.map RD.zs = R from HR.out)
      have HRL := Lib.hid (show R.length = no by rw [← HRR.out, List.length_map, HOL.out])
      clear HR HA HB HOA HOB HNA HNB
      go_wp2
      go_ret
      exact ⟨Ao, co, ro, by rw [HRL.out]; rfl, HRR.out, by rw [HRL.out]; exact HO.out, HBW.out⟩
    · have HW1 := Lib.hid ((Below.refl wr.heap.size wr).alloc (Nat.le_refl _) (.cells #[] 3))
      obtain ⟨W1, hW1⟩ : ∃ W, W = wr.alloc (.cells #[] 3) := ⟨_, rfl⟩
      rw [← hW1] at HW1
      have HWE := Lib.hid hW1
      clear hW1
      -- the world behind the second literal
      have HO1 := Lib.hid (HO.out.below HW1.out)
      have hsz1 := HW1.out.size
      have HBW1 := Lib.hid (HBW.out.trans (HW1.out.mono hsz))
      have HA1 := Lib.hid ((HA.out.below HBW1.out).more HBW1.out.size)
      have HB1 := Lib.hid ((HB.out.below HBW1.out).more HBW1.out.size)
      clear HO HBW HW1
      have hna0 : 0 < na ∨ na = 0 := by omega
      have hnb0 : 0 < nb ∨ nb = 0 := by omega
      -- which one is taken
      obtain ⟨D, hD⟩ : ∃ D : Bool, D = (decide (nb = 0) || (decide (0 < na) && !lessL (rb.getD 0 rd0).zs (ra.getD 0 rd0).zs)) := ⟨_, rfl⟩
      have HD := Lib.hid hD
      clear hD
      go_upto_region 2 with fail
      go_cut [15] from 8 to 64 (fun c wx => c = .bool true ∧ wr = wx)
      case first =>
        clear HA HB HA1 HB1 HR HO1 HD HBW1
        rcases hna0 with ha0 | ha0
        · have na2 : decide (0 < na) = true := decide_eq_true (by omega)
          go_wp2
          go_meet
          exact ⟨rfl, rfl⟩
        · have nb2 : decide (0 < nb) = true := decide_eq_true (by omega)
          subst ha0
          go_wp2
          go_meet
          exact ⟨rfl, rfl⟩
      case rest =>
      obtain ⟨rfl, rfl⟩ := hcut
      go_upto_region 4 with fail
      rw [← HWE.out]
      go_cut [34] from 8 to 64 (fun c wx => c = .bool D ∧ ∃ q, W1.drewN q = wx)
      case first =>
        rcases hnb0 with hb0 | hb0
        · obtain ⟨b2, o2, rfl, hbb2, hc2, hx2⟩ := HB1.out 0 (by rw [HNB.out]; exact hb0)
          have hl2 := (HOB.out 0 (by rw [HNB.out]; exact hb0)).1
          have nb0 : ((nb : Int) == 0) = false := by rw [beq_eq_false_iff_ne]; omega
          have nb1 : decide (nb = 0) = false := decide_eq_false (by omega)
          rw [nb1] at HD
          rcases hna0 with ha0 | ha0
          · obtain ⟨b1, o1, rfl, hbb1, hc1, hx1⟩ := HA1.out 0 (by rw [HNA.out]; exact ha0)
            have hl1 := (HOA.out 0 (by rw [HNA.out]; exact ha0)).1
            have na1 : decide (0 < na) = true := decide_eq_true ha0
            have na2 : decide ((0 : Int) < (na : Int)) = true := decide_eq_true (by omega)
            have nb2 : (nb == 0) = false := by rw [beq_eq_false_iff_ne]; omega
            have HDD := Lib.hid (show D = !lessL (rb.getD 0 rd0).zs (ra.getD 0 rd0).zs by rw [HD.out, na1]; rfl)
            simp only [RD.v, Nat.add_zero] at hc1 hc2
            clear HA HB HA1 HB1 HR HO1 HD HBW1 nb1
            generalize (ra.getD 0 rd0).A = A1 at *
            generalize (ra.getD 0 rd0).c = c1 at *
            generalize (ra.getD 0 rd0).zs = us at *
            generalize (rb.getD 0 rd0).A = A2 at *
            generalize (rb.getD 0 rd0).c = c2 at *
            generalize (rb.getD 0 rd0).zs = vs at *
            obtain ⟨m1, hm1⟩ : ∃ m, m = us.length := ⟨_, rfl⟩
            obtain ⟨m2, hm2⟩ : ∃ m, m = vs.length := ⟨_, rfl⟩
            rw [← hm1] at hc1 hl1
            rw [← hm2] at hc2 hl2
            have HQ := Lib.hid (fun q => less_q A2 A1 m2 m1 c2 c1 vs us (W1.drewN q) hm2.symm hm1.symm (by omega) (by omega) (ints_drewN hx2 q) (ints_drewN hx1 q))
            clear hm1 hm2 hx1 hx2
            cases hd : lessL vs us with
            | false =>
              have HQ2 := Lib.hid (fun q => by have h := HQ.out q; rw [hd] at h; exact h)
              have HD3 := Lib.hid (show D = true by rw [HDD.out, hd]; rfl)
              clear HQ HDD hd
              go_quiet ((go_at_call 82; exact Calls.quiet_of (HQ2.out _)))
              go_wp2
              go_meet
              exact ⟨congrArg Value.bool HD3.out.symm, _, rfl⟩
            | true =>
              have HQ2 := Lib.hid (fun q => by have h := HQ.out q; rw [hd] at h; exact h)
              have HD3 := Lib.hid (show D = false by rw [HDD.out, hd]; rfl)
              clear HQ HDD hd
              go_quiet ((go_at_call 82; exact Calls.quiet_of (HQ2.out _)))
              go_wp2
              go_meet
              exact ⟨congrArg Value.bool HD3.out.symm, _, rfl⟩
          · subst ha0
            have HD3 := Lib.hid (show D = false by rw [HD.out]; rfl)
            clear HA HB HA1 HB1 HR HO1 HD HBW1 nb1
            have nb2 : (nb == 0) = false := by rw [beq_eq_false_iff_ne]; omega
            go_quiet (fail)
            go_wp2
            go_meet
            exact ⟨congrArg Value.bool HD3.out.symm, _, rfl⟩
        · subst hb0
          have HD3 := Lib.hid (show D = true by rw [HD.out]; rfl)
          clear HA HB HA1 HB1 HR HO1 HD HBW1
          go_quiet (fail)
          go_wp2
          go_meet
          exact ⟨congrArg Value.bool HD3.out.symm, _, rfl⟩
      case rest =>
        obtain ⟨rfl, q, hq⟩ := hcut
        have HW2 := Lib.hid (show Below W1.heap.size W1 wc by rw [← hq]; exact below_drewN (Below.refl _ _) q)
        have HO2 := Lib.hid (HO1.out.below HW2.out)
        have hsz2 := HW2.out.size
        have HBW2 := Lib.hid (HBW1.out.trans (HW2.out.mono (by omega)))
        have HA2 := Lib.hid ((HA1.out.below HW2.out).more HW2.out.size)
        have HB2 := Lib.hid ((HB1.out.below HW2.out).more HW2.out.size)
        clear hq HO1 HA1 HB1 HBW1 HWE HW2
        obtain ⟨W2, hW2⟩ : ∃ W, W = wc := ⟨_, rfl⟩
        rw [← hW2] at HO2 HBW2 HA2 HB2 hsz2
        rw [← hW2]
        clear hW2
        go_upto_if 34 with (fail)
        go_cut [0, 1, 6] from 8 to 64 (fun s0 s1 s6 wx => ∃ (Ax : Option Addr) (mx cx : Nat) (zs : List Int) (Aa : Option Addr) (ma ca : Nat) (qa : List RD) (Ab : Option Addr) (mb cb : Nat) (qb : List RD), s0 = .slice Aa ma ca ∧ s1 = .slice Ab mb cb ∧ s6 = .slice Ax mx cx ∧ ma ≤ ca ∧ mb ≤ cb ∧ ma + mb + 1 = na + nb ∧ mx ≤ 1048576 ∧
              Hid (qa.length = ma) ∧ Hid (qb.length = mb) ∧ Hid (SSAt w w.heap.size Aa qa) ∧ Hid (SSAt w w.heap.size Ab qb) ∧ Hid (RowsOk qa) ∧ Hid (RowsOk qb) ∧ Hid (zs.length = mx) ∧ Hid (IntsAt W2 W2.heap.size .i64 Ax zs) ∧ Hid (Ax = none → cx = 0) ∧ Hid (∀ a, Ax = some a → a.spot = none) ∧
              Hid (mergeF (ma + mb) (qa.map RD.zs) (qb.map RD.zs) (push (ro.map RD.zs) zs) = R) ∧ W2 = wx)
        case first =>
          cases D with
          | true =>
            have hpos : 0 < na := by rcases hna0 with h | h; exact h; subst h; exact absurd ⟨rfl, by have h2 := HD.out; rcases hnb0 with h3 | h3; rw [decide_eq_false (show ¬ nb = 0 by omega)] at h2; simp at h2; exact h3⟩ hnul
            obtain ⟨x, ra, rfl⟩ : ∃ x r, ra = x :: r := by
              cases ra with
              | nil => have h := HNA.out; simp at h; omega
              | cons x r => exact ⟨x, r, rfl⟩
            obtain ⟨na, rfl⟩ : ∃ m, na = m + 1 := ⟨na - 1, by omega⟩
            have HN2 := Lib.hid (show ra.length = na by have h := HNA.out; simp at h; omega)
            have hco : rb = [] ∨ lessL (rb.getD 0 rd0).zs x.zs = false := by have h2 := HD.out; by_cases h3 : nb = 0; left; exact List.length_eq_zero_iff.1 (HNB.out.trans h3); right; rw [decide_eq_false h3] at h2; simpa using h2.symm
            obtain ⟨b, o, rfl, hbb, hc, hxi⟩ := HA2.out 0 (by simp)
            have hxo := HOA.out 0 (by simp)
            have HAT := Lib.hid (SSAt.tail HA.out)
            have HOT := Lib.hid (RowsOk.tail HOA.out)
            have HST := Lib.hid (show mergeF (na + nb) (ra.map RD.zs) (rb.map RD.zs) (push (ro.map RD.zs) x.zs) = R by rw [← HR.out, Nat.add_right_comm, merge_ta hco])
            obtain ⟨Ax, cx, zs⟩ := x
            simp only [List.getD_cons_zero, RD.v, Nat.add_zero] at hc hxi hxo HST
            have HXI := Lib.hid hxi
            have HX1 := Lib.hid hxo.2.1
            have HX2 := Lib.hid hxo.2.2
            have hxm : zs.length ≤ 1048576 := hxo.1
            obtain ⟨mx, hmx⟩ : ∃ m, m = zs.length := ⟨_, rfl⟩
            rw [← hmx] at hc hxm
            have HMX := Lib.hid hmx.symm
            clear hxi hxo hmx hco HR HA HOA HA2 HB2 HO2 HBW2 HD HNA
            by_cases hc1 : ca = 1
            · subst hc1
              have hn0 : na = 0 := by omega
              subst hn0
              have e1 : ra = [] := List.length_eq_zero_iff.1 HN2.out
              subst e1
              go_wp2
              go_meet
              exact ⟨Ax, mx, cx, zs, _, 0, _, [], Ab, nb, cb, rb, rfl, rfl, rfl, Nat.zero_le _, hcb, by omega, hxm, Lib.hid rfl, HNB, Lib.hid (SSAt.nil _ _ _), HB, Lib.hid RowsOk.nil, HOB, HMX, HXI, HX1, HX2, HST, rfl⟩
            · go_wp2
              go_meet
              exact ⟨Ax, mx, cx, zs, _, na, _, ra, Ab, nb, cb, rb, rfl, rfl, rfl, by omega, by omega, by omega, hxm, HN2, HNB, HAT, HB, HOT, HOB, HMX, HXI, HX1, HX2, HST, rfl⟩
          | false =>
            have hpos : 0 < nb := by rcases hnb0 with h | h; exact h; have h2 := HD.out; rw [decide_eq_true h] at h2; simp at h2
            obtain ⟨x, rb, rfl⟩ : ∃ x r, rb = x :: r := by
              cases rb with
              | nil => have h := HNB.out; simp at h; omega
              | cons x r => exact ⟨x, r, rfl⟩
            obtain ⟨nb, rfl⟩ : ∃ m, nb = m + 1 := ⟨nb - 1, by omega⟩
            have HN2 := Lib.hid (show rb.length = nb by have h := HNB.out; simp at h; omega)
            have hco : ra = [] ∨ lessL x.zs (ra.getD 0 rd0).zs = true := by have h2 := HD.out; rw [decide_eq_false (show ¬ nb + 1 = 0 by omega)] at h2; by_cases h3 : na = 0; left; exact List.length_eq_zero_iff.1 (HNA.out.trans h3); right; rw [decide_eq_true (show 0 < na by omega)] at h2; simpa using h2
            obtain ⟨b, o, rfl, hbb, hc, hxi⟩ := HB2.out 0 (by simp)
            have hxo := HOB.out 0 (by simp)
            have HAT := Lib.hid (SSAt.tail HB.out)
            have HOT := Lib.hid (RowsOk.tail HOB.out)
            have HST := Lib.hid (show mergeF (na + nb) (ra.map RD.zs) (rb.map RD.zs) (push (ro.map RD.zs) x.zs) = R by rw [← HR.out, ← Nat.add_assoc, merge_tb hco])
            obtain ⟨Ax, cx, zs⟩ := x
            simp only [List.getD_cons_zero, RD.v, Nat.add_zero] at hc hxi hxo HST
            have HXI := Lib.hid hxi
            have HX1 := Lib.hid hxo.2.1
            have HX2 := Lib.hid hxo.2.2
            have hxm : zs.length ≤ 1048576 := hxo.1
            obtain ⟨mx, hmx⟩ : ∃ m, m = zs.length := ⟨_, rfl⟩
            rw [← hmx] at hc hxm
            have HMX := Lib.hid hmx.symm
            clear hxi hxo hmx hco HR HB HOB HA2 HB2 HO2 HBW2 HD HNB
            by_cases hc1 : cb = 1
            · subst hc1
              have hn0 : nb = 0 := by omega
              subst hn0
              have e1 : rb = [] := List.length_eq_zero_iff.1 HN2.out
              subst e1
              go_wp2
              go_meet
              exact ⟨Ax, mx, cx, zs, Aa, na, ca, ra, _, 0, _, [], rfl, rfl, rfl, hca, Nat.zero_le _, by omega, hxm, HNA, Lib.hid rfl, HA, Lib.hid (SSAt.nil _ _ _), HOA, Lib.hid RowsOk.nil, HMX, HXI, HX1, HX2, HST, rfl⟩
            · go_wp2
              go_meet
              exact ⟨Ax, mx, cx, zs, Aa, na, ca, ra, _, nb, _, rb, rfl, rfl, rfl, by omega, by omega, by omega, hxm, HNA, HN2, HA, HAT, HOA, HOT, HMX, HXI, HX1, HX2, HST, rfl⟩
        case rest =>
          clear HA HB HOA HOB HNA HNB HD HA2 HB2 HR hca hcb
          obtain ⟨Ax, mx, cx, zs, Aa, ma, ca, qa, Ab, mb, cb, qb, rfl, rfl, rfl, hca, hcb, hmm, hxm, HNA, HNB, HA, HB, HOA, HOB, HZL, HXI, HNIL, HSP, HR, rfl⟩ := hcut
          have HL := Lib.hid (World.ownsRow_lit (base := W2.heap.size) (e := 3) (size := 1) W2 #[] 0 (Nat.le_refl _) (Nat.zero_le _) rfl)
          have HL2 := Lib.hid ((Below.refl W2.heap.size W2).alloc (Nat.le_refl _) (.cells #[] 3))
          have hl2s := HL2.out.size
          have HXL := Lib.hid ((HXI.out.below HL2.out).more hl2s)
          have HO3 := Lib.hid (HO2.out.below HL2.out)
          have HBW3 := Lib.hid (HBW2.out.trans (HL2.out.mono (by omega)))
          have hwl : w.heap.size ≤ W2.heap.size := HBW2.out.size
          have HPN := Lib.hid (fun (r : RD) (hr : r.zs = zs) (h : (ro.map RD.zs).getLast? ≠ some zs) => (show mergeF (ma + mb) (qa.map RD.zs) (qb.map RD.zs) ((ro ++ [r]).map RD.zs) = R by rw [← push_new h hr]; exact HR.out))
          rcases Nat.eq_zero_or_pos no with ho0 | ho0
          · subst ho0
            have hro : ro = [] := List.length_eq_zero_iff.1 HOL.out
            have HLS := Lib.hid (show (ro.map RD.zs).getLast? ≠ some zs by rw [hro]; simp)
            clear hro HOL HXI HR
            go_wp2_with (at_builtin; first
              | (refine app_any rfl (.tmp 60) (.tmp 61) 22 rfl W2.heap.size 3 i0 8 Tryz.underlying22 hi hz0 hz1 hz2 (by decide) (some ⟨W2.heap.size, 0, none⟩) 0 0 [] rfl HL.out Ax mx cx zs rfl HZL.out HNIL.out _ HXL.out (by decide) (by omega) hl2s HSP.out ?_; intro A5 c5 w5 hown5 hgr5; rw [Nat.zero_add] at hown5 ⊢; have hr5 := HO3.out.grown hgr5 (fun k hk => by simp only [Option.map_some, Option.some.injEq] at hk; omega); have HB5 := Lib.hid (HBW3.out.grown hgr5 (by omega) (fun k hk => by simp only [Option.map_some, Option.some.injEq] at hk; omega)); have hs5 := hgr5.size)
              | (refine app_more rfl (.tmp 59) (.tmp 63) 63 rfl w.heap.size 22 i1 (.slice none 0 0) 24 Tryz.underlying63 hj hy0 hy1 hy2 (by decide) rfl _ _ _ _ rfl hr5.1 (.slice A5 mx c5) rfl _ rfl rfl (by omega) (by omega) ?_; intro g6 c6 w6 hown6 hgr6))
            have HSN := Lib.hid (SSRow.snoc (zs := zs) (A1 := A5) (c1 := c5) hr5 hsz (by rw [HZL.out]; exact own_mono hown5 (by omega)) (by rw [HZL.out]; exact hown6) hgr6)
            have HB6 := Lib.hid (HB5.out.grown hgr6 (by omega) (fun k hk => hr5.outlo k hk))
            have HR6 := Lib.hid (HPN.out ⟨A5, c5, zs⟩ rfl HLS.out)
            clear hr5 hown5 hown6 hgr5 hgr6
            go_roundg (ma + mb)
            case measure => omega
            case rel => exact ⟨Aa, ma, ca, qa, Ab, mb, cb, qb, _, 0 + 1, c6, _, rfl, rfl, rfl, rfl, hca, hcb, by omega, HNA, HNB, HA, HB, HOA, HOB, HSN, HR6, HB6⟩
          · obtain ⟨m, rfl⟩ : ∃ m, no = m + 1 := ⟨no - 1, by omega⟩
            obtain ⟨g, rfl, hc⟩ := HO2.out.cell m (by omega)
            have hri := (HO2.out.2.1 m (by rw [HOL.out]; omega)).at_
            have HLA := Lib.hid (last_at HOL.out)
            have hml : (ro.getD m rd0).zs.length ≤ 9223372036854775807 := by
              have hr := HO2.out.2.1 m (by rw [HOL.out]; omega)
              rcases hr.1.2 with ⟨_, h0⟩ | ⟨g', cap', cur', hv', _, _, hn', hm', _⟩
              · omega
              · unfold maxLen at hm'; omega
            simp only [RD.v] at hc
            generalize (ro.getD m rd0).A = A7 at *
            generalize (ro.getD m rd0).c = c7 at *
            generalize (ro.getD m rd0).zs = us at *
            obtain ⟨m7, hm7⟩ : ∃ m, m = us.length := ⟨_, rfl⟩
            rw [← hm7] at hc hml
            have HSA := Lib.hid (spec_same A7 Ax m7 mx c7 cx us zs W2 hm7.symm HZL.out (by omega) (by omega) hri HXI.out)
            clear hri hm7 HOL HXI
            cases hs : sameB us zs with
            | true =>
              have HEQ := Lib.hid (show us = zs from of_decide_eq_true hs)
              have HRO := Lib.hid (show mergeF (ma + mb) (qa.map RD.zs) (qb.map RD.zs) (ro.map RD.zs) = R by rw [← push_old (ro := ro) (zs := zs) (by rw [HLA.out, HEQ.out])]; exact HR.out)
              have HO4 := Lib.hid (HO2.out.higher (hi' := W2.heap.size) (by omega) (Nat.le_refl _))
              clear HR HPN HEQ HLA
              go_wp2_with fail
              refine HSA.out.mono ?_
              rintro e w' ⟨rfl, rfl⟩
              rw [hs]
              clear hs HSA
              go_wp2
              go_roundg (ma + mb)
              case measure => omega
              case rel => exact ⟨Aa, ma, ca, qa, Ab, mb, cb, qb, _, m + 1, co, ro, rfl, rfl, rfl, rfl, hca, hcb, by omega, HNA, HNB, HA, HB, HOA, HOB, HO4, HRO, HBW2⟩
            | false =>
              have HLS := Lib.hid (show (ro.map RD.zs).getLast? ≠ some zs by rw [HLA.out]; intro h; simp only [Option.some.injEq] at h; exact absurd h (of_decide_eq_false hs))
              clear HR HLA
              go_wp2_with fail
              refine HSA.out.mono ?_
              rintro e w' ⟨rfl, rfl⟩
              rw [hs]
              clear hs HSA
              go_wp2_with (at_builtin; first
                | (refine app_any rfl (.tmp 60) (.tmp 61) 22 rfl W2.heap.size 3 i0 8 Tryz.underlying22 hi hz0 hz1 hz2 (by decide) (some ⟨W2.heap.size, 0, none⟩) 0 0 [] rfl HL.out Ax mx cx zs rfl HZL.out HNIL.out _ HXL.out (by decide) (by omega) hl2s HSP.out ?_; intro A5 c5 w5 hown5 hgr5; rw [Nat.zero_add] at hown5 ⊢; have hr5 := HO3.out.grown hgr5 (fun k hk => by simp only [Option.map_some, Option.some.injEq] at hk; omega); have HB5 := Lib.hid (HBW3.out.grown hgr5 (by omega) (fun k hk => by simp only [Option.map_some, Option.some.injEq] at hk; omega)); have hs5 := hgr5.size)
                | (refine app_more rfl (.tmp 59) (.tmp 63) 63 rfl w.heap.size 22 i1 (.slice none 0 0) 24 Tryz.underlying63 hj hy0 hy1 hy2 (by decide) rfl _ _ _ _ rfl hr5.1 (.slice A5 mx c5) rfl _ rfl rfl (by omega) (by omega) ?_; intro g6 c6 w6 hown6 hgr6))
              have HSN := Lib.hid (SSRow.snoc (zs := zs) (A1 := A5) (c1 := c5) hr5 hsz (by rw [HZL.out]; exact own_mono hown5 (by omega)) (by rw [HZL.out]; exact hown6) hgr6)
              have HB6 := Lib.hid (HB5.out.grown hgr6 (by omega) (fun k hk => hr5.outlo k hk))
              have HR6 := Lib.hid (HPN.out ⟨A5, c5, zs⟩ rfl HLS.out)
              clear hr5 hown5 hown6 hgr5 hgr6
              go_roundg (ma + mb)
              case measure => omega
              case rel => exact ⟨Aa, ma, ca, qa, Ab, mb, cb, qb, _, m + 1 + 1, c6, _, rfl, rfl, rfl, rfl, hca, hcb, by omega, HNA, HNB, HA, HB, HOA, HOB, HSN, HR6, HB6⟩
end Go.Proofs.YtibephoepkofnaaGreat.Spm

namespace Go.Proofs.YtibephoepkofnaaGreat.Sps
open Go.RowKit Fr Own Ins Rws Sam Srt Sst Spl Cat Spm

theorem rows_ok {W : World} {lo hi : Nat} {A : Option Addr} {n c : Nat} {rs : List RD} (h : SSRow W lo hi A n c rs) (hz : ∀ x ∈ rs.map RD.zs, x.length ≤ 1048576) : RowsOk rs := by
  intro i hi'
  have hr := (h.2.1 i hi').1
  refine ⟨hz _ (List.mem_map.2 ⟨rs.getD i rd0, ?_, rfl⟩), ?_, ?_⟩
  · rw [List.getD_eq_getElem?_getD, List.getElem?_eq_getElem hi']; exact List.getElem_mem _
  · intro e
    rcases hr.2 with ⟨hv, _⟩ | ⟨g, cap, cur, hv, _⟩
    · simp only [Value.slice.injEq] at hv; exact hv.2.2
    · rw [e] at hv; simp only [Value.slice.injEq] at hv; exact absurd hv.1 (by simp)
  · intro a e
    rcases hr.2 with ⟨hv, _⟩ | ⟨g, cap, cur, hv, _⟩
    · rw [e] at hv; simp only [Value.slice.injEq] at hv; exact absurd hv.1 (by simp)
    · rw [e] at hv; simp only [Value.slice.injEq, Option.some.injEq] at hv; rw [hv.1]
theorem ss_cap {W : World} {lo hi : Nat} {A : Option Addr} {n c : Nat} {rs : List RD} (h : SSRow W lo hi A n c rs) : n ≤ c := by
  rcases h.1.2 with ⟨hv, hn⟩ | ⟨g, cap, cur, hv, _, _, hn, _⟩
  · omega
  · simp only [Value.slice.injEq] at hv; omega
theorem ok_len {rs : List RD} (h : RowsOk rs) : ∀ x ∈ rs.map RD.zs, x.length ≤ 1048576 := by
  intro x hx
  obtain ⟨r, hr, rfl⟩ := List.mem_map.1 hx
  obtain ⟨i, hi, rfl⟩ := List.getElem_of_mem hr
  have := (h i hi).1
  rw [List.getD_eq_getElem?_getD, List.getElem?_eq_getElem hi] at this
  exact this
theorem cano_len {l : List (List Int)} (h : ∀ x ∈ l, x.length ≤ 1048576) : ∀ x ∈ cano l, x.length ≤ 1048576 := fun x hx => h x ((cano_mem l x).1 hx)
theorem take_len {l : List RD} (k : Nat) (h : ∀ x ∈ l.map RD.zs, x.length ≤ 1048576) : ∀ x ∈ (l.take k).map RD.zs, x.length ≤ 1048576 := fun x hx => h x (by
  obtain ⟨r, hr, rfl⟩ := List.mem_map.1 hx
  exact List.mem_map.2 ⟨r, List.mem_of_mem_take hr, rfl⟩)
theorem drop_len {l : List RD} (k : Nat) (h : ∀ x ∈ l.map RD.zs, x.length ≤ 1048576) : ∀ x ∈ (l.drop k).map RD.zs, x.length ≤ 1048576 := fun x hx => h x (by
  obtain ⟨r, hr, rfl⟩ := List.mem_map.1 hx
  exact List.mem_map.2 ⟨r, List.mem_of_mem_drop hr, rfl⟩)
theorem ss_mono {B B' : Nat} {zss : List (List Int)} {w w0 w' : World} {e : Ending} (h : IsSS B' zss w e w') (hb : Below B w0 w) (hB : B ≤ B') (hs : B ≤ w.heap.size) : IsSS B zss w0 e w' := by
  obtain ⟨A, c, rs, h1, h2, h3, h4⟩ := h
  refine ⟨A, c, rs, h1, h2, ⟨own_mono h3.1 hB, fun i hi => ⟨own_mono (h3.2.1 i hi).1 hB, (h3.2.1 i hi).2⟩, h3.2.2⟩, hb.trans (h4.mono hB)⟩
set_option maxHeartbeats 4000000 in
set_option maxRecDepth 20000 in
theorem sort_any (n : Nat) : ∀ (A : Option Addr) (c : Nat) (rs : List RD) (w : World), rs.length = n → SSAt w w.heap.size A rs → RowsOk rs → n ≤ c → n ≤ 2097152 →
    Calls Tryz.prog 54 #[.slice A n c] w (IsSS w.heap.size (cano (rs.map RD.zs)) w) := by
  induction n using Nat.strongRecOn with
  | _ n ih =>
    intro A c rs w hn hat hok hc hn2
    by_cases h2 : n < 2
    · have HM := Lib.hid (merge_any A n c rs none 0 0 [] w hn rfl hat (SSAt.nil _ _ _) hok RowsOk.nil hc (Nat.le_refl _) (by omega))
      have HE := Lib.hid (cano_short (l := rs.map RD.zs) (by rw [List.length_map, hn]; exact h2))
      clear hat hok ih
      go_enter Tryz.func54, Tryz.ntmps54
      go_wp2_with fail
      refine HM.out.mono ?_
      rintro e w1 ⟨A1, c1, rs1, rfl, hz, hr, hb⟩
      have HX := Lib.hid (show IsSS w.heap.size (cano (rs.map RD.zs)) w (.returned (.slice A1 (mergeL (rs.map RD.zs) (([] : List RD).map RD.zs)).length c1)) w1 from ⟨A1, c1, rs1, by rw [← HE.out]; rfl, hz.trans HE.out, by rw [← HE.out]; exact hr, hb⟩)
      clear hz hr hb HM
      go_wp2
      go_ret
      exact HX.out
    · obtain ⟨b, o, rfl⟩ : ∃ b o, A = some ⟨b, o, none⟩ := by
        obtain ⟨b, o, e, _⟩ := hat 0 (by omega)
        exact ⟨b, o, e⟩
      obtain ⟨h, hh⟩ : ∃ h, h = n / 2 := ⟨_, rfl⟩
      have hh1 : 1 ≤ h := by omega
      have hh2 : h < n := by omega
      have HDIV := Lib.hid (show (n : Int) / 2 = (h : Int) by omega)
      have L1 := Lib.hid (show (rs.take h).length = h by rw [List.length_take, hn]; omega)
      have L2 := Lib.hid (show (rs.drop h).length = n - h by rw [List.length_drop, hn])
      have S1 := Lib.hid (fun w' (hb : Below w.heap.size w w') => ih h hh2 (some ⟨b, o, none⟩) c (rs.take h) w' L1.out ((SSAt.take h hat).below hb |>.more hb.size) (hok.take h) (by omega) (by omega))
      have S2 := Lib.hid (fun w' (hb : Below w.heap.size w w') => ih (n - h) (by omega) (some ⟨b, o + h, none⟩) (c - h) (rs.drop h) w' L2.out ((SSAt.drop h hat).below hb |>.more hb.size) (hok.drop h) (by omega) (by omega))
      have Z0 := ok_len hok
      have Z1 := Lib.hid (cano_len (take_len h Z0))
      have Z2 := Lib.hid (cano_len (drop_len h Z0))
      have C1 := Lib.hid (show (cano ((rs.take h).map RD.zs)).length ≤ h by have := (cano_size ((rs.take h).map RD.zs)).1; rw [List.length_map, L1.out] at this; exact this)
      have C2 := Lib.hid (show (cano ((rs.drop h).map RD.zs)).length ≤ n - h by have := (cano_size ((rs.drop h).map RD.zs)).1; rw [List.length_map, L2.out] at this; exact this)
      have HE := Lib.hid (show mergeL (cano ((rs.take h).map RD.zs)) (cano ((rs.drop h).map RD.zs)) = cano (rs.map RD.zs) by rw [cano_merge, ← List.map_append, List.take_append_drop])
      obtain ⟨X1, hX1⟩ : ∃ X, X = cano ((rs.take h).map RD.zs) := ⟨_, rfl⟩
      obtain ⟨X2, hX2⟩ : ∃ X, X = cano ((rs.drop h).map RD.zs) := ⟨_, rfl⟩
      obtain ⟨X, hX⟩ : ∃ X, X = cano (rs.map RD.zs) := ⟨_, rfl⟩
      rw [← hX1] at S1 Z1 C1 HE
      rw [← hX2] at S2 Z2 C2 HE
      rw [← hX] at HE
      rw [← hX]
      clear hX1 hX2 hX
      have hch : ¬ c = h := by omega
      have h0i : (0 : Int) ≤ (h : Int) := by omega
      have hhi : (h : Int) ≤ (n : Int) := by omega
      have hhc : (h : Int) ≤ (c : Int) := by omega
      clear ih hat hok Z0 hh
      go_enter Tryz.func54, Tryz.ntmps54
      go_upto_region 4 with fail
      rw [HDIV.out]
      have hd0 : Below w.heap.size w w.drew := (Below.refl _ _).drew
      go_region_held3 (fun _ => True) ((first | exact trivial)) ((first
        | (go_at_call 54; refine (S2.out _ hbw1).mono ?_; rintro e w2 ⟨A2, c2, rs2, rfl, hz2, hr2, hb2⟩; have hr1' := hr1.below hb2; have hbw2 := hbw1.trans (hb2.mono hbw1.size))
        | (go_at_call 54; refine (S1.out _ hd0).mono ?_; rintro e w1 ⟨A1, c1, rs1, rfl, hz1, hr1, hb1⟩; have hbw1 := hd0.trans (hb1.mono (Nat.le_refl _)))
        | (go_at_call 69; refine (merge_any A1 _ c1 rs1 A2 _ c2 rs2 _ hr1'.len hr2.len ((at_of hr1')) ((at_of hr2)) (rows_ok hr1' (by rw [hz1]; exact Z1.out)) (rows_ok hr2 (by rw [hz2]; exact Z2.out)) (ss_cap hr1') (ss_cap hr2) (by have h1 := C1.out; have h2 := C2.out; omega)).mono ?_; rintro e w3 ⟨A3, c3, rs3, rfl, hz3, hr3, hb3⟩)))
      have h4 := ss_mono (e := .returned (.slice A3 (mergeL (rs1.map RD.zs) (rs2.map RD.zs)).length c3)) ⟨A3, c3, rs3, rfl, hz3, hr3, hb3⟩ hbw2 hbw2.size hbw2.size
      have he4 : mergeL (rs1.map RD.zs) (rs2.map RD.zs) = X := by rw [hz1, hz2, HE.out]
      rw [he4] at h4
      rw [HE.out]
      have H4 := Lib.hid h4
      clear h4 he4 hz1 hz2 hr1 hr2 hr1' hb1 hb2 hz3 hr3 hb3
      go_wp2
      go_ret
      exact H4.out
end Go.Proofs.YtibephoepkofnaaGreat.Sps
