/- Where a list lies in a list of lists (l12Index), and whether a message shows cards of a hand (l12Shown). -/
import Derived.Test.YtingbpkbdafgeaaFnd
import Derived.Test.YtingbpkbdafgeaaPok
import Derived.BigQuiet
import Derived.Deep.RegionHeld3
set_option linter.unusedVariables false
set_option maxRecDepth 20000
namespace Go.Proofs.Ytingbpkbdafgeaa.Hix
open Go.RowKit Fr _root_.Go.Proofs.Ytingbpkbdafgeaa.Own Pk Ins Rws Sam Fnd

/-- the first place of q in L, or -1 -/
def idxI (q : List Int) (L : List (List Int)) : Int := if q ∈ L then (L.idxOf q : Int) else -1
theorem idx_at {q : List Int} {ls : List RD} {k : Nat} (hk : k < ls.length) (h0 : inK q ls k = false) (h1 : (ls.getD k rd0).zs = q) : idxI q (ls.map RD.zs) = (k : Int) := by
  unfold inK at h0
  have hn : ¬ q ∈ (ls.map RD.zs).take k := by
    rw [← List.map_take]
    exact of_decide_eq_false h0
  have hq : (ls.map RD.zs)[k]'(by rw [List.length_map]; exact hk) = q := by
    rw [List.getElem_map]
    rw [List.getD_eq_getElem?_getD, List.getElem?_eq_getElem hk] at h1
    exact h1
  have hkl : k < (ls.map RD.zs).length := by rw [List.length_map]; exact hk
  have hm : q ∈ ls.map RD.zs := by
    rw [← hq]
    exact List.getElem_mem _
  unfold idxI
  rw [if_pos hm]
  have e : ls.map RD.zs = (ls.map RD.zs).take k ++ q :: (ls.map RD.zs).drop (k + 1) := by
    rw [← hq, ← List.drop_eq_getElem_cons hkl, List.take_append_drop]
  rw [e, List.idxOf_append, if_neg hn, List.idxOf_cons_self, List.length_take, Nat.zero_add, Nat.min_eq_left (by omega)]
theorem idx_not {q : List Int} {ls : List RD} {n : Nat} (hn : ls.length = n) (h0 : inK q ls n = false) : idxI q (ls.map RD.zs) = -1 := by
  unfold inK at h0
  rw [← hn, List.take_length] at h0
  unfold idxI
  rw [if_neg (of_decide_eq_false h0)]
set_option maxHeartbeats 1000000 in
theorem spec_index (A B : Option Addr) (n c nq cq : Nat) (ls : List RD) (q : List Int) (w : World) (hn : ls.length = n) (hat : LL w A ls) (hz : ∀ i, i < n → (ls.getD i rd0).zs.length ≤ 1048576) (hn2 : n ≤ 1048576)
    (hq : q.length = nq) (hq2 : nq ≤ 9223372036854775807) (hqat : IntsAt w w.heap.size .i64 B q) :
    Calls Try.prog 69 #[.slice A n c, .slice B nq cq] w fun e w' => e = .returned (.int .i64 (idxI q (ls.map RD.zs))) ∧ w = w' := by
  have HN := Lib.hid hn
  have HZ := Lib.hid hz
  have HAT := Lib.hid hat
  have HQ := Lib.hid hqat
  obtain ⟨R, hR⟩ : ∃ R, R = idxI q (ls.map RD.zs) := ⟨_, rfl⟩
  rw [← hR]
  have HR := Lib.hid hR
  clear hR hn hz hat hqat
  go_enter Try.func69, Try.ntmps69
  go_wp2
  go_loop [9] (fun i => ∃ k : Nat, k ≤ n ∧ i = .int .i64 (k : Int) ∧ Hid (inK q ls k = false)) (fun i => n - (intOf i).toNat)
  case atStart => exact ⟨0, Nat.zero_le _, rfl, (show inK q ls 0 = false from by unfold inK; simp)⟩
  case round =>
    obtain ⟨k, hk, rfl, HF⟩ := hrel
    by_cases hlt : k < n
    · obtain ⟨b, o, rfl, hc, hi⟩ := HAT.out k (by rw [HN.out]; exact hlt)
      have hzk := HZ.out k hlt
      have HE := Lib.hid (inK_next (q := q) (ls := ls) (k := k) (by rw [HN.out]; exact hlt))
      have HIX := Lib.hid (show (ls.getD k rd0).zs = q → R = (k : Int) from fun h => by rw [HR.out]; exact idx_at (by rw [HN.out]; exact hlt) HF.out h)
      generalize ls.getD k rd0 = r at *
      obtain ⟨B1, d1, zs⟩ := r
      simp only [RD.v] at hc hi hzk HE HIX
      have C := spec_same B B1 nq zs.length cq d1 q zs w hq rfl hq2 (by omega) HQ.out hi
      clear hi
      go_wp2_with fail
      refine C.mono ?_
      rintro e w' ⟨rfl, rfl⟩
      by_cases hb : zs = q
      · have HT := Lib.hid (HIX.out hb)
        have HSB := Lib.hid (show sameB q zs = true from decide_eq_true hb.symm)
        rw [HSB.out]
        clear hb C
        go_wp2
        go_ret
        exact ⟨by rw [HT.out]; rfl, rfl⟩
      · have HT := Lib.hid (show inK q ls (k + 1) = false by rw [HE.out, HF.out, decide_eq_false hb]; rfl)
        have HSB := Lib.hid (show sameB q zs = false from decide_eq_false (fun h => hb h.symm))
        rw [HSB.out]
        clear hb C
        go_wp2
        go_round
        case rel => exact ⟨k + 1, by omega, by go_num, HT⟩
        case measure => simp [intOf]; omega
    · have hkn : k = n := by omega
      subst hkn
      have HT := Lib.hid (show R = -1 by rw [HR.out]; exact idx_not HN.out HF.out)
      go_wp2
      go_ret
      exact ⟨by rw [HT.out]; rfl, rfl⟩
/-- the first k elements of m are different elements of the hand -/
def shTo (h m : List Int) (k : Nat) : Bool := (List.range k).all fun i => decide (m.getD i 0 ∈ h) && !decide (m.getD i 0 ∈ m.take i)
def shownB (h m : List Int) : Bool := decide (m.length + 1 = h.length) && shTo h m m.length
theorem sh_next (h m : List Int) (k : Nat) : shTo h m (k + 1) = (shTo h m k && (decide (m.getD k 0 ∈ h) && !decide (m.getD k 0 ∈ m.take k))) := by
  unfold shTo
  rw [List.range_succ, List.all_append]
  simp
theorem sh_more {h m : List Int} {k n : Nat} (hk : k ≤ n) (e : shTo h m k = false) : shTo h m n = false := by
  unfold shTo at *
  rw [Bool.eq_false_iff] at *
  intro e2
  apply e
  rw [List.all_eq_true] at *
  exact fun i hi => e2 i (List.mem_range.2 (Nat.lt_of_lt_of_le (List.mem_range.1 hi) hk))
theorem ints_take {w : World} {B : Nat} {A : Option Addr} {zs : List Int} (k : Nat) (h : IntsAt w B .i64 A zs) : IntsAt w B .i64 A (zs.take k) := by
  intro j hj
  rw [List.length_take] at hj
  obtain ⟨b, o, hA, hlt, hc⟩ := h j (by omega)
  refine ⟨b, o, hA, hlt, hc.trans ?_⟩
  simp only [List.getD_eq_getElem?_getD]
  rw [List.getElem?_take, if_pos (by omega)]
set_option maxHeartbeats 1000000 in
theorem spec_shown (A B : Option Addr) (nh ch nm cm : Nat) (h m : List Int) (w : World) (hh : h.length = nh) (hh2 : nh ≤ 1048576) (hm : m.length = nm) (hm2 : nm ≤ 1048576) (hmc : nm ≤ cm) (hat : IntsAt w w.heap.size .i64 A h) (mat : IntsAt w w.heap.size .i64 B m) :
    Calls Try.prog 65 #[.slice A nh ch, .slice B nm cm] w fun e w' => e = .returned (.bool (shownB h m)) ∧ w = w' := by
  have HH := Lib.hid hh
  have HM := Lib.hid hm
  have HAT := Lib.hid hat
  have MAT := Lib.hid mat
  clear hat mat
  by_cases hl : nm + 1 = nh
  · have hl2 : (((nm : Nat) : Int) == ((nh : Nat) : Int) - 1) = true := by rw [beq_iff_eq]; omega
    have HR := Lib.hid (show shownB h m = shTo h m nm by unfold shownB; rw [hm, hh, decide_eq_true hl]; rfl)
    obtain ⟨R, hR⟩ : ∃ R, R = shownB h m := ⟨_, rfl⟩
    rw [← hR] at HR ⊢
    have hsub : (nh : Int) - 1 = (nm : Int) := by omega
    clear hR hh hm
    go_enter Try.func65, Try.ntmps65
    go_wp2
    go_loop [15] (fun i => ∃ k : Nat, k ≤ nm ∧ i = .int .i64 (k : Int) ∧ Hid (shTo h m k = true)) (fun i => nm - (intOf i).toNat)
    case atStart => exact ⟨0, Nat.zero_le _, rfl, (show shTo h m 0 = true from rfl)⟩
    case round =>
      obtain ⟨k, hk, rfl, HF⟩ := hrel
      by_cases hlt : k < nm
      · obtain ⟨b, o, rfl, hbl, hcx⟩ := MAT.out k (by rw [HM.out]; exact hlt)
        have HN := Lib.hid (sh_next h m k)
        have HMO := Lib.hid (show shTo h m (k + 1) = false → R = false from fun e => by rw [HR.out]; exact sh_more (by omega) e)
        generalize m.getD k 0 = x at hcx HN
        have C1 := Lib.hid (Pok.has_any A nh ch h x w HH.out (by omega) HAT.out)
        have C2 := Lib.hid (Pok.has_any (some ⟨b, o, none⟩) k cm (m.take k) x w (by rw [List.length_take, HM.out]; omega) (by omega) (ints_take k MAT.out))
        have hkc : k ≤ cm := by omega
        go_wp2_with fail
        refine C1.out.mono ?_
        rintro e w' ⟨rfl, rfl⟩
        by_cases h1 : x ∈ h
        · have HB1 := Lib.hid (show Pok.hasB h x = true from decide_eq_true h1)
          rw [HB1.out]
          go_wp2_with fail
          refine C2.out.mono ?_
          rintro e w' ⟨rfl, rfl⟩
          by_cases h2 : x ∈ m.take k
          · have HB2 := Lib.hid (show Pok.hasB (m.take k) x = true from decide_eq_true h2)
            have HT := Lib.hid (HMO.out (by rw [HN.out, decide_eq_true h2, Bool.not_true, Bool.and_false, Bool.and_false]))
            rw [HB2.out]
            go_wp2
            go_ret
            exact ⟨by rw [HT.out]; rfl, rfl⟩
          · have HB2 := Lib.hid (show Pok.hasB (m.take k) x = false from decide_eq_false h2)
            have HT := Lib.hid (show shTo h m (k + 1) = true by rw [HN.out, HF.out, decide_eq_true h1, decide_eq_false h2]; rfl)
            rw [HB2.out]
            go_wp2
            go_round
            case rel => exact ⟨k + 1, by omega, by go_num, HT⟩
            case measure => simp [intOf]; omega
        · have HB1 := Lib.hid (show Pok.hasB h x = false from decide_eq_false h1)
          have HT := Lib.hid (HMO.out (by rw [HN.out, decide_eq_false h1, Bool.false_and, Bool.and_false]))
          rw [HB1.out]
          go_wp2
          go_ret
          exact ⟨by rw [HT.out]; rfl, rfl⟩
      · have hkn : k = nm := by omega
        subst hkn
        go_wp2
        go_ret
        exact ⟨by rw [HR.out, HF.out]; rfl, rfl⟩
  · have hl2 : ¬ ((nm : Int) = (nh : Int) - 1) := by omega
    have HR := Lib.hid (show shownB h m = false by unfold shownB; rw [hm, hh, decide_eq_false hl]; rfl)
    clear hh hm
    go_enter Try.func65, Try.ntmps65
    go_wp2
    go_ret
    exact ⟨by rw [HR.out]; rfl, rfl⟩
end Go.Proofs.Ytingbpkbdafgeaa.Hix
