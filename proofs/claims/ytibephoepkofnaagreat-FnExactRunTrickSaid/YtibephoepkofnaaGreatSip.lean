/- slices.Compare of two lists of ints. slices.SortFunc of a list of lists by slices.Compare. slices.CompactFunc of a list of lists by SamePacket. Lists of lists that the laws hold against each other: how great they may be; a list of lists and a bool as the results of a call. How the program sorts lists of lists (SortPackets). -/
import Derived.Test.YtibephoepkofnaaGreatSrt
import Derived.Test.YtibephoepkofnaaGreatBig
import Derived.Test.YtibephoepkofnaaGreatSame
import Derived.Test.YtibephoepkofnaaGreatShelf2
import Derived.Lib.SliceRun
import Derived.Deep.LoopGhost
import Derived.BigQuiet
import Derived.Test.YtibephoepkofnaaGreatLb
import Derived.Test.YtibephoepkofnaaGreatSps
set_option linter.unusedVariables false
set_option maxRecDepth 20000
namespace Go.Proofs.YtibephoepkofnaaGreat.Cmp
open Go.RowKit Fr Own Ins Sam Srt

/-- before, equal or behind -/
def cmpF : List Int → List Int → Int
  | [], [] => 0
  | [], _ :: _ => -1
  | _ :: _, [] => 1
  | x :: a, y :: b => if x = y then cmpF a b else if x < y then -1 else 1
theorem cmp_less : ∀ a b, (cmpF a b < 0) ↔ lessL a b = true
  | [], [] => by simp [cmpF, lessL]
  | [], _ :: _ => by simp [cmpF, lessL]
  | _ :: _, [] => by simp [cmpF, lessL]
  | x :: a, y :: b => by
    rw [cmpF, lessL]
    by_cases h : x = y
    · rw [if_pos h, if_pos h]; exact cmp_less a b
    · rw [if_neg h, if_neg h]
      by_cases h2 : x < y
      · rw [if_pos h2]; simp [h2]
      · rw [if_neg h2]; simp [h2]
theorem cmp_zero : ∀ a b, (cmpF a b = 0) ↔ a = b
  | [], [] => by simp [cmpF]
  | [], _ :: _ => by simp [cmpF]
  | _ :: _, [] => by simp [cmpF]
  | x :: a, y :: b => by
    rw [cmpF]
    by_cases h : x = y
    · rw [if_pos h, cmp_zero a b, h]; simp
    · rw [if_neg h]
      by_cases h2 : x < y
      · rw [if_pos h2]; simp [h]
      · rw [if_neg h2]; simp [h]
theorem cmp_step {us vs : List Int} {k : Nat} (h1 : k < us.length) (h2 : k < vs.length) :
    cmpF (us.drop k) (vs.drop k) = if us.getD k 0 = vs.getD k 0 then cmpF (us.drop (k + 1)) (vs.drop (k + 1)) else if us.getD k 0 < vs.getD k 0 then -1 else 1 := by
  rw [List.drop_eq_getElem_cons h1, List.drop_eq_getElem_cons h2, cmpF]
  simp only [List.getD_eq_getElem?_getD, List.getElem?_eq_getElem h1, List.getElem?_eq_getElem h2, Option.getD_some]
theorem cmp_out {us vs : List Int} {k : Nat} (h1 : k < us.length) (h2 : vs.length ≤ k) : cmpF (us.drop k) (vs.drop k) = 1 := by
  rw [List.drop_eq_getElem_cons h1, List.drop_eq_nil_of_le h2, cmpF]
theorem cmp_end {us vs : List Int} : cmpF (us.drop us.length) (vs.drop us.length) = if us.length < vs.length then -1 else 0 := by
  rw [List.drop_eq_nil_of_le (Nat.le_refl _)]
  by_cases h : us.length < vs.length
  · rw [List.drop_eq_getElem_cons h, cmpF, if_pos h]
  · rw [List.drop_eq_nil_of_le (by omega), cmpF, if_neg h]
theorem ret_i {a b : Int} (h : a = b) : Ending.returned (.int .i64 a) = .returned (.int .i64 b) := by rw [h]
set_option maxHeartbeats 1000000 in
theorem compare_any (A1 A2 : Option Addr) (n m c1 c2 B1 B2 : Nat) (us vs : List Int) (w : World) (hn : us.length = n) (hm : vs.length = m) (hn2 : n ≤ 9223372036854775807) (hm2 : m ≤ 9223372036854775807) (h1 : IntsAt w B1 .i64 A1 us) (h2 : IntsAt w B2 .i64 A2 vs) :
    Calls Tryz.prog 78 #[.slice A1 n c1, .slice A2 m c2] w fun e w' => e = .returned (.int .i64 (cmpF us vs)) ∧ w = w' := by
  have HN := Lib.hid hn
  have HM := Lib.hid hm
  obtain ⟨R, hR⟩ : ∃ R, R = cmpF us vs := ⟨_, rfl⟩
  rw [← hR]
  have HR0 := Lib.hid (show cmpF (us.drop 0) (vs.drop 0) = R by rw [List.drop_zero, List.drop_zero, hR])
  clear hn hm hR
  go_enter Tryz.func78, Tryz.ntmps78
  go_wp2
  go_loop [5, 6, 7, 8, 11] (fun _ _ _ _ ix => ∃ k : Nat, k ≤ n ∧ k ≤ m ∧ ix = .int .i64 (k : Int) ∧ Hid (cmpF (us.drop k) (vs.drop k) = R)) (fun _ _ _ _ ix => n - (intOf ix).toNat)
  case atStart => exact ⟨0, Nat.zero_le _, Nat.zero_le _, rfl, HR0⟩
  case round =>
    obtain ⟨k, hk, hkm, rfl, HRK⟩ := hrel
    clear HR0
    by_cases hlt : k < n
    · obtain ⟨b1, o1, rfl, hbb1, hc1⟩ := h1 k (by rw [HN.out]; exact hlt)
      by_cases hlm : k < m
      · obtain ⟨b2, o2, rfl, hbb2, hc2⟩ := h2 k (by rw [HM.out]; exact hlm)
        have HST := Lib.hid ((cmp_step (us := us) (vs := vs) (k := k) (by rw [HN.out]; exact hlt) (by rw [HM.out]; exact hlm)).symm.trans HRK.out)
        generalize us.getD k 0 = x at *
        generalize vs.getD k 0 = y at *
        clear h1 h2 HRK
        by_cases hxy : x = y
        · subst hxy
          have HS2 := Lib.hid (show cmpF (us.drop (k + 1)) (vs.drop (k + 1)) = R by have h := HST.out; rw [if_pos rfl] at h; exact h)
          clear HST
          go_wp2_with fail
          refine (Tryz.cmp_Compare_int x x _).mono ?_
          rintro e w' ⟨rfl, rfl⟩
          have hz : Lib.compareInt x x = 0 := by simp [Lib.compareInt]
          rw [hz]
          clear hz
          go_wp2
          go_round
          case rel => exact ⟨k + 1, by omega, by omega, by go_num, HS2⟩
          case measure => simp [intOf]; omega
        · have HS2 := Lib.hid (show Lib.compareInt x y = R by
            have h := HST.out
            rw [if_neg hxy] at h
            rw [← h]
            by_cases h2 : x < y
            · simp [Lib.compareInt, h2]
            · simp [Lib.compareInt, h2, show x > y by omega])
          have hne : ((Lib.compareInt x y) == 0) = false := by
            by_cases h2 : x < y
            · simp [Lib.compareInt, h2]
            · simp [Lib.compareInt, h2, show x > y by omega]
          clear HST
          go_wp2_with fail
          refine (Tryz.cmp_Compare_int x y _).mono ?_
          rintro e w' ⟨rfl, rfl⟩
          generalize Lib.compareInt x y = z at *
          go_wp2
          go_ret
          exact ⟨ret_i HS2.out, rfl⟩
      · have HS2 := Lib.hid (show 1 = R by rw [← HRK.out, cmp_out (by rw [HN.out]; exact hlt) (by rw [HM.out]; omega)])
        have hge : (m : Int) ≤ (k : Int) := by omega
        clear HRK h1 h2
        go_wp2
        go_ret
        exact ⟨ret_i HS2.out, rfl⟩
    · have hkn : k = n := by omega
      have HS2 := Lib.hid (show (if n < m then -1 else 0) = R by rw [← HRK.out, hkn, ← HN.out, cmp_end, HM.out])
      clear HRK h1 h2 hlt
      by_cases hlm : n < m
      · have HS3 := Lib.hid (show -1 = R by rw [← HS2.out, if_pos hlm])
        have hd : (n : Int) < (m : Int) := by omega
        clear HS2
        go_wp2
        go_ret
        exact ⟨ret_i HS3.out, rfl⟩
      · have HS3 := Lib.hid (show 0 = R by rw [← HS2.out, if_neg hlm])
        have hd : (m : Int) ≤ (n : Int) := by omega
        clear HS2
        go_wp2
        go_ret
        exact ⟨ret_i HS3.out, rfl⟩
end Go.Proofs.YtibephoepkofnaaGreat.Cmp

namespace Go.Proofs.YtibephoepkofnaaGreat.Srp
open Go.RowKit Fr Own Ins Rws Srt Sst Cmp

/-- the outer row holds some of the rows, each at most once -/
theorem ss_put {W W' : World} {lo hi g n m c : Nat} {rs ss : List RD} (f : Nat → Nat) (h : SSRow W lo hi (some ⟨g, 0, none⟩) n c rs) (hg : W.grownBy W' (some g)) (hm : m ≤ n) (hl : ss.length = m)
    (hf : ∀ j, j < m → f j < n ∧ ss.getD j rd0 = rs.getD (f j) rd0) (hinj : ∀ i j, i < m → j < m → f i = f j → i = j)
    (hb : ∀ cur, W.heap[g]? = some (.cells cur 22 (0, 0)) → ∃ cur', W'.heap[g]? = some (.cells cur' 22 (0, 0)) ∧ cur'.size = cur.size ∧ cur'.toList.take m = ss.map RD.v) :
    SSRow W' lo hi (some ⟨g, 0, none⟩) m c ss := by
  have hlen := h.len
  have hk := h.outlo g rfl
  have hout : ∀ i, i < n → Row W' lo hi (rs.getD i rd0).A (rs.getD i rd0).zs.length (rs.getD i rd0).c (rs.getD i rd0).zs := by
    intro i hi'
    have hr := h.2.1 i (by omega)
    refine ⟨own_gr hr.1 hg fun k hk2 e => ?_, hr.2.1, Nat.le_trans hr.2.2 hg.size⟩
    simp only [Option.some.injEq] at e
    subst e
    exact own_diff h.1 hr.1 (by decide) g rfl hk2
  refine ⟨?_, ?_, ?_, h.2.2.2.1, Nat.le_trans h.2.2.2.2 hg.size⟩
  · refine ⟨by simp [hl], ?_⟩
    rcases h.1.2 with ⟨hv, _⟩ | ⟨g', cap, cur, hv, hg', hh, h1, h2, h3, h4⟩
    · simp at hv
    · simp only [Value.slice.injEq, Option.some.injEq, Addr.mk.injEq, and_true, true_and] at hv
      obtain ⟨rfl, rfl⟩ := hv
      obtain ⟨cur', q1, q2, q3⟩ := hb cur hh
      exact Or.inr ⟨g, c, cur', rfl, hg', q1, by omega, h2, by omega, by rw [Nat.mul_one]; exact q3⟩
  · intro i hi'
    obtain ⟨q1, q2⟩ := hf i (by omega)
    rw [q2]
    exact hout _ q1
  · intro i j hi' hj hij b hb1 hb2
    obtain ⟨q1, q2⟩ := hf i (by omega)
    obtain ⟨q3, q4⟩ := hf j (by omega)
    rw [q2] at hb1
    rw [q4] at hb2
    exact h.2.2.1 (f i) (f j) (by omega) (by omega) (fun e => hij (hinj i j (by omega) (by omega) e)) b hb1 hb2
theorem grow_grown {w : World} (os : Array Obj) (row : Option Nat) : w.grownBy (Sort.grow w os) row := ⟨rfl, rfl, rfl, by simp, fun k hk _ => Sort.heap_grow_old w os hk⟩
theorem put_grown {α : Type} [Inhabited α] (enc : α → Value) (w : World) (g off : Nat) (d : Array α) : w.grownBy (Sort.putRow enc w g off d) (some g) := by
  refine ⟨rfl, rfl, rfl, by simp, fun k hk hne => ?_⟩
  unfold Sort.putRow Sort.mapBlock
  simp only [ne_eq, Option.some.injEq] at hne
  simp only [Array.getElem?_modify]
  rw [if_neg (fun e => hne e.symm)]
theorem sort_grown {α : Type} [Inhabited α] (enc : α → Value) (w : World) (g off m : Nat) (d : Array α) (os : Array Obj) : w.grownBy (sortWorld enc w g off m d os) (some g) := by
  have h1 : w.grownBy (Sort.ahead w m) (some g) := ⟨rfl, rfl, rfl, Nat.le_refl _, fun k hk _ => rfl⟩
  exact (h1.trans (put_grown enc _ g off d)).trans (grow_grown os _)
theorem ints_grown {W W' : World} {B g : Nat} {A : Option Addr} {zs : List Int} (h : IntsAt W B .i64 A zs) (hg : W.grownBy W' (some g)) (hA : ∀ k, A.map (·.block) = some k → k ≠ g) : IntsAt W' B .i64 A zs := by
  intro j hj
  obtain ⟨b, o, rfl, hlt, hc⟩ := h j hj
  exact ⟨b, o, rfl, hlt, hg.cell hc (fun e => hA b rfl (by simpa using e))⟩
def cfR (rs : List RD) {n : Nat} (i j : Fin n) : Int := cmpF (rs.getD i.1 rd0).zs (rs.getD j.1 rd0).zs
theorem swo (rs : List RD) (n : Nat) [Inhabited (Fin n)] : Sort.SWO (ltOf (cfR rs (n := n))) := by
  have e : ∀ x y : Fin n, ltOf (cfR rs) x y = lessL (rs.getD x.1 rd0).zs (rs.getD y.1 rd0).zs := by
    intro x y
    unfold ltOf cfR
    rw [Bool.eq_iff_iff]
    simp only [decide_eq_true_eq]
    exact cmp_less _ _
  refine ⟨fun x => ?_, fun x y z h1 h2 => ?_, fun x y z h1 h2 => ?_⟩
  · rw [e]; exact less_irr _
  · rw [e] at *; exact less_trans h1 h2
  · rw [e] at *; exact le_trans h2 h1
/-- the rows behind the sort -/
theorem sort_rows (lo hi : Nat) (A : Option Addr) (n c : Nat) (rs : List RD) (w : World) (h : SSRow w lo hi A n c rs) (hn2 : n ≤ 4611686018427387903) (hz : ∀ i, i < n → (rs.getD i rd0).zs.length ≤ 1048576) :
    Calls Tryz.prog 102 #[.slice A n c, .func (.func 78) #[] #[]] w fun e w' => e = .returned (.tuple #[]) ∧
      ∃ ss, ss.Perm rs ∧ (∀ i j, i < j → j < n → leL (ss.getD i rd0).zs (ss.getD j rd0).zs) ∧ SSRow w' lo hi A n c ss ∧ w.grownBy w' (A.map (·.block)) := by
  have hlen := h.len
  rcases Nat.eq_zero_or_pos n with h0 | hpos
  · subst h0
    have hnil : rs = [] := List.length_eq_zero_iff.1 hlen
    subst hnil
    refine (Tryz.slices_SortFunc_none (α := Int) A c _ w).mono ?_
    rintro e w' ⟨rfl, rfl⟩
    exact ⟨rfl, [], List.Perm.refl _, fun i j h1 h2 => absurd h2 (Nat.not_lt_zero _), h, ⟨rfl, rfl, rfl, Nat.le_refl _, fun _ _ _ => rfl⟩⟩
  · obtain ⟨g, rfl⟩ := own_shape h.1 hpos
    haveI : Inhabited (Fin n) := ⟨⟨0, hpos⟩⟩
    obtain ⟨d, hd⟩ : ∃ d : Array (Fin n), d = Array.ofFn id := ⟨_, rfl⟩
    have hds : d.size = n := by rw [hd]; simp
    have hdg : ∀ j (hj : j < n), d[j]! = ⟨j, hj⟩ := by
      intro j hj
      rw [getElem!_pos d j (by rw [hds]; exact hj)]
      subst hd
      simp
    have hcell : ∀ (enc : Fin n → Value), (∀ i, enc i = (rs.getD i.1 rd0).v) → Sort.Holds enc w g 0 d := by
      intro enc he j hj
      rw [hds] at hj
      obtain ⟨g', e, hc⟩ := h.cell j hj
      simp only [Option.some.injEq, Addr.mk.injEq, and_true] at e
      subst e
      rw [hdg j hj, he, Nat.zero_add]
      exact ⟨hc, h.1.frozenAt j⟩
    have hat : ∀ (i : Fin n) (W : World), w.grownBy W (some g) → IntsAt W w.heap.size .i64 (rs.getD i.1 rd0).A (rs.getD i.1 rd0).zs := by
      intro i W hW
      have hr := h.2.1 i.1 (by rw [hlen]; exact i.2)
      exact ints_grown hr.at_ hW (fun k hk e => by subst e; exact own_diff h.1 hr.1 (by decide) k rfl hk)
    have hcmp : CmpLays1 Tryz.prog 78 #[] (fun i : Fin n => (rs.getD i.1 rd0).v) (cfR rs) g 0 d.size w := by
      intro m os dk hs x y
      have hw := sort_grown (fun i : Fin n => (rs.getD i.1 rd0).v) w g 0 m dk os
      refine (compare_any _ _ _ _ _ _ _ _ (rs.getD x.1 rd0).zs (rs.getD y.1 rd0).zs _ rfl rfl (by have := hz x.1 x.2; omega) (by have := hz y.1 y.2; omega) (hat x _ hw) (hat y _ hw)).mono ?_
      rintro e w' ⟨rfl, rfl⟩
      exact ⟨rfl, 0, #[], by simp; rfl⟩
    have hH := hcell (fun i : Fin n => (rs.getD i.1 rd0).v) (fun i => rfl)
    have hgs : g < w.heap.size := (own_lo h.1 g rfl).2
    have hcall := Tryz.slices_SortFunc (α := Fin n) (fun i : Fin n => (rs.getD i.1 rd0).v) (fun i => rfl) (cfR rs) (swo rs n) 78 #[] g 0 c d w (enters_of Tryz.func78 (by kernel_rfl) rfl) hcmp hH hgs (by omega)
    rw [hds] at hcall
    refine hcall.mono ?_
    rintro e w' ⟨rfl, d', m, os, hp, hsd, rfl⟩
    have hw := sort_grown (fun i : Fin n => (rs.getD i.1 rd0).v) w g 0 m d' os
    have hs' : d'.size = n := hp.1.trans hds
    have hpl : d'.toList.Perm d.toList := by
      have := hp.2.2
      rw [Array.extract_eq_self_of_le (by omega), Array.extract_eq_self_of_le (by omega)] at this
      exact this
    have hdl : d.toList.map (fun i : Fin n => rs.getD i.1 rd0) = rs := by
      refine List.ext_getElem (by simp [hds, hlen]) fun i h1 h2 => ?_
      have hin : i < n := by rw [← hlen]; exact h2
      have q := hdg i hin
      rw [getElem!_pos d i (by rw [hds]; exact hin)] at q
      simp [q, List.getElem?_eq_getElem h2]
    have hnd : d'.toList.Nodup := by
      refine hpl.nodup_iff.2 ?_
      rw [hd]
      rw [List.nodup_iff_pairwise_ne, List.pairwise_iff_getElem]
      intro i j h1 h2 hij
      simp only [Array.getElem_toList, Array.getElem_ofFn, id]
      intro e
      have := congrArg Fin.val e
      simp at this
      omega
    have hget : ∀ j (hj : j < n), (d'.toList.map (fun i : Fin n => rs.getD i.1 rd0)).getD j rd0 = rs.getD (d'[j]!).1 rd0 := by
      intro j hj
      rw [getElem!_pos d' j (by omega)]
      simp [List.getD_eq_getElem?_getD, hs', hj]
    refine ⟨rfl, d'.toList.map (fun i : Fin n => rs.getD i.1 rd0), ?_, ?_, ?_, hw⟩
    · have := hpl.map (fun i : Fin n => rs.getD i.1 rd0)
      rw [hdl] at this
      exact this
    · intro i j hij hj
      have q := hsd i j (Nat.zero_le _) hij (by omega)
      rw [hget i (by omega), hget j hj]
      unfold ltOf cfR at q
      unfold leL
      cases hh : lessL (rs.getD (d'[j]!).1 rd0).zs (rs.getD (d'[i]!).1 rd0).zs with
      | false => rfl
      | true => exact absurd ((cmp_less _ _).2 hh) (of_decide_eq_false q)
    · refine ss_put (fun j => (d'[j]!).1) h hw (Nat.le_refl _) (by simp [hs']) (fun j hj => ⟨(d'[j]!).2, hget j hj⟩) ?_ ?_
      · intro i j hi' hj e
        have e2 : d'[i]! = d'[j]! := Fin.ext e
        rw [getElem!_pos d' i (by omega), getElem!_pos d' j (by omega)] at e2
        rw [List.nodup_iff_pairwise_ne, List.pairwise_iff_getElem] at hnd
        rcases Nat.lt_trichotomy i j with q | q | q
        · have q2 := hnd i j (by simpa [hs'] using hi') (by simpa [hs'] using hj) q
          rw [Array.getElem_toList, Array.getElem_toList] at q2
          exact absurd e2 q2
        · exact q
        · have q2 := hnd j i (by simpa [hs'] using hj) (by simpa [hs'] using hi') q
          rw [Array.getElem_toList, Array.getElem_toList] at q2
          exact absurd e2.symm q2
      · intro cur hcur
        refine ⟨Sort.putCells (fun i : Fin n => (rs.getD i.1 rd0).v) 0 d' cur, ?_, ?_, ?_⟩
        · unfold sortWorld
          rw [Sort.heap_grow_old _ _ (by simpa using hgs)]
          unfold Sort.putRow Sort.mapBlock
          have hcur2 : (Sort.ahead w m).heap[g]? = some (.cells cur 22 (0, 0)) := hcur
          rw [Array.getElem?_modify, if_pos rfl, hcur2]
          rfl
        · simp [Sort.putCells]
        · have hsz : n ≤ cur.size := by
            rcases h.1.2 with ⟨hv, _⟩ | ⟨g', cap, cur2, hv, hg', hh, q1, q2, q3, q4⟩
            · simp at hv
            · simp only [Value.slice.injEq, Option.some.injEq, Addr.mk.injEq, and_true, true_and] at hv
              obtain ⟨rfl, rfl⟩ := hv
              rw [hcur] at hh
              simp only [Option.some.injEq, Obj.cells.injEq, and_true] at hh
              subst hh
              omega
          refine List.ext_getElem (by simp [Sort.putCells, hs']; omega) fun i h1 h2 => ?_
          have hin : i < n := by simp [Sort.putCells] at h1; omega
          simp only [List.getElem_take, List.getElem_map, Array.getElem_toList, Sort.putCells, Array.getElem_mapIdx]
          rw [if_pos (by omega), Nat.sub_zero, getElem!_pos d' i (by omega)]
end Go.Proofs.YtibephoepkofnaaGreat.Srp

namespace Go.Proofs.YtibephoepkofnaaGreat.Cpf
open Go.RowKit Fr Own Pk Ins Rws Sam Srt Sst Cmp Srp

set_option maxHeartbeats 1000000 in
theorem equal_q (B1 B2 : Nat) (A1 A2 : Option Addr) (n m c1 c2 : Nat) (us vs : List Int) (w : World) (hn : us.length = n) (hm : vs.length = m) (hn2 : n ≤ 9223372036854775807) (hm2 : m ≤ 9223372036854775807) (h1 : IntsAt w B1 .i64 A1 us) (h2 : IntsAt w B2 .i64 A2 vs) :
    Calls Tryz.prog 121 #[.slice A1 n c1, .slice A2 m c2] w fun e w' => e = .returned (.bool (sameB us vs)) ∧ ∃ d, w' = w.drewN d := by
  by_cases hnm : n = m
  · subst hnm
    have HN := Lib.hid hn
    have HM := Lib.hid hm
    clear hn hm
    go_enter Tryz.func121, Tryz.ntmps121
    go_wp2
    go_loopw [5, 13] (fun _ i wr => ∃ k : Nat, k ≤ n ∧ i = .int .i64 k ∧ Hid (∀ i, i < k → us.getD i 0 = vs.getD i 0) ∧ ∃ d, wr = w.drewN d) (fun _ i _ => n - (intOf i).toNat)
    case atStart => exact ⟨0, Nat.zero_le _, rfl, (fun i hi => absurd hi (Nat.not_lt_zero _)), 0, rfl⟩
    case round =>
      obtain ⟨k, hk, rfl, HE, d, rfl⟩ := hrel
      by_cases hlt : k < n
      · obtain ⟨b1, o1, rfl, hbb1, hc1⟩ := h1 k (by rw [HN.out]; exact hlt)
        obtain ⟨b2, o2, rfl, hbb2, hc2⟩ := h2 k (by rw [HM.out]; exact hlt)
        have hno := same_not us vs k
        have hst : us.getD k 0 = vs.getD k 0 → ∀ i, i < k + 1 → us.getD i 0 = vs.getD i 0 := by
          intro e i hi
          by_cases hik : i = k
          · rw [hik]; exact e
          · exact HE.out i (by omega)
        generalize us.getD k 0 = x at hc1 hno hst
        generalize vs.getD k 0 = y at hc2 hno hst
        by_cases hxy : x = y
        · have HS := Lib.hid (hst hxy)
          have hb : (x == y) = true := by simpa using hxy
          clear hst hno HE hxy
          go_wp2
          go_quiet (fail)
          go_wp2
          go_roundw
          case rel => exact ⟨k + 1, by omega, by go_num, HS.out, d + nq, by first | rfl | rw [World.drewN_drewN]⟩
          case measure => simp [intOf]; omega
        · have HS := Lib.hid (show sameB us vs = false from decide_eq_false (hno hxy))
          have hb : (x == y) = false := by simpa using hxy
          clear hst hno HE hxy
          go_wp2
          go_quiet (fail)
          go_wp2
          go_ret
          exact ⟨ret_b HS.out.symm, d + nq, by first | rfl | rw [World.drewN_drewN]⟩
      · have hkn : k = n := by omega
        have hall := HE.out
        rw [hkn] at hall
        have HS := Lib.hid (show sameB us vs = true from decide_eq_true (same_all us vs (by rw [HN.out, HM.out]) (by rw [HN.out]; exact hall)))
        clear hall HE hkn
        go_wp2
        go_ret
        exact ⟨ret_b HS.out.symm, d, rfl⟩
  · have HS := Lib.hid (show sameB us vs = false from decide_eq_false (fun e => hnm (by rw [← hn, ← hm, e])))
    have hb : ((n : Int) == (m : Int)) = false := by simpa using (fun e => hnm (by omega))
    clear hn hm hnm
    go_enter Tryz.func121, Tryz.ntmps121
    go_wp2
    go_ret
    exact ⟨ret_b HS.out.symm, 0, rfl⟩
theorem same_q (B1 B2 : Nat) (A1 A2 : Option Addr) (n m c1 c2 : Nat) (us vs : List Int) (w : World) (hn : us.length = n) (hm : vs.length = m) (hn2 : n ≤ 9223372036854775807) (hm2 : m ≤ 9223372036854775807) (h1 : IntsAt w B1 .i64 A1 us) (h2 : IntsAt w B2 .i64 A2 vs) :
    Calls Tryz.prog 104 #[.slice A1 n c1, .slice A2 m c2] w fun e w' => e = .returned (.bool (sameB us vs)) ∧ ∃ d, w' = w.drewN d := by
  have HN := Lib.hid hn
  have HM := Lib.hid hm
  clear hn hm
  go_enter Tryz.func104, Tryz.ntmps104
  go_wp2_with fail
  refine (equal_q B1 B2 A1 A2 n m c1 c2 us vs _ HN.out HM.out hn2 hm2 h1 h2).mono ?_
  rintro e w1 ⟨rfl, d, rfl⟩
  go_wp2
  go_ret
  exact ⟨rfl, d, rfl⟩

/-! ### which rows stay -/
def keepB (rs : List RD) (i : Nat) : Bool := decide (i = 0 ∨ (rs.getD i rd0).zs ≠ (rs.getD (i - 1) rd0).zs)
def idx (rs : List RD) (m : Nat) : List Nat := (List.range m).filter (keepB rs)
theorem idx_succ (rs : List RD) (m : Nat) : idx rs (m + 1) = idx rs m ++ (if keepB rs m = true then [m] else []) := by
  unfold idx
  rw [List.range_succ, List.filter_append]
  congr 1
  by_cases h : keepB rs m = true <;> simp [h]
theorem idx_le (rs : List RD) (m : Nat) : (idx rs m).length ≤ m := by
  unfold idx
  exact Nat.le_trans (List.length_filter_le _ _) (by simp)
theorem idx_all (rs : List RD) : ∀ m, (∀ i, i < m → keepB rs i = true) → idx rs m = List.range m
  | 0, _ => rfl
  | m + 1, h => by
    rw [idx_succ, idx_all rs m (fun i hi => h i (by omega)), if_pos (h m (by omega)), List.range_succ]
theorem idx_lt (rs : List RD) (m j : Nat) (hj : j < (idx rs m).length) : (idx rs m).getD j 0 < m := by
  have : (idx rs m)[j] ∈ idx rs m := List.getElem_mem hj
  have h2 := List.mem_range.1 (List.mem_filter.1 this).1
  simpa [List.getD_eq_getElem?_getD, List.getElem?_eq_getElem hj] using h2
theorem idx_inj (rs : List RD) (m i j : Nat) (hi : i < (idx rs m).length) (hj : j < (idx rs m).length) (e : (idx rs m).getD i 0 = (idx rs m).getD j 0) : i = j := by
  have hp : (idx rs m).Pairwise (· < ·) := (List.pairwise_lt_range (n := m)).filter _
  rw [List.pairwise_iff_getElem] at hp
  simp only [List.getD_eq_getElem?_getD, List.getElem?_eq_getElem hi, List.getElem?_eq_getElem hj, Option.getD_some] at e
  rcases Nat.lt_trichotomy i j with h | h | h
  · have := hp i j hi hj h; omega
  · exact h
  · have := hp j i hj hi h; omega
/-- the row while the second loop goes on: what stays of the first m rows, and behind it what lay there -/
def midR (rs : List RD) (m : Nat) : List RD := (idx rs m).map (fun i => rs.getD i rd0) ++ rs.drop (idx rs m).length
theorem midR_len (rs : List RD) (m : Nat) (h : m ≤ rs.length) : (midR rs m).length = rs.length := by
  have := idx_le rs m
  simp [midR]; omega
theorem midR_high (rs : List RD) (m j : Nat) (h : m ≤ rs.length) (hj : (idx rs m).length ≤ j) : (midR rs m).getD j rd0 = rs.getD j rd0 := by
  simp only [midR, List.getD_eq_getElem?_getD]
  rw [List.getElem?_append_right (by simpa using hj), List.getElem?_drop]
  congr 2
  simp; omega
theorem midR_start (rs : List RD) (m : Nat) (h : ∀ i, i < m → keepB rs i = true) (hm : m ≤ rs.length) : midR rs m = rs := by
  unfold midR
  rw [idx_all rs m h]
  simp only [List.length_range]
  have e : (List.range m).map (fun i => rs.getD i rd0) = rs.take m := by
    refine List.ext_getElem (by simp; omega) fun i h1 h2 => ?_
    have : i < rs.length := by simp at h2; omega
    simp [List.getElem?_eq_getElem this]
  rw [e, List.take_append_drop]
theorem midR_skip (rs : List RD) (m : Nat) (h : keepB rs m = false) : midR rs (m + 1) = midR rs m := by
  unfold midR
  rw [idx_succ, h]
  simp
theorem idx_skip (rs : List RD) (m : Nat) (h : keepB rs m = false) : idx rs (m + 1) = idx rs m := by rw [idx_succ, h]; simp
theorem idx_keep (rs : List RD) (m : Nat) (h : keepB rs m = true) : (idx rs (m + 1)).length = (idx rs m).length + 1 := by rw [idx_succ, h]; simp
theorem midR_keep (rs : List RD) (m : Nat) (h : keepB rs m = true) (hm : m < rs.length) : midR rs (m + 1) = (midR rs m).set (idx rs m).length (rs.getD m rd0) := by
  have hle := idx_le rs m
  unfold midR
  rw [idx_succ, if_pos h]
  rw [List.set_append_right _ _ (by simp)]
  simp only [List.map_append, List.map_cons, List.map_nil, List.length_append, List.length_map, List.length_cons, List.length_nil, Nat.sub_self]
  rw [List.append_assoc]
  congr 1
  rw [List.drop_eq_getElem_cons (show (idx rs m).length < rs.length by omega), List.set_cons_zero]
  rfl
/-- what stays -/
def cmpR (rs : List RD) : List RD := (idx rs rs.length).map (fun i => rs.getD i rd0)
theorem keep_pos {rs : List RD} {i : Nat} (h : (rs.getD i rd0).zs ≠ (rs.getD (i - 1) rd0).zs) : keepB rs i = true := decide_eq_true (Or.inr h)
theorem keep_neg {rs : List RD} {i : Nat} (h0 : 0 < i) (h : (rs.getD i rd0).zs = (rs.getD (i - 1) rd0).zs) : keepB rs i = false := decide_eq_false (fun hh => by rcases hh with q | q; omega; exact q h)
theorem keep_zero (rs : List RD) : keepB rs 0 = true := decide_eq_true (Or.inl rfl)
theorem zero_ints (w : World) : (zeroValue 22).run Tryz.prog w = .ok (.slice none 0 0) w := by kernel_rfl
def IsCmp (lo hi : Nat) (A : Option Addr) (c : Nat) (rs : List RD) (w : World) (e : Ending) (w' : World) : Prop :=
  e = .returned (.slice A (cmpR rs).length c) ∧ SSRow w' lo hi A (cmpR rs).length c (cmpR rs) ∧ w.grownBy w' (A.map (·.block))
theorem cmp_all {lo hi : Nat} {A : Option Addr} {n c : Nat} {rs : List RD} {w w' : World} (h : SSRow w lo hi A n c rs) (hall : ∀ i, i < n → keepB rs i = true) (hd : ∃ q, w' = w.drewN q) : IsCmp lo hi A c rs w (.returned (.slice A n c)) w' := by
  obtain ⟨q, rfl⟩ := hd
  have hlen := h.len
  have e : cmpR rs = rs := by
    have := midR_start rs n hall (by omega)
    unfold cmpR
    unfold midR at this
    rw [idx_all rs n hall, List.length_range, List.drop_eq_nil_of_le (by omega), List.append_nil] at this
    rw [hlen, idx_all rs n hall]
    exact this
  refine ⟨by rw [e, hlen], ?_, ?_⟩
  · rw [e, hlen]
    exact h.below (below_drewN (Below.refl _ w) q)
  · have hb := below_drewN (Below.refl w.heap.size w) q
    exact ⟨hb.os, hb.tape, hb.output, hb.size, fun k hk _ => hb.block k hk⟩
theorem cmp_some {lo hi : Nat} {g n c kk : Nat} {rs : List RD} {w wr w' : World} (h : SSRow w lo hi (some ⟨g, 0, none⟩) n c rs) (hg : w.grownBy wr (some g)) (hown : wr.ownsRow lo 22 1 (.slice (some ⟨g, 0, none⟩) n c) n ((midR rs n).map RD.v))
    (hk : kk = (idx rs n).length) (hw : w' = wr.setCells g kk (List.replicate (n - kk) (.slice none 0 0))) : IsCmp lo hi (some ⟨g, 0, none⟩) c rs w (.returned (.slice (some ⟨g, 0, none⟩) kk c)) w' := by
  have hlen := h.len
  have hkl : (cmpR rs).length = kk := by unfold cmpR; rw [List.length_map, hlen, hk]
  have hle : kk ≤ n := by rw [hk]; exact idx_le rs n
  have hgw : ∀ (vs : List Value) (o : Nat) (W : World), W.grownBy (W.setCells g o vs) (some g) := by
    intro vs
    induction vs with
    | nil => exact fun o W => ⟨rfl, rfl, rfl, Nat.le_refl _, fun k _ _ => rfl⟩
    | cons v r ih => exact fun o W => (set_grown W ⟨g, o, none⟩ v).trans (ih (o + 1) _)
  have hgr : w.grownBy w' (some g) := hg.trans (by rw [hw]; exact hgw _ _ _)
  refine ⟨by rw [hkl], ?_, hgr⟩
  rw [hkl]
  refine ss_put (fun j => (idx rs n).getD j 0) h hgr hle hkl ?_ ?_ ?_
  · intro j hj
    have hj' : j < (idx rs n).length := by omega
    refine ⟨idx_lt rs n j hj', ?_⟩
    unfold cmpR
    rw [hlen]
    simp [List.getD_eq_getElem?_getD, List.getElem?_eq_getElem hj']
  · intro i j hi' hj e
    exact idx_inj rs n i j (by omega) (by omega) e
  · intro cur hcur
    rcases hown.2 with ⟨hv, _⟩ | ⟨g', cap, cur2, hv, hg', hh, q1, q2, q3, q4⟩
    · simp at hv
    · simp only [Value.slice.injEq, Option.some.injEq, Addr.mk.injEq, and_true, true_and] at hv
      obtain ⟨rfl, rfl⟩ := hv
      have hsz : cur.size = cur2.size := by
        rcases h.1.2 with ⟨hv, _⟩ | ⟨g', cap, cur3, hv, _, hh3, _, _, r3, _⟩
        · simp at hv
        · simp only [Value.slice.injEq, Option.some.injEq, Addr.mk.injEq, and_true, true_and] at hv
          obtain ⟨rfl, rfl⟩ := hv
          rw [hcur] at hh3
          simp only [Option.some.injEq, Obj.cells.injEq, and_true] at hh3
          subst hh3
          omega
      have hset : ∀ (vs : List Value) (o : Nat) (W : World) (cu : Array Value), W.heap[g]? = some (.cells cu 22 (0, 0)) → kk ≤ o →
          ∃ cu', (W.setCells g o vs).heap[g]? = some (.cells cu' 22 (0, 0)) ∧ cu'.size = cu.size ∧ cu'.toList.take kk = cu.toList.take kk := by
        intro vs
        induction vs with
        | nil => exact fun o W cu hc _ => ⟨cu, hc, rfl, rfl⟩
        | cons v r ih =>
          intro o W cu hc ho
          obtain ⟨cu', a1, a2, a3⟩ := ih (o + 1) (W.setCell ⟨g, o, none⟩ v) (cu.setIfInBounds o v) (heap_setCell_same W g o cu 22 v hc) (by omega)
          refine ⟨cu', a1, by rw [a2]; simp, ?_⟩
          rw [a3, Array.toList_setIfInBounds, List.take_set_of_le ho]
      obtain ⟨cu', a1, a2, a3⟩ := hset (List.replicate (n - kk) (.slice none 0 0)) kk wr cur2 hh (Nat.le_refl _)
      refine ⟨cu', by rw [hw]; exact a1, by omega, ?_⟩
      rw [a3]
      have q5 := congrArg (List.take kk) q4
      rw [List.take_take, Nat.mul_one, Nat.min_eq_left hle] at q5
      rw [q5]
      unfold midR cmpR
      rw [← List.map_take, List.take_append_of_le_length (by simp; omega), List.take_of_length_le (by simp; omega), hlen]
set_option maxHeartbeats 4000000 in
theorem compact_rows (lo hi : Nat) (A : Option Addr) (n c : Nat) (rs : List RD) (w : World) (h : SSRow w lo hi A n c rs) (hn2 : n ≤ 4611686018427387903) (hz : ∀ i, i < n → (rs.getD i rd0).zs.length ≤ 1048576) (hc2 : n ≤ c) :
    Calls Tryz.prog 103 #[.slice A n c, .func (.func 104) #[] #[]] w (IsCmp lo hi A c rs w) := by
  have hlen := h.len
  by_cases h2 : n < 2
  · have HE := Lib.hid (cmp_all (w' := w) h (fun i hi' => by
      rcases Nat.eq_zero_or_pos i with q | q
      · subst q; exact keep_zero rs
      · omega) ⟨0, rfl⟩)
    have hd : (n : Int) < 2 := by omega
    clear h hz hlen h2
    go_enter Tryz.func103, Tryz.ntmps103
    go_wp2
    go_ret
    exact HE.out
  · obtain ⟨g, rfl⟩ := own_shape h.1 (by omega)
    have H := Lib.hid h
    have HZ := Lib.hid hz
    have HL := Lib.hid hlen
    have hd : decide ((n : Int) < 2) = false := decide_eq_false (by omega)
    clear h hz hlen
    go_enter Tryz.func103, Tryz.ntmps103
    go_wp2
    go_loopg [5] n (fun gh s wr => ∃ j q : Nat, j + 1 ≤ n ∧ n - (j + 1) ≤ gh ∧ s = .int .i64 ((j + 1 : Nat) : Int) ∧ wr = w.drewN q ∧ Hid (∀ i, i < j + 1 → keepB rs i = true))
    case atStart => exact ⟨0, 0, by omega, by omega, rfl, rfl, fun i hi' => by rw [show i = 0 by omega]; exact keep_zero rs⟩
    case round =>
      obtain ⟨j, q, hj, hgh, rfl, rfl, HALL⟩ := hrel
      by_cases hlt : j + 1 < n
      · obtain ⟨g1, e1, hc1⟩ := H.out.cell (j + 1) hlt
        obtain ⟨g0, e0, hc0⟩ := H.out.cell j (by omega)
        simp only [Option.some.injEq, Addr.mk.injEq, and_true] at e1 e0
        subst e1
        subst e0
        have r1 := (H.out.2.1 (j + 1) (by rw [HL.out]; exact hlt)).at_
        have r0 := (H.out.2.1 j (by rw [HL.out]; omega)).at_
        have z1 := HZ.out (j + 1) hlt
        have z0 := HZ.out j (by omega)
        have HK1 := Lib.hid (keep_pos (rs := rs) (i := j + 1))
        have HK2 := Lib.hid (keep_neg (rs := rs) (i := j + 1) (by omega))
        simp only [Nat.add_sub_cancel] at HK1 HK2
        simp only [RD.v] at hc1 hc0
        have k1 := cell_drewN hc1 q
        have k0 := cell_drewN hc0 q
        have q1 := ints_drewN r1 q
        have q0 := ints_drewN r0 q
        generalize (rs.getD (j + 1) rd0).A = B1 at *
        generalize (rs.getD (j + 1) rd0).c = d1 at *
        generalize (rs.getD (j + 1) rd0).zs = s1 at *
        generalize (rs.getD j rd0).A = B0 at *
        generalize (rs.getD j rd0).c = d0 at *
        generalize (rs.getD j rd0).zs = s0 at *
        clear r1 r0 hc1 hc0
        obtain ⟨W, hW⟩ : ∃ W, W = w.drewN q := ⟨_, rfl⟩
        rw [← hW] at q1 q0 k1 k0
        rw [← hW]
        have HW := Lib.hid hW
        have HQ := Lib.hid (fun m => same_q _ _ B1 B0 s1.length s0.length d1 d0 s1 s0 (W.drewN m) rfl rfl (by omega) (by omega) (ints_drewN q1 m) (ints_drewN q0 m))
        clear hW q1 q0
        have hwr : IntKind.i64.wrap (((j + 1 : Nat) : Int) - 1) = (j : Int) := by rw [IntWalk.i64_in _ (by omega)]; omega
        generalize hm1 : s1.length = m1 at *
        generalize hm0 : s0.length = m0 at *
        clear hm1 hm0
        by_cases hdup : s1 = s0
        · have hb : sameB s1 s0 = true := decide_eq_true hdup
          have HD := Lib.hid (HK2.out hdup)
          have HQ2 := Lib.hid (fun m => by have := HQ.out m; rw [hb] at this; exact this)
          clear HQ HK1 HK2 hb hdup
          go_wp2_with fail
          go_quiet ((go_at_call 104; exact Calls.quiet_of (HQ2.out _)))
          go_wp2
          clear hwr k1 k0 hd
          have HS := Lib.hid (show (idx rs (j + 1 + (0 + 1))).length = j + 1 ∧ midR rs (j + 1 + (0 + 1)) = rs by
            rw [show j + 1 + (0 + 1) = (j + 1) + 1 by omega, idx_skip rs _ HD.out, midR_skip rs _ HD.out, idx_all rs _ HALL.out, List.length_range]
            exact ⟨rfl, midR_start rs _ HALL.out (by rw [HL.out]; omega)⟩)
          go_loopg [5, 7] n (fun gh s5 s7 wr => ∃ kk i2 : Nat, s5 = .int .i64 (kk : Int) ∧ s7 = .int .i64 ((i2 + 1 : Nat) : Int) ∧ j + 1 + (i2 + 1) ≤ n ∧ n - (j + 1 + (i2 + 1)) ≤ gh ∧ kk ≤ j + 1 + i2 ∧ Hid (kk = (idx rs (j + 1 + (i2 + 1))).length) ∧
            wr.ownsRow lo 22 1 (.slice (some ⟨g, 0, none⟩) n c) n ((midR rs (j + 1 + (i2 + 1))).map RD.v) ∧ w.grownBy wr (some g))
          case atStart =>
            have hb := below_drewN (Below.refl w.heap.size w) (q + nq)
            refine ⟨j + 1, 0, rfl, rfl, by omega, by omega, by omega, HS.out.1.symm, ?_, ?_⟩
            · rw [HS.out.2, HW.out, World.drewN_drewN]
              exact own_below H.out.1 hb
            · rw [HW.out, World.drewN_drewN]
              exact ⟨hb.os, hb.tape, hb.output, hb.size, fun k hk _ => hb.block k hk⟩
          case round =>
            obtain ⟨kk, i2, rfl, rfl, hi2, hgh2, hkk, HKK, hown, hgr⟩ := hrel
            have hml := midR_len rs (j + 1 + (i2 + 1)) (by rw [HL.out]; exact hi2)
            have hck := hown.cellAt kk (by omega)
            have hfk := hown.frozenAt kk
            obtain ⟨old, hold⟩ : ∃ old, wr.cell? ⟨g, kk, none⟩ = some old := ⟨_, hck.trans (List.getElem?_eq_getElem (by rw [List.length_map, hml, HL.out]; omega))⟩
            clear hck
            by_cases hlt2 : j + 1 + (i2 + 1) < n
            · have hc1 := hown.cellAt (j + 1 + (i2 + 1)) (by omega)
              have hc0 := hown.cellAt (j + 1 + i2) (by omega)
              have hm1 := midR_high rs (j + 1 + (i2 + 1)) (j + 1 + (i2 + 1)) (by rw [HL.out]; omega) (by rw [← HKK.out]; omega)
              have hm0 := midR_high rs (j + 1 + (i2 + 1)) (j + 1 + i2) (by rw [HL.out]; omega) (by rw [← HKK.out]; omega)
              have hv : ∀ i, i < n → ((midR rs (j + 1 + (i2 + 1))).map RD.v)[i]? = some ((midR rs (j + 1 + (i2 + 1))).getD i rd0).v := by
                intro i hi'
                have : i < (midR rs (j + 1 + (i2 + 1))).length := by rw [hml, HL.out]; exact hi'
                simp [List.getD_eq_getElem?_getD, List.getElem?_eq_getElem this]
              rw [hv _ hlt2, hm1] at hc1
              rw [hv _ (by omega), hm0] at hc0
              have w1 := H.out.2.1 (j + 1 + (i2 + 1)) (by rw [HL.out]; exact hlt2)
              have w0 := H.out.2.1 (j + 1 + i2) (by rw [HL.out]; omega)
              have r1 := ints_grown w1.at_ hgr (fun k hk e => by subst e; exact own_diff H.out.1 w1.1 (by decide) k rfl hk)
              have r0 := ints_grown w0.at_ hgr (fun k hk e => by subst e; exact own_diff H.out.1 w0.1 (by decide) k rfl hk)
              have z1 := HZ.out (j + 1 + (i2 + 1)) hlt2
              have z0 := HZ.out (j + 1 + i2) (by omega)
              have HK1 := Lib.hid (keep_pos (rs := rs) (i := j + 1 + (i2 + 1)))
              have HK2 := Lib.hid (keep_neg (rs := rs) (i := j + 1 + (i2 + 1)) (by omega))
              rw [show j + 1 + (i2 + 1) - 1 = j + 1 + i2 by omega] at HK1 HK2
              have hrv := midR_keep rs (j + 1 + (i2 + 1))
              clear hm1 hm0 hv w1 w0
              generalize rs.getD (j + 1 + (i2 + 1)) rd0 = R1 at *
              generalize rs.getD (j + 1 + i2) rd0 = R0 at *
              obtain ⟨B1, d1, s1⟩ := R1
              obtain ⟨B0, d0, s0⟩ := R0
              simp only [RD.v] at hc1 hc0 r1 r0 z1 z0 HK1 HK2
              have HQ := Lib.hid (fun m => same_q _ _ B1 B0 s1.length s0.length d1 d0 s1 s0 (wr.drewN m) rfl rfl (by omega) (by omega) (ints_drewN r1 m) (ints_drewN r0 m))
              clear r1 r0
              have hwr : IntKind.i64.wrap (((i2 + 1 : Nat) : Int) - 1) = (i2 : Int) := by rw [IntWalk.i64_in _ (by omega)]; omega
              generalize hm1 : s1.length = m1 at *
              generalize hm0 : s0.length = m0 at *
              have HM1 := Lib.hid hm1
              clear hm1 hm0
              by_cases hdup : s1 = s0
              · have hb : sameB s1 s0 = true := decide_eq_true hdup
                have HD2 := Lib.hid (HK2.out hdup)
                have HQ2 := Lib.hid (fun m => by have := HQ.out m; rw [hb] at this; exact this)
                clear HQ HK1 HK2 hb hdup hrv
                go_wp2_with fail
                go_quiet ((go_at_call 104; exact Calls.quiet_of (HQ2.out _)))
                go_wp2
                go_roundg (n - (j + 1 + (i2 + 1 + 1)))
                case measure => omega
                case rel =>
                  have hb := below_drewN (Below.refl wr.heap.size wr) nq
                  refine ⟨kk, i2 + 1, rfl, by go_num, by omega, Nat.le_refl _, by omega, ?_, ?_, ?_⟩
                  · exact HKK.out.trans (by rw [show j + 1 + (i2 + 1 + 1) = j + 1 + (i2 + 1) + 1 by omega, idx_skip rs _ HD2.out])
                  · rw [show j + 1 + (i2 + 1 + 1) = j + 1 + (i2 + 1) + 1 by omega, midR_skip rs _ HD2.out]
                    exact own_below hown hb
                  · exact hgr.trans ⟨hb.os, hb.tape, hb.output, hb.size, fun k hk _ => hb.block k hk⟩
              · have hb : sameB s1 s0 = false := decide_eq_false hdup
                have HD2 := Lib.hid (HK1.out hdup)
                have HQ2 := Lib.hid (fun m => by have := HQ.out m; rw [hb] at this; exact this)
                clear HQ HK1 HK2 hb hdup
                go_wp2_with fail
                go_quiet ((go_at_call 104; exact Calls.quiet_of (HQ2.out _)))
                go_wp2
                go_roundg (n - (j + 1 + (i2 + 1 + 1)))
                case measure => omega
                case rel =>
                  have hb := below_drewN (Below.refl wr.heap.size wr) nq
                  have hown2 := own_below hown hb
                  obtain ⟨o1, o2⟩ := hown2.stored kk (RD.v ⟨B1, d1, s1⟩)
                  rw [show RD.v ⟨B1, d1, s1⟩ = .slice B1 m1 d1 by rw [← HM1.out]; rfl] at o1 o2
                  refine ⟨kk + 1, i2 + 1, by go_num, by go_num, by omega, Nat.le_refl _, by omega, ?_, ?_, ?_⟩
                  · exact (show kk + 1 = (idx rs (j + 1 + (i2 + 1 + 1))).length by rw [show j + 1 + (i2 + 1 + 1) = j + 1 + (i2 + 1) + 1 by omega, idx_keep rs _ HD2.out, ← HKK.out])
                  · rw [show j + 1 + (i2 + 1 + 1) = j + 1 + (i2 + 1) + 1 by omega, hrv HD2.out (by rw [HL.out]; omega), ← HKK.out, List.map_set, show RD.v ⟨B1, d1, s1⟩ = .slice B1 m1 d1 by rw [← HM1.out]; rfl]
                    exact o1
                  · exact (hgr.trans ⟨hb.os, hb.tape, hb.output, hb.size, fun k hk _ => hb.block k hk⟩).trans o2
            · have hin : j + 1 + (i2 + 1) = n := by omega
              have hcl : ∀ ty, (Builtin.clear_ #[63] ty #[.slice (some ⟨g, 0 + kk, none⟩) (n - kk) (c - kk)]).run Tryz.prog wr = .ok (.tuple #[]) (wr.setCells g (0 + kk) (List.replicate (n - kk) (.slice none 0 0))) :=
                fun ty => Lib.run_clear_slice wr _ _ ty _ Tryz.underlying63 zero_ints rfl rfl g (0 + kk) _ _ (by omega) (fun i hi' => by rw [hown.cellAt _ (by omega), List.getElem?_eq_getElem (by rw [List.length_map, hml, HL.out]; omega)]; rfl) (fun i hi' => hown.frozenAt _)
              rw [hin] at hown HKK
              have HE := Lib.hid (cmp_some (w' := wr.setCells g kk (List.replicate (n - kk) (.slice none 0 0))) H.out hgr hown HKK.out rfl)
              rw [Nat.zero_add] at hcl
              clear hown hgr HKK
              go_wp2
              go_ret
              exact HE.out
        · have hb : sameB s1 s0 = false := decide_eq_false hdup
          have HD := Lib.hid (HK1.out hdup)
          have HQ2 := Lib.hid (fun m => by have := HQ.out m; rw [hb] at this; exact this)
          clear HQ HK1 HK2 hb hdup
          go_wp2_with fail
          go_quiet ((go_at_call 104; exact Calls.quiet_of (HQ2.out _)))
          go_wp2
          go_roundg (n - (j + 1 + 1))
          case measure => omega
          case rel => exact ⟨j + 1, q + nq, by omega, Nat.le_refl _, by go_num, by rw [HW.out, World.drewN_drewN], fun i hi' => by
            by_cases e : i = j + 1
            · rw [e]; exact HD.out
            · exact HALL i (by omega)⟩
      · have hjn : j + 1 = n := by omega
        have HE := Lib.hid (cmp_all (w' := w.drewN q) H.out (fun i hi' => HALL i (by omega)) ⟨q, rfl⟩)
        clear HALL hlt
        go_wp2
        go_ret
        exact HE.out
end Go.Proofs.YtibephoepkofnaaGreat.Cpf


namespace Go.Proofs.YtibephoepkofnaaGreat.Sip
open Go.RowKit Fr Own Pk Ins Rws Lb Sam Srt Sst Spl Cmp Srp Cpf

theorem less_of_le_less {a b c : List Int} (h1 : leL a b) (h2 : lessL b c = true) : lessL a c = true := by
  cases h : lessL a c with
  | true => rfl
  | false =>
    have := le_trans (a := c) (b := a) (c := b) h h1
    unfold leL at this
    rw [h2] at this; cases this
theorem back {ss : List RD} : ∀ i, i < ss.length → ∃ j, j < ss.length ∧ keepB ss j = true ∧ (ss.getD j rd0).zs = (ss.getD i rd0).zs
  | 0, h => ⟨0, h, keep_zero ss, rfl⟩
  | i + 1, h => by
    by_cases e : (ss.getD (i + 1) rd0).zs = (ss.getD i rd0).zs
    · obtain ⟨j, h1, h2, h3⟩ := back (ss := ss) i (by omega)
      exact ⟨j, h1, h2, h3.trans e.symm⟩
    · exact ⟨i + 1, h, keep_pos (by rw [Nat.add_sub_cancel]; exact e), rfl⟩
/-- rows in order, without repetitions -/
theorem cmp_cano {ss : List RD} (h : ∀ i j, i < j → j < ss.length → leL (ss.getD i rd0).zs (ss.getD j rd0).zs) : (cmpR ss).map RD.zs = cano (ss.map RD.zs) := by
  refine cano_of ?_ ?_
  · unfold SortedL cmpR idx
    rw [List.map_map, List.pairwise_map, List.pairwise_filter, List.pairwise_iff_getElem]
    intro i j h1 h2 hij _ hk
    rw [List.length_range] at h1 h2
    simp only [List.getElem_range] at hk ⊢
    have hne : (ss.getD j rd0).zs ≠ (ss.getD (j - 1) rd0).zs := by
      rcases of_decide_eq_true hk with q | q
      · omega
      · exact q
    have h3 : lessL (ss.getD (j - 1) rd0).zs (ss.getD j rd0).zs = true := less_of_le (h (j - 1) j (by omega) h2) (fun e => hne e.symm)
    show lessL (ss.getD i rd0).zs (ss.getD j rd0).zs = true
    by_cases e : i = j - 1
    · rw [e]; exact h3
    · exact less_of_le_less (h i (j - 1) (by omega) (by omega)) h3
  · intro x
    constructor
    · intro hx
      obtain ⟨r, hr, rfl⟩ := List.mem_map.1 hx
      obtain ⟨i, hi, rfl⟩ := List.mem_map.1 hr
      have := List.mem_range.1 (List.mem_filter.1 hi).1
      refine List.mem_map.2 ⟨_, ?_, rfl⟩
      rw [List.getD_eq_getElem?_getD, List.getElem?_eq_getElem this]
      exact List.getElem_mem _
    · intro hx
      obtain ⟨r, hr, rfl⟩ := List.mem_map.1 hx
      obtain ⟨i, hi, rfl⟩ := List.getElem_of_mem hr
      obtain ⟨j, h1, h2, h3⟩ := back i hi
      refine List.mem_map.2 ⟨ss.getD j rd0, List.mem_map.2 ⟨j, List.mem_filter.2 ⟨List.mem_range.2 h1, h2⟩, rfl⟩, ?_⟩
      rw [h3, List.getD_eq_getElem?_getD, List.getElem?_eq_getElem hi]
      rfl
theorem take_zs {ls rs : List RD} {k : Nat} {r : RD} (hk : k < ls.length) (h : rs.map RD.zs = (ls.map RD.zs).take k) (hr : r.zs = (ls.getD k rd0).zs) : (rs ++ [r]).map RD.zs = (ls.map RD.zs).take (k + 1) := by
  rw [List.map_append, h, List.take_succ_eq_append_getElem (by simpa using hk)]
  congr 1
  simp [hr, List.getD_eq_getElem?_getD, List.getElem?_eq_getElem hk]
theorem perm_len {ss rs : List RD} (hp : ss.Perm rs) (B : Nat) (h : ∀ x ∈ rs.map RD.zs, x.length ≤ B) (i : Nat) : (ss.getD i rd0).zs.length ≤ B := by
  by_cases hi : i < ss.length
  · refine h _ (List.mem_map.2 ⟨ss.getD i rd0, hp.mem_iff.1 ?_, rfl⟩)
    rw [List.getD_eq_getElem?_getD, List.getElem?_eq_getElem hi]
    exact List.getElem_mem _
  · rw [List.getD_eq_getElem?_getD, List.getElem?_eq_none (by omega)]
    exact Nat.zero_le _
theorem len_of {rs : List RD} (B : Nat) (h : ∀ x ∈ rs.map RD.zs, x.length ≤ B) (i : Nat) : (rs.getD i rd0).zs.length ≤ B := perm_len (List.Perm.refl rs) B h i
theorem len_of' {rs : List RD} {B n : Nat} (hl : rs.length = n) (h : ∀ i, i < n → (rs.getD i rd0).zs.length ≤ B) : ∀ x ∈ rs.map RD.zs, x.length ≤ B := by
  intro x hx
  obtain ⟨r, hr, rfl⟩ := List.mem_map.1 hx
  obtain ⟨i, hi, rfl⟩ := List.getElem_of_mem hr
  have := h i (by omega)
  rw [List.getD_eq_getElem?_getD, List.getElem?_eq_getElem hi] at this
  exact this
/-- sorted, without repetitions -/
theorem sorted_ss {lo hi : Nat} {A : Option Addr} {c : Nat} {rs ss : List RD} {w w0 w' : World} {e : Ending} {zss : List (List Int)} (hp : ss.Perm rs) (hs : ∀ i j, i < j → j < ss.length → leL (ss.getD i rd0).zs (ss.getD j rd0).zs) (hz : rs.map RD.zs = zss)
    (hc : IsCmp lo hi A c ss w e w') (hb : Below lo w0 w) (hlo : lo ≤ w.heap.size) (hA : ∀ k, A.map (·.block) = some k → lo ≤ k) : IsSS lo (cano zss) w0 e w' := by
  obtain ⟨rfl, hr, hg⟩ := hc
  have e1 : (cmpR ss).map RD.zs = cano zss := by
    rw [cmp_cano hs]
    refine cano_same fun x => ?_
    rw [← hz]
    exact (hp.map RD.zs).mem_iff
  have e2 : (cmpR ss).length = (cano zss).length := by rw [← e1, List.length_map]
  refine ⟨A, c, cmpR ss, by rw [e2], e1, ?_, hb.grown hg hlo hA⟩
  rw [← e2]
  exact hr.higher hr.2.2.2.2 (Nat.le_refl _)
set_option maxHeartbeats 4000000 in
theorem isort_any (A : Option Addr) (n c : Nat) (ls : List RD) (w : World) (hn : ls.length = n) (hat : SSAt w w.heap.size A ls) (hz : ∀ i, i < n → (ls.getD i rd0).zs.length ≤ 1048576) (hn2 : n ≤ 1048576) :
    Calls Tryz.prog 74 #[.slice A n c] w (IsSS w.heap.size (cano (ls.map RD.zs)) w) := by
  obtain ⟨i1, hj, hy0, hy1, hy2⟩ := infos_parts
  have HN := Lib.hid hn
  have HAT := Lib.hid hat
  have HZ := Lib.hid hz
  have HZX := Lib.hid (len_of' hn hz)
  clear hn hat hz
  go_enter Tryz.func74, Tryz.ntmps74
  go_wp2
  go_loopw [3, 5, 8] (fun s _ i wr => ∃ (k : Nat) (A3 : Option Addr) (c3 : Nat) (rs : List RD), k ≤ n ∧ i = .int .i64 k ∧ s = .slice A3 k c3 ∧ SSRow wr w.heap.size wr.heap.size A3 k c3 rs ∧ Hid (rs.map RD.zs = (ls.map RD.zs).take k) ∧ Below w.heap.size w wr) (fun _ _ i _ => n - (intOf i).toNat)
  case atStart => exact ⟨0, none, 0, [], Nat.zero_le _, rfl, rfl, SSRow.none_ w w.heap.size, rfl, Below.refl _ w⟩
  case round =>
    obtain ⟨k, A3, c3, rs, hk, rfl, rfl, hrow, HRZ, hbw⟩ := hrel
    have hsz := hbw.size
    by_cases hlt : k < n
    · obtain ⟨b, o, rfl, hbb, hc, hi⟩ := (HAT.out.below hbw) k (by rw [HN.out]; exact hlt)
      have hzk := HZ.out k hlt
      have HT := Lib.hid (fun (r : RD) (hr : r.zs = (ls.getD k rd0).zs) => take_zs (ls := ls) (k := k) (r := r) (by rw [HN.out]; exact hlt) HRZ hr)
      generalize ls.getD k rd0 = R at *
      obtain ⟨B1, d1, zs⟩ := R
      simp only [RD.v] at hc hi hzk HT
      have HROW := Lib.hid hrow
      have HB := Lib.hid hbw
      have HQ := Lib.hid (clone_any B1 zs.length d1 zs wr rfl hzk (hi.more hsz))
      clear hrow hbw HRZ hi HN HAT
      go_wp2_with fail
      refine HQ.out.mono ?_
      rintro e w2 ⟨A4, c4, rfl, hown4, hb4⟩
      have hr2 := HROW.out.below hb4
      have hs2 := hb4.size
      have HB2 := Lib.hid (HB.out.trans (hb4.mono hsz))
      clear HQ
      go_wp2_with (at_builtin; refine app_more rfl (.tmp 12) (.tmp 15) 63 rfl w.heap.size 22 i1 (.slice none 0 0) 24 Tryz.underlying63 hj hy0 hy1 hy2 (by decide) rfl A3 c3 k _ rfl hr2.1 (.slice A4 zs.length c4) rfl _ rfl rfl (by omega) (by omega) ?_; intro g6 c6 w6 hown6 hgr6)
      have HSN := Lib.hid (SSRow.snoc (zs := zs) (A1 := A4) (c1 := c4) hr2 hsz hown4 hown6 hgr6)
      have HB3 := Lib.hid (HB2.out.grown hgr6 (by omega) (fun j hj' => HROW.out.outlo j hj'))
      have HTT := Lib.hid (HT.out ⟨A4, c4, zs⟩ rfl)
      clear hown6 hgr6 hown4 hr2 HT
      go_roundw
      case rel => exact ⟨k + 1, _, c6, rs ++ [⟨A4, c4, zs⟩], by omega, by go_num, by go_num, HSN.out, HTT, HB3.out⟩
      case measure => simp [intOf]; omega
    · have hkn : k = n := by omega
      subst hkn
      have HRZ2 := Lib.hid (show rs.map RD.zs = ls.map RD.zs by have h := HRZ.out; rw [List.take_of_length_le (by rw [List.length_map, HN.out]; exact Nat.le_refl _)] at h; exact h)
      have hlen := hrow.len
      have HX := Lib.hid (show ∀ x ∈ rs.map RD.zs, x.length ≤ 1048576 by rw [HRZ2.out]; exact HZX.out)
      have HS := Lib.hid (sort_rows _ _ A3 k c3 rs wr hrow (by omega) (fun i hi' => len_of 1048576 HX.out i))
      have HROW := Lib.hid hrow
      have HB := Lib.hid hbw
      clear hrow hbw HRZ HN HAT HZ HZX hlt
      go_wp2_with fail
      refine HS.out.mono ?_
      rintro e w2 ⟨rfl, ss, hp, hso, hrow2, hg2⟩
      have hcap := Sps.ss_cap hrow2
      have HC := Lib.hid (compact_rows _ _ A3 k c3 ss w2 hrow2 (by omega) (fun i hi' => perm_len hp 1048576 HX.out i) hcap)
      have HB2 := Lib.hid (HB.out.grown hg2 hsz (fun j hj' => HROW.out.outlo j hj'))
      have hs2 : w.heap.size ≤ w2.heap.size := Nat.le_trans hsz hg2.size
      have HSO := Lib.hid (show ∀ i j, i < j → j < ss.length → leL (ss.getD i rd0).zs (ss.getD j rd0).zs from fun i j h1 h2 => hso i j h1 (by rw [← hrow2.len]; exact h2))
      have HP := Lib.hid hp
      clear hrow2 hg2 hso hp HS
      go_wp2_with fail
      refine HC.out.mono ?_
      intro e w3 h3
      have HE := Lib.hid (sorted_ss HP.out HSO.out HRZ2.out h3 HB2.out hs2 (fun j hj' => HROW.out.outlo j hj'))
      obtain ⟨rfl, _⟩ := h3
      go_wp2
      go_ret
      exact HE.out
end Go.Proofs.YtibephoepkofnaaGreat.Sip
