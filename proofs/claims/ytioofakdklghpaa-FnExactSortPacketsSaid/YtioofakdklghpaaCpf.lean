/- slices.CompactFunc of a list of lists by SamePacket. -/
import Derived.Test.YtioofakdklghpaaSrp
import Derived.Lib.SliceRun
import Derived.Deep.LoopGhost
import Derived.BigQuiet
set_option linter.unusedVariables false
set_option maxRecDepth 20000
namespace Go.Proofs.Ytioofakdklghpaa.Cpf
open Go.RowKit Fr Own Pk Ins Rws Sam Srt Sst Cmp Srp

set_option maxHeartbeats 1000000 in
theorem equal_q (B1 B2 : Nat) (A1 A2 : Option Addr) (n m c1 c2 : Nat) (us vs : List Int) (w : World) (hn : us.length = n) (hm : vs.length = m) (hn2 : n ≤ 9223372036854775807) (hm2 : m ≤ 9223372036854775807) (h1 : IntsAt w B1 .i64 A1 us) (h2 : IntsAt w B2 .i64 A2 vs) :
    Calls Try.prog 55 #[.slice A1 n c1, .slice A2 m c2] w fun e w' => e = .returned (.bool (sameB us vs)) ∧ ∃ d, w' = w.drewN d := by
  by_cases hnm : n = m
  · subst hnm
    have HN := Lib.hid hn
    have HM := Lib.hid hm
    clear hn hm
    go_enter Try.func55, Try.ntmps55
    go_wp2
    go_loopw [5, 13] (fun _ i wr => ∃ k : Nat, k ≤ n ∧ i = .int .i64 k ∧ Hid (∀ i, i < k → us.getD i 0 = vs.getD i 0) ∧ ∃ d, wr = w.drewN d) (fun _ i _ => n - (intOf i).toNat)
    case atStart => exact ⟨0, Nat.zero_le _, rfl, (fun i hi => absurd hi (Nat.not_lt_zero _)), 0, rfl⟩
    case round =>
      obtain ⟨k, hk, rfl, HE, d, rfl⟩ := hrel
      by_cases hlt : k < n
      · obtain ⟨b1, o1, rfl, hbb1, hc1⟩ := h1 k (by rw [HN.out]; exact hlt)
        obtain ⟨b2, o2, rfl, hbb2, hc2⟩ := h2 k (by rw [HM.out]; exact hlt)
        have hno := same_not us vs k
        have hst : us.getD k 0 = vs.getD k 0 → ∀ i, i < k + 1 → us.getD i 0 = vs.getD i 0 := by
          intro e i hi
          by_cases hik : i = k
          · rw [hik]; exact e
          · exact HE.out i (by omega)
        generalize us.getD k 0 = x at hc1 hno hst
        generalize vs.getD k 0 = y at hc2 hno hst
        by_cases hxy : x = y
        · have HS := Lib.hid (hst hxy)
          have hb : (x == y) = true := by simpa using hxy
          clear hst hno HE hxy
          go_wp2
          go_quiet (fail)
          go_wp2
          go_roundw
          case rel => exact ⟨k + 1, by omega, by go_num, HS.out, d + nq, by first | rfl | rw [World.drewN_drewN]⟩
          case measure => simp [intOf]; omega
        · have HS := Lib.hid (show sameB us vs = false from decide_eq_false (hno hxy))
          have hb : (x == y) = false := by simpa using hxy
          clear hst hno HE hxy
          go_wp2
          go_quiet (fail)
          go_wp2
          go_ret
          exact ⟨ret_b HS.out.symm, d + nq, by first | rfl | rw [World.drewN_drewN]⟩
      · have hkn : k = n := by omega
        have hall := HE.out
        rw [hkn] at hall
        have HS := Lib.hid (show sameB us vs = true from decide_eq_true (same_all us vs (by rw [HN.out, HM.out]) (by rw [HN.out]; exact hall)))
        clear hall HE hkn
        go_wp2
        go_ret
        exact ⟨ret_b HS.out.symm, d, rfl⟩
  · have HS := Lib.hid (show sameB us vs = false from decide_eq_false (fun e => hnm (by rw [← hn, ← hm, e])))
    have hb : ((n : Int) == (m : Int)) = false := by simpa using (fun e => hnm (by omega))
    clear hn hm hnm
    go_enter Try.func55, Try.ntmps55
    go_wp2
    go_ret
    exact ⟨ret_b HS.out.symm, 0, rfl⟩
theorem same_q (B1 B2 : Nat) (A1 A2 : Option Addr) (n m c1 c2 : Nat) (us vs : List Int) (w : World) (hn : us.length = n) (hm : vs.length = m) (hn2 : n ≤ 9223372036854775807) (hm2 : m ≤ 9223372036854775807) (h1 : IntsAt w B1 .i64 A1 us) (h2 : IntsAt w B2 .i64 A2 vs) :
    Calls Try.prog 36 #[.slice A1 n c1, .slice A2 m c2] w fun e w' => e = .returned (.bool (sameB us vs)) ∧ ∃ d, w' = w.drewN d := by
  have HN := Lib.hid hn
  have HM := Lib.hid hm
  clear hn hm
  go_enter Try.func36, Try.ntmps36
  go_wp2_with fail
  refine (equal_q B1 B2 A1 A2 n m c1 c2 us vs _ HN.out HM.out hn2 hm2 h1 h2).mono ?_
  rintro e w1 ⟨rfl, d, rfl⟩
  go_wp2
  go_ret
  exact ⟨rfl, d, rfl⟩

/-! ### which rows stay -/
def keepB (rs : List RD) (i : Nat) : Bool := decide (i = 0 ∨ (rs.getD i rd0).zs ≠ (rs.getD (i - 1) rd0).zs)
def idx (rs : List RD) (m : Nat) : List Nat := (List.range m).filter (keepB rs)
theorem idx_succ (rs : List RD) (m : Nat) : idx rs (m + 1) = idx rs m ++ (if keepB rs m = true then [m] else []) := by
  unfold idx
  rw [List.range_succ, List.filter_append]
  congr 1
  by_cases h : keepB rs m = true <;> simp [h]
theorem idx_le (rs : List RD) (m : Nat) : (idx rs m).length ≤ m := by
  unfold idx
  exact Nat.le_trans (List.length_filter_le _ _) (by simp)
theorem idx_all (rs : List RD) : ∀ m, (∀ i, i < m → keepB rs i = true) → idx rs m = List.range m
  | 0, _ => rfl
  | m + 1, h => by
    rw [idx_succ, idx_all rs m (fun i hi => h i (by omega)), if_pos (h m (by omega)), List.range_succ]
theorem idx_lt (rs : List RD) (m j : Nat) (hj : j < (idx rs m).length) : (idx rs m).getD j 0 < m := by
  have : (idx rs m)[j] ∈ idx rs m := List.getElem_mem hj
  have h2 := List.mem_range.1 (List.mem_filter.1 this).1
  simpa [List.getD_eq_getElem?_getD, List.getElem?_eq_getElem hj] using h2
theorem idx_inj (rs : List RD) (m i j : Nat) (hi : i < (idx rs m).length) (hj : j < (idx rs m).length) (e : (idx rs m).getD i 0 = (idx rs m).getD j 0) : i = j := by
  have hp : (idx rs m).Pairwise (· < ·) := (List.pairwise_lt_range (n := m)).filter _
  rw [List.pairwise_iff_getElem] at hp
  simp only [List.getD_eq_getElem?_getD, List.getElem?_eq_getElem hi, List.getElem?_eq_getElem hj, Option.getD_some] at e
  rcases Nat.lt_trichotomy i j with h | h | h
  · have := hp i j hi hj h; omega
  · exact h
  · have := hp j i hj hi h; omega
/-- the row while the second loop goes on: what stays of the first m rows, and behind it what lay there -/
def midR (rs : List RD) (m : Nat) : List RD := (idx rs m).map (fun i => rs.getD i rd0) ++ rs.drop (idx rs m).length
theorem midR_len (rs : List RD) (m : Nat) (h : m ≤ rs.length) : (midR rs m).length = rs.length := by
  have := idx_le rs m
  simp [midR]; omega
theorem midR_high (rs : List RD) (m j : Nat) (h : m ≤ rs.length) (hj : (idx rs m).length ≤ j) : (midR rs m).getD j rd0 = rs.getD j rd0 := by
  simp only [midR, List.getD_eq_getElem?_getD]
  rw [List.getElem?_append_right (by simpa using hj), List.getElem?_drop]
  congr 2
  simp; omega
theorem midR_start (rs : List RD) (m : Nat) (h : ∀ i, i < m → keepB rs i = true) (hm : m ≤ rs.length) : midR rs m = rs := by
  unfold midR
  rw [idx_all rs m h]
  simp only [List.length_range]
  have e : (List.range m).map (fun i => rs.getD i rd0) = rs.take m := by
    refine List.ext_getElem (by simp; omega) fun i h1 h2 => ?_
    have : i < rs.length := by simp at h2; omega
    simp [List.getElem?_eq_getElem this]
  rw [e, List.take_append_drop]
theorem midR_skip (rs : List RD) (m : Nat) (h : keepB rs m = false) : midR rs (m + 1) = midR rs m := by
  unfold midR
  rw [idx_succ, h]
  simp
theorem idx_skip (rs : List RD) (m : Nat) (h : keepB rs m = false) : idx rs (m + 1) = idx rs m := by rw [idx_succ, h]; simp
theorem idx_keep (rs : List RD) (m : Nat) (h : keepB rs m = true) : (idx rs (m + 1)).length = (idx rs m).length + 1 := by rw [idx_succ, h]; simp
theorem midR_keep (rs : List RD) (m : Nat) (h : keepB rs m = true) (hm : m < rs.length) : midR rs (m + 1) = (midR rs m).set (idx rs m).length (rs.getD m rd0) := by
  have hle := idx_le rs m
  unfold midR
  rw [idx_succ, if_pos h]
  rw [List.set_append_right _ _ (by simp)]
  simp only [List.map_append, List.map_cons, List.map_nil, List.length_append, List.length_map, List.length_cons, List.length_nil, Nat.sub_self]
  rw [List.append_assoc]
  congr 1
  rw [List.drop_eq_getElem_cons (show (idx rs m).length < rs.length by omega), List.set_cons_zero]
  rfl
/-- what stays -/
def cmpR (rs : List RD) : List RD := (idx rs rs.length).map (fun i => rs.getD i rd0)
theorem keep_pos {rs : List RD} {i : Nat} (h : (rs.getD i rd0).zs ≠ (rs.getD (i - 1) rd0).zs) : keepB rs i = true := decide_eq_true (Or.inr h)
theorem keep_neg {rs : List RD} {i : Nat} (h0 : 0 < i) (h : (rs.getD i rd0).zs = (rs.getD (i - 1) rd0).zs) : keepB rs i = false := decide_eq_false (fun hh => by rcases hh with q | q; omega; exact q h)
theorem keep_zero (rs : List RD) : keepB rs 0 = true := decide_eq_true (Or.inl rfl)
theorem zero_ints (w : World) : (zeroValue 23).run Try.prog w = .ok (.slice none 0 0) w := by kernel_rfl
def IsCmp (lo hi : Nat) (A : Option Addr) (c : Nat) (rs : List RD) (w : World) (e : Ending) (w' : World) : Prop :=
  e = .returned (.slice A (cmpR rs).length c) ∧ SSRow w' lo hi A (cmpR rs).length c (cmpR rs) ∧ w.grownBy w' (A.map (·.block))
theorem cmp_all {lo hi : Nat} {A : Option Addr} {n c : Nat} {rs : List RD} {w w' : World} (h : SSRow w lo hi A n c rs) (hall : ∀ i, i < n → keepB rs i = true) (hd : ∃ q, w' = w.drewN q) : IsCmp lo hi A c rs w (.returned (.slice A n c)) w' := by
  obtain ⟨q, rfl⟩ := hd
  have hlen := h.len
  have e : cmpR rs = rs := by
    have := midR_start rs n hall (by omega)
    unfold cmpR
    unfold midR at this
    rw [idx_all rs n hall, List.length_range, List.drop_eq_nil_of_le (by omega), List.append_nil] at this
    rw [hlen, idx_all rs n hall]
    exact this
  refine ⟨by rw [e, hlen], ?_, ?_⟩
  · rw [e, hlen]
    exact h.below (below_drewN (Below.refl _ w) q)
  · have hb := below_drewN (Below.refl w.heap.size w) q
    exact ⟨hb.os, hb.tape, hb.output, hb.size, fun k hk _ => hb.block k hk⟩
theorem cmp_some {lo hi : Nat} {g n c kk : Nat} {rs : List RD} {w wr w' : World} (h : SSRow w lo hi (some ⟨g, 0, none⟩) n c rs) (hg : w.grownBy wr (some g)) (hown : wr.ownsRow lo 23 1 (.slice (some ⟨g, 0, none⟩) n c) n ((midR rs n).map RD.v))
    (hk : kk = (idx rs n).length) (hw : w' = wr.setCells g kk (List.replicate (n - kk) (.slice none 0 0))) : IsCmp lo hi (some ⟨g, 0, none⟩) c rs w (.returned (.slice (some ⟨g, 0, none⟩) kk c)) w' := by
  have hlen := h.len
  have hkl : (cmpR rs).length = kk := by unfold cmpR; rw [List.length_map, hlen, hk]
  have hle : kk ≤ n := by rw [hk]; exact idx_le rs n
  have hgw : ∀ (vs : List Value) (o : Nat) (W : World), W.grownBy (W.setCells g o vs) (some g) := by
    intro vs
    induction vs with
    | nil => exact fun o W => ⟨rfl, rfl, rfl, Nat.le_refl _, fun k _ _ => rfl⟩
    | cons v r ih => exact fun o W => (set_grown W ⟨g, o, none⟩ v).trans (ih (o + 1) _)
  have hgr : w.grownBy w' (some g) := hg.trans (by rw [hw]; exact hgw _ _ _)
  refine ⟨by rw [hkl], ?_, hgr⟩
  rw [hkl]
  refine ss_put (fun j => (idx rs n).getD j 0) h hgr hle hkl ?_ ?_ ?_
  · intro j hj
    have hj' : j < (idx rs n).length := by omega
    refine ⟨idx_lt rs n j hj', ?_⟩
    unfold cmpR
    rw [hlen]
    simp [List.getD_eq_getElem?_getD, List.getElem?_eq_getElem hj']
  · intro i j hi' hj e
    exact idx_inj rs n i j (by omega) (by omega) e
  · intro cur hcur
    rcases hown.2 with ⟨hv, _⟩ | ⟨g', cap, cur2, hv, hg', hh, q1, q2, q3, q4⟩
    · simp at hv
    · simp only [Value.slice.injEq, Option.some.injEq, Addr.mk.injEq, and_true, true_and] at hv
      obtain ⟨rfl, rfl⟩ := hv
      have hsz : cur.size = cur2.size := by
        rcases h.1.2 with ⟨hv, _⟩ | ⟨g', cap, cur3, hv, _, hh3, _, _, r3, _⟩
        · simp at hv
        · simp only [Value.slice.injEq, Option.some.injEq, Addr.mk.injEq, and_true, true_and] at hv
          obtain ⟨rfl, rfl⟩ := hv
          rw [hcur] at hh3
          simp only [Option.some.injEq, Obj.cells.injEq, and_true] at hh3
          subst hh3
          omega
      have hset : ∀ (vs : List Value) (o : Nat) (W : World) (cu : Array Value), W.heap[g]? = some (.cells cu 23 (0, 0)) → kk ≤ o →
          ∃ cu', (W.setCells g o vs).heap[g]? = some (.cells cu' 23 (0, 0)) ∧ cu'.size = cu.size ∧ cu'.toList.take kk = cu.toList.take kk := by
        intro vs
        induction vs with
        | nil => exact fun o W cu hc _ => ⟨cu, hc, rfl, rfl⟩
        | cons v r ih =>
          intro o W cu hc ho
          obtain ⟨cu', a1, a2, a3⟩ := ih (o + 1) (W.setCell ⟨g, o, none⟩ v) (cu.setIfInBounds o v) (heap_setCell_same W g o cu 23 v hc) (by omega)
          refine ⟨cu', a1, by rw [a2]; simp, ?_⟩
          rw [a3, Array.toList_setIfInBounds, List.take_set_of_le ho]
      obtain ⟨cu', a1, a2, a3⟩ := hset (List.replicate (n - kk) (.slice none 0 0)) kk wr cur2 hh (Nat.le_refl _)
      refine ⟨cu', by rw [hw]; exact a1, by omega, ?_⟩
      rw [a3]
      have q5 := congrArg (List.take kk) q4
      rw [List.take_take, Nat.mul_one, Nat.min_eq_left hle] at q5
      rw [q5]
      unfold midR cmpR
      rw [← List.map_take, List.take_append_of_le_length (by simp; omega), List.take_of_length_le (by simp; omega), hlen]
set_option maxHeartbeats 4000000 in
theorem compact_rows (lo hi : Nat) (A : Option Addr) (n c : Nat) (rs : List RD) (w : World) (h : SSRow w lo hi A n c rs) (hn2 : n ≤ 4611686018427387903) (hz : ∀ i, i < n → (rs.getD i rd0).zs.length ≤ 1048576) (hc2 : n ≤ c) :
    Calls Try.prog 35 #[.slice A n c, .func (.func 36) #[] #[]] w (IsCmp lo hi A c rs w) := by
  have hlen := h.len
  by_cases h2 : n < 2
  · have HE := Lib.hid (cmp_all (w' := w) h (fun i hi' => by
      rcases Nat.eq_zero_or_pos i with q | q
      · subst q; exact keep_zero rs
      · omega) ⟨0, rfl⟩)
    have hd : (n : Int) < 2 := by omega
    clear h hz hlen h2
    go_enter Try.func35, Try.ntmps35
    go_wp2
    go_ret
    exact HE.out
  · obtain ⟨g, rfl⟩ := own_shape h.1 (by omega)
    have H := Lib.hid h
    have HZ := Lib.hid hz
    have HL := Lib.hid hlen
    have hd : decide ((n : Int) < 2) = false := decide_eq_false (by omega)
    clear h hz hlen
    go_enter Try.func35, Try.ntmps35
    go_wp2
    go_loopg [5] n (fun gh s wr => ∃ j q : Nat, j + 1 ≤ n ∧ n - (j + 1) ≤ gh ∧ s = .int .i64 ((j + 1 : Nat) : Int) ∧ wr = w.drewN q ∧ Hid (∀ i, i < j + 1 → keepB rs i = true))
    case atStart => exact ⟨0, 0, by omega, by omega, rfl, rfl, fun i hi' => by rw [show i = 0 by omega]; exact keep_zero rs⟩
    case round =>
      obtain ⟨j, q, hj, hgh, rfl, rfl, HALL⟩ := hrel
      by_cases hlt : j + 1 < n
      · obtain ⟨g1, e1, hc1⟩ := H.out.cell (j + 1) hlt
        obtain ⟨g0, e0, hc0⟩ := H.out.cell j (by omega)
        simp only [Option.some.injEq, Addr.mk.injEq, and_true] at e1 e0
        subst e1
        subst e0
        have r1 := (H.out.2.1 (j + 1) (by rw [HL.out]; exact hlt)).at_
        have r0 := (H.out.2.1 j (by rw [HL.out]; omega)).at_
        have z1 := HZ.out (j + 1) hlt
        have z0 := HZ.out j (by omega)
        have HK1 := Lib.hid (keep_pos (rs := rs) (i := j + 1))
        have HK2 := Lib.hid (keep_neg (rs := rs) (i := j + 1) (by omega))
        simp only [Nat.add_sub_cancel] at HK1 HK2
        simp only [RD.v] at hc1 hc0
        have k1 := cell_drewN hc1 q
        have k0 := cell_drewN hc0 q
        have q1 := ints_drewN r1 q
        have q0 := ints_drewN r0 q
        generalize (rs.getD (j + 1) rd0).A = B1 at *
        generalize (rs.getD (j + 1) rd0).c = d1 at *
        generalize (rs.getD (j + 1) rd0).zs = s1 at *
        generalize (rs.getD j rd0).A = B0 at *
        generalize (rs.getD j rd0).c = d0 at *
        generalize (rs.getD j rd0).zs = s0 at *
        clear r1 r0 hc1 hc0
        obtain ⟨W, hW⟩ : ∃ W, W = w.drewN q := ⟨_, rfl⟩
        rw [← hW] at q1 q0 k1 k0
        rw [← hW]
        have HW := Lib.hid hW
        have HQ := Lib.hid (fun m => same_q _ _ B1 B0 s1.length s0.length d1 d0 s1 s0 (W.drewN m) rfl rfl (by omega) (by omega) (ints_drewN q1 m) (ints_drewN q0 m))
        clear hW q1 q0
        have hwr : IntKind.i64.wrap (((j + 1 : Nat) : Int) - 1) = (j : Int) := by rw [IntWalk.i64_in _ (by omega)]; omega
        generalize hm1 : s1.length = m1 at *
        generalize hm0 : s0.length = m0 at *
        clear hm1 hm0
        by_cases hdup : s1 = s0
        · have hb : sameB s1 s0 = true := decide_eq_true hdup
          have HD := Lib.hid (HK2.out hdup)
          have HQ2 := Lib.hid (fun m => by have := HQ.out m; rw [hb] at this; exact this)
          clear HQ HK1 HK2 hb hdup
          go_wp2_with fail
          go_quiet ((go_at_call 36; exact Calls.quiet_of (HQ2.out _)))
          go_wp2
          clear hwr k1 k0 hd
          have HS := Lib.hid (show (idx rs (j + 1 + (0 + 1))).length = j + 1 ∧ midR rs (j + 1 + (0 + 1)) = rs by
            rw [show j + 1 + (0 + 1) = (j + 1) + 1 by omega, idx_skip rs _ HD.out, midR_skip rs _ HD.out, idx_all rs _ HALL.out, List.length_range]
            exact ⟨rfl, midR_start rs _ HALL.out (by rw [HL.out]; omega)⟩)
          go_loopg [5, 7] n (fun gh s5 s7 wr => ∃ kk i2 : Nat, s5 = .int .i64 (kk : Int) ∧ s7 = .int .i64 ((i2 + 1 : Nat) : Int) ∧ j + 1 + (i2 + 1) ≤ n ∧ n - (j + 1 + (i2 + 1)) ≤ gh ∧ kk ≤ j + 1 + i2 ∧ Hid (kk = (idx rs (j + 1 + (i2 + 1))).length) ∧
            wr.ownsRow lo 23 1 (.slice (some ⟨g, 0, none⟩) n c) n ((midR rs (j + 1 + (i2 + 1))).map RD.v) ∧ w.grownBy wr (some g))
          case atStart =>
            have hb := below_drewN (Below.refl w.heap.size w) (q + nq)
            refine ⟨j + 1, 0, rfl, rfl, by omega, by omega, by omega, HS.out.1.symm, ?_, ?_⟩
            · rw [HS.out.2, HW.out, World.drewN_drewN]
              exact own_below H.out.1 hb
            · rw [HW.out, World.drewN_drewN]
              exact ⟨hb.os, hb.tape, hb.output, hb.size, fun k hk _ => hb.block k hk⟩
          case round =>
            obtain ⟨kk, i2, rfl, rfl, hi2, hgh2, hkk, HKK, hown, hgr⟩ := hrel
            have hml := midR_len rs (j + 1 + (i2 + 1)) (by rw [HL.out]; exact hi2)
            have hck := hown.cellAt kk (by omega)
            have hfk := hown.frozenAt kk
            obtain ⟨old, hold⟩ : ∃ old, wr.cell? ⟨g, kk, none⟩ = some old := ⟨_, hck.trans (List.getElem?_eq_getElem (by rw [List.length_map, hml, HL.out]; omega))⟩
            clear hck
            by_cases hlt2 : j + 1 + (i2 + 1) < n
            · have hc1 := hown.cellAt (j + 1 + (i2 + 1)) (by omega)
              have hc0 := hown.cellAt (j + 1 + i2) (by omega)
              have hm1 := midR_high rs (j + 1 + (i2 + 1)) (j + 1 + (i2 + 1)) (by rw [HL.out]; omega) (by rw [← HKK.out]; omega)
              have hm0 := midR_high rs (j + 1 + (i2 + 1)) (j + 1 + i2) (by rw [HL.out]; omega) (by rw [← HKK.out]; omega)
              have hv : ∀ i, i < n → ((midR rs (j + 1 + (i2 + 1))).map RD.v)[i]? = some ((midR rs (j + 1 + (i2 + 1))).getD i rd0).v := by
                intro i hi'
                have : i < (midR rs (j + 1 + (i2 + 1))).length := by rw [hml, HL.out]; exact hi'
                simp [List.getD_eq_getElem?_getD, List.getElem?_eq_getElem this]
              rw [hv _ hlt2, hm1] at hc1
              rw [hv _ (by omega), hm0] at hc0
              have w1 := H.out.2.1 (j + 1 + (i2 + 1)) (by rw [HL.out]; exact hlt2)
              have w0 := H.out.2.1 (j + 1 + i2) (by rw [HL.out]; omega)
              have r1 := ints_grown w1.at_ hgr (fun k hk e => by subst e; exact own_diff H.out.1 w1.1 (by decide) k rfl hk)
              have r0 := ints_grown w0.at_ hgr (fun k hk e => by subst e; exact own_diff H.out.1 w0.1 (by decide) k rfl hk)
              have z1 := HZ.out (j + 1 + (i2 + 1)) hlt2
              have z0 := HZ.out (j + 1 + i2) (by omega)
              have HK1 := Lib.hid (keep_pos (rs := rs) (i := j + 1 + (i2 + 1)))
              have HK2 := Lib.hid (keep_neg (rs := rs) (i := j + 1 + (i2 + 1)) (by omega))
              rw [show j + 1 + (i2 + 1) - 1 = j + 1 + i2 by omega] at HK1 HK2
              have hrv := midR_keep rs (j + 1 + (i2 + 1))
              clear hm1 hm0 hv w1 w0
              generalize rs.getD (j + 1 + (i2 + 1)) rd0 = R1 at *
              generalize rs.getD (j + 1 + i2) rd0 = R0 at *
              obtain ⟨B1, d1, s1⟩ := R1
              obtain ⟨B0, d0, s0⟩ := R0
              simp only [RD.v] at hc1 hc0 r1 r0 z1 z0 HK1 HK2
              have HQ := Lib.hid (fun m => same_q _ _ B1 B0 s1.length s0.length d1 d0 s1 s0 (wr.drewN m) rfl rfl (by omega) (by omega) (ints_drewN r1 m) (ints_drewN r0 m))
              clear r1 r0
              have hwr : IntKind.i64.wrap (((i2 + 1 : Nat) : Int) - 1) = (i2 : Int) := by rw [IntWalk.i64_in _ (by omega)]; omega
              generalize hm1 : s1.length = m1 at *
              generalize hm0 : s0.length = m0 at *
              have HM1 := Lib.hid hm1
              clear hm1 hm0
              by_cases hdup : s1 = s0
              · have hb : sameB s1 s0 = true := decide_eq_true hdup
                have HD2 := Lib.hid (HK2.out hdup)
                have HQ2 := Lib.hid (fun m => by have := HQ.out m; rw [hb] at this; exact this)
                clear HQ HK1 HK2 hb hdup hrv
                go_wp2_with fail
                go_quiet ((go_at_call 36; exact Calls.quiet_of (HQ2.out _)))
                go_wp2
                go_roundg (n - (j + 1 + (i2 + 1 + 1)))
                case measure => omega
                case rel =>
                  have hb := below_drewN (Below.refl wr.heap.size wr) nq
                  refine ⟨kk, i2 + 1, rfl, by go_num, by omega, Nat.le_refl _, by omega, ?_, ?_, ?_⟩
                  · exact HKK.out.trans (by rw [show j + 1 + (i2 + 1 + 1) = j + 1 + (i2 + 1) + 1 by omega, idx_skip rs _ HD2.out])
                  · rw [show j + 1 + (i2 + 1 + 1) = j + 1 + (i2 + 1) + 1 by omega, midR_skip rs _ HD2.out]
                    exact own_below hown hb
                  · exact hgr.trans ⟨hb.os, hb.tape, hb.output, hb.size, fun k hk _ => hb.block k hk⟩
              · have hb : sameB s1 s0 = false := decide_eq_false hdup
                have HD2 := Lib.hid (HK1.out hdup)
                have HQ2 := Lib.hid (fun m => by have := HQ.out m; rw [hb] at this; exact this)
                clear HQ HK1 HK2 hb hdup
                go_wp2_with fail
                go_quiet ((go_at_call 36; exact Calls.quiet_of (HQ2.out _)))
                go_wp2
                go_roundg (n - (j + 1 + (i2 + 1 + 1)))
                case measure => omega
                case rel =>
                  have hb := below_drewN (Below.refl wr.heap.size wr) nq
                  have hown2 := own_below hown hb
                  obtain ⟨o1, o2⟩ := hown2.stored kk (RD.v ⟨B1, d1, s1⟩)
                  rw [show RD.v ⟨B1, d1, s1⟩ = .slice B1 m1 d1 by rw [← HM1.out]; rfl] at o1 o2
                  refine ⟨kk + 1, i2 + 1, by go_num, by go_num, by omega, Nat.le_refl _, by omega, ?_, ?_, ?_⟩
                  · exact (show kk + 1 = (idx rs (j + 1 + (i2 + 1 + 1))).length by rw [show j + 1 + (i2 + 1 + 1) = j + 1 + (i2 + 1) + 1 by omega, idx_keep rs _ HD2.out, ← HKK.out])
                  · rw [show j + 1 + (i2 + 1 + 1) = j + 1 + (i2 + 1) + 1 by omega, hrv HD2.out (by rw [HL.out]; omega), ← HKK.out, List.map_set, show RD.v ⟨B1, d1, s1⟩ = .slice B1 m1 d1 by rw [← HM1.out]; rfl]
                    exact o1
                  · exact (hgr.trans ⟨hb.os, hb.tape, hb.output, hb.size, fun k hk _ => hb.block k hk⟩).trans o2
            · have hin : j + 1 + (i2 + 1) = n := by omega
              have hcl : ∀ ty, (Builtin.clear_ #[25] ty #[.slice (some ⟨g, 0 + kk, none⟩) (n - kk) (c - kk)]).run Try.prog wr = .ok (.tuple #[]) (wr.setCells g (0 + kk) (List.replicate (n - kk) (.slice none 0 0))) :=
                fun ty => Lib.run_clear_slice wr _ _ ty _ Try.underlying25 zero_ints rfl rfl g (0 + kk) _ _ (by omega) (fun i hi' => by rw [hown.cellAt _ (by omega), List.getElem?_eq_getElem (by rw [List.length_map, hml, HL.out]; omega)]; rfl) (fun i hi' => hown.frozenAt _)
              rw [hin] at hown HKK
              have HE := Lib.hid (cmp_some (w' := wr.setCells g kk (List.replicate (n - kk) (.slice none 0 0))) H.out hgr hown HKK.out rfl)
              rw [Nat.zero_add] at hcl
              clear hown hgr HKK
              go_wp2
              go_ret
              exact HE.out
        · have hb : sameB s1 s0 = false := decide_eq_false hdup
          have HD := Lib.hid (HK1.out hdup)
          have HQ2 := Lib.hid (fun m => by have := HQ.out m; rw [hb] at this; exact this)
          clear HQ HK1 HK2 hb hdup
          go_wp2_with fail
          go_quiet ((go_at_call 36; exact Calls.quiet_of (HQ2.out _)))
          go_wp2
          go_roundg (n - (j + 1 + 1))
          case measure => omega
          case rel => exact ⟨j + 1, q + nq, by omega, Nat.le_refl _, by go_num, by rw [HW.out, World.drewN_drewN], fun i hi' => by
            by_cases e : i = j + 1
            · rw [e]; exact HD.out
            · exact HALL i (by omega)⟩
      · have hjn : j + 1 = n := by omega
        have HE := Lib.hid (cmp_all (w' := w.drewN q) H.out (fun i hi' => HALL i (by omega)) ⟨q, rfl⟩)
        clear HALL hlt
        go_wp2
        go_ret
        exact HE.out
end Go.Proofs.Ytioofakdklghpaa.Cpf
