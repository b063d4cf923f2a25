/- Gilbreath permutations: IsGilbreath and GilbreathCut of the program (by the numbers that may come next) and of the model (by the first k elements), for all lists of ints. -/
import Derived.Test.YtpmfiflpipcojaaShelf
import Derived.Test.YtpmfiflpipcojaaPfn
import Derived.Test.YtpmfiflpipcojaaRws
import Derived.Deep.Cut
set_option linter.unusedVariables false
set_option maxRecDepth 20000
namespace Go.Proofs.Ytpmfiflpipcojaa.Gip
open Go.RowKit Fr Own Pk Ins Pok Prm Pfn Rws

/-! ### the least and the greatest of the first elements -/
def loT (zs : List Int) (k : Nat) : Int := (zs.take k).foldl min (zs.headD 0)
def hiT (zs : List Int) (k : Nat) : Int := (zs.take k).foldl max (zs.headD 0)
theorem head_getD (zs : List Int) : zs.headD 0 = zs.getD 0 0 := by cases zs <;> rfl
theorem loT_zero (zs : List Int) : loT zs 0 = zs.getD 0 0 := head_getD zs
theorem hiT_zero (zs : List Int) : hiT zs 0 = zs.getD 0 0 := head_getD zs
theorem loT_succ {zs : List Int} {k : Nat} (h : k < zs.length) : loT zs (k + 1) = min (loT zs k) (zs.getD k 0) := by
  unfold loT; rw [take_snoc zs k h, List.foldl_append]; rfl
theorem hiT_succ {zs : List Int} {k : Nat} (h : k < zs.length) : hiT zs (k + 1) = max (hiT zs k) (zs.getD k 0) := by
  unfold hiT; rw [take_snoc zs k h, List.foldl_append]; rfl
theorem loT_one {zs : List Int} (h : 0 < zs.length) : loT zs 1 = zs.getD 0 0 := by rw [loT_succ h, loT_zero]; omega
theorem hiT_one {zs : List Int} (h : 0 < zs.length) : hiT zs 1 = zs.getD 0 0 := by rw [hiT_succ h, hiT_zero]; omega
theorem minOf_take {zs : List Int} {k : Nat} (h : 1 ≤ k) : Lib.minOf (zs.take k) = loT zs k := by
  unfold Lib.minOf loT
  cases zs with
  | nil => simp
  | cons z zs => obtain ⟨k, rfl⟩ : ∃ q, k = q + 1 := ⟨k - 1, by omega⟩; rfl
theorem maxOf_take {zs : List Int} {k : Nat} (h : 1 ≤ k) : Lib.maxOf (zs.take k) = hiT zs k := by
  unfold Lib.maxOf hiT
  cases zs with
  | nil => simp
  | cons z zs => obtain ⟨k, rfl⟩ : ∃ q, k = q + 1 := ⟨k - 1, by omega⟩; rfl
theorem lohi_in {zs : List Int} {m : Nat} (h : inR zs m) (h0 : 0 < zs.length) : ∀ k, k ≤ zs.length → 0 ≤ loT zs k ∧ loT zs k ≤ hiT zs k ∧ hiT zs k < m
  | 0, _ => by rw [loT_zero, hiT_zero]; have := h 0 h0; omega
  | k + 1, hk => by
    have ih := lohi_in h h0 k (by omega)
    rw [loT_succ (by omega), hiT_succ (by omega)]
    have := h k (by omega)
    omega
def gilAt (zs : List Int) (k : Nat) : Bool := decide (hiT zs (k + 1) - loT zs (k + 1) = (k : Int))
def gilB (zs : List Int) : Bool := permB zs && (List.range zs.length).all (gilAt zs)
theorem gil_no {zs : List Int} (h : permB zs = false) : gilB zs = false := by unfold gilB; rw [h]; rfl
theorem gil_bad {zs : List Int} {k : Nat} (hk : k < zs.length) (h : gilAt zs k = false) : gilB zs = false := by
  unfold gilB
  rw [Bool.and_eq_false_iff]
  refine Or.inr (Bool.eq_false_iff.2 fun hall => ?_)
  have := List.all_eq_true.1 hall k (List.mem_range.2 hk)
  rw [h] at this; cases this
theorem gil_all {zs : List Int} (hp : permB zs = true) (h : ∀ k, k < zs.length → gilAt zs k = true) : gilB zs = true := by
  unfold gilB
  rw [hp, Bool.true_and]
  exact List.all_eq_true.2 fun k hk => h k (List.mem_range.1 hk)
theorem gil_parts {zs : List Int} (h : gilB zs = true) : permB zs = true ∧ ∀ k, k < zs.length → gilAt zs k = true := by
  unfold gilB at h
  rw [Bool.and_eq_true] at h
  exact ⟨h.1, fun k hk => List.all_eq_true.1 h.2 k (List.mem_range.2 hk)⟩
/-- the numbers that may come behind a prefix -/
def nextF (n : Nat) (p : List Int) : List Int := if p = [] then imarks 0 n else (if 1 ≤ Lib.minOf p then [Lib.minOf p - 1] else []) ++ (if Lib.maxOf p + 1 < (n : Int) then [Lib.maxOf p + 1] else [])
theorem mem_imarks {n : Nat} {x : Int} : x ∈ imarks 0 n ↔ 0 ≤ x ∧ x < (n : Int) := by
  unfold imarks
  simp only [List.mem_map, List.mem_range]
  constructor
  · rintro ⟨i, hi, rfl⟩; omega
  · rintro ⟨h1, h2⟩; exact ⟨x.toNat, by omega, by omega⟩
theorem step_arith {l m x n : Int} {q : Nat} (hp : m - l = q) (h1 : 0 ≤ l) (h2 : l ≤ m) (h3 : m < n) (h4 : 0 ≤ x) (h5 : x < n) :
    x ∈ (if 1 ≤ l then [l - 1] else []) ++ (if m + 1 < n then [m + 1] else []) ↔ max m x - min l x = ((q + 1 : Nat) : Int) := by
  rw [List.mem_append]
  constructor
  · rintro (h | h)
    · split at h
      · simp at h; omega
      · cases h
    · split at h
      · simp at h; omega
      · cases h
  · intro h
    by_cases h1 : x < l
    · exact Or.inl (by rw [if_pos (by omega)]; simp; omega)
    · exact Or.inr (by rw [if_pos (by omega)]; simp; omega)
theorem mem_next {zs : List Int} (hin : inR zs zs.length) {k : Nat} (hk : k < zs.length) (hprev : ∀ i, i < k → gilAt zs i = true) : (nextF zs.length (zs.take k)).contains (zs.getD k 0) = gilAt zs k := by
  have hx := hin k hk
  rw [Bool.eq_iff_iff, List.contains_iff_mem]
  unfold gilAt
  rw [decide_eq_true_eq, loT_succ hk, hiT_succ hk]
  unfold nextF
  by_cases h0 : k = 0
  · subst h0
    rw [if_pos (by simp), mem_imarks, loT_zero, hiT_zero]
    constructor
    · intro _; omega
    · intro _; exact hx
  · obtain ⟨q, rfl⟩ : ∃ q, k = q + 1 := ⟨k - 1, by omega⟩
    have hne : zs.take (q + 1) ≠ [] := by
      intro e
      have := congrArg List.length e
      rw [List.length_take, List.length_nil] at this; omega
    rw [if_neg hne, minOf_take (k := q + 1) (Nat.le_add_left 1 q), maxOf_take (k := q + 1) (Nat.le_add_left 1 q)]
    have hp : hiT zs (q + 1) - loT zs (q + 1) = (q : Int) := of_decide_eq_true (hprev q (by omega))
    obtain ⟨hb1, hb2, hb3⟩ := lohi_in hin (by omega) (q + 1) (by omega)
    exact step_arith hp hb1 hb2 hb3 hx.1 hx.2
theorem inR_more {zs : List Int} {m m' : Nat} (h : inR zs m) (hm : m ≤ m') : inR zs m' := fun i hi => by have := h i hi; omega
theorem inR_take {zs : List Int} {m k : Nat} (h : inR zs m) : inR (zs.take k) m := fun i hi => by
  rw [List.length_take] at hi
  have := h i (by omega)
  simp only [List.getD_eq_getElem?_getD] at *
  rw [List.getElem?_take, if_pos (by omega)]
  exact this

/-! ### the model -/
set_option maxHeartbeats 1000000 in
theorem spec_prefix (A : Option Addr) (n c k : Nat) (zs : List Int) (w : World) (hn : zs.length = n) (hnc : n ≤ c) (hn2 : n ≤ 12) (hin : inR zs 12) (hk1 : k < n) (hss : IntsAt w w.heap.size .i64 A zs) :
    Calls Try.prog 63 #[.slice A n c, .int .i64 ((k : Int) + 1)] w fun e w' => e = .returned (.bool (gilAt zs k)) ∧ w = w' := by
  have HN := Lib.hid hn
  have HI := Lib.hid (lohi_in hin (by omega))
  obtain ⟨b, o, rfl, hbb, hc0⟩ := hss 0 (by omega)
  rw [Nat.add_zero] at hc0
  have hn0 : 0 < n := by omega
  have HS := Lib.hid hss
  have HG := Lib.hid (show gilAt zs k = (hiT zs (k + 1) - loT zs (k + 1) == (k : Int)) from rfl)
  have hl0 := loT_zero zs
  have hh0 := hiT_zero zs
  clear hn hss hin
  generalize zs.getD 0 0 = z0 at *
  go_enter Try.func63, Try.ntmps63
  have HL0 := Lib.hid hl0
  have HH0 := Lib.hid hh0
  clear hl0 hh0
  go_wp2
  go_loop [5, 6, 8, 19] (fun l h _ i => ∃ j : Nat, j ≤ k + 1 ∧ i = .int .i64 (j : Int) ∧ l = .int .i64 (loT zs j) ∧ h = .int .i64 (hiT zs j)) (fun _ _ _ i => k + 1 - (intOf i).toNat)
  case atStart => exact ⟨0, Nat.zero_le _, rfl, by rw [HL0.out], by rw [HH0.out]⟩
  case round =>
    obtain ⟨j, hj, rfl, rfl, rfl⟩ := hrel
    clear hc0
    by_cases hlt : j < k + 1
    · obtain ⟨b1, o1, hA1, hbb1, hc⟩ := HS.out j (by rw [HN.out]; omega)
      simp only [Option.some.injEq, Addr.mk.injEq, and_true] at hA1
      obtain ⟨rfl, rfl⟩ := hA1
      have e1 := loT_succ (zs := zs) (k := j) (by rw [HN.out]; omega)
      have e2 := hiT_succ (zs := zs) (k := j) (by rw [HN.out]; omega)
      generalize zs.getD j 0 = x at *
      have E1 := Lib.hid e1
      have E2 := Lib.hid e2
      clear e1 e2
      go_wp2
      go_round
      case rel => exact ⟨j + 1, by omega, by go_num, by rw [E1.out], by rw [E2.out]⟩
      case measure => simp [intOf]; omega
    · have hjk : j = k + 1 := by omega
      subst hjk
      have hb := HI.out (k + 1) (by rw [HN.out]; omega)
      have HG2 := HG
      generalize loT zs (k + 1) = l at *
      generalize hiT zs (k + 1) = h at *
      obtain ⟨h1, h2, h3⟩ := hb
      go_wp2
      go_ret
      exact ⟨ret_b (by rw [HG2.out]), rfl⟩

set_option maxHeartbeats 1000000 in
theorem spec_gil (A : Option Addr) (n c : Nat) (zs : List Int) (w : World) (hn : zs.length = n) (hnc : n ≤ c) (hn2 : n ≤ 9223372036854775807) (hz : Fits zs) (hss : IntsAt w w.heap.size .i64 A zs) :
    Calls Try.prog 26 #[.slice A n c] w fun e w' => e = .returned (.bool (gilB zs)) ∧ w = w' := by
  have HF := Lib.hid (spec_perm A n c zs w hn hnc hn2 hz hss)
  have HN := Lib.hid hn
  have HSH := Lib.hid (@perm_short zs)
  have HIR := Lib.hid (@inR_perm zs)
  clear hn hz
  go_enter Try.func26, Try.ntmps26
  go_wp2_with fail
  refine HF.out.mono ?_
  rintro e w' ⟨rfl, rfl⟩
  cases hp : permB zs with
  | false =>
    have HS := Lib.hid (gil_no hp)
    clear hp
    go_wp2
    go_ret
    exact ⟨ret_b HS.out.symm, rfl⟩
  | true =>
    have h12 := HSH.out hp
    rw [HN.out] at h12
    have hin := HIR.out hp
    rw [HN.out] at hin
    have HQ := Lib.hid (fun k hk => spec_prefix A n c k zs w HN.out hnc h12 (inR_more hin h12) hk hss)
    have HP := Lib.hid hp
    clear hp hin hss
    go_wp2
    go_loop [3] (fun i => ∃ k : Nat, k ≤ n ∧ i = .int .i64 ((k : Int) + 1) ∧ Hid (∀ j, j < k → gilAt zs j = true)) (fun i => n + 1 - (intOf i).toNat)
    case atStart => exact ⟨0, Nat.zero_le _, rfl, (fun i hi => absurd hi (Nat.not_lt_zero _))⟩
    case round =>
      obtain ⟨k, hk, rfl, HG⟩ := hrel
      by_cases hlt : k < n
      · have hle : ((k : Int) + 1 ≤ (n : Int)) := by omega
        go_wp2_with fail
        refine (HQ.out k hlt).mono ?_
        rintro e w' ⟨rfl, rfl⟩
        cases hx : gilAt zs k with
        | false =>
          have HS := Lib.hid (gil_bad (by rw [HN.out]; exact hlt) hx)
          clear hx HG
          go_wp2
          go_ret
          exact ⟨ret_b HS.out.symm, rfl⟩
        | true =>
          have HS := Lib.hid (show ∀ j, j < k + 1 → gilAt zs j = true from fun j hj => by
            by_cases e : j = k
            · rw [e]; exact hx
            · exact HG.out j (by omega))
          clear hx HG
          go_wp2
          go_round
          case rel => exact ⟨k + 1, by omega, by go_num, HS.out⟩
          case measure => simp [intOf]; omega
      · have hkn : k = n := by omega
        have hle : decide ((k : Int) + 1 ≤ (n : Int)) = false := decide_eq_false (by omega)
        have HS := Lib.hid (gil_all HP.out (fun i hi => HG.out i (by rw [hkn, ← HN.out]; exact hi)))
        subst hkn
        clear HG
        go_wp2
        go_ret
        exact ⟨ret_b HS.out.symm, rfl⟩

/-! ### the program -/
/-- the numbers that may come next, as a list of the call's own -/
theorem nextF_small {n : Nat} (h : n ≤ 12) (p : List Int) : (nextF n p).length ≤ 12 := by
  unfold nextF
  split
  · rw [imarks_length]; exact h
  · rw [List.length_append]
    split <;> split <;> simp
/-- the numbers beside those of a prefix -/
def besF (n : Nat) (l h : Int) : List Int := (if 1 ≤ l then [l - 1] else []) ++ (if h + 1 < (n : Int) then [h + 1] else [])
set_option maxHeartbeats 2000000 in
theorem next_some (A : Option Addr) (n m c : Nat) (ps : List Int) (w : World) (hn : n ≤ 12) (hm : ps.length = m) (hm0 : 0 < m) (hm2 : m ≤ 12) (hin : inR ps 12) (hss : IntsAt w w.heap.size .i64 A ps) :
    Calls Try.prog 44 #[.int .i64 n, .slice A m c] w (IsIL w.heap.size (nextF n ps) w) := by
  obtain ⟨b, o, rfl, hbb, hc0⟩ := hss 0 (by omega)
  clear hc0
  have hat : ∀ j, j < ps.length → w.cell? ⟨b, o + j, none⟩ = some (.int .i64 (ps.getD j 0)) := fun j hj => by
    obtain ⟨b1, o1, e, _, hc⟩ := hss j hj
    simp only [Option.some.injEq, Addr.mk.injEq, and_true] at e
    obtain ⟨rfl, rfl⟩ := e
    exact hc
  have HMI := Lib.hid (Try.slices_Min_int b o m c ps w hm0 (by omega) (by omega) hat)
  have HMA := Lib.hid (fun w' (h : Below w.heap.size w w') => Try.slices_Max_int b o m c ps w' hm0 (by omega) (by omega) (fun j hj => ((h.cell (p := ⟨b, o + j, none⟩) (by show b < _; exact hbb)).trans (hat j hj))))
  have htk : ps.take m = ps := List.take_of_length_le (by omega)
  obtain ⟨hl1, hl2, hl3⟩ := lohi_in hin (by omega) m (by omega)
  have e1 := minOf_take (zs := ps) (k := m) (by omega)
  have e2 := maxOf_take (zs := ps) (k := m) (by omega)
  rw [htk] at e1 e2
  have hne : ps ≠ [] := fun e => by rw [e] at hm; simp at hm; omega
  have HNX := Lib.hid (show nextF n ps = besF n (loT ps m) (hiT ps m) by unfold nextF besF; rw [if_neg hne, e1, e2])
  rw [← e1, ← e2] at hl2
  rw [← e1] at hl1
  rw [← e2] at hl3
  rw [← e1, ← e2] at HNX
  rw [htk] at HMI
  have HMA2 := Lib.hid (fun w' h => by have := HMA.out w' h; rw [htk] at this; exact this)
  clear hss hat htk e1 e2 hne hm hin HMA
  generalize Lib.minOf ps = l at *
  generalize Lib.maxOf ps = h at *
  rw [HNX.out]
  clear HNX
  obtain ⟨i0, hi, hz0, hz1, hzz2⟩ := info_parts infoInt
  have hme : ((m : Int) == 0) = false := by simp; omega
  go_enter Try.func44, Try.ntmps44
  go_upto_region 4 with fail
  go_cut [5, 6] from 13 (fun s5 s6 wx => s6 = .int .i64 (l - 1) ∧ w = wx ∧ (∃ A c, s5 = .slice A 0 c) ∧ w.ownsRow w.heap.size 3 1 s5 0 [])
  case first =>
    go_wp2_with fail
    refine HMI.out.mono ?_
    rintro e w' ⟨rfl, h⟩
    replace h := h.symm
    subst h
    go_wp2_with fail
    go_meet
    exact ⟨rfl, rfl, ⟨_, _, rfl⟩, World.ownsRow_nil _ _ _ _⟩
  case rest =>
  obtain ⟨rfl, rfl, ⟨A5, c5, rfl⟩, hown5⟩ := hcut
  by_cases hA : 1 ≤ l
  · by_cases hB : h + 1 < (n : Int)
    · have E := Lib.hid (show besF n l h = [l - 1, h + 1] by unfold besF; rw [if_pos hA, if_pos hB]; rfl)
      have hA' : (0 : Int) ≤ l - 1 := by omega
      clear hA
      go_wp2_with (at_builtin; refine app_one rfl (.tmp 18) (.tmp 20) 23 rfl w.heap.size 3 i0 (.int .i64 0) 8 Try.underlying23 hi hz0 hz1 hzz2 (by decide) rfl _ _ _ rfl hown5 (.int .i64 (l - 1)) rfl rfl (by omega) (by omega) ?_; intro g20 c20 w20 hown20 hb20)
      go_wp2_with fail
      refine (HMA2.out _ hb20).mono ?_
      rintro e w' ⟨rfl, h⟩
      replace h := h.symm
      subst h
      have hs20 := hb20.size
      go_wp2_with (at_builtin; refine app_one rfl (.tmp 28) (.tmp 30) 23 rfl w.heap.size 3 i0 (.int .i64 0) 8 Try.underlying23 hi hz0 hz1 hzz2 (by decide) rfl _ _ _ rfl hown20 (.int .i64 (h + 1)) rfl rfl (by omega) (by omega) ?_; intro g30 c30 w30 hown30 hb30)
      go_wp2
      go_ret
      rw [E.out]
      exact ⟨some ⟨g30, 0, none⟩, c30, rfl, hown30, hb20.trans hb30⟩
    · have E := Lib.hid (show besF n l h = [l - 1] by unfold besF; rw [if_pos hA, if_neg hB]; rfl)
      have hA' : (0 : Int) ≤ l - 1 := by omega
      have hB' : decide (h + 1 < (n : Int)) = false := decide_eq_false hB
      clear hA hB
      go_wp2_with (at_builtin; refine app_one rfl (.tmp 18) (.tmp 20) 23 rfl w.heap.size 3 i0 (.int .i64 0) 8 Try.underlying23 hi hz0 hz1 hzz2 (by decide) rfl _ _ _ rfl hown5 (.int .i64 (l - 1)) rfl rfl (by omega) (by omega) ?_; intro g20 c20 w20 hown20 hb20)
      go_wp2_with fail
      refine (HMA2.out _ hb20).mono ?_
      rintro e w' ⟨rfl, h⟩
      replace h := h.symm
      subst h
      go_wp2
      go_ret
      rw [E.out]
      exact ⟨some ⟨g20, 0, none⟩, c20, rfl, hown20, hb20⟩
  · by_cases hB : h + 1 < (n : Int)
    · have E := Lib.hid (show besF n l h = [h + 1] by unfold besF; rw [if_neg hA, if_pos hB]; rfl)
      have hA' : decide (1 ≤ l) = false := decide_eq_false hA
      clear hA
      go_wp2_with fail
      refine (HMA2.out _ (Below.refl _ w)).mono ?_
      rintro e w' ⟨rfl, h⟩
      replace h := h.symm
      subst h
      go_wp2_with (at_builtin; refine app_one rfl (.tmp 28) (.tmp 30) 23 rfl w.heap.size 3 i0 (.int .i64 0) 8 Try.underlying23 hi hz0 hz1 hzz2 (by decide) rfl _ _ _ rfl hown5 (.int .i64 (h + 1)) rfl rfl (by omega) (by omega) ?_; intro g30 c30 w30 hown30 hb30)
      go_wp2
      go_ret
      rw [E.out]
      exact ⟨some ⟨g30, 0, none⟩, c30, rfl, hown30, hb30⟩
    · have E := Lib.hid (show besF n l h = [] by unfold besF; rw [if_neg hA, if_neg hB]; rfl)
      have hA' : decide (1 ≤ l) = false := decide_eq_false hA
      have hB' : decide (h + 1 < (n : Int)) = false := decide_eq_false hB
      clear hA hB
      go_wp2_with fail
      refine (HMA2.out _ (Below.refl _ w)).mono ?_
      rintro e w' ⟨rfl, h⟩
      replace h := h.symm
      subst h
      go_wp2
      go_ret
      rw [E.out]
      exact ⟨A5, c5, rfl, hown5, Below.refl _ w⟩
theorem next_none (A : Option Addr) (n c : Nat) (w : World) (hn : n ≤ 12) :
    Calls Try.prog 44 #[.int .i64 n, .slice A 0 c] w (IsIL w.heap.size (nextF n []) w) := by
  have HNX := Lib.hid (show Nwp.newF (n : Int) = nextF n [] by rw [Nwp.newF_yes n hn]; rfl)
  go_enter Try.func44, Try.ntmps44
  go_wp2_with fail
  refine (impl_id (n : Int) w (by omega) (by omega)).mono ?_
  rintro e w1 ⟨A1, c1, rfl, hown, hb⟩
  rw [HNX.out] at hown
  rw [HNX.out]
  have HO := Lib.hid hown
  clear hown
  go_wp2
  go_ret
  exact ⟨A1, c1, rfl, HO.out, hb⟩
theorem next_any (A : Option Addr) (n m c : Nat) (ps : List Int) (w : World) (hn : n ≤ 12) (hm : ps.length = m) (hm2 : m ≤ 12) (hin : inR ps 12) (hss : IntsAt w w.heap.size .i64 A ps) :
    Calls Try.prog 44 #[.int .i64 n, .slice A m c] w (IsIL w.heap.size (nextF n ps) w) := by
  by_cases h0 : m = 0
  · subst h0
    obtain rfl : ps = [] := List.length_eq_zero_iff.1 hm
    exact next_none A n c w hn
  · exact next_some A n m c ps w hn hm (by omega) hm2 hin hss
/-- slices.Contains -/
theorem has2 (A : Option Addr) (n c : Nat) (zs : List Int) (x : Int) (w : World) (hn : zs.length = n) (hn2 : n ≤ 9223372036854775807) (hss : IntsAt w w.heap.size .i64 A zs) :
    Calls Try.prog 43 #[.slice A n c, .int .i64 x] w fun e w' => e = .returned (.bool (zs.contains x)) ∧ w = w' := by
  by_cases h0 : n = 0
  · subst h0
    obtain rfl : zs = [] := List.length_eq_zero_iff.1 hn
    exact (Try.slices_Contains_int_empty A c x w).mono fun e w' h => ⟨h.1, h.2.symm⟩
  · obtain ⟨b, o, rfl, hbb, hc0⟩ := hss 0 (by omega)
    refine (Try.slices_Contains_int b o n c zs x w (by omega) hn2 (fun j hj => ?_)).mono ?_
    · obtain ⟨b1, o1, e, _, hc⟩ := hss j hj
      simp only [Option.some.injEq, Addr.mk.injEq, and_true] at e
      obtain ⟨rfl, rfl⟩ := e
      exact hc
    · rintro e w' ⟨rfl, rfl⟩
      rw [List.take_of_length_le (by omega)]
      exact ⟨rfl, rfl⟩
set_option maxHeartbeats 1000000 in
theorem impl_gil (A : Option Addr) (n c : Nat) (zs : List Int) (w : World) (hn : zs.length = n) (hnc : n ≤ c) (hn2 : n ≤ 9223372036854775807) (hz : Fits zs) (hss : IntsAt w w.heap.size .i64 A zs) :
    Calls Try.prog 13 #[.slice A n c] w fun e w' => e = .returned (.bool (gilB zs)) ∧ Below w.heap.size w w' := by
  have HF := Lib.hid (impl_perm A n c zs w hn hn2 hz hss)
  have HN := Lib.hid hn
  have HSH := Lib.hid (@perm_short zs)
  have HIR := Lib.hid (@inR_perm zs)
  clear hn hz
  go_enter Try.func13, Try.ntmps13
  go_wp2_with fail
  refine HF.out.mono ?_
  rintro e w1 ⟨rfl, hb⟩
  cases hp : permB zs with
  | false =>
    have HS := Lib.hid (gil_no hp)
    clear hp
    go_wp2
    go_ret
    exact ⟨ret_b HS.out.symm, hb⟩
  | true =>
    have h12 := HSH.out hp
    rw [HN.out] at h12
    have hin := HIR.out hp
    have hin12 := inR_more hin (m' := 12) (by rw [HN.out]; exact h12)
    have HIN := Lib.hid hin
    have HI12 := Lib.hid hin12
    have HP := Lib.hid hp
    clear hp hin hin12
    have HB := Lib.hid hb
    clear hb
    go_wp2
    go_loopw [3, 4, 10] (fun _ _ i wr => ∃ k : Nat, k ≤ n ∧ i = .int .i64 (k : Int) ∧ Hid (∀ j, j < k → gilAt zs j = true) ∧ Below w.heap.size w wr) (fun _ _ i _ => n - (intOf i).toNat)
    case atStart => exact ⟨0, Nat.zero_le _, rfl, (fun i hi => absurd hi (Nat.not_lt_zero _)), HB.out⟩
    case round =>
      obtain ⟨k, hk, rfl, HG, hbw⟩ := hrel
      have hsz := hbw.size
      by_cases hlt : k < n
      · obtain ⟨b, o, rfl, hbb, hc⟩ := hss.below hbw k (by rw [HN.out]; exact hlt)
        have hat := (hss.below hbw).more hsz
        have HNX := Lib.hid (next_any (some ⟨b, o, none⟩) n k c (zs.take k) wr h12 (by rw [List.length_take, HN.out]; omega) (by omega) (inR_take HI12.out) (ints_take k hat))
        have hmem := mem_next HIN.out (k := k) (by rw [HN.out]; exact hlt) HG.out
        rw [HN.out] at hmem
        have hns := nextF_small h12 (zs.take k)
        generalize nextF n (zs.take k) = q at *
        have HX := Lib.hid (gil_bad (zs := zs) (k := k) (by rw [HN.out]; exact hlt))
        have HY := Lib.hid (show gilAt zs k = true → ∀ j, j < k + 1 → gilAt zs j = true from fun hx j hj => by
            by_cases e : j = k
            · rw [e]; exact hx
            · exact HG.out j (by omega))
        generalize zs.getD k 0 = x at *
        generalize gilAt zs k = g at *
        have HM := Lib.hid hmem
        clear hmem hat HG
        go_wp2_with fail
        refine HNX.out.mono ?_
        rintro e w2 ⟨A2, c2, rfl, hown, hb2⟩
        have hbw2 := hbw.trans (hb2.mono hsz)
        go_wp2_with fail
        refine (has2 A2 q.length c2 q x _ rfl (by omega) (ints_of hown)).mono ?_
        rintro e w3 ⟨rfl, rfl⟩
        rw [HM.out]
        clear hown hb2 HM HNX
        cases g with
        | false =>
          have HS := Lib.hid (HX.out rfl)
          clear HX HY
          go_wp2
          go_ret
          exact ⟨ret_b HS.out.symm, hbw2⟩
        | true =>
          have HS := Lib.hid (HY.out rfl)
          clear HX HY
          go_wp2
          go_roundw
          case rel => exact ⟨k + 1, by omega, by go_num, HS.out, hbw2⟩
          case measure => simp [intOf]; omega
      · have hkn : k = n := by omega
        have HS := Lib.hid (gil_all HP.out (fun i hi => HG.out i (by rw [hkn, ← HN.out]; exact hi)))
        clear HG hkn
        go_wp2
        go_ret
        exact ⟨ret_b HS.out.symm, hbw⟩

/-! ### GilbreathCut -/
def gcutF (zs : List Int) : Int := if gilB zs && decide (1 ≤ zs.length) then zs.getD 0 0 + 1 else -1
theorem gcut_bd {zs : List Int} : -1 ≤ gcutF zs ∧ gcutF zs ≤ 12 := by
  unfold gcutF
  split
  · rename_i h
    rw [Bool.and_eq_true, decide_eq_true_eq] at h
    have hp := (gil_parts h.1).1
    have h1 := perm_short hp
    have h2 := inR_perm hp 0 (by omega)
    omega
  · omega
set_option maxHeartbeats 1000000 in
theorem impl_gcut (A : Option Addr) (n c : Nat) (zs : List Int) (w : World) (hn : zs.length = n) (hnc : n ≤ c) (hn2 : n ≤ 9223372036854775807) (hz : Fits zs) (hss : IntsAt w w.heap.size .i64 A zs) :
    Calls Try.prog 25 #[.slice A n c] w fun e w' => e = .returned (.int .i64 (gcutF zs)) ∧ Below w.heap.size w w' := by
  have HF := Lib.hid (impl_gil A n c zs w hn hnc hn2 hz hss)
  have HGC := Lib.hid (show gcutF zs = if gilB zs && decide (1 ≤ n) then zs.getD 0 0 + 1 else -1 by unfold gcutF; rw [hn])
  have HBD := Lib.hid (fun (h : gilB zs = true) (h0 : 0 < n) => by
    have hp := (gil_parts h).1
    have h1 := perm_short hp
    have h2 := inR_perm hp 0 (by omega)
    exact (⟨h2.1, by omega⟩ : 0 ≤ zs.getD 0 0 ∧ zs.getD 0 0 < 12))
  have HC := Lib.hid (fun (w' : World) (h : Below w.heap.size w w') (h0 : 0 < n) => (hss.below h) 0 (by rw [hn]; exact h0))
  clear hn hz hss
  go_enter Try.func25, Try.ntmps25
  go_wp2_with fail
  refine HF.out.mono ?_
  rintro e w1 ⟨rfl, hb⟩
  cases hg : gilB zs with
  | false =>
    have HS := Lib.hid (show gcutF zs = -1 by rw [HGC.out, hg]; rfl)
    clear hg
    go_wp2
    go_ret
    exact ⟨ret_i HS.out.symm, hb⟩
  | true =>
    by_cases h0 : n = 0
    · subst h0
      have HS := Lib.hid (show gcutF zs = -1 by rw [HGC.out, hg]; rfl)
      clear hg
      go_wp2
      go_ret
      exact ⟨ret_i HS.out.symm, hb⟩
    · have HS := Lib.hid (show gcutF zs = zs.getD 0 0 + 1 by rw [HGC.out, hg, decide_eq_true (show 1 ≤ n by omega)]; rfl)
      obtain ⟨hx1, hx2⟩ := HBD.out hg (by omega)
      obtain ⟨b, o, rfl, hbb, hc⟩ := HC.out w1 hb (by omega)
      rw [Nat.add_zero] at hc
      have hne : ((n : Int) == 0) = false := by simpa using h0
      have hn0 : 0 < n := by omega
      generalize zs.getD 0 0 = x at *
      clear hg h0
      go_wp2
      go_ret
      exact ⟨ret_i HS.out.symm, hb⟩
set_option maxHeartbeats 1000000 in
theorem spec_gcut (A : Option Addr) (n c : Nat) (zs : List Int) (w : World) (hn : zs.length = n) (hnc : n ≤ c) (hn2 : n ≤ 9223372036854775807) (hz : Fits zs) (hss : IntsAt w w.heap.size .i64 A zs) :
    Calls Try.prog 33 #[.slice A n c] w fun e w' => e = .returned (.int .i64 (gcutF zs)) ∧ w = w' := by
  have HF := Lib.hid (spec_gil A n c zs w hn hnc hn2 hz hss)
  have HGC := Lib.hid (show gcutF zs = if gilB zs && decide (1 ≤ n) then zs.getD 0 0 + 1 else -1 by unfold gcutF; rw [hn])
  have HBD := Lib.hid (fun (h : gilB zs = true) (h0 : 0 < n) => by
    have hp := (gil_parts h).1
    have h1 := perm_short hp
    have h2 := inR_perm hp 0 (by omega)
    exact (⟨h2.1, by omega⟩ : 0 ≤ zs.getD 0 0 ∧ zs.getD 0 0 < 12))
  have HC := Lib.hid (fun (h0 : 0 < n) => hss 0 (by rw [hn]; exact h0))
  clear hn hz hss
  go_enter Try.func33, Try.ntmps33
  go_wp2_with fail
  refine HF.out.mono ?_
  rintro e w1 ⟨rfl, rfl⟩
  cases hg : gilB zs with
  | false =>
    have HS := Lib.hid (show gcutF zs = -1 by rw [HGC.out, hg]; rfl)
    clear hg
    go_wp2
    go_ret
    exact ⟨ret_i HS.out.symm, rfl⟩
  | true =>
    by_cases h0 : n = 0
    · subst h0
      have HS := Lib.hid (show gcutF zs = -1 by rw [HGC.out, hg]; rfl)
      clear hg
      go_wp2
      go_ret
      exact ⟨ret_i HS.out.symm, rfl⟩
    · have HS := Lib.hid (show gcutF zs = zs.getD 0 0 + 1 by rw [HGC.out, hg, decide_eq_true (show 1 ≤ n by omega)]; rfl)
      obtain ⟨hx1, hx2⟩ := HBD.out hg (by omega)
      obtain ⟨b, o, rfl, hbb, hc⟩ := HC.out (by omega)
      rw [Nat.add_zero] at hc
      have hne : ((n : Int) == 0) = false := by simpa using h0
      have hn0 : 0 < n := by omega
      generalize zs.getD 0 0 = x at *
      clear hg h0
      go_wp2
      go_ret
      exact ⟨ret_i HS.out.symm, rfl⟩
end Go.Proofs.Ytpmfiflpipcojaa.Gip
