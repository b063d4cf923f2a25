/- slices.IndexFunc and slices.DeleteFunc over ints for any function that tells; without: the cards that are not among others; lists of different ones of some cards. -/
import Derived.Test.YtefgcnjbiaileaaHim
import Derived.Lib.SliceRun
set_option linter.unusedVariables false
set_option maxRecDepth 20000
namespace Go.Proofs.Ytefgcnjbiaileaa.Wit
open Go.RowKit Fr _root_.Go.Proofs.Ytefgcnjbiaileaa.Own Pk Ins Pok Prm Pfn Rws Nwp Col Him

theorem own_prefix {w : World} {base : Nat} {e : TypeId} {g n c m : Nat} {xs : List Value} (h : w.ownsRow base e 1 (.slice (some ⟨g, 0, none⟩) n c) n xs) (hm : m ≤ n) : w.ownsRow base e 1 (.slice (some ⟨g, 0, none⟩) m c) m (xs.take m) := by
  have hl : xs.length = n := by have := h.1; simp at this; omega
  refine ⟨by rw [List.length_take]; omega, ?_⟩
  rcases h.2 with ⟨h2, _⟩ | ⟨g', cap, cur, hv, hg', hh, h1, h2, h3, h4⟩
  · simp at h2
  · simp only [Value.slice.injEq, Option.some.injEq, Addr.mk.injEq, and_true, true_and] at hv
    obtain ⟨rfl, rfl⟩ := hv
    refine Or.inr ⟨g, c, cur, rfl, hg', hh, by omega, h2, h3, ?_⟩
    have := congrArg (List.take m) h4
    rw [List.take_take] at this
    rw [Nat.mul_one, ← this, Nat.min_eq_left (by omega)]
/-- what the function that tells has to answer -/
def Tell (w : World) (f : Nat) (p : Addr) (d : Int → Bool) : Prop := ∀ x, Calls Try.prog f #[.int .i64 x, .pointer (some p)] w fun e w' => e = .returned (.bool (d x)) ∧ w = w'
def First (d : Int → Bool) (zs : List Int) (n : Nat) (e : Ending) : Prop :=
  (∃ i : Nat, i < n ∧ e = .returned (.int .i64 (i : Int)) ∧ d (zs.getD i 0) = true ∧ ∀ j, j < i → d (zs.getD j 0) = false) ∨ (e = .returned (.int .i64 (-1)) ∧ ∀ j, j < n → d (zs.getD j 0) = false)
set_option maxHeartbeats 1000000 in
theorem index_any (f : Nat) (p : Addr) (d : Int → Bool) (A : Option Addr) (n c : Nat) (zs : List Int) (w : World) (hn : zs.length = n) (hn2 : n ≤ 1048576) (hss : IntsAt w w.heap.size .i64 A zs) (hce : ∀ args w, (callFunc f args).run Try.prog w = .ok (.enter f args) w) (hT : Tell w f p d) :
    Calls Try.prog 44 #[.slice A n c, .func (.func f) #[] #[.pointer (some p)]] w fun e w' => First d zs n e ∧ w = w' := by
  have HN := Lib.hid hn
  have HT := Lib.hid hT
  clear hn hT
  go_enter Try.func44, Try.ntmps44
  go_wp2
  go_loop [5, 8] (fun _ i => ∃ k : Nat, k ≤ n ∧ i = .int .i64 k ∧ Hid (∀ j, j < k → d (zs.getD j 0) = false)) (fun _ i => n - (intOf i).toNat)
  case atStart => exact ⟨0, Nat.zero_le _, rfl, (fun i hi => absurd hi (Nat.not_lt_zero _))⟩
  case round =>
    obtain ⟨k, hk, rfl, HG⟩ := hrel
    by_cases hlt : k < n
    · obtain ⟨b, o, rfl, hbb, hc⟩ := hss k (by rw [HN.out]; exact hlt)
      have HYES := Lib.hid (show d (zs.getD k 0) = true → First d zs n (.returned (.int .i64 (k : Int))) from fun h => Or.inl ⟨k, hlt, rfl, h, HG.out⟩)
      have HNO := Lib.hid (show d (zs.getD k 0) = false → ∀ j, j < k + 1 → d (zs.getD j 0) = false from fun h j hj => by
        by_cases e : j = k
        · rw [e]; exact h
        · exact HG.out j (by omega))
      generalize zs.getD k 0 = x at hc HYES HNO
      go_wp2_with fail
      refine (HT.out x).mono ?_
      rintro e w' ⟨rfl, rfl⟩
      cases hx : d x with
      | false =>
        have HS := Lib.hid (HNO.out hx)
        clear HG hx HYES HNO
        go_wp2
        go_round
        case rel => exact ⟨k + 1, by omega, by go_num, HS⟩
        case measure => simp [intOf]; omega
      | true =>
        have HS := Lib.hid (HYES.out hx)
        clear HG hx HYES HNO
        go_wp2
        go_ret
        exact ⟨HS.out, rfl⟩
    · have hkn : k = n := by omega
      have HS := Lib.hid (show First d zs n (.returned (.int .i64 (-1))) from Or.inr ⟨rfl, by rw [← hkn]; exact HG.out⟩)
      clear HG hkn
      go_wp2
      go_ret
      exact ⟨HS.out, rfl⟩
/-- what stays of the first j elements -/
def kp (d : Int → Bool) (zs : List Int) (j : Nat) : List Int := (zs.take j).filter fun x => !d x
/-- the row while the loop goes on -/
def mid (d : Int → Bool) (zs : List Int) (j : Nat) : List Int := kp d zs j ++ zs.drop (kp d zs j).length
theorem kp_le (d : Int → Bool) (zs : List Int) (j : Nat) : (kp d zs j).length ≤ j := by
  unfold kp
  exact Nat.le_trans (List.length_filter_le _ _) (by rw [List.length_take]; omega)
theorem kp_le2 (d : Int → Bool) (zs : List Int) (j : Nat) : (kp d zs j).length ≤ zs.length := by
  unfold kp
  exact Nat.le_trans (List.length_filter_le _ _) (by rw [List.length_take]; omega)
theorem kp_next (d : Int → Bool) {zs : List Int} {j : Nat} (hj : j < zs.length) : kp d zs (j + 1) = kp d zs j ++ (if d (zs.getD j 0) = true then [] else [zs.getD j 0]) := by
  unfold kp
  rw [take_snoc zs j hj, List.filter_append]
  congr 1
  generalize zs.getD j 0 = x
  cases h : d x <;> simp [h]
theorem mid_len (d : Int → Bool) (zs : List Int) (j : Nat) : (mid d zs j).length = zs.length := by
  unfold mid
  have := kp_le2 d zs j
  rw [List.length_append, List.length_drop]
  omega
theorem mid_skip (d : Int → Bool) {zs : List Int} {j : Nat} (hj : j < zs.length) (h : d (zs.getD j 0) = true) : mid d zs (j + 1) = mid d zs j ∧ kp d zs (j + 1) = kp d zs j := by
  have e : kp d zs (j + 1) = kp d zs j := by rw [kp_next d hj, if_pos h, List.append_nil]
  exact ⟨by unfold mid; rw [e], e⟩
theorem mid_keep (d : Int → Bool) {zs : List Int} {j : Nat} (hj : j < zs.length) (h : d (zs.getD j 0) = false) : mid d zs (j + 1) = (mid d zs j).set (kp d zs j).length (zs.getD j 0) ∧ (kp d zs (j + 1)).length = (kp d zs j).length + 1 := by
  have hle := kp_le d zs j
  have e : kp d zs (j + 1) = kp d zs j ++ [zs.getD j 0] := by rw [kp_next d hj, if_neg (by rw [h]; decide)]
  refine ⟨?_, by rw [e]; simp⟩
  unfold mid
  rw [e, List.set_append_right _ _ (Nat.le_refl _)]
  simp only [List.length_append, List.length_singleton, Nat.sub_self]
  rw [List.append_assoc]
  congr 1
  rw [List.drop_eq_getElem_cons (show (kp d zs j).length < zs.length by omega), List.set_cons_zero]
  rfl
theorem mid_high (d : Int → Bool) (zs : List Int) (j i : Nat) (hi : (kp d zs j).length ≤ i) : (mid d zs j).getD i 0 = zs.getD i 0 := by
  unfold mid
  simp only [List.getD_eq_getElem?_getD]
  rw [List.getElem?_append_right hi, List.getElem?_drop]
  congr 2
  omega
theorem kp_all (d : Int → Bool) {zs : List Int} {i : Nat} (h : ∀ j, j < i → d (zs.getD j 0) = false) (hi : i ≤ zs.length) : kp d zs i = zs.take i := by
  induction i with
  | zero => rfl
  | succ i ih => rw [kp_next d (by omega), if_neg (by rw [h i (by omega)]; decide), ih (fun j hj => h j (by omega)) (by omega), take_snoc zs i (by omega)]
theorem kp_full (d : Int → Bool) (zs : List Int) : kp d zs zs.length = zs.filter fun x => !d x := by unfold kp; rw [List.take_length]
theorem zero_int (w : World) : (zeroValue 3).run Try.prog w = .ok (.int .i64 0) w := by kernel_rfl
/-- a call hands back the first part of the row that it was given -/
def IsDel (B : Nat) (A : Option Addr) (c : Nat) (zs : List Int) (w : World) (e : Ending) (w' : World) : Prop :=
  e = .returned (.slice A zs.length c) ∧ w'.ownsRow B 3 1 (.slice A zs.length c) zs.length (vals zs) ∧ w.grownBy w' (A.map (·.block))
set_option maxHeartbeats 4000000 in
theorem delete_any (f : Nat) (p : Addr) (d : Int → Bool) (B : Nat) (A : Option Addr) (n c : Nat) (zs : List Int) (w : World) (hn2 : n ≤ 1048576) (hown : w.ownsRow B 3 1 (.slice A n c) n (vals zs)) (hce : ∀ args w, (callFunc f args).run Try.prog w = .ok (.enter f args) w) (hT : ∀ W, w.grownBy W (A.map (·.block)) → Tell W f p d) :
    Calls Try.prog 35 #[.slice A n c, .func (.func f) #[] #[.pointer (some p)]] w (IsDel B A c (zs.filter fun x => !d x) w) := by
  have hn : zs.length = n := by have := hown.1; rw [vals_len] at this; omega
  have hnc := Pfn.own_cap hown
  have HI := Lib.hid (index_any f p d A n c zs w hn hn2 (ints_of hown) hce (hT w (World.grownBy.refl w _)))
  have HN := Lib.hid hn
  have HT := Lib.hid hT
  have HO := Lib.hid hown
  clear hT hown hn
  go_enter Try.func35, Try.ntmps35
  go_wp2_with fail
  refine HI.out.mono ?_
  rintro e w1 ⟨h | h, rfl⟩
  · obtain ⟨i, hi, rfl, hd, hf⟩ := h
    obtain ⟨g, rfl⟩ := own_shape HO.out (by omega)
    have HTG := Lib.hid (show ∀ W, w.grownBy W (some g) → Tell W f p d from HT.out)
    have HKA := kp_all d hf (by rw [HN.out]; omega)
    have HS1 := mid_skip d (zs := zs) (j := i) (by rw [HN.out]; omega) hd
    have HK0 := Lib.hid (show (kp d zs (i + 1)).length = i by rw [HS1.2, HKA, List.length_take, HN.out]; omega)
    have HM0 := Lib.hid (show mid d zs (i + 1) = zs by
      rw [HS1.1]
      unfold mid
      rw [HKA, List.length_take, HN.out, Nat.min_eq_left (by omega), List.take_append_drop])
    have hne : (((i : Nat) : Int) == -1) = false := beq_eq_false_iff_ne.2 (by omega)
    clear hd hf HKA HS1 HI HT
    go_wp2
    go_loopw [5, 6, 7] (fun v5 v6 _ wr => ∃ j kk : Nat, i + 1 ≤ j ∧ j ≤ n ∧ v6 = .int .i64 (j : Int) ∧ v5 = .int .i64 (kk : Int) ∧ kk < j ∧ Hid (kk = (kp d zs j).length) ∧ wr.ownsRow B 3 1 (.slice (some ⟨g, 0, none⟩) n c) n (vals (mid d zs j)) ∧ w.grownBy wr (some g)) (fun _ v6 _ _ => n - (intOf v6).toNat)
    case atStart => exact ⟨i + 1, i, Nat.le_refl _, by omega, by go_num, rfl, by omega, HK0.out.symm, by rw [HM0.out]; exact HO.out, World.grownBy.refl w _⟩
    case round =>
      obtain ⟨j, kk, hj1, hj2, rfl, rfl, hkj, HK, hr, hg⟩ := hrel
      clear HK0 HM0
      by_cases hlt : j < n
      · have hml := mid_len d zs j
        have hcj := (hr.cellAt j (by omega)).trans (vals_get (by rw [hml, HN.out]; exact hlt))
        rw [mid_high d zs j j (by rw [← HK.out]; omega)] at hcj
        have hfk := hr.frozenAt kk
        obtain ⟨old, hold⟩ : ∃ old, wr.cell? ⟨g, kk, none⟩ = some old := ⟨_, (hr.cellAt kk (by omega)).trans (vals_get (by rw [hml, HN.out]; omega))⟩
        have HTW := Lib.hid (HTG.out wr hg)
        have HSK := Lib.hid (fun h => mid_skip d (zs := zs) (j := j) (by rw [HN.out]; exact hlt) h)
        have HKE := Lib.hid (fun h => mid_keep d (zs := zs) (j := j) (by rw [HN.out]; exact hlt) h)
        generalize zs.getD j 0 = x at hcj HSK HKE
        clear hml
        go_wp2_with fail
        refine (HTW.out x).mono ?_
        rintro e w2 ⟨rfl, rfl⟩
        cases hx : d x with
        | true =>
          obtain ⟨e1, e2⟩ := HSK.out hx
          have HR := Lib.hid (show wr.ownsRow B 3 1 (.slice (some ⟨g, 0, none⟩) n c) n (vals (mid d zs (j + 1))) by rw [e1]; exact hr)
          have HK2 := Lib.hid (show kk = (kp d zs (j + 1)).length by rw [e2]; exact HK.out)
          clear hx e1 e2 HSK HKE hr HK hcj hold hfk
          go_wp2
          go_roundw
          case rel => exact ⟨j + 1, kk, by omega, by omega, by go_num, rfl, by omega, HK2, HR.out, hg⟩
          case measure => simp [intOf]; omega
        | false =>
          obtain ⟨e1, e2⟩ := HKE.out hx
          obtain ⟨o1, o2⟩ := hr.stored kk (.int .i64 x)
          have HR := Lib.hid (show (wr.setCell ⟨g, kk, none⟩ (.int .i64 x)).ownsRow B 3 1 (.slice (some ⟨g, 0, none⟩) n c) n (vals (mid d zs (j + 1))) by rw [e1, ← HK.out, ← vals_set]; exact o1)
          have HK2 := Lib.hid (show kk + 1 = (kp d zs (j + 1)).length by rw [e2, HK.out])
          have HG2 := Lib.hid (hg.trans o2)
          clear hx e1 e2 HSK HKE hr HK hcj o1 o2
          go_wp2
          go_roundw
          case rel => exact ⟨j + 1, kk + 1, by omega, by omega, by go_num, by go_num, by omega, HK2, HR.out, HG2.out⟩
          case measure => simp [intOf]; omega
      · have hjn : j = n := by omega
        subst hjn
        have hcl : ∀ ty, (Builtin.clear_ #[33] ty #[.slice (some ⟨g, 0 + kk, none⟩) (j - kk) (c - kk)]).run Try.prog wr = .ok (.tuple #[]) (wr.setCells g (0 + kk) (List.replicate (j - kk) (.int .i64 0))) :=
          fun ty => Lib.run_clear_slice wr _ _ ty _ Try.underlying33 zero_int rfl rfl g (0 + kk) _ _ (by omega) (fun i hi' => by rw [hr.cellAt _ (by omega), List.getElem?_eq_getElem (by rw [vals_len, mid_len, HN.out]; omega)]; rfl) (fun i hi' => hr.frozenAt _)
        rw [Nat.zero_add] at hcl
        have HKF := Lib.hid (show kk = (zs.filter fun x => !d x).length by rw [HK.out, ← HN.out, kp_full])
        have HE : IsDel B (some ⟨g, 0, none⟩) c (zs.filter fun x => !d x) w (.returned (.slice (some ⟨g, 0, none⟩) kk c)) (wr.setCells g kk (List.replicate (j - kk) (.int .i64 0))) := by
          obtain ⟨o1, o2⟩ := Lb.own_put (List.replicate (j - kk) (.int .i64 0)) wr _ kk hr
          refine ⟨by rw [← HKF.out], ?_, hg.trans o2⟩
          rw [← HKF.out]
          have o3 := own_prefix o1 (m := kk) (by omega)
          rw [Lb.putAt_eq _ _ _ (by rw [List.length_replicate, vals_len, mid_len, HN.out]; omega)] at o3
          have e : (vals (mid d zs j)).take kk = vals (zs.filter fun x => !d x) := by
            unfold vals
            rw [← List.map_take]
            congr 1
            unfold mid
            rw [List.take_append_of_le_length (by rw [← HK.out]; exact Nat.le_refl _), List.take_of_length_le (by rw [← HK.out]; exact Nat.le_refl _), ← kp_full, HN.out]
          rw [List.append_assoc, List.take_append_of_le_length (by rw [List.length_take, vals_len, mid_len, HN.out]; omega), List.take_take, Nat.min_self, e] at o3
          exact o3
        have HE2 := Lib.hid HE
        clear HE hr HK
        go_wp2
        go_ret
        exact HE2.out
  · obtain ⟨rfl, hall⟩ := h
    have HE := Lib.hid (show (zs.filter fun x => !d x) = zs by
      rw [← kp_full, kp_all d (by rw [HN.out]; exact hall) (Nat.le_refl _), List.take_length])
    have HR := Lib.hid (show IsDel B A c (zs.filter fun x => !d x) w (.returned (.slice A n c)) w by
      rw [HE.out]
      exact ⟨by rw [HN.out], by rw [HN.out]; exact HO.out, World.grownBy.refl w _⟩)
    clear hall HI HT HE
    go_wp2
    go_ret
    exact HR.out
/-- slices.Contains -/
theorem has2 (A : Option Addr) (n c : Nat) (zs : List Int) (x : Int) (w : World) (hn : zs.length = n) (hn2 : n ≤ 9223372036854775807) (hss : IntsAt w w.heap.size .i64 A zs) :
    Calls Try.prog 37 #[.slice A n c, .int .i64 x] w fun e w' => e = .returned (.bool (decide (x ∈ zs))) ∧ w = w' := by
  rw [show decide (x ∈ zs) = zs.contains x by simp]
  by_cases h0 : n = 0
  · subst h0
    obtain rfl : zs = [] := List.length_eq_zero_iff.1 hn
    exact (Try.slices_Contains_int_empty A c x w).mono fun e w' h => ⟨h.1, h.2.symm⟩
  · obtain ⟨b, o, rfl, hbb, hc0⟩ := hss 0 (by omega)
    refine (Try.slices_Contains_int b o n c zs x w (by omega) hn2 (fun j hj => ?_)).mono ?_
    · obtain ⟨b1, o1, e, _, hc⟩ := hss j hj
      simp only [Option.some.injEq, Addr.mk.injEq, and_true] at e
      obtain ⟨rfl, rfl⟩ := e
      exact hc
    · rintro e w' ⟨rfl, rfl⟩
      rw [List.take_of_length_le (by omega)]
      exact ⟨rfl, rfl⟩
/-- the cards that are not among the others -/
def withF (zs os : List Int) : List Int := zs.filter fun x => !decide (x ∈ os)
theorem with_1 (bp : Nat) (A2 : Option Addr) (m c2 : Nat) (os : List Int) (W : World) (hm : os.length = m) (hm2 : m ≤ 1048576) (hos : IntsAt W W.heap.size .i64 A2 os) (hbox : W.cell? ⟨bp, 0, none⟩ = some (.slice A2 m c2)) :
    Tell W 36 ⟨bp, 0, none⟩ (fun x => decide (x ∈ os)) := by
  intro x
  have H := Lib.hid (has2 A2 m c2 os x W hm (by omega) hos)
  clear hos hm
  go_enter Try.func36, Try.ntmps36
  go_wp2_with fail
  refine H.out.mono ?_
  rintro e w1 ⟨rfl, rfl⟩
  go_wp2
  go_ret
  exact ⟨rfl, rfl⟩
theorem grown_ints {W W' : World} {B : Nat} {A : Option Addr} {zs : List Int} {row : Option Nat} (h : IntsAt W B .i64 A zs) (hB : B ≤ W.heap.size) (hg : W.grownBy W' row) (hr : ∀ k, row = some k → B ≤ k) : IntsAt W' B .i64 A zs := by
  intro j hj
  obtain ⟨b, o, rfl, hlt, hc⟩ := h j hj
  refine ⟨b, o, rfl, hlt, ?_⟩
  have := hg.block b (by omega) (fun e => by have := hr b e.symm; omega)
  unfold World.cell? at hc ⊢
  rw [this]
  exact hc
theorem grown_cell {W W' : World} {b o : Nat} {v : Value} {row : Option Nat} (h : W.cell? ⟨b, o, none⟩ = some v) (hB : b < W.heap.size) (hg : W.grownBy W' row) (hr : ∀ k, row = some k → b ≠ k) : W'.cell? ⟨b, o, none⟩ = some v := by
  have := hg.block b (by omega) (fun e => hr b e.symm rfl)
  unfold World.cell? at h ⊢
  rw [this]
  exact h
set_option maxHeartbeats 1000000 in
theorem without_any (A : Option Addr) (n c : Nat) (zs : List Int) (A2 : Option Addr) (m c2 : Nat) (os : List Int) (w : World) (hn : zs.length = n) (hn2 : n ≤ 1048576) (hss : IntsAt w w.heap.size .i64 A zs) (hm : os.length = m) (hm2 : m ≤ 1048576) (hos : IntsAt w w.heap.size .i64 A2 os) :
    Calls Try.prog 27 #[.slice A n c, .slice A2 m c2] w (IsIL w.heap.size (withF zs os) w) := by
  have HN := Lib.hid hn
  have HM := Lib.hid hm
  obtain ⟨W, hW⟩ : ∃ W, W = w.alloc (.cells #[.slice A2 m c2] 33) := ⟨_, rfl⟩
  have hs1 : w.heap.size < W.heap.size := by rw [hW]; simp
  have hbW : Below w.heap.size w W := by rw [hW]; exact (Below.refl _ w).alloc (Nat.le_refl _) _
  have hcW : W.cell? ⟨w.heap.size, 0, none⟩ = some (.slice A2 m c2) := by
    rw [hW]
    unfold World.cell?
    rw [heap_alloc_new w _]; rfl
  have HB := Lib.hid hbW
  have HC := Lib.hid (Lb.clone_any A n c zs W hn hn2 ((hss.below hbW).more hbW.size))
  have HOS := Lib.hid (hos.below hbW)
  have HCW := Lib.hid hcW
  clear hss hos hn hm hbW hcW
  go_enter Try.func27, Try.ntmps27
  go_wp2_with fail
  rw [← hW]
  clear hW
  refine HC.out.mono ?_
  rintro e w1 ⟨A1, c1, rfl, ho, hb⟩
  have hsz := hb.size
  have hlo := fun k hk => own_lo ho k hk
  have HD := Lib.hid (delete_any 36 ⟨w.heap.size, 0, none⟩ (fun x => decide (x ∈ os)) W.heap.size A1 zs.length c1 zs w1 (by rw [HN.out]; exact hn2) ho (fun args w => rfl) (fun V hg => by
    have hi := grown_ints (HOS.out.below (hb.mono (by omega))) (by omega) hg (fun k hk => by have := hlo k hk; omega)
    exact with_1 w.heap.size A2 m c2 os V HM.out hm2 (hi.more (by have := hg.size; omega)) (grown_cell ((hb.cell (p := ⟨w.heap.size, 0, none⟩) hs1).trans HCW.out) (by omega) hg (fun k hk => by have := hlo k hk; omega))))
  have HB1 := Lib.hid (HB.out.trans (hb.mono HB.out.size))
  have HLO := Lib.hid hlo
  clear ho hb hlo
  go_wp2_with fail
  refine HD.out.mono ?_
  rintro e w2 ⟨rfl, ho2, hg2⟩
  have HO2 := Lib.hid (own_mono ho2 HB.out.size)
  have HB2 := Lib.hid (HB1.out.grown hg2 (by omega) (fun k hk => by have := HLO.out k hk; omega))
  clear ho2 hg2
  go_wp2
  go_ret
  exact ⟨A1, c1, rfl, HO2.out, HB2.out⟩
end Go.Proofs.Ytefgcnjbiaileaa.Wit
