/- Colors, of the program and of the model, for all lists of ints: ColorsAfter, AlternateOk, PairsDiffer. -/
import Derived.Test.YtpmfiflpipcojaaPfn
import Derived.Test.YtpmfiflpipcojaaRws
import Derived.BigQuiet
import Derived.Deep.QuietTactic
set_option linter.unusedVariables false
set_option maxRecDepth 20000
namespace Go.Proofs.Ytpmfiflpipcojaa.Gic
open Go.RowKit Fr Own Pk Ins Pok Prm Pfn Rws

/-! ### ColorsAfter -/
def colB (us bs : List Int) : Bool := permB bs && decide (us.length = bs.length)
def colF (us bs : List Int) : List Int := if colB us bs then joinF us bs else []
theorem colF_yes {us bs : List Int} (h : colB us bs = true) : colF us bs = joinF us bs := by unfold colF; rw [if_pos h]
theorem colF_no {us bs : List Int} (h : colB us bs = false) : colF us bs = [] := by unfold colF; rw [h]; rfl
theorem colF_short (us bs : List Int) : (colF us bs).length ≤ 1048576 := by
  unfold colF
  split
  · rename_i h; unfold colB at h; rw [Bool.and_eq_true] at h; have := perm_short h.1; rw [joinF_len]; omega
  · exact Nat.zero_le _

set_option maxHeartbeats 1000000 in
theorem impl_col (A : Option Addr) (n c : Nat) (us : List Int) (A2 : Option Addr) (n2 c2 : Nat) (bs : List Int) (w : World) (hn : us.length = n) (hn2 : n ≤ 9223372036854775807) (hss : IntsAt w w.heap.size .i64 A us)
    (hm : bs.length = n2) (hm2 : n2 ≤ 9223372036854775807) (hz2 : Fits bs) (hbs : IntsAt w w.heap.size .i64 A2 bs) :
    Calls Try.prog 16 #[.slice A n c, .slice A2 n2 c2] w (IsILB w.heap.size (colF us bs) (colB us bs) w) := by
  have HN := Lib.hid hn
  have HM := Lib.hid hm
  have hcb : colB us bs = (permB bs && decide (n = n2)) := by unfold colB; rw [hn, hm]
  have hyes := @colF_yes us bs
  have hno := @colF_no us bs
  have hsh := @perm_short bs
  have hir := @inR_perm bs
  rw [hm] at hsh hir
  clear hn hm
  generalize colB us bs = B at *
  generalize colF us bs = F at *
  go_enter Try.func16, Try.ntmps16
  go_wp2_with fail
  refine (impl_perm A2 n2 c2 bs _ HM.out hm2 hz2 hbs).mono ?_
  rintro e w2 ⟨rfl, hb⟩
  replace hss := (hss.below hb).more hb.size
  replace hbs := (hbs.below hb).more hb.size
  cases hq : permB bs with
  | false =>
    have hB : B = false := by rw [hcb, hq]; rfl
    have hF := hno hB
    subst hB hF
    clear hcb hyes hno hq hsh hir
    go_wp2
    go_ret2
    exact ⟨none, 0, rfl, World.ownsRow_nil _ _ _ _, hb⟩
  | true =>
    rw [hq, Bool.true_and] at hcb
    replace hsh := hsh hq
    replace hir := hir hq
    clear hq
    by_cases hl : n = n2
    · subst hl
      have hB : B = true := by rw [hcb]; exact decide_eq_true rfl
      have hF := hyes hB
      subst hB hF
      clear hcb hyes hno
      go_wp2_with fail
      refine (arr_any A2 n c2 bs A n c us _ HM.out (by omega) hbs HN.out hss hir).mono ?_
      rintro e w3 ⟨A3, c3, rfl, hown, hb3⟩
      have HO := Lib.hid (own_mono hown hb.size)
      clear hown
      go_wp2
      go_ret2
      exact ⟨A3, c3, rfl, HO.out, hb.trans (hb3.mono hb.size)⟩
    · have hB : B = false := by rw [hcb]; exact decide_eq_false hl
      have hF := hno hB
      subst hB hF
      have hne : ((n : Int) == (n2 : Int)) = false := by simpa using (fun e => hl (by omega))
      clear hcb hyes hno hsh hir hl
      go_wp2
      go_ret2
      exact ⟨none, 0, rfl, World.ownsRow_nil _ _ _ _, hb⟩

set_option maxHeartbeats 1000000 in
theorem spec_col (A : Option Addr) (n c : Nat) (us : List Int) (A2 : Option Addr) (n2 c2 : Nat) (bs : List Int) (w : World) (hn : us.length = n) (hn2 : n ≤ 9223372036854775807) (hss : IntsAt w w.heap.size .i64 A us)
    (hm : bs.length = n2) (hmc : n2 ≤ c2) (hm2 : n2 ≤ 9223372036854775807) (hz2 : Fits bs) (hbs : IntsAt w w.heap.size .i64 A2 bs) :
    Calls Try.prog 37 #[.slice A n c, .slice A2 n2 c2] w (IsILB w.heap.size (colF us bs) (colB us bs) w) := by
  have HN := Lib.hid hn
  have HM := Lib.hid hm
  have hcb : colB us bs = (permB bs && decide (n = n2)) := by unfold colB; rw [hn, hm]
  have hyes := @colF_yes us bs
  have hno := @colF_no us bs
  have hsh := @perm_short bs
  have hir := @inR_perm bs
  rw [hm] at hsh hir
  have HL := Lib.hid (show (joinF us bs).length = n2 by rw [joinF_len, hm])
  clear hn hm
  generalize colB us bs = B at *
  generalize colF us bs = F at *
  obtain ⟨i0, hi, hz0, hz1, hzz2⟩ := info_parts infoInt
  go_enter Try.func37, Try.ntmps37
  go_wp2_with fail
  refine (spec_perm A2 n2 c2 bs _ HM.out hmc hm2 hz2 hbs).mono ?_
  rintro e w2 ⟨rfl, rfl⟩
  cases hq : permB bs with
  | false =>
    have hB : B = false := by rw [hcb, hq]; rfl
    have hF := hno hB
    subst hB hF
    clear hcb hyes hno hq hsh hir
    go_wp2
    go_ret2
    exact ⟨none, 0, rfl, World.ownsRow_nil _ _ _ _, Below.refl _ _⟩
  | true =>
    rw [hq, Bool.true_and] at hcb
    replace hsh := hsh hq
    replace hir := hir hq
    clear hq
    by_cases hl : n = n2
    · subst hl
      have hB : B = true := by rw [hcb]; exact decide_eq_true rfl
      have hF := hyes hB
      subst hB hF
      clear hcb hyes hno
      go_wp2
      go_loopw [6, 8, 22] (fun v _ i wr => ∃ k : Nat, k ≤ n ∧ i = .int .i64 k ∧ (∃ A c, v = .slice A k c) ∧ wr.ownsRow w.heap.size 3 1 v k ((joinF us (bs.take k)).map (Value.int .i64)) ∧ Below w.heap.size w wr) (fun _ _ i _ => n - (intOf i).toNat)
      case atStart => exact ⟨0, Nat.zero_le _, rfl, ⟨_, _, rfl⟩, World.ownsRow_lit w #[] 0 (Nat.le_refl _) (Nat.zero_le _) rfl, (Below.refl _ w).alloc (Nat.le_refl _) _⟩
      case round =>
        obtain ⟨k, hk, rfl, ⟨A3, c3, rfl⟩, hown, hbw⟩ := hrel
        have hsz := hbw.size
        by_cases hlt : k < n
        · obtain ⟨b, o, rfl, hbb, hc⟩ := hbs.below hbw k (by rw [HM.out]; exact hlt)
          have hxin := hir k (by rw [HM.out]; exact hlt)
          have hsn := joinF_snoc us bs k (by rw [HM.out]; exact hlt)
          generalize bs.getD k 0 = x at hc hxin hsn
          obtain ⟨y, rfl⟩ : ∃ y : Nat, x = y := ⟨x.toNat, by omega⟩
          have hy : y < n := by omega
          obtain ⟨b2, o2, rfl, hbb2, hc2⟩ := hss.below hbw y (by rw [HN.out]; exact hy)
          replace hsn := hsn y rfl
          generalize us.getD y 0 = v at hsn hc2
          have HS := Lib.hid hsn
          clear hsn hxin
          go_wp2_with (at_builtin; refine app_one rfl (.tmp 26) (.tmp 31) 23 rfl w.heap.size 3 i0 (.int .i64 0) 8 Try.underlying23 hi hz0 hz1 hzz2 (by decide) rfl _ _ _ rfl hown (.int .i64 v) rfl rfl (by omega) (by omega) ?_; intro g c4 w2 hown2 hb2)
          go_roundw
          case rel => exact ⟨k + 1, by omega, by go_num, ⟨_, _, rfl⟩, by rw [HS.out]; simpa using hown2, hbw.trans hb2⟩
          case measure => simp [intOf]; omega
        · have hkm : k = n := by omega
          have ht : bs.take k = bs := List.take_of_length_le (by rw [HM.out]; omega)
          rw [ht] at hown
          subst hkm
          have HO := Lib.hid hown
          clear hown ht
          go_wp2
          go_ret2
          exact ⟨A3, c3, by rw [HL.out]; rfl, by rw [HL.out]; exact HO.out, hbw⟩
    · have hB : B = false := by rw [hcb]; exact decide_eq_false hl
      have hF := hno hB
      subst hB hF
      have hne : ((n : Int) == (n2 : Int)) = false := by simpa using (fun e => hl (by omega))
      clear hcb hyes hno hsh hir hl
      go_wp2
      go_ret2
      exact ⟨none, 0, rfl, World.ownsRow_nil _ _ _ _, Below.refl _ _⟩

/-! ### lists of colors -/
def isCol (x : Int) : Bool := x == 0 || x == 1
theorem isCol_yes {x : Int} (h : isCol x = true) : x = 0 ∨ x = 1 := by simpa [isCol] using h
theorem isCol_no {x : Int} (h : isCol x = false) : (x != 0) = true ∧ (x != 1) = true := by simpa [isCol, Bool.or_eq_false_iff] using h
def colorsB (zs : List Int) : Bool := decide (zs.length ≤ 12) && zs.all isCol
/-- every place s*i+1 differs from the one before it -/
def stepB (s : Nat) (zs : List Int) : Bool := (List.range zs.length).all fun i => decide (zs.length ≤ s * i + 1) || (zs.getD (s * i) 0 != zs.getD (s * i + 1) 0)
def difB (s : Nat) (zs : List Int) : Bool := colorsB zs && stepB s zs
theorem all_hit {zs : List Int} {k : Nat} (hk : k < zs.length) (h : isCol (zs.getD k 0) = false) : zs.all isCol = false := by
  refine Bool.eq_false_iff.2 fun hall => ?_
  have := List.all_eq_true.1 hall (zs.getD k 0) (by rw [List.getD_eq_getElem?_getD, List.getElem?_eq_getElem hk]; exact List.getElem_mem _)
  rw [h] at this; cases this
theorem all_done {zs : List Int} (h : ∀ i, i < zs.length → isCol (zs.getD i 0) = true) : zs.all isCol = true := by
  refine List.all_eq_true.2 fun x hx => ?_
  obtain ⟨i, hi, rfl⟩ := List.getElem_of_mem hx
  have := h i hi
  rwa [List.getD_eq_getElem?_getD, List.getElem?_eq_getElem hi] at this
theorem col_long {zs : List Int} (h : 12 < zs.length) : colorsB zs = false := by unfold colorsB; rw [decide_eq_false (by omega)]; rfl
theorem col_short {zs : List Int} (h : zs.length ≤ 12) : colorsB zs = zs.all isCol := by unfold colorsB; rw [decide_eq_true h, Bool.true_and]
theorem step_bad {s : Nat} {zs : List Int} {i : Nat} (hi : s * i + 1 < zs.length) (hs : 1 ≤ s) (h : zs.getD (s * i) 0 = zs.getD (s * i + 1) 0) : stepB s zs = false := by
  have h1 : i ≤ s * i := Nat.le_mul_of_pos_left i hs
  refine Bool.eq_false_iff.2 fun hall => ?_
  have := List.all_eq_true.1 hall i (List.mem_range.2 (by omega))
  simp only [Bool.or_eq_true, decide_eq_true_eq, bne_iff_ne] at this
  rcases this with this | this
  · omega
  · exact this h
theorem step_good {s : Nat} {zs : List Int} (h : ∀ i, s * i + 1 < zs.length → zs.getD (s * i) 0 ≠ zs.getD (s * i + 1) 0) : stepB s zs = true := by
  refine List.all_eq_true.2 fun i _ => ?_
  simp only [Bool.or_eq_true, decide_eq_true_eq, bne_iff_ne]
  by_cases e : zs.length ≤ s * i + 1
  · exact Or.inl e
  · exact Or.inr (h i (by omega))

theorem is_col (x : Int) (w : World) (h1 : -9223372036854775808 ≤ x) (h2 : x ≤ 9223372036854775807) :
    Calls Try.prog 73 #[.int .i64 x] w fun e w' => e = .returned (.bool (!isCol x)) ∧ w = w' := by
  by_cases h0 : x = 0
  · subst h0
    go_enter Try.func73, Try.ntmps73
    go_wp2
    go_ret
    exact ⟨rfl, rfl⟩
  · have E := Lib.hid (show (x != 0 && x != 1) = !isCol x by simp [isCol, Bool.not_or, bne])
    go_enter Try.func73, Try.ntmps73
    go_wp2
    go_ret
    exact ⟨ret_b E.out, rfl⟩

set_option maxHeartbeats 1000000 in
theorem spec_colors (A : Option Addr) (n c : Nat) (zs : List Int) (w : World) (hn : zs.length = n) (hn2 : n ≤ 9223372036854775807) (hz : Fits zs) (hss : IntsAt w w.heap.size .i64 A zs) :
    Calls Try.prog 66 #[.slice A n c] w fun e w' => e = .returned (.bool (colorsB zs)) ∧ w = w' := by
  by_cases h12 : n ≤ 12
  · have HN := Lib.hid hn
    have HC := Lib.hid (col_short (zs := zs) (by omega))
    clear hn
    have hk12 : decide ((12 : Int) < (n : Int)) = false := decide_eq_false (by omega)
    go_enter Try.func66, Try.ntmps66
    go_wp2
    go_loop [4, 10] (fun _ i => ∃ k : Nat, k ≤ n ∧ i = .int .i64 k ∧ Hid (∀ i, i < k → isCol (zs.getD i 0) = true)) (fun _ i => n - (intOf i).toNat)
    case atStart => exact ⟨0, Nat.zero_le _, rfl, (fun i hi => absurd hi (Nat.not_lt_zero _))⟩
    case round =>
      obtain ⟨k, hk, rfl, HG⟩ := hrel
      by_cases hlt : k < n
      · obtain ⟨b, o, rfl, hbb, hc⟩ := hss k (by rw [HN.out]; exact hlt)
        obtain ⟨hx1, hx2⟩ := hz k (by rw [HN.out]; exact hlt)
        have hbad : isCol (zs.getD k 0) = false → colorsB zs = false := fun h => HC.out.trans (all_hit (by rw [HN.out]; exact hlt) h)
        have hok : isCol (zs.getD k 0) = true → ∀ i, i < k + 1 → isCol (zs.getD i 0) = true := fun h i hi => by
          by_cases e : i = k
          · rw [e]; exact h
          · exact HG.out i (by omega)
        generalize zs.getD k 0 = x at hc hx1 hx2 hbad hok
        cases hx : isCol x with
        | false =>
          have HS := Lib.hid (hbad hx)
          obtain ⟨h1, h2⟩ := isCol_no hx
          clear hbad hok HG hx
          go_wp2
          go_ret
          exact ⟨ret_b HS.out.symm, rfl⟩
        | true =>
          have HS := Lib.hid (hok hx)
          have hx' := isCol_yes hx
          clear hbad hok HG hx
          rcases hx' with rfl | rfl
          · go_wp2
            go_round
            case rel => exact ⟨k + 1, by omega, by go_num, HS.out⟩
            case measure => simp [intOf]; omega
          · go_wp2
            go_round
            case rel => exact ⟨k + 1, by omega, by go_num, HS.out⟩
            case measure => simp [intOf]; omega
      · have hkn : k = n := by omega
        have HS := Lib.hid (HC.out.trans (all_done (zs := zs) fun i hi => HG.out i (by rw [hkn, ← HN.out]; exact hi)))
        clear HG hkn
        go_wp2
        go_ret
        exact ⟨ret_b HS.out.symm, rfl⟩
  · have HS := Lib.hid (col_long (zs := zs) (by omega))
    have h12' : (12 : Int) < (n : Int) := by omega
    clear hn
    go_enter Try.func66, Try.ntmps66
    go_wp2
    go_ret
    exact ⟨ret_b HS.out.symm, rfl⟩

set_option maxHeartbeats 1000000 in
theorem ixf_any (A : Option Addr) (n c : Nat) (zs : List Int) (w : World) (hn : zs.length = n) (hn2 : n ≤ 12) (hz : Fits zs) (hss : IntsAt w w.heap.size .i64 A zs) :
    Calls Try.prog 77 #[.slice A n c, .func (.func 73) #[] #[]] w fun e w' => (∃ x, e = .returned (.int .i64 x) ∧ decide (0 ≤ x) = !(zs.all isCol)) ∧ w = w' := by
  have HN := Lib.hid hn
  clear hn
  go_enter Try.func77, Try.ntmps77
  go_wp2
  go_loop [5, 8] (fun _ i => ∃ k : Nat, k ≤ n ∧ i = .int .i64 k ∧ Hid (∀ i, i < k → isCol (zs.getD i 0) = true)) (fun _ i => n - (intOf i).toNat)
  case atStart => exact ⟨0, Nat.zero_le _, rfl, (fun i hi => absurd hi (Nat.not_lt_zero _))⟩
  case round =>
    obtain ⟨k, hk, rfl, HG⟩ := hrel
    by_cases hlt : k < n
    · obtain ⟨b, o, rfl, hbb, hc⟩ := hss k (by rw [HN.out]; exact hlt)
      obtain ⟨hx1, hx2⟩ := hz k (by rw [HN.out]; exact hlt)
      have hbad : isCol (zs.getD k 0) = false → zs.all isCol = false := fun h => all_hit (by rw [HN.out]; exact hlt) h
      have hok : isCol (zs.getD k 0) = true → ∀ i, i < k + 1 → isCol (zs.getD i 0) = true := fun h i hi => by
        by_cases e : i = k
        · rw [e]; exact h
        · exact HG.out i (by omega)
      generalize zs.getD k 0 = x at hc hx1 hx2 hbad hok
      go_wp2_with fail
      refine (is_col x _ hx1 hx2).mono ?_
      rintro e w' ⟨rfl, rfl⟩
      cases hx : isCol x with
      | false =>
        have HS := Lib.hid (hbad hx)
        clear hbad hok HG hx
        go_wp2
        go_ret
        exact ⟨⟨_, rfl, by rw [HS.out]; exact decide_eq_true (by omega)⟩, rfl⟩
      | true =>
        have HS := Lib.hid (hok hx)
        clear hbad hok HG hx
        go_wp2
        go_round
        case rel => exact ⟨k + 1, by omega, by go_num, HS.out⟩
        case measure => simp [intOf]; omega
    · have hkn : k = n := by omega
      have HS := Lib.hid (all_done (zs := zs) fun i hi => HG.out i (by rw [hkn, ← HN.out]; exact hi))
      clear HG hkn
      go_wp2
      go_ret
      exact ⟨⟨_, rfl, by rw [HS.out]; rfl⟩, rfl⟩

theorem cf_any (A : Option Addr) (n c : Nat) (zs : List Int) (w : World) (hn : zs.length = n) (hn2 : n ≤ 12) (hz : Fits zs) (hss : IntsAt w w.heap.size .i64 A zs) :
    Calls Try.prog 72 #[.slice A n c, .func (.func 73) #[] #[]] w fun e w' => e = .returned (.bool (!(zs.all isCol))) ∧ w = w' := by
  have H := Lib.hid (ixf_any A n c zs w hn hn2 hz hss)
  go_enter Try.func72, Try.ntmps72
  clear hn hz hss
  go_wp2_with fail
  refine H.out.mono ?_
  rintro e w' ⟨⟨x, rfl, hx⟩, rfl⟩
  have HX := Lib.hid hx
  clear hx
  go_wp2
  go_ret
  exact ⟨ret_b HX.out, rfl⟩
/-! ### differences in steps -/
def Pre (s : Nat) (zs : List Int) (m : Nat) : Prop := ∃ k, m = s * k + 1 ∧ ∀ j, j < k → zs.getD (s * j) 0 ≠ zs.getD (s * j + 1) 0
theorem pre_one (s : Nat) (zs : List Int) : Pre s zs 1 := ⟨0, by simp, fun j hj => absurd hj (Nat.not_lt_zero _)⟩
theorem pre_next {s : Nat} {zs : List Int} {m : Nat} (h : Pre s zs m) (hne : zs.getD (m - 1) 0 ≠ zs.getD m 0) : Pre s zs (m + s) := by
  obtain ⟨k, rfl, hk⟩ := h
  refine ⟨k + 1, by rw [Nat.mul_succ]; omega, fun j hj => ?_⟩
  by_cases e : j = k
  · subst e; simpa using hne
  · exact hk j (by omega)
theorem pre_bad {s : Nat} (hs : 1 ≤ s) {zs : List Int} {m : Nat} (h : Pre s zs m) (hm : m < zs.length) (he : zs.getD (m - 1) 0 = zs.getD m 0) : stepB s zs = false := by
  obtain ⟨k, rfl, hk⟩ := h
  exact step_bad hm hs (by simpa using he)
theorem pre_done {s : Nat} {zs : List Int} {m : Nat} (h : Pre s zs m) (hm : zs.length ≤ m) : stepB s zs = true := by
  obtain ⟨k, rfl, hk⟩ := h
  refine step_good fun i hi => hk i ?_
  have h1 : s * i < s * k := by omega
  exact Nat.lt_of_mul_lt_mul_left h1
theorem dif_long {s : Nat} {zs : List Int} (h : 12 < zs.length) : difB s zs = false := by unfold difB; rw [col_long h]; rfl
theorem dif_no {s : Nat} {zs : List Int} (h : colorsB zs = false) : difB s zs = false := by unfold difB; rw [h]; rfl
theorem dif_of {s : Nat} {zs : List Int} {b : Bool} (h : colorsB zs = true) (h2 : stepB s zs = b) : difB s zs = b := by unfold difB; rw [h, h2]; rfl

set_option maxHeartbeats 1000000 in
theorem dif_any (s : Nat) (hs1 : 1 ≤ s) (hs2 : s ≤ 2) (A : Option Addr) (n c : Nat) (zs : List Int) (w : World) (hn : zs.length = n) (hn2 : n ≤ 9223372036854775807) (hz : Fits zs) (hss : IntsAt w w.heap.size .i64 A zs) :
    Calls Try.prog 49 #[.int .i64 s, .slice A n c] w fun e w' => e = .returned (.bool (difB s zs)) ∧ Below w.heap.size w w' := by
  by_cases h12 : n ≤ 12
  · have HN := Lib.hid hn
    have HC := Lib.hid (col_short (zs := zs) (by omega))
    have HF := Lib.hid (cf_any A n c zs w hn h12 hz hss)
    clear hn hz
    have hk12 : decide ((12 : Int) < (n : Int)) = false := decide_eq_false (by omega)
    go_enter Try.func49, Try.ntmps49
    go_wp2_with fail
    refine HF.out.mono ?_
    rintro e w' ⟨rfl, rfl⟩
    rw [← HC.out]
    cases hc : colorsB zs with
    | false =>
      have HS := Lib.hid (dif_no (s := s) hc)
      clear hc
      go_wp2
      go_ret
      exact ⟨ret_b HS.out.symm, Below.refl _ _⟩
    | true =>
      have HD := Lib.hid (fun b h => dif_of (s := s) (zs := zs) (b := b) hc h)
      clear hc
      go_wp2
      go_loopw [5] (fun i wr => ∃ m : Nat, 1 ≤ m ∧ m ≤ n + 2 ∧ i = .int .i64 m ∧ Hid (Pre s zs m) ∧ ∃ d, wr = w.drewN d) (fun i _ => n + 2 - (intOf i).toNat)
      case atStart => exact ⟨1, Nat.le_refl _, by omega, rfl, pre_one s zs, 0, rfl⟩
      case round =>
        obtain ⟨m, hm1, hm2, rfl, HP, d, rfl⟩ := hrel
        by_cases hlt : m < n
        · obtain ⟨b1, o1, rfl, hbb1, hc1⟩ := hss (m - 1) (by rw [HN.out]; omega)
          obtain ⟨b2, o2, hA2, hbb2, hc2⟩ := hss m (by rw [HN.out]; omega)
          simp only [Option.some.injEq, Addr.mk.injEq, and_true] at hA2
          obtain ⟨rfl, rfl⟩ := hA2
          have hbad := pre_bad hs1 HP.out (by rw [HN.out]; exact hlt)
          have hnx := pre_next HP.out
          generalize zs.getD (m - 1) 0 = x at hc1 hbad hnx
          generalize zs.getD m 0 = y at hc2 hbad hnx
          obtain ⟨q, rfl⟩ : ∃ q, m = q + 1 := ⟨m - 1, by omega⟩
          simp only [Nat.add_sub_cancel] at hc1
          by_cases hxy : x = y
          · subst hxy
            have HS := Lib.hid (HD.out _ (hbad rfl))
            clear hbad hnx HP
            go_wp2
            go_quiet (fail)
            go_wp2
            go_ret
            exact ⟨ret_b HS.out.symm, below_drewN (below_drewN (Below.refl _ w) _) _⟩
          · have hne : (x == y) = false := by simpa using hxy
            have hne2 : (y == x) = false := by simpa using (fun e => hxy e.symm)
            have HS := Lib.hid (hnx hxy)
            clear hbad hnx HP hxy
            go_wp2
            go_quiet (fail)
            go_wp2
            go_roundw
            case rel => exact ⟨q + 1 + s, by omega, by omega, by go_num, HS.out, _, rfl⟩
            case measure => simp [intOf]; omega
        · have HS := Lib.hid (HD.out _ (pre_done HP.out (by rw [HN.out]; omega)))
          clear HP
          go_wp2
          go_ret
          exact ⟨ret_b HS.out.symm, below_drewN (Below.refl _ w) _⟩
  · have HS := Lib.hid (dif_long (s := s) (zs := zs) (by omega))
    have h12' : (12 : Int) < (n : Int) := by omega
    clear hn
    go_enter Try.func49, Try.ntmps49
    go_wp2
    go_ret
    exact ⟨ret_b HS.out.symm, Below.refl _ w⟩

theorem impl_alt (A : Option Addr) (n c : Nat) (zs : List Int) (w : World) (hn : zs.length = n) (hn2 : n ≤ 9223372036854775807) (hz : Fits zs) (hss : IntsAt w w.heap.size .i64 A zs) :
    Calls Try.prog 17 #[.slice A n c] w fun e w' => e = .returned (.bool (difB 1 zs)) ∧ Below w.heap.size w w' := by
  have H := Lib.hid (dif_any 1 (Nat.le_refl _) (by omega) A n c zs w hn hn2 hz hss)
  clear hn hz hss
  go_enter Try.func17, Try.ntmps17
  go_wp2_with fail
  refine H.out.mono ?_
  rintro e w' ⟨rfl, hb⟩
  go_wp2
  go_ret
  exact ⟨rfl, hb⟩
theorem impl_pair (A : Option Addr) (n c : Nat) (zs : List Int) (w : World) (hn : zs.length = n) (hn2 : n ≤ 9223372036854775807) (hz : Fits zs) (hss : IntsAt w w.heap.size .i64 A zs) :
    Calls Try.prog 18 #[.slice A n c] w fun e w' => e = .returned (.bool (difB 2 zs)) ∧ Below w.heap.size w w' := by
  have H := Lib.hid (dif_any 2 (by omega) (Nat.le_refl _) A n c zs w hn hn2 hz hss)
  clear hn hz hss
  go_enter Try.func18, Try.ntmps18
  go_wp2_with fail
  refine H.out.mono ?_
  rintro e w' ⟨rfl, hb⟩
  go_wp2
  go_ret
  exact ⟨rfl, hb⟩

set_option maxHeartbeats 1000000 in
theorem spec_alt (A : Option Addr) (n c : Nat) (zs : List Int) (w : World) (hn : zs.length = n) (hn2 : n ≤ 9223372036854775807) (hz : Fits zs) (hss : IntsAt w w.heap.size .i64 A zs) :
    Calls Try.prog 35 #[.slice A n c] w fun e w' => e = .returned (.bool (difB 1 zs)) ∧ Below w.heap.size w w' := by
  have HN := Lib.hid hn
  have HF := Lib.hid (spec_colors A n c zs w hn hn2 hz hss)
  have HLG := Lib.hid (fun h => col_long (zs := zs) (by rw [hn]; exact h))
  clear hn hz
  go_enter Try.func35, Try.ntmps35
  go_wp2_with fail
  refine HF.out.mono ?_
  rintro e w' ⟨rfl, rfl⟩
  cases hc : colorsB zs with
  | false =>
    have HS := Lib.hid (dif_no (s := 1) hc)
    clear hc
    go_wp2
    go_ret
    exact ⟨ret_b HS.out.symm, Below.refl _ _⟩
  | true =>
    have h12 : n ≤ 12 := by
      by_cases h : n ≤ 12
      · exact h
      · rw [HLG.out (by omega)] at hc; cases hc
    have HD := Lib.hid (fun b h => dif_of (s := 1) (zs := zs) (b := b) hc h)
    clear hc
    go_wp2
    go_loopw [3] (fun i wr => ∃ m : Nat, 1 ≤ m ∧ m ≤ n + 2 ∧ i = .int .i64 m ∧ Hid (Pre 1 zs m) ∧ ∃ d, wr = w.drewN d) (fun i _ => n + 2 - (intOf i).toNat)
    case atStart => exact ⟨1, Nat.le_refl _, by omega, rfl, pre_one 1 zs, 0, rfl⟩
    case round =>
      obtain ⟨m, hm1, hm2, rfl, HP, d, rfl⟩ := hrel
      by_cases hlt : m < n
      · obtain ⟨b1, o1, rfl, hbb1, hc1⟩ := hss (m - 1) (by rw [HN.out]; omega)
        obtain ⟨b2, o2, hA2, hbb2, hc2⟩ := hss m (by rw [HN.out]; omega)
        simp only [Option.some.injEq, Addr.mk.injEq, and_true] at hA2
        obtain ⟨rfl, rfl⟩ := hA2
        have hbad := pre_bad (by decide : 1 ≤ 1) HP.out (by rw [HN.out]; exact hlt)
        have hnx := pre_next HP.out
        generalize zs.getD (m - 1) 0 = x at hc1 hbad hnx
        generalize zs.getD m 0 = y at hc2 hbad hnx
        obtain ⟨q, rfl⟩ : ∃ q, m = q + 1 := ⟨m - 1, by omega⟩
        simp only [Nat.add_sub_cancel] at hc1
        by_cases hxy : x = y
        · subst hxy
          have HS := Lib.hid (HD.out _ (hbad rfl))
          clear hbad hnx HP
          go_wp2
          go_quiet (fail)
          go_wp2
          go_ret
          exact ⟨ret_b HS.out.symm, below_drewN (below_drewN (Below.refl _ w) _) _⟩
        · have hne : (x == y) = false := by simpa using hxy
          have hne2 : (y == x) = false := by simpa using (fun e => hxy e.symm)
          have HS := Lib.hid (hnx hxy)
          clear hbad hnx HP hxy
          go_wp2
          go_quiet (fail)
          go_wp2
          go_roundw
          case rel => exact ⟨q + 1 + 1, by omega, by omega, by go_num, HS.out, _, rfl⟩
          case measure => simp [intOf]; omega
      · have HS := Lib.hid (HD.out _ (pre_done HP.out (by rw [HN.out]; omega)))
        clear HP
        go_wp2
        go_ret
        exact ⟨ret_b HS.out.symm, below_drewN (Below.refl _ w) _⟩

set_option maxHeartbeats 1000000 in
theorem spec_pair (A : Option Addr) (n c : Nat) (zs : List Int) (w : World) (hn : zs.length = n) (hn2 : n ≤ 9223372036854775807) (hz : Fits zs) (hss : IntsAt w w.heap.size .i64 A zs) :
    Calls Try.prog 36 #[.slice A n c] w fun e w' => e = .returned (.bool (difB 2 zs)) ∧ Below w.heap.size w w' := by
  have HN := Lib.hid hn
  have HF := Lib.hid (spec_colors A n c zs w hn hn2 hz hss)
  have HLG := Lib.hid (fun h => col_long (zs := zs) (by rw [hn]; exact h))
  clear hn hz
  go_enter Try.func36, Try.ntmps36
  go_wp2_with fail
  refine HF.out.mono ?_
  rintro e w' ⟨rfl, rfl⟩
  cases hc : colorsB zs with
  | false =>
    have HS := Lib.hid (dif_no (s := 2) hc)
    clear hc
    go_wp2
    go_ret
    exact ⟨ret_b HS.out.symm, Below.refl _ _⟩
  | true =>
    have h12 : n ≤ 12 := by
      by_cases h : n ≤ 12
      · exact h
      · rw [HLG.out (by omega)] at hc; cases hc
    have HD := Lib.hid (fun b h => dif_of (s := 2) (zs := zs) (b := b) hc h)
    clear hc
    go_wp2
    go_loopw [3] (fun i wr => ∃ m : Nat, 1 ≤ m ∧ m ≤ n + 2 ∧ i = .int .i64 m ∧ Hid (Pre 2 zs m) ∧ ∃ d, wr = w.drewN d) (fun i _ => n + 2 - (intOf i).toNat)
    case atStart => exact ⟨1, Nat.le_refl _, by omega, rfl, pre_one 2 zs, 0, rfl⟩
    case round =>
      obtain ⟨m, hm1, hm2, rfl, HP, d, rfl⟩ := hrel
      by_cases hlt : m < n
      · obtain ⟨b1, o1, rfl, hbb1, hc1⟩ := hss (m - 1) (by rw [HN.out]; omega)
        obtain ⟨b2, o2, hA2, hbb2, hc2⟩ := hss m (by rw [HN.out]; omega)
        simp only [Option.some.injEq, Addr.mk.injEq, and_true] at hA2
        obtain ⟨rfl, rfl⟩ := hA2
        have hbad := pre_bad (by decide : 1 ≤ 2) HP.out (by rw [HN.out]; exact hlt)
        have hnx := pre_next HP.out
        generalize zs.getD (m - 1) 0 = x at hc1 hbad hnx
        generalize zs.getD m 0 = y at hc2 hbad hnx
        obtain ⟨q, rfl⟩ : ∃ q, m = q + 1 := ⟨m - 1, by omega⟩
        simp only [Nat.add_sub_cancel] at hc1
        by_cases hxy : x = y
        · subst hxy
          have HS := Lib.hid (HD.out _ (hbad rfl))
          clear hbad hnx HP
          go_wp2
          go_quiet (fail)
          go_wp2
          go_ret
          exact ⟨ret_b HS.out.symm, below_drewN (below_drewN (Below.refl _ w) _) _⟩
        · have hne : (x == y) = false := by simpa using hxy
          have hne2 : (y == x) = false := by simpa using (fun e => hxy e.symm)
          have HS := Lib.hid (hnx hxy)
          clear hbad hnx HP hxy
          go_wp2
          go_quiet (fail)
          go_wp2
          go_roundw
          case rel => exact ⟨q + 1 + 2, by omega, by omega, by go_num, HS.out, _, rfl⟩
          case measure => simp [intOf]; omega
      · have HS := Lib.hid (HD.out _ (pre_done HP.out (by rw [HN.out]; omega)))
        clear HP
        go_wp2
        go_ret
        exact ⟨ret_b HS.out.symm, below_drewN (Below.refl _ w) _⟩
end Go.Proofs.Ytpmfiflpipcojaa.Gic
