/- EndsOf and IsForced of the program: the ends' objects, sorted, without duplicates. -/
import Derived.Test.YtjmfdflhplobmaaFan
import Derived.Test.YtjmfdflhplobmaaSame
import Derived.Test.YtjmfdflhplobmaaShelf
import Derived.Sort.OwnSortedInts
set_option linter.unusedVariables false
set_option maxRecDepth 20000
namespace Go.Proofs.Ytjmfdflhplobmaa.Fen
open Go.RowKit Fr _root_.Go.Proofs.Ytjmfdflhplobmaa.Own Pk Ins Pfn Rws Fpl Nod Nob Tcf Fok Trs Tre Een Fde Fan Sam

/-! ### compact of a list in order -/
def LeS (l : List Int) : Prop := l.Pairwise (· ≤ ·)
theorem arr_get (s : List Int) (j : Nat) : s.toArray[j]! = s.getD j 0 := by
  simp [List.getD_eq_getElem?_getD, getElem!_def]
  cases s[j]? <;> rfl
theorem le_at {s : List Int} (h : LeS s) {i j : Nat} (hij : i ≤ j) (hj : j < s.length) : s.getD i 0 ≤ s.getD j 0 := by
  rcases Nat.eq_or_lt_of_le hij with rfl | hlt
  · exact Int.le_refl _
  · rw [List.getD_eq_getElem?_getD, List.getD_eq_getElem?_getD, List.getElem?_eq_getElem (by omega), List.getElem?_eq_getElem hj]
    exact List.pairwise_iff_getElem.1 h i j (by omega) hj hlt
theorem comp_to {s : List Int} (h : LeS s) : ∀ m, m ≤ s.length → SortS (Lib.compactUpTo s.toArray m) ∧ ∀ x, x ∈ Lib.compactUpTo s.toArray m ↔ ∃ j, j < m ∧ s.getD j 0 = x
  | 0, _ => ⟨by simp [Lib.compactUpTo, SortS], fun x => by simp [Lib.compactUpTo]⟩
  | m + 1, hm => by
    obtain ⟨h1, h2⟩ := comp_to h m (by omega)
    rw [Lib.compactUpTo_succ, arr_get]
    by_cases hk : Lib.keeps s.toArray m = true
    · rw [if_pos hk]
      constructor
      · refine List.pairwise_append.2 ⟨h1, List.pairwise_singleton _ _, fun x hx y hy => ?_⟩
        obtain ⟨j, hj, rfl⟩ := (h2 x).1 hx
        rw [List.mem_singleton] at hy
        subst hy
        have e1 := le_at h (show j ≤ m - 1 by omega) (by omega)
        have e2 := le_at h (show m - 1 ≤ m by omega) (by omega)
        unfold Lib.keeps at hk
        rw [decide_eq_true_eq, arr_get, arr_get] at hk
        rcases hk with hk | hk
        · omega
        · omega
      · intro x
        rw [List.mem_append, h2, List.mem_singleton]
        constructor
        · rintro (⟨j, hj, e⟩ | e)
          · exact ⟨j, by omega, e⟩
          · exact ⟨m, by omega, e.symm⟩
        · rintro ⟨j, hj, e⟩
          by_cases hjm : j = m
          · subst hjm; exact Or.inr e.symm
          · exact Or.inl ⟨j, by omega, e⟩
    · rw [if_neg hk, List.append_nil]
      refine ⟨h1, fun x => ?_⟩
      rw [h2]
      unfold Lib.keeps at hk
      rw [decide_eq_true_eq, arr_get, arr_get] at hk
      have hk1 : m ≠ 0 := fun e => hk (Or.inl e)
      have hk2 : s.getD m 0 = s.getD (m - 1) 0 := Classical.byContradiction fun e => hk (Or.inr e)
      constructor
      · rintro ⟨j, hj, e⟩; exact ⟨j, by omega, e⟩
      · rintro ⟨j, hj, e⟩
        by_cases hjm : j = m
        · subst hjm; exact ⟨j - 1, by omega, by rw [← hk2]; exact e⟩
        · exact ⟨j, by omega, e⟩
theorem comp_sort {s : List Int} (h : LeS s) : SortS (Lib.compact s) := (comp_to h s.length (Nat.le_refl _)).1
theorem comp_mem {s : List Int} (h : LeS s) (x : Int) : x ∈ Lib.compact s ↔ x ∈ s := by
  unfold Lib.compact
  rw [(comp_to h s.length (Nat.le_refl _)).2, List.mem_iff_getElem]
  constructor
  · rintro ⟨j, hj, e⟩
    refine ⟨j, hj, ?_⟩
    rw [← e, List.getD_eq_getElem?_getD, List.getElem?_eq_getElem hj]; rfl
  · rintro ⟨j, hj, e⟩
    refine ⟨j, hj, ?_⟩
    rw [← e, List.getD_eq_getElem?_getD, List.getElem?_eq_getElem hj]; rfl
/-- in order -/
def srt (l : List Int) : List Int := l.mergeSort fun x y => decide (x ≤ y)
theorem srt_perm (l : List Int) : (srt l).Perm l := List.mergeSort_perm l _
theorem srt_len (l : List Int) : (srt l).length = l.length := (srt_perm l).length_eq
theorem srt_le (l : List Int) : LeS (srt l) := by
  refine (List.pairwise_mergeSort (le := fun x y : Int => decide (x ≤ y)) ?_ ?_ l).imp ?_
  · intro a b c h1 h2
    simp only [decide_eq_true_eq] at *
    omega
  · intro a b
    simp only [Bool.or_eq_true, decide_eq_true_eq]
    omega
  · intro a b h
    simpa using h
theorem ends_is {L : List NV} (h : OkF L) : Lib.compact (srt ((ends L).map Prod.snd)) = endsI L := by
  unfold endsI
  rw [ok_yes h]
  refine objs_ends h (comp_sort (srt_le _)) fun x => ?_
  rw [comp_mem (srt_le _)]
  exact (srt_perm _).mem_iff
theorem ends_no {L : List NV} (h : ¬ OkF L) : endsI L = [] := by unfold endsI; rw [ok_no h]; rfl
theorem own_prefix {w : World} {base : Nat} {e : TypeId} {g n c m : Nat} {xs : List Value} (h : w.ownsRow base e 1 (.slice (some ⟨g, 0, none⟩) n c) n xs) (hm : m ≤ n) : w.ownsRow base e 1 (.slice (some ⟨g, 0, none⟩) m c) m (xs.take m) := by
  have hl : xs.length = n := by have := h.1; simp at this; omega
  refine ⟨by rw [List.length_take]; omega, ?_⟩
  rcases h.2 with ⟨h2, _⟩ | ⟨g', cap, cur, hv, hg', hh, h1, h2, h3, h4⟩
  · simp at h2
  · simp only [Value.slice.injEq, Option.some.injEq, Addr.mk.injEq, and_true, true_and] at hv
    obtain ⟨rfl, rfl⟩ := hv
    refine Or.inr ⟨g, c, cur, rfl, hg', hh, by omega, h2, h3, ?_⟩
    have := congrArg (List.take m) h4
    rw [List.take_take] at this
    rw [Nat.mul_one, ← this, Nat.min_eq_left (by omega)]
/-- the library's sort of a row of the call's own -/
theorem sort_own (B : Nat) (A : Option Addr) (n c : Nat) (zs : List Int) (w : World) (hn2 : n ≤ 1048576) (h : w.ownsRow B 3 1 (.slice A n c) n (zs.map (Value.int .i64))) :
    Calls Try.prog 49 #[.slice A n c] w fun e w' => e = .returned (.tuple #[]) ∧ w'.ownsRow B 3 1 (.slice A n c) n ((srt zs).map (Value.int .i64)) ∧ Below B w w' := by
  have hl : zs.length = n := by simpa using h.1
  by_cases h0 : n = 0
  · subst h0
    obtain rfl : zs = [] := List.length_eq_zero_iff.1 hl
    refine (Try.slices_Sort_int_none A c w).mono ?_
    rintro e w' ⟨rfl, rfl⟩
    exact ⟨rfl, by simpa [srt] using h, Below.refl _ _⟩
  · rcases h.2 with ⟨_, h1⟩ | ⟨g, cap, cur, hv, hg, hh, h1, h2, h3, h4⟩
    · omega
    · simp only [Value.slice.injEq, true_and] at hv
      obtain ⟨rfl, rfl⟩ := hv
      subst hl
      rw [Nat.mul_one] at h4
      have hgs : g < w.heap.size := (Array.getElem?_eq_some_iff.1 hh).1
      refine (Try.slices_Sort_int g 0 c zs w (holds_of_blockI hh h4) hgs (by omega)).mono ?_
      rintro e w' ⟨rfl, q, os, rfl⟩
      exact ⟨rfl, ownsRow_sortedI (srt_len zs) hg hh h1 h2 h3, (Below.refl _ _).grown (grownBy_sortedI _) (by omega) (fun k hk => by simp only [Option.some.injEq] at hk; omega)⟩
/-- the library's Compact of it -/
theorem comp_own (B : Nat) (A : Option Addr) (n c : Nat) (zs : List Int) (w : World) (hn2 : n ≤ 1048576) (h : w.ownsRow B 3 1 (.slice A n c) n (zs.map (Value.int .i64))) :
    Calls Try.prog 50 #[.slice A n c] w fun e w' => e = .returned (.slice A (Lib.compact zs).length c) ∧ w'.ownsRow B 3 1 (.slice A (Lib.compact zs).length c) (Lib.compact zs).length ((Lib.compact zs).map (Value.int .i64)) ∧ Below B w w' := by
  have hl : zs.length = n := by simpa using h.1
  by_cases h0 : n = 0
  · subst h0
    obtain rfl : zs = [] := List.length_eq_zero_iff.1 hl
    refine (Try.slices_Compact_int_empty A c w).mono ?_
    rintro e w' ⟨rfl, rfl⟩
    exact ⟨rfl, h, Below.refl _ _⟩
  · rcases h.2 with ⟨_, h1⟩ | ⟨g, cap, cur, hv, hg, hh, h1, h2, h3, h4⟩
    · omega
    · simp only [Value.slice.injEq, true_and] at hv
      obtain ⟨rfl, rfl⟩ := hv
      subst hl
      rw [Nat.mul_one] at h4
      have hgs : g < w.heap.size := (Array.getElem?_eq_some_iff.1 hh).1
      have hcl := Lib.compact_length_le zs
      refine (Try.slices_Compact_int g 0 c zs w (holds_of_blockI hh h4) (by omega) h1).mono ?_
      rintro e w' ⟨rfl, q, rfl⟩
      have e0 : Sort.putRow (Value.int .i64) (Sort.ahead w q) g 0 (Lib.compact zs ++ List.replicate (zs.length - (Lib.compact zs).length) 0).toArray = Sort.grow (Sort.putRow (Value.int .i64) (Sort.ahead w q) g 0 (Lib.compact zs ++ List.replicate (zs.length - (Lib.compact zs).length) 0).toArray) #[] := (Sort.grow_empty _).symm
      rw [e0]
      have ho := ownsRow_sortedI (os := #[]) (n := q) (ts := Lib.compact zs ++ List.replicate (zs.length - (Lib.compact zs).length) 0) (ss := zs) (by simp; omega) hg hh h1 h2 h3
      have ho2 := own_prefix ho hcl
      rw [List.map_append, List.take_append_of_le_length (by simp), List.take_of_length_le (by simp)] at ho2
      exact ⟨rfl, ho2, (Below.refl _ _).grown (grownBy_sortedI _) (by omega) (fun k hk => by simp only [Option.some.injEq] at hk; omega)⟩
theorem ends_len (L : List NV) (hbig : BigN L) : (endsI L).length ≤ 1048576 := by
  by_cases h : OkF L
  · rw [← ends_is h]
    have h1 := Lib.compact_length_le (srt ((ends L).map Prod.snd))
    rw [srt_len, List.length_map] at h1
    have h2 := ends_few h
    omega
  · rw [ends_no h]; exact Nat.zero_le _
set_option maxHeartbeats 4000000 in
theorem impl_ends (A : Option Addr) (n c : Nat) (rs : List NR) (L : List NV) (w : World) (hz : rs.map NR.nv = L) (hn : rs.length = n) (hnc : n ≤ c) (hfit : FitN L) (hbig : BigN L) (hat : NodesAt w w.heap.size A rs) :
    Calls Try.prog 16 #[.slice A n c] w (IsIL w.heap.size (endsI L) w) := by
  have HT := Lib.hid (tree_any A n c rs L w hz hn hnc hfit hbig hat)
  obtain ⟨R, hR⟩ : ∃ R, R = endsI L := ⟨_, rfl⟩
  rw [← hR]
  have HR := Lib.hid hR
  clear hat hfit hbig hR hz
  obtain ⟨i0, hi, hz0, hz1, hz2⟩ := info_parts infoInt
  go_enter Try.func16, Try.ntmps16
  go_wp2_with fail
  refine HT.out.mono ?_
  rintro e w1 ⟨hb, (⟨hno, rfl⟩ | ⟨hok, tp, rfl, htr⟩)⟩
  · have HB := Lib.hid hb
    have H1 := Lib.hid (HR.out.trans (ends_no hno))
    clear hb hno HT
    go_wp2_with fail
    refine (ends_nil w1).mono ?_
    rintro e w2 ⟨A5, c5, es, rfl, hp, hr, hb2⟩
    have HB2 := Lib.hid (HB.out.trans (hb2.mono HB.out.size))
    have hl0 : ([] : List (List Int × Int)).length = 0 := rfl
    rw [hl0] at hr ⊢
    clear hb2 hr hp
    go_wp2
    go_loop [3, 10] (fun s q => s = .slice none 0 0 ∧ q = .int .i64 0) (fun _ _ => 0)
    case atStart => exact ⟨rfl, rfl⟩
    case round =>
      obtain ⟨rfl, rfl⟩ := hrel
      go_wp2_with fail
      refine (Try.slices_Sort_int_none none 0 w2).mono ?_
      rintro e w3 ⟨rfl, rfl⟩
      go_wp2_with fail
      refine (Try.slices_Compact_int_empty none 0 w3).mono ?_
      rintro e w4 ⟨rfl, rfl⟩
      go_wp2
      go_ret
      rw [H1.out]
      exact ⟨none, 0, rfl, World.ownsRow_nil _ _ _ _, HB2.out⟩
  · have HB := Lib.hid hb
    have HD := Lib.hid (HR.out.trans (ends_is hok).symm)
    have HE := Lib.hid (ends_of hok tp w.heap.size w1 htr)
    have HFW := Lib.hid (ends_few hok)
    clear hb hok htr HT
    go_wp2_with fail
    refine HE.out.mono ?_
    rintro e w2 ⟨A5, c5, es, rfl, hp, hr, hb2⟩
    obtain ⟨ps, hps⟩ : ∃ ps, ps = ends L := ⟨_, rfl⟩
    rw [← hps] at HD HFW hp hr ⊢
    obtain ⟨M, hM⟩ : ∃ M, M = ps.length := ⟨_, rfl⟩
    have hM40 := HFW.out
    rw [← hM] at hr hM40 ⊢
    have HMP := Lib.hid hM
    have HRW := Lib.hid hr
    have HPP := Lib.hid hp
    have HB2 := Lib.hid (HB.out.trans (hb2.mono HB.out.size))
    clear hb2 hr hp hps hM HE
    go_wp2
    go_loopw [3, 10] (fun s q wr => ∃ (k : Nat) (A3 : Option Addr) (c3 : Nat), k ≤ M ∧ q = .int .i64 k ∧ s = .slice A3 k c3 ∧ Hid (wr.ownsRow w2.heap.size 3 1 (.slice A3 k c3) k (((ps.map Prod.snd).take k).map (Value.int .i64))) ∧ Hid (Below w2.heap.size w2 wr)) (fun _ q _ => M - (intOf q).toNat)
    case atStart => exact ⟨0, none, 0, Nat.zero_le _, rfl, rfl, Lib.hid (World.ownsRow_nil _ _ _ _), Lib.hid (Below.refl _ _)⟩
    case round =>
      obtain ⟨k, A3, c3, hk, rfl, rfl, HO3, HBB⟩ := hrel
      by_cases hlt : k < M
      · have hrr := HRW.out.below HBB.out
        obtain ⟨g5, rfl, hc0, hc1⟩ := hrr.cell hlt
        obtain ⟨hk2, z1, z2⟩ := end_at HRW.out HPP.out hlt
        unfold ED.v at hc0
        rw [z1] at hc0
        rw [z2] at hc1
        have HTK := Lib.hid (show (ps.map Prod.snd).take (k + 1) = (ps.map Prod.snd).take k ++ [(ps[k]).2] by
          rw [List.take_succ_eq_append_getElem (by rw [List.length_map]; exact hk2), List.getElem_map])
        generalize (es.getD k ed0).A = Ak at *
        generalize (es.getD k ed0).c = ck at *
        clear z1 z2 hrr
        generalize ps[k] = pk at *
        obtain ⟨zs, ox⟩ := pk
        simp only at hc0 hc1 HTK
        generalize zs.length = lz at hc0
        obtain ⟨v0, v1⟩ := cellE (heap_alloc_new wr (.cells #[.slice Ak lz ck, .int .i64 ox] 63))
        have hbn := box_below wr (.cells #[.slice Ak lz ck, .int .i64 ox] 63)
        obtain ⟨V, hV⟩ : ∃ V, wr.alloc (.cells #[.slice Ak lz ck, .int .i64 ox] 63) = V := ⟨_, rfl⟩
        rw [hV] at v0 v1 hbn
        have HBN := Lib.hid (HBB.out.trans (hbn.mono HBB.out.size))
        have hsn := HBN.out.size
        have HON := Lib.hid (own_below HO3.out hbn)
        clear hbn HO3
        go_wp2_with (at_builtin; refine app_one rfl (.tmp 14) (.tmp 17) 26 rfl w2.heap.size 3 i0 (.int .i64 0) 8 Try.underlying26 hi hz0 hz1 hz2 (by decide) rfl _ k _ rfl HON.out (.int .i64 ox) rfl rfl (by omega) hsn ?_; intro g c4 w4 hown4 hb4)
        have HB4 := Lib.hid (HBN.out.trans hb4)
        go_roundw
        case rel =>
          refine ⟨k + 1, some ⟨g, 0, none⟩, c4, by omega, by go_num, rfl, Lib.hid ?_, HB4⟩
          rw [HTK.out, List.map_append]
          exact hown4
        case measure => simp [intOf]; omega
      · have hkM : k = M := by omega
        subst hkM
        have ho := HO3.out
        rw [List.take_of_length_le (by rw [List.length_map, ← HMP.out]; exact Nat.le_refl _)] at ho
        have HBF := Lib.hid (HB2.out.trans (HBB.out.mono HB2.out.size))
        have HS := Lib.hid (sort_own w2.heap.size A3 k c3 (ps.map Prod.snd) wr (by omega) ho)
        clear ho HO3
        go_wp2_with fail
        refine HS.out.mono ?_
        rintro e w5 ⟨rfl, ho5, hb5⟩
        have HS5 := Lib.hid (comp_own w2.heap.size A3 k c3 (srt (ps.map Prod.snd)) w5 (by omega) ho5)
        have HB5 := Lib.hid (HBF.out.trans (hb5.mono HB2.out.size))
        clear ho5 hb5
        go_wp2_with fail
        refine HS5.out.mono ?_
        rintro e w6 ⟨rfl, ho6, hb6⟩
        rw [← HD.out] at ho6 ⊢
        have HB6 := Lib.hid (HB5.out.trans (hb6.mono HB2.out.size))
        have HO6 := Lib.hid (own_mono ho6 HB2.out.size)
        clear ho6 hb6
        go_wp2
        go_ret
        exact ⟨A3, c3, rfl, HO6.out, HB6.out⟩
theorem forced_is (L : List NV) (ob : Int) : sameB (endsI L) [ob] = forcedB L ob := rfl
theorem impl_forced (A : Option Addr) (n c : Nat) (rs : List NR) (L : List NV) (ob : Int) (w : World) (hz : rs.map NR.nv = L) (hn : rs.length = n) (hnc : n ≤ c) (hfit : FitN L) (hbig : BigN L) (hat : NodesAt w w.heap.size A rs) :
    Calls Try.prog 18 #[.slice A n c, .int .i64 ob] w fun e w' => e = .returned (.bool (forcedB L ob)) ∧ Below w.heap.size w w' := by
  have HC := Lib.hid (impl_ends A n c rs L w hz hn hnc hfit hbig hat)
  have hlen := ends_len L hbig
  rw [← forced_is]
  obtain ⟨R, hR⟩ : ∃ R, R = endsI L := ⟨_, rfl⟩
  rw [← hR] at HC hlen ⊢
  clear hat hfit hbig hR hz
  go_enter Try.func18, Try.ntmps18
  go_wp2_with fail
  refine HC.out.mono ?_
  rintro e w1 ⟨A1, c1, rfl, ho, hb⟩
  have HB := Lib.hid hb
  have hb1 := box_below w1 (.cells #[.int .i64 ob] 3)
  have HO1 := Lib.hid (ints_of (own_below ho hb1))
  have HO2 := Lib.hid (ints_of (n := 1) (c := 1) (zs := [ob]) (World.ownsRow_lit (base := w1.heap.size) (e := 3) (size := 1) w1 #[.int .i64 ob] 1 (Nat.le_refl _) (by decide) rfl))
  have HB1 := Lib.hid (HB.out.trans (hb1.mono HB.out.size))
  clear hb ho hb1
  go_wp2_with fail
  refine (equal_any A1 (some ⟨w1.heap.size, 0, none⟩) R.length 1 c1 1 R [ob] _ rfl rfl (by omega) (by omega) HO1.out HO2.out).mono ?_
  rintro e w2 ⟨rfl, hb2⟩
  have HB2 := Lib.hid (HB1.out.trans (hb2.mono HB1.out.size))
  clear hb2
  go_wp2
  go_ret
  exact ⟨rfl, HB2.out⟩
end Go.Proofs.Ytjmfdflhplobmaa.Fen
