/- SplitSides of the program and of the model: two rows of the call's own that grow in one loop. -/
import Derived.Test.YtfbgpofpbdbkiaaPkt
import Derived.Test.YtfbgpofpbdbkiaaRws
import Derived.Test.YtfbgpofpbdbkiaaAat
set_option linter.unusedVariables false
set_option maxRecDepth 20000
namespace Go.Proofs.Ytfbgpofpbdbkiaa.Spt
open Go.RowKit Fr _root_.Go.Proofs.Ytfbgpofpbdbkiaa.Own Pk Ins Pl Rws Aat

/-- the cards that lie face up, and those that lie face down, of the first k elements -/
def upL (zs : List Int) : Nat → List Int
  | 0 => []
  | k + 1 => if upB (zs.getD k 0) then upL zs k ++ [cardF (zs.getD k 0)] else upL zs k
def dnL (zs : List Int) : Nat → List Int
  | 0 => []
  | k + 1 => if upB (zs.getD k 0) = false ∧ 0 ≤ cardF (zs.getD k 0) then dnL zs k ++ [cardF (zs.getD k 0)] else dnL zs k
theorem upL_len (zs : List Int) (k : Nat) : (upL zs k).length ≤ k := by
  induction k with
  | zero => exact Nat.le_refl _
  | succ k ih => simp only [upL]; split <;> first | (rw [List.length_append, List.length_singleton]; omega) | omega
theorem dnL_len (zs : List Int) (k : Nat) : (dnL zs k).length ≤ k := by
  induction k with
  | zero => exact Nat.le_refl _
  | succ k ih => simp only [dnL]; split <;> first | (rw [List.length_append, List.length_singleton]; omega) | omega
theorem upL_yes {zs : List Int} {k : Nat} (h : upB (zs.getD k 0) = true) : upL zs (k + 1) = upL zs k ++ [cardF (zs.getD k 0)] := by simp only [upL, h, if_true]
theorem upL_no {zs : List Int} {k : Nat} (h : upB (zs.getD k 0) = false) : upL zs (k + 1) = upL zs k := by simp only [upL, h]; rfl
theorem dnL_up {zs : List Int} {k : Nat} (h : upB (zs.getD k 0) = true) : dnL zs (k + 1) = dnL zs k := by simp only [dnL, h]; simp
theorem dnL_yes {zs : List Int} {k : Nat} (h : upB (zs.getD k 0) = false) (h2 : 0 ≤ cardF (zs.getD k 0)) : dnL zs (k + 1) = dnL zs k ++ [cardF (zs.getD k 0)] := by simp only [dnL]; rw [if_pos ⟨h, h2⟩]
theorem dnL_no {zs : List Int} {k : Nat} (h2 : ¬ 0 ≤ cardF (zs.getD k 0)) : dnL zs (k + 1) = dnL zs k := by simp only [dnL]; rw [if_neg (fun h => h2 h.2)]
/-- a card that does not lie face up is its element -/
theorem card_dn {x : Int} (h : upB x = false) (h2 : 0 ≤ cardF x) : cardF x = x := by
  have h3 := cardF_pos h2
  have h4 : ¬ (-12 ≤ x ∧ x ≤ -1) := of_decide_eq_false h
  exact cardF_down (by omega) (by omega)

/-- a call hands back two lists of ints in rows of its own that do not share memory -/
def Is2 (B : Nat) (xs ys : List Int) (w : World) (e : Ending) (w' : World) : Prop :=
  ∃ A c A2 c2, e = .returned (.tuple #[.slice A xs.length c, .slice A2 ys.length c2]) ∧ w'.ownsRow B 3 1 (.slice A xs.length c) xs.length (xs.map (Value.int .i64)) ∧
    w'.ownsRow B 3 1 (.slice A2 ys.length c2) ys.length (ys.map (Value.int .i64)) ∧ (∀ k, A.map (·.block) = some k → A2.map (·.block) ≠ some k) ∧ Below B w w'
/-- two rows of the call's own that do not share memory -/
def Two (W : World) (B : Nat) (v1 v2 : Value) (xs ys : List Int) : Prop :=
  ∃ A c A2 c2, v1 = .slice A xs.length c ∧ v2 = .slice A2 ys.length c2 ∧ W.ownsRow B 3 1 (.slice A xs.length c) xs.length (xs.map (Value.int .i64)) ∧
    W.ownsRow B 3 1 (.slice A2 ys.length c2) ys.length (ys.map (Value.int .i64)) ∧ (∀ k, A.map (·.block) = some k → A2.map (·.block) ≠ some k)
theorem Row.grown_ne {W W' : World} {lo hi : Nat} {A : Option Addr} {n c : Nat} {zs : List Int} {row : Option Nat} (h : Row W lo hi A n c zs) (hg : W.grownBy W' row) (hr : ∀ k, row = some k → A.map (·.block) ≠ some k) : Row W' lo hi A n c zs :=
  ⟨own_gr h.1 hg (fun k hk e => hr k e hk), h.2.1, Nat.le_trans h.2.2 hg.size⟩
theorem two_fst {W W' : World} {B : Nat} {A A2 : Option Addr} {c c2 g c' : Nat} {xs ys : List Int} {y : Int} (h2 : W.ownsRow B 3 1 (.slice A2 ys.length c2) ys.length (ys.map (Value.int .i64)))
    (hne : ∀ k, A.map (·.block) = some k → A2.map (·.block) ≠ some k) (ho : W'.ownsRow B 3 1 (.slice (some ⟨g, 0, none⟩) (xs.length + 1) c') (xs.length + 1) (xs.map (Value.int .i64) ++ [.int .i64 y]))
    (hg : W.grownBy W' (A.map (·.block))) (hat : A.map (·.block) = some g ∨ W.heap.size ≤ g) : Two W' B (.slice (some ⟨g, 0, none⟩) (xs.length + 1) c') (.slice A2 ys.length c2) (xs ++ [y]) ys := by
  refine ⟨some ⟨g, 0, none⟩, c', A2, c2, by simp, rfl, by simpa using ho, own_gr h2 hg (fun k hk e => hne k e hk), ?_⟩
  intro k hk hk2
  simp only [Option.map_some, Option.some.injEq] at hk
  subst hk
  rcases hat with hat | hat
  · exact hne g hat hk2
  · have := (own_lo h2 g hk2).2; omega
theorem two_snd {W W' : World} {B : Nat} {A A2 : Option Addr} {c c2 g c' : Nat} {xs ys : List Int} {y : Int} (h1 : W.ownsRow B 3 1 (.slice A xs.length c) xs.length (xs.map (Value.int .i64)))
    (hne : ∀ k, A.map (·.block) = some k → A2.map (·.block) ≠ some k) (ho : W'.ownsRow B 3 1 (.slice (some ⟨g, 0, none⟩) (ys.length + 1) c') (ys.length + 1) (ys.map (Value.int .i64) ++ [.int .i64 y]))
    (hg : W.grownBy W' (A2.map (·.block))) (hat : A2.map (·.block) = some g ∨ W.heap.size ≤ g) : Two W' B (.slice A xs.length c) (.slice (some ⟨g, 0, none⟩) (ys.length + 1) c') xs (ys ++ [y]) := by
  refine ⟨A, c, some ⟨g, 0, none⟩, c', rfl, by simp, own_gr h1 hg (fun k hk e => hne k hk e), by simpa using ho, ?_⟩
  intro k hk hk2
  simp only [Option.map_some, Option.some.injEq] at hk2
  subst hk2
  rcases hat with hat | hat
  · exact hne g hk hat
  · have := (own_lo h1 g hk).2; omega
theorem Two.below {W W' : World} {B : Nat} {v1 v2 : Value} {xs ys : List Int} (h : Two W B v1 v2 xs ys) (hb : Below W.heap.size W W') : Two W' B v1 v2 xs ys := by
  obtain ⟨A, c, A2, c2, h1, h2, h3, h4, h5⟩ := h
  exact ⟨A, c, A2, c2, h1, h2, own_below h3 hb, own_below h4 hb, h5⟩
theorem two_nil (W : World) (B : Nat) : Two W B (.slice none 0 0) (.slice none 0 0) [] [] := ⟨none, 0, none, 0, rfl, rfl, World.ownsRow_nil _ _ _ _, World.ownsRow_nil _ _ _ _, fun k hk => by cases hk⟩

/-! ### the walks -/
theorem two_lit (w : World) : Two ((w.alloc (.cells #[] 3)).alloc (.cells #[] 3)) w.heap.size (.slice (some ⟨w.heap.size, 0, none⟩) 0 0) (.slice (some ⟨w.heap.size + 1, 0, none⟩) 0 0) [] [] := by
  have h1 := World.ownsRow_lit (base := w.heap.size) (e := 3) (size := 1) w #[] 0 (Nat.le_refl _) (Nat.zero_le _) rfl
  have e : (w.alloc (.cells #[] 3)).heap.size = w.heap.size + 1 := by simp
  have h2 := World.ownsRow_lit (base := w.heap.size) (e := 3) (size := 1) (w.alloc (.cells #[] 3)) #[] 0 (by rw [e]; omega) (Nat.zero_le _) rfl
  rw [e] at h2
  exact ⟨_, 0, _, 0, rfl, rfl, own_below h1 ((Below.refl _ _).alloc (Nat.le_refl _) _), h2, fun k hk hk2 => by simp at hk hk2; omega⟩
theorem below_lit (w : World) : Below w.heap.size w ((w.alloc (.cells #[] 3)).alloc (.cells #[] 3)) :=
  ((Below.refl _ w).alloc (Nat.le_refl _) _).alloc (by simp) _
set_option maxHeartbeats 2000000 in
theorem impl_split (A : Option Addr) (n c : Nat) (zs : List Int) (w : World) (hn : zs.length = n) (hn2 : n ≤ 1048576) (hz : Fits zs) (hss : IntsAt w w.heap.size .i64 A zs) :
    Calls Try.prog 22 #[.slice A n c] w (Is2 w.heap.size (upL zs n) (dnL zs n) w) := by
  have HN := Lib.hid hn
  obtain ⟨i0, hi, hz0, hz1, hz2⟩ := info_parts infoInt
  clear hn
  have HS : Hid (Two w w.heap.size (.slice none 0 0) (.slice none 0 0) (upL zs 0) (dnL zs 0)) := two_nil w _
  have HB0 := Lib.hid (Below.refl w.heap.size w)
  go_enter Try.func22, Try.ntmps22
  go_wp2
  go_loopw [4, 5, 7, 8, 11] (fun u d a b i wr => ∃ j : Nat, j ≤ n ∧ i = .int .i64 j ∧ Hid (Two wr w.heap.size u d (upL zs j) (dnL zs j)) ∧ Hid (Below w.heap.size w wr)) (fun _ _ _ _ i _ => n - (intOf i).toNat)
  case atStart => exact ⟨0, Nat.zero_le _, rfl, HS, HB0⟩
  case round =>
    obtain ⟨j, hj, rfl, HT, HB⟩ := hrel
    clear HS HB0
    have hsz := HB.out.size
    by_cases hlt : j < n
    · obtain ⟨b, o, hA, hbb, hc⟩ := ((hss.below HB.out).more hsz) j (by rw [HN.out]; exact hlt)
      obtain ⟨hx1, hx2⟩ := hz j (by rw [HN.out]; exact hlt)
      have l1 := upL_len zs j
      have l2 := dnL_len zs j
      obtain ⟨A1, c1, A2, c2, rfl, rfl, ho1, ho2, hne⟩ := HT.out
      have hu1 := upL_yes (zs := zs) (k := j)
      have hu2 := upL_no (zs := zs) (k := j)
      have hd1 := dnL_up (zs := zs) (k := j)
      have hd2 := dnL_yes (zs := zs) (k := j)
      have hd3 := dnL_no (zs := zs) (k := j)
      generalize zs.getD j 0 = x at hc hx1 hx2 hu1 hu2 hd1 hd2 hd3
      obtain ⟨us, hus⟩ : ∃ us, us = upL zs j := ⟨_, rfl⟩
      obtain ⟨ds, hds⟩ : ∃ ds, ds = dnL zs j := ⟨_, rfl⟩
      rw [← hus] at l1 ho1 hu1 hu2
      rw [← hds] at l2 ho2 hd1 hd2 hd3
      rw [← hus, ← hds]
      have HO1 := Lib.hid ho1
      have HO2 := Lib.hid ho2
      have HNE := Lib.hid hne
      have HUS := Lib.hid hus
      have HDS := Lib.hid hds
      clear HT ho1 ho2 hne hus hds
      subst hA
      cases hu : upB x with
      | true =>
        have HU := Lib.hid hu
        have E1 := Lib.hid (hu1 hu)
        have E2 := Lib.hid (hd1 hu)
        clear hu1 hu2 hd1 hd2 hd3 hu
        go_wp2_with fail
        refine (impl_card x _ hx1 hx2).mono ?_
        rintro e w' ⟨rfl, rfl⟩
        go_wp2_with fail
        refine (impl_up x _ hx1 hx2).mono ?_
        rintro e w' ⟨rfl, rfl⟩
        rw [HU.out]
        go_wp2_with (at_builtin; refine app_at rfl (.tmp 19) (.tmp 21) 23 rfl w.heap.size 3 i0 (.int .i64 0) 8 Try.underlying23 hi hz0 hz1 hz2 (by decide) rfl _ _ _ _ rfl HO1.out (.int .i64 (cardF x)) rfl _ rfl rfl (by omega) hsz ?_; intro g c5 w5 hown5 hgr5 hat5)
        have HT2 := Lib.hid (two_fst (xs := us) (ys := ds) (c := c1) HO2.out HNE.out hown5 hgr5 hat5)
        have HB5 := Lib.hid (HB.out.grown hgr5 hsz (fun k hk => (own_lo HO1.out k hk).1))
        clear hown5 hgr5 hat5
        go_roundw
        case rel => exact ⟨j + 1, by omega, by go_num, by show Two _ _ _ _ _ _; rw [E1.out, E2.out]; exact HT2.out, HB5⟩
        case measure => simp [intOf]; omega
      | false =>
        have HU := Lib.hid hu
        have E1 := Lib.hid (hu2 hu)
        by_cases h0 : 0 ≤ cardF x
        · have E2 := Lib.hid (hd2 hu h0)
          clear hu1 hu2 hd1 hd2 hd3 hu
          go_wp2_with fail
          refine (impl_card x _ hx1 hx2).mono ?_
          rintro e w' ⟨rfl, rfl⟩
          go_wp2_with fail
          refine (impl_up x _ hx1 hx2).mono ?_
          rintro e w' ⟨rfl, rfl⟩
          rw [HU.out]
          go_wp2_with (at_builtin; refine app_at rfl (.tmp 25) (.tmp 27) 23 rfl w.heap.size 3 i0 (.int .i64 0) 8 Try.underlying23 hi hz0 hz1 hz2 (by decide) rfl _ _ _ _ rfl HO2.out (.int .i64 (cardF x)) rfl _ rfl rfl (by omega) hsz ?_; intro g c5 w5 hown5 hgr5 hat5)
          have HT2 := Lib.hid (two_snd (xs := us) (ys := ds) (c2 := c2) HO1.out HNE.out hown5 hgr5 hat5)
          have HB5 := Lib.hid (HB.out.grown hgr5 hsz (fun k hk => (own_lo HO2.out k hk).1))
          clear hown5 hgr5 hat5
          go_roundw
          case rel => exact ⟨j + 1, by omega, by go_num, by show Two _ _ _ _ _ _; rw [E1.out, E2.out]; exact HT2.out, HB5⟩
          case measure => simp [intOf]; omega
        · have E2 := Lib.hid (hd3 h0)
          have h01 : decide (0 ≤ cardF x) = false := decide_eq_false h0
          clear hu1 hu2 hd1 hd2 hd3 hu h0
          go_wp2_with fail
          refine (impl_card x _ hx1 hx2).mono ?_
          rintro e w' ⟨rfl, rfl⟩
          go_wp2_with fail
          refine (impl_up x _ hx1 hx2).mono ?_
          rintro e w' ⟨rfl, rfl⟩
          rw [HU.out]
          go_wp2
          go_roundw
          case rel => exact ⟨j + 1, by omega, by go_num, by show Two _ _ _ _ _ _; rw [E1.out, E2.out]; exact ⟨A1, c1, A2, c2, rfl, rfl, HO1.out, HO2.out, HNE.out⟩, HB⟩
          case measure => simp [intOf]; omega
    · have hjn : j = n := by omega
      rw [hjn] at HT
      obtain ⟨A1, c1, A2, c2, rfl, rfl, ho1, ho2, hne⟩ := HT.out
      clear hjn HT
      have HO1 := Lib.hid ho1
      have HO2 := Lib.hid ho2
      have HNE := Lib.hid hne
      clear ho1 ho2 hne
      go_wp2
      go_ret2
      exact ⟨A1, c1, A2, c2, rfl, HO1.out, HO2.out, HNE.out, HB.out⟩

set_option maxHeartbeats 2000000 in
theorem spec_split (A : Option Addr) (n c : Nat) (zs : List Int) (w : World) (hn : zs.length = n) (hn2 : n ≤ 1048576) (hz : Fits zs) (hss : IntsAt w w.heap.size .i64 A zs) :
    Calls Try.prog 30 #[.slice A n c] w (Is2 w.heap.size (upL zs n) (dnL zs n) w) := by
  have HN := Lib.hid hn
  obtain ⟨i0, hi, hz0, hz1, hz2⟩ := info_parts infoInt
  clear hn
  have HS := Lib.hid (two_lit w)
  have HB0 := Lib.hid (below_lit w)
  go_enter Try.func30, Try.ntmps30
  go_wp2
  go_loopw [4, 5, 7, 12] (fun u d a i wr => ∃ j : Nat, j ≤ n ∧ i = .int .i64 j ∧ Hid (Two wr w.heap.size u d (upL zs j) (dnL zs j)) ∧ Hid (Below w.heap.size w wr)) (fun _ _ _ i _ => n - (intOf i).toNat)
  case atStart => exact ⟨0, Nat.zero_le _, rfl, HS, HB0⟩
  case round =>
    obtain ⟨j, hj, rfl, HT, HB⟩ := hrel
    clear HS HB0
    have hsz := HB.out.size
    by_cases hlt : j < n
    · obtain ⟨b, o, hA, hbb, hc⟩ := ((hss.below HB.out).more hsz) j (by rw [HN.out]; exact hlt)
      obtain ⟨hx1, hx2⟩ := hz j (by rw [HN.out]; exact hlt)
      have l1 := upL_len zs j
      have l2 := dnL_len zs j
      obtain ⟨A1, c1, A2, c2, rfl, rfl, ho1, ho2, hne⟩ := HT.out
      have hu1 := upL_yes (zs := zs) (k := j)
      have hu2 := upL_no (zs := zs) (k := j)
      have hd1 := dnL_up (zs := zs) (k := j)
      have hd2 := dnL_yes (zs := zs) (k := j)
      have hd3 := dnL_no (zs := zs) (k := j)
      generalize zs.getD j 0 = x at hc hx1 hx2 hu1 hu2 hd1 hd2 hd3
      obtain ⟨us, hus⟩ : ∃ us, us = upL zs j := ⟨_, rfl⟩
      obtain ⟨ds, hds⟩ : ∃ ds, ds = dnL zs j := ⟨_, rfl⟩
      rw [← hus] at l1 ho1 hu1 hu2
      rw [← hds] at l2 ho2 hd1 hd2 hd3
      rw [← hus, ← hds]
      have HO1 := Lib.hid ho1
      have HO2 := Lib.hid ho2
      have HNE := Lib.hid hne
      have HUS := Lib.hid hus
      have HDS := Lib.hid hds
      clear HT ho1 ho2 hne hus hds
      subst hA
      cases hu : upB x with
      | true =>
        have HU := Lib.hid hu
        have E1 := Lib.hid (hu1 hu)
        have E2 := Lib.hid (hd1 hu)
        clear hu1 hu2 hd1 hd2 hd3 hu
        go_wp2_with fail
        refine (spec_up x _).mono ?_
        rintro e w' ⟨rfl, rfl⟩
        rw [HU.out]
        go_wp2_with fail
        refine (spec_card x _ hx1 hx2).mono ?_
        rintro e w' ⟨rfl, rfl⟩
        go_wp2_with (at_builtin; refine app_at rfl (.tmp 18) (.tmp 21) 23 rfl w.heap.size 3 i0 (.int .i64 0) 8 Try.underlying23 hi hz0 hz1 hz2 (by decide) rfl _ _ _ _ rfl HO1.out (.int .i64 (cardF x)) rfl _ rfl rfl (by omega) hsz ?_; intro g c5 w5 hown5 hgr5 hat5)
        have HT2 := Lib.hid (two_fst (xs := us) (ys := ds) (c := c1) HO2.out HNE.out hown5 hgr5 hat5)
        have HB5 := Lib.hid (HB.out.grown hgr5 hsz (fun k hk => (own_lo HO1.out k hk).1))
        clear hown5 hgr5 hat5
        go_roundw
        case rel => exact ⟨j + 1, by omega, by go_num, by show Two _ _ _ _ _ _; rw [E1.out, E2.out]; exact HT2.out, HB5⟩
        case measure => simp [intOf]; omega
      | false =>
        have HU := Lib.hid hu
        have E1 := Lib.hid (hu2 hu)
        by_cases h0 : 0 ≤ cardF x
        · have E2 := Lib.hid (hd2 hu h0)
          have HX := Lib.hid (card_dn hu h0)
          clear hu1 hu2 hd1 hd2 hd3 hu
          go_wp2_with fail
          refine (spec_up x _).mono ?_
          rintro e w' ⟨rfl, rfl⟩
          rw [HU.out]
          go_wp2_with fail
          refine (spec_card x _ hx1 hx2).mono ?_
          rintro e w' ⟨rfl, rfl⟩
          go_wp2_with (at_builtin; refine app_at rfl (.tmp 26) (.tmp 28) 23 rfl w.heap.size 3 i0 (.int .i64 0) 8 Try.underlying23 hi hz0 hz1 hz2 (by decide) rfl _ _ _ _ rfl HO2.out (.int .i64 x) rfl _ rfl rfl (by omega) hsz ?_; intro g c5 w5 hown5 hgr5 hat5)
          have HT2 := Lib.hid (two_snd (xs := us) (ys := ds) (c2 := c2) HO1.out HNE.out hown5 hgr5 hat5)
          have HB5 := Lib.hid (HB.out.grown hgr5 hsz (fun k hk => (own_lo HO2.out k hk).1))
          clear hown5 hgr5 hat5
          go_roundw
          case rel => exact ⟨j + 1, by omega, by go_num, by show Two _ _ _ _ _ _; rw [E1.out, E2.out, HX.out]; exact HT2.out, HB5⟩
          case measure => simp [intOf]; omega
        · have E2 := Lib.hid (hd3 h0)
          have h01 : decide (0 ≤ cardF x) = false := decide_eq_false h0
          clear hu1 hu2 hd1 hd2 hd3 hu h0
          go_wp2_with fail
          refine (spec_up x _).mono ?_
          rintro e w' ⟨rfl, rfl⟩
          rw [HU.out]
          go_wp2_with fail
          refine (spec_card x _ hx1 hx2).mono ?_
          rintro e w' ⟨rfl, rfl⟩
          go_wp2
          go_roundw
          case rel => exact ⟨j + 1, by omega, by go_num, by show Two _ _ _ _ _ _; rw [E1.out, E2.out]; exact ⟨A1, c1, A2, c2, rfl, rfl, HO1.out, HO2.out, HNE.out⟩, HB⟩
          case measure => simp [intOf]; omega
    · have hjn : j = n := by omega
      rw [hjn] at HT
      obtain ⟨A1, c1, A2, c2, rfl, rfl, ho1, ho2, hne⟩ := HT.out
      clear hjn HT
      have HO1 := Lib.hid ho1
      have HO2 := Lib.hid ho2
      have HNE := Lib.hid hne
      clear ho1 ho2 hne
      go_wp2
      go_ret2
      exact ⟨A1, c1, A2, c2, rfl, HO1.out, HO2.out, HNE.out, HB.out⟩
end Go.Proofs.Ytfbgpofpbdbkiaa.Spt
