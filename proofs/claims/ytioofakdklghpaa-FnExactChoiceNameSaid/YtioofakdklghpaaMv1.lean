/- The program's moves that only rearrange parts: cut, deal, turn, flip, under. -/
import Derived.Test.YtioofakdklghpaaCat
import Derived.Test.YtioofakdklghpaaMvp
import Derived.Deep.RegionWith
set_option linter.unusedVariables false
set_option maxRecDepth 20000
namespace Go.Proofs.Ytioofakdklghpaa.Mv1
open Go.RowKit Fr Own Pk Ins Pfn Rws Lb Cat Mvp

theorem ints_drop {w : World} {B b o k : Nat} {zs : List Int} (h : IntsAt w B .i64 (some ⟨b, o, none⟩) zs) : IntsAt w B .i64 (some ⟨b, o + k, none⟩) (zs.drop k) := by
  intro j hj
  rw [List.length_drop] at hj
  obtain ⟨b2, o2, e, hlt, hc⟩ := h (k + j) (by omega)
  simp only [Option.some.injEq, Addr.mk.injEq, and_true] at e
  obtain ⟨rfl, rfl⟩ := e
  refine ⟨b, o + k, rfl, hlt, ?_⟩
  rw [Nat.add_assoc, hc]
  simp [List.getD_eq_getElem?_getD, List.getElem?_drop]
theorem ints_addr {w : World} {B : Nat} {A : Option Addr} {zs : List Int} (h : IntsAt w B .i64 A zs) (h0 : 1 ≤ zs.length) : ∃ b o, A = some ⟨b, o, none⟩ := by
  obtain ⟨b, o, e, _⟩ := h 0 (by omega)
  exact ⟨b, o, e⟩
/-- a family of two and of three -/
def two {α : Type} (x y : α) : Nat → α
  | 0 => x
  | _ => y
def three {α : Type} (x y z : α) : Nat → α
  | 0 => x
  | 1 => y
  | _ => z
/-- Concat of two parts -/
theorem concat_two (g cap : Nat) (A1 A2 : Option Addr) (n1 n2 c1 c2 : Nat) (us vs : List Int) (w : World) (hh : w.heap[g]? = some (.cells #[.slice A1 n1 c1, .slice A2 n2 c2] 23 (0, 0)))
    (h1 : us.length = n1) (h2 : vs.length = n2) (hs1 : n1 ≤ 4096) (hs2 : n2 ≤ 4096) (hc1 : A1 = none → c1 = 0) (hc2 : A2 = none → c2 = 0) (hp1 : ∀ a, A1 = some a → a.spot = none) (hp2 : ∀ a, A2 = some a → a.spot = none)
    (ha1 : IntsAt w w.heap.size .i64 A1 us) (ha2 : IntsAt w w.heap.size .i64 A2 vs) :
    Calls Try.prog 81 #[.slice (some ⟨g, 0, none⟩) 2 cap] w (IsIL w.heap.size (us ++ vs) w) := by
  have h := concat_any g 2 cap (two A1 A2) (two n1 n2) (two c1 c2) (two us vs) w (by omega) (fun k hk => ?_) (Array.getElem?_eq_some_iff.1 hh).1 (fun k hk => ?_) (fun k hk => ?_) (fun k hk => ?_) (fun k hk => ?_) (fun k hk => ?_)
  · have e : cat (two us vs) 2 = us ++ vs := by simp [cat, two]
    rw [e] at h
    exact h
  all_goals
    rcases Nat.lt_or_ge k 1 with h0 | h0
    · obtain rfl : k = 0 := by omega
      first | exact h1 | exact hs1 | exact hc1 | exact hp1 | exact ha1 | (unfold World.cell?; simp [hh, two])
    · obtain rfl : k = 1 := by omega
      first | exact h2 | exact hs2 | exact hc2 | exact hp2 | exact ha2 | (unfold World.cell?; simp [hh, two])
theorem concat_three (g cap : Nat) (A1 A2 A3 : Option Addr) (n1 n2 n3 c1 c2 c3 : Nat) (us vs ts : List Int) (w : World) (hh : w.heap[g]? = some (.cells #[.slice A1 n1 c1, .slice A2 n2 c2, .slice A3 n3 c3] 23 (0, 0)))
    (h1 : us.length = n1) (h2 : vs.length = n2) (h3 : ts.length = n3) (hs1 : n1 ≤ 4096) (hs2 : n2 ≤ 4096) (hs3 : n3 ≤ 4096) (hc1 : A1 = none → c1 = 0) (hc2 : A2 = none → c2 = 0) (hc3 : A3 = none → c3 = 0)
    (hp1 : ∀ a, A1 = some a → a.spot = none) (hp2 : ∀ a, A2 = some a → a.spot = none) (hp3 : ∀ a, A3 = some a → a.spot = none)
    (ha1 : IntsAt w w.heap.size .i64 A1 us) (ha2 : IntsAt w w.heap.size .i64 A2 vs) (ha3 : IntsAt w w.heap.size .i64 A3 ts) :
    Calls Try.prog 81 #[.slice (some ⟨g, 0, none⟩) 3 cap] w (IsIL w.heap.size (us ++ (vs ++ ts)) w) := by
  have h := concat_any g 3 cap (three A1 A2 A3) (three n1 n2 n3) (three c1 c2 c3) (three us vs ts) w (by omega) (fun k hk => ?_) (Array.getElem?_eq_some_iff.1 hh).1 (fun k hk => ?_) (fun k hk => ?_) (fun k hk => ?_) (fun k hk => ?_) (fun k hk => ?_)
  · have e : cat (three us vs ts) 3 = us ++ (vs ++ ts) := by simp [cat, three]
    rw [e] at h
    exact h
  all_goals
    rcases Nat.lt_or_ge k 1 with h0 | h0
    · obtain rfl : k = 0 := by omega
      first | exact h1 | exact hs1 | exact hc1 | exact hp1 | exact ha1 | (unfold World.cell?; simp [hh, three])
    rcases Nat.lt_or_ge k 2 with h0 | h0
    · obtain rfl : k = 1 := by omega
      first | exact h2 | exact hs2 | exact hc2 | exact hp2 | exact ha2 | (unfold World.cell?; simp [hh, three])
    · obtain rfl : k = 2 := by omega
      first | exact h3 | exact hs3 | exact hc3 | exact hp3 | exact ha3 | (unfold World.cell?; simp [hh, three])
theorem spot_some {b o : Nat} : ∀ a, (some (⟨b, o, none⟩ : Addr)) = some a → a.spot = none := by
  intro a h
  simp only [Option.some.injEq] at h
  subst h
  rfl
theorem il_below {w w1 w2 : World} {zs : List Int} {e : Ending} (h : IsIL w1.heap.size zs w1 e w2) (hb : Below w.heap.size w w1) : IsIL w.heap.size zs w e w2 := by
  obtain ⟨A, c, rfl, ho, hb2⟩ := h
  exact ⟨A, c, rfl, own_mono ho hb.size, hb.trans (hb2.mono hb.size)⟩

theorem ints_none (w : World) (B : Nat) (A : Option Addr) {zs : List Int} (h : zs.length = 0) : IntsAt w B .i64 A zs := fun j hj => by omega
theorem ints_take2 {w : World} {B : Nat} {A : Option Addr} {zs : List Int} (k : Nat) (h : IntsAt w B .i64 A zs) : IntsAt w B .i64 A (zs.take k) := Prm.ints_take k h
/-- below and more at once -/
theorem ints_on {w w' : World} {A : Option Addr} {zs : List Int} (h : IntsAt w w.heap.size .i64 A zs) (hb : Below w.heap.size w w') : IntsAt w' w'.heap.size .i64 A zs := (h.below hb).more hb.size
theorem below_new (w : World) (o : Obj) : Below w.heap.size w (w.alloc o).drew := ((Below.refl w.heap.size w).alloc (Nat.le_refl _) o).drew

set_option maxHeartbeats 1000000 in
theorem impl_cut (A : Option Addr) (n c k : Nat) (zs : List Int) (w : World) (hn : zs.length = n) (h0 : 1 ≤ n) (h12 : n ≤ 12) (hnc : n ≤ c) (hk : k ≤ n) (hss : IntsAt w w.heap.size .i64 A zs) :
    Calls Try.prog 99 #[.slice A n c, .int .i64 (k : Int)] w (IsIL w.heap.size (cutL zs k) w) := by
  obtain ⟨b, o, rfl⟩ := ints_addr hss (by omega)
  have HB := fun o => Lib.hid (below_new w o)
  have HN := Lib.hid hn
  have HS := fun o => Lib.hid (ints_on hss (below_new w o))
  have hkc : k ≤ c := by omega
  have HE := Lib.hid (show zs.drop k ++ zs.take k = cutL zs k from rfl)
  have L1 := Lib.hid (show (zs.drop k).length = n - k by rw [List.length_drop, hn])
  have L2 := Lib.hid (show (zs.take k).length = k by rw [List.length_take, hn]; omega)
  clear hn hss
  by_cases hck : c = k
  · obtain rfl : n = k := by omega
    subst hck
    go_enter Try.func99, Try.ntmps99
    go_wp2
    go_region_with (go_at_call 81; refine (concat_two _ _ _ _ _ _ _ _ (zs.drop c) (zs.take c) (w.alloc _).drew (heap_alloc_new w _) (L1.out.trans (Nat.sub_self _)) L2.out (by omega) (by omega) (fun h => by cases h) (fun h => by cases h) spot_some spot_some (ints_none _ _ _ (by rw [L1.out, Nat.sub_self])) (ints_take2 c (HS _).out)).mono ?_; rintro e w2 h; replace h := il_below h (HB _).out; rw [HE.out] at h; obtain ⟨A3, c3, rfl, ho, hb⟩ := h)
    go_wp2
    go_ret
    exact ⟨A3, c3, rfl, ho, hb⟩
  · go_enter Try.func99, Try.ntmps99
    go_wp2
    go_region_with (go_at_call 81; refine (concat_two _ _ _ _ _ _ _ _ (zs.drop k) (zs.take k) (w.alloc _).drew (heap_alloc_new w _) L1.out L2.out (by omega) (by omega) (fun h => by cases h) (fun h => by cases h) spot_some spot_some (ints_drop (HS _).out) (ints_take2 k (HS _).out)).mono ?_; rintro e w2 h; replace h := il_below h (HB _).out; rw [HE.out] at h; obtain ⟨A3, c3, rfl, ho, hb⟩ := h)
    go_wp2
    go_ret
    exact ⟨A3, c3, rfl, ho, hb⟩
set_option maxHeartbeats 1000000 in
theorem impl_deal (A : Option Addr) (n c k : Nat) (zs : List Int) (w : World) (hn : zs.length = n) (h0 : 1 ≤ n) (h12 : n ≤ 12) (hk : k ≤ n) (hss : IntsAt w w.heap.size .i64 A zs) :
    Calls Try.prog 100 #[.slice A n c, .int .i64 (k : Int)] w (IsIL w.heap.size (dealL zs k) w) := by
  have HN := Lib.hid hn
  have HS := Lib.hid hss
  have HE := Lib.hid (show (zs.take k).reverse ++ zs.drop k = dealL zs k from rfl)
  have HL := Lib.hid (show (dealL zs k).length = n by unfold dealL; rw [List.length_append, List.length_reverse, List.length_take, List.length_drop, hn]; omega)
  clear hn hss
  go_enter Try.func100, Try.ntmps100
  go_wp2_with fail
  refine (clone_any A n c zs _ HN.out (by omega) HS.out).mono ?_
  rintro e w1 ⟨A2, c2, rfl, ho, hb⟩
  rw [HN.out] at ho
  rw [HN.out]
  obtain ⟨g, rfl⟩ := own_shape ho (by omega)
  have hnc : n ≤ c2 := by
    rcases own_full ho with ⟨h, _⟩ | ⟨_, _, _, _, _, h, _⟩
    · cases h
    · exact h
  have hkc : k ≤ c2 := by omega
  have hlo := (own_lo ho g rfl).1
  have HO := Lib.hid ho
  have HB := Lib.hid hb
  clear ho hb hnc
  go_wp2_with fail
  refine (rev_any _ g n c2 k zs _ HN.out hk (by omega) HO.out _).mono ?_
  rintro e w2 ⟨rfl, ho2, hg2⟩
  rw [HE.out] at ho2
  have hb2 := HB.out.grown hg2 HB.out.size (fun b h => by simp only [Option.some.injEq] at h; omega)
  have HO2 := Lib.hid ho2
  clear HO HB ho2 hg2
  go_wp2
  go_ret
  exact ⟨some ⟨g, 0, none⟩, c2, by rw [HL.out]; rfl, by rw [HL.out]; exact HO2.out, hb2⟩
set_option maxHeartbeats 1000000 in
theorem impl_turn1 (A : Option Addr) (n c k : Nat) (zs : List Int) (w : World) (hn : zs.length = n) (h0 : 1 ≤ n) (h12 : n ≤ 12) (hk : k < n) (hz : Fits zs) (hss : IntsAt w w.heap.size .i64 A zs) :
    Calls Try.prog 102 #[.slice A n c, .int .i64 (k : Int)] w (IsIL w.heap.size (zs.set k (turnF (zs.getD k 0))) w) := by
  have HN := Lib.hid hn
  have HS := Lib.hid hss
  obtain ⟨hx1, hx2⟩ := hz k (by omega)
  have HL := Lib.hid (show (zs.set k (turnF (zs.getD k 0))).length = n by rw [List.length_set, hn])
  clear hn hss hz
  go_enter Try.func102, Try.ntmps102
  go_wp2_with fail
  refine (clone_any A n c zs _ HN.out (by omega) HS.out).mono ?_
  rintro e w1 ⟨A2, c2, rfl, ho, hb⟩
  rw [HN.out] at ho
  rw [HN.out]
  obtain ⟨g, rfl⟩ := own_shape ho (by omega)
  have hlo := (own_lo ho g rfl).1
  have hcell : w1.cell? ⟨g, k, none⟩ = some (.int .i64 (zs.getD k 0)) := by rw [ho.cellAt k (by omega)]; exact vals_get (by rw [HN.out]; exact hk)
  have hfz := ho.frozenAt k
  have hst := ho.stored k (.int .i64 (turnF (zs.getD k 0)))
  have hrow : (zs.map (Value.int .i64)).set k (.int .i64 (turnF (zs.getD k 0))) = (zs.set k (turnF (zs.getD k 0))).map (Value.int .i64) := vals_set zs k _
  rw [hrow] at hst
  have HST := Lib.hid hst
  have HB2 := Lib.hid (hb.grown hst.2 hb.size (fun b h => by simp only [Option.some.injEq] at h; omega))
  generalize zs.getD k 0 = x at *
  clear ho hb hst hrow
  go_wp2_with fail
  refine (Pk.impl_turn x _ hx1 hx2).mono ?_
  rintro e w' ⟨rfl, rfl⟩
  go_wp2
  go_ret
  exact ⟨some ⟨g, 0, none⟩, c2, by rw [HL.out]; rfl, by rw [HL.out]; exact HST.out.1, HB2.out⟩
set_option maxHeartbeats 1000000 in
theorem impl_under (A : Option Addr) (n c k : Nat) (zs : List Int) (w : World) (hn : zs.length = n) (h0 : 1 ≤ n) (h12 : n ≤ 12) (hnc : n ≤ c) (hk : k < n) (hss : IntsAt w w.heap.size .i64 A zs) :
    Calls Try.prog 107 #[.slice A n c, .int .i64 (k : Int)] w (IsIL w.heap.size (underL zs k) w) := by
  obtain ⟨b, o, rfl⟩ := ints_addr hss (by omega)
  have HB := fun o => Lib.hid (below_new w o)
  have HS := fun o => Lib.hid (ints_on hss (below_new w o))
  have hkc : k ≤ c := by omega
  have hkc1 : k + 1 ≤ c := by omega
  have hkn1 : k + 1 ≤ n := by omega
  have hck : ¬ c = k := by omega
  have HE := Lib.hid (show zs.take k ++ (zs.drop (k + 1) ++ (zs.drop k).take 1) = underL zs k from rfl)
  have L1 := Lib.hid (show (zs.take k).length = k by rw [List.length_take, hn]; omega)
  have L2 := Lib.hid (show (zs.drop (k + 1)).length = n - (k + 1) by rw [List.length_drop, hn])
  have L3 := Lib.hid (show ((zs.drop k).take 1).length = 1 by rw [List.length_take, List.length_drop, hn]; omega)
  clear hn hss
  have hW : IntKind.i64.wrap ((k : Int) + 1) = (k : Int) + 1 := IntWalk.i64_in _ (by omega)
  have hT : ((k : Int) + 1).toNat = k + 1 := by omega
  have hT2 : k + 1 - k = 1 := by omega
  by_cases hck1 : c = k + 1
  · obtain rfl : n = k + 1 := by omega
    subst hck1
    have hI2 : (k : Int) ≤ (k : Int) + 1 := by omega
    have hI4 : (0 : Int) ≤ (k : Int) + 1 := by omega
    go_enter Try.func107, Try.ntmps107
    go_wp2
    go_region_with (go_at_call 81; refine (concat_three _ _ _ _ _ _ _ _ _ _ _ (zs.take k) (zs.drop (k + 1)) ((zs.drop k).take 1) (w.alloc _).drew (heap_alloc_new w _) L1.out (L2.out.trans (Nat.sub_self _)) L3.out (by omega) (by omega) (by omega) (fun h => by cases h) (fun h => by cases h) (fun h => by cases h) spot_some spot_some spot_some (ints_take2 k (HS _).out) (ints_none _ _ _ (L2.out.trans (Nat.sub_self _))) (ints_take2 1 (ints_drop (HS _).out))).mono ?_; rintro e w2 h; replace h := il_below h (HB _).out; rw [HE.out] at h; obtain ⟨A3, c3, rfl, ho, hb⟩ := h)
    go_wp2
    go_ret
    exact ⟨A3, c3, rfl, ho, hb⟩
  · have hck2 : ¬ ((c : Int) = (k : Int) + 1) := by omega
    have hI1 : (k : Int) + 1 ≤ (n : Int) := by omega
    have hI2 : (k : Int) ≤ (k : Int) + 1 := by omega
    have hI3 : (k : Int) + 1 ≤ (c : Int) := by omega
    have hI4 : (0 : Int) ≤ (k : Int) + 1 := by omega
    go_enter Try.func107, Try.ntmps107
    go_wp2
    go_region_with (go_at_call 81; refine (concat_three _ _ _ _ _ _ _ _ _ _ _ (zs.take k) (zs.drop (k + 1)) ((zs.drop k).take 1) (w.alloc _).drew (heap_alloc_new w _) L1.out L2.out L3.out (by omega) (by omega) (by omega) (fun h => by cases h) (fun h => by cases h) (fun h => by cases h) spot_some spot_some spot_some (ints_take2 k (HS _).out) (ints_drop (HS _).out) (ints_take2 1 (ints_drop (HS _).out))).mono ?_; rintro e w2 h; replace h := il_below h (HB _).out; rw [HE.out] at h; obtain ⟨A3, c3, rfl, ho, hb⟩ := h)
    go_wp2
    go_ret
    exact ⟨A3, c3, rfl, ho, hb⟩
end Go.Proofs.Ytioofakdklghpaa.Mv1
