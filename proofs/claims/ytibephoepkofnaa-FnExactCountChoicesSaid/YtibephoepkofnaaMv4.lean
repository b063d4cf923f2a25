/- The program's moves that only rearrange parts: cut, deal, turn, flip, under. The program's moves with loops: flip, faro, monge. The program's moves with loops: monge, milk, duck. The program's ducking deal. -/
import Derived.Test.YtibephoepkofnaaCat
import Derived.Test.YtibephoepkofnaaMvp
import Derived.Deep.RegionWith
import Derived.ArgAppend
set_option linter.unusedVariables false
set_option maxRecDepth 20000
namespace Go.Proofs.Ytibephoepkofnaa.Mv1
open Go.RowKit Fr Own Pk Ins Pfn Rws Lb Cat Mvp

theorem ints_drop {w : World} {B b o k : Nat} {zs : List Int} (h : IntsAt w B .i64 (some ⟨b, o, none⟩) zs) : IntsAt w B .i64 (some ⟨b, o + k, none⟩) (zs.drop k) := by
  intro j hj
  rw [List.length_drop] at hj
  obtain ⟨b2, o2, e, hlt, hc⟩ := h (k + j) (by omega)
  simp only [Option.some.injEq, Addr.mk.injEq, and_true] at e
  obtain ⟨rfl, rfl⟩ := e
  refine ⟨b, o + k, rfl, hlt, ?_⟩
  rw [Nat.add_assoc, hc]
  simp [List.getD_eq_getElem?_getD, List.getElem?_drop]
theorem ints_addr {w : World} {B : Nat} {A : Option Addr} {zs : List Int} (h : IntsAt w B .i64 A zs) (h0 : 1 ≤ zs.length) : ∃ b o, A = some ⟨b, o, none⟩ := by
  obtain ⟨b, o, e, _⟩ := h 0 (by omega)
  exact ⟨b, o, e⟩
/-- a family of two and of three -/
def two {α : Type} (x y : α) : Nat → α
  | 0 => x
  | _ => y
def three {α : Type} (x y z : α) : Nat → α
  | 0 => x
  | 1 => y
  | _ => z
/-- Concat of two parts -/
theorem concat_two (g cap : Nat) (A1 A2 : Option Addr) (n1 n2 c1 c2 : Nat) (us vs : List Int) (w : World) (hh : w.heap[g]? = some (.cells #[.slice A1 n1 c1, .slice A2 n2 c2] 32 (0, 0)))
    (h1 : us.length = n1) (h2 : vs.length = n2) (hs1 : n1 ≤ 4096) (hs2 : n2 ≤ 4096) (hc1 : A1 = none → c1 = 0) (hc2 : A2 = none → c2 = 0) (hp1 : ∀ a, A1 = some a → a.spot = none) (hp2 : ∀ a, A2 = some a → a.spot = none)
    (ha1 : IntsAt w w.heap.size .i64 A1 us) (ha2 : IntsAt w w.heap.size .i64 A2 vs) :
    Calls Try.prog 101 #[.slice (some ⟨g, 0, none⟩) 2 cap] w (IsIL w.heap.size (us ++ vs) w) := by
  have h := concat_any g 2 cap (two A1 A2) (two n1 n2) (two c1 c2) (two us vs) w (by omega) (fun k hk => ?_) (Array.getElem?_eq_some_iff.1 hh).1 (fun k hk => ?_) (fun k hk => ?_) (fun k hk => ?_) (fun k hk => ?_) (fun k hk => ?_)
  · have e : cat (two us vs) 2 = us ++ vs := by simp [cat, two]
    rw [e] at h
    exact h
  all_goals
    rcases Nat.lt_or_ge k 1 with h0 | h0
    · obtain rfl : k = 0 := by omega
      first | exact h1 | exact hs1 | exact hc1 | exact hp1 | exact ha1 | (unfold World.cell?; simp [hh, two])
    · obtain rfl : k = 1 := by omega
      first | exact h2 | exact hs2 | exact hc2 | exact hp2 | exact ha2 | (unfold World.cell?; simp [hh, two])
theorem concat_three (g cap : Nat) (A1 A2 A3 : Option Addr) (n1 n2 n3 c1 c2 c3 : Nat) (us vs ts : List Int) (w : World) (hh : w.heap[g]? = some (.cells #[.slice A1 n1 c1, .slice A2 n2 c2, .slice A3 n3 c3] 32 (0, 0)))
    (h1 : us.length = n1) (h2 : vs.length = n2) (h3 : ts.length = n3) (hs1 : n1 ≤ 4096) (hs2 : n2 ≤ 4096) (hs3 : n3 ≤ 4096) (hc1 : A1 = none → c1 = 0) (hc2 : A2 = none → c2 = 0) (hc3 : A3 = none → c3 = 0)
    (hp1 : ∀ a, A1 = some a → a.spot = none) (hp2 : ∀ a, A2 = some a → a.spot = none) (hp3 : ∀ a, A3 = some a → a.spot = none)
    (ha1 : IntsAt w w.heap.size .i64 A1 us) (ha2 : IntsAt w w.heap.size .i64 A2 vs) (ha3 : IntsAt w w.heap.size .i64 A3 ts) :
    Calls Try.prog 101 #[.slice (some ⟨g, 0, none⟩) 3 cap] w (IsIL w.heap.size (us ++ (vs ++ ts)) w) := by
  have h := concat_any g 3 cap (three A1 A2 A3) (three n1 n2 n3) (three c1 c2 c3) (three us vs ts) w (by omega) (fun k hk => ?_) (Array.getElem?_eq_some_iff.1 hh).1 (fun k hk => ?_) (fun k hk => ?_) (fun k hk => ?_) (fun k hk => ?_) (fun k hk => ?_)
  · have e : cat (three us vs ts) 3 = us ++ (vs ++ ts) := by simp [cat, three]
    rw [e] at h
    exact h
  all_goals
    rcases Nat.lt_or_ge k 1 with h0 | h0
    · obtain rfl : k = 0 := by omega
      first | exact h1 | exact hs1 | exact hc1 | exact hp1 | exact ha1 | (unfold World.cell?; simp [hh, three])
    rcases Nat.lt_or_ge k 2 with h0 | h0
    · obtain rfl : k = 1 := by omega
      first | exact h2 | exact hs2 | exact hc2 | exact hp2 | exact ha2 | (unfold World.cell?; simp [hh, three])
    · obtain rfl : k = 2 := by omega
      first | exact h3 | exact hs3 | exact hc3 | exact hp3 | exact ha3 | (unfold World.cell?; simp [hh, three])
theorem spot_some {b o : Nat} : ∀ a, (some (⟨b, o, none⟩ : Addr)) = some a → a.spot = none := by
  intro a h
  simp only [Option.some.injEq] at h
  subst h
  rfl
theorem il_below {w w1 w2 : World} {zs : List Int} {e : Ending} (h : IsIL w1.heap.size zs w1 e w2) (hb : Below w.heap.size w w1) : IsIL w.heap.size zs w e w2 := by
  obtain ⟨A, c, rfl, ho, hb2⟩ := h
  exact ⟨A, c, rfl, own_mono ho hb.size, hb.trans (hb2.mono hb.size)⟩

theorem ints_none (w : World) (B : Nat) (A : Option Addr) {zs : List Int} (h : zs.length = 0) : IntsAt w B .i64 A zs := fun j hj => by omega
theorem ints_take2 {w : World} {B : Nat} {A : Option Addr} {zs : List Int} (k : Nat) (h : IntsAt w B .i64 A zs) : IntsAt w B .i64 A (zs.take k) := Prm.ints_take k h
/-- below and more at once -/
theorem ints_on {w w' : World} {A : Option Addr} {zs : List Int} (h : IntsAt w w.heap.size .i64 A zs) (hb : Below w.heap.size w w') : IntsAt w' w'.heap.size .i64 A zs := (h.below hb).more hb.size
theorem below_new (w : World) (o : Obj) : Below w.heap.size w (w.alloc o).drew := ((Below.refl w.heap.size w).alloc (Nat.le_refl _) o).drew

set_option maxHeartbeats 1000000 in
theorem impl_cut (A : Option Addr) (n c k : Nat) (zs : List Int) (w : World) (hn : zs.length = n) (h0 : 1 ≤ n) (h12 : n ≤ 12) (hnc : n ≤ c) (hk : k ≤ n) (hss : IntsAt w w.heap.size .i64 A zs) :
    Calls Try.prog 102 #[.slice A n c, .int .i64 (k : Int)] w (IsIL w.heap.size (cutL zs k) w) := by
  obtain ⟨b, o, rfl⟩ := ints_addr hss (by omega)
  have HB := fun o => Lib.hid (below_new w o)
  have HN := Lib.hid hn
  have HS := fun o => Lib.hid (ints_on hss (below_new w o))
  have hkc : k ≤ c := by omega
  have HE := Lib.hid (show zs.drop k ++ zs.take k = cutL zs k from rfl)
  have L1 := Lib.hid (show (zs.drop k).length = n - k by rw [List.length_drop, hn])
  have L2 := Lib.hid (show (zs.take k).length = k by rw [List.length_take, hn]; omega)
  clear hn hss
  by_cases hck : c = k
  · obtain rfl : n = k := by omega
    subst hck
    go_enter Try.func102, Try.ntmps102
    go_wp2
    go_region_with (go_at_call 101; refine (concat_two _ _ _ _ _ _ _ _ (zs.drop c) (zs.take c) (w.alloc _).drew (heap_alloc_new w _) (L1.out.trans (Nat.sub_self _)) L2.out (by omega) (by omega) (fun h => by cases h) (fun h => by cases h) spot_some spot_some (ints_none _ _ _ (by rw [L1.out, Nat.sub_self])) (ints_take2 c (HS _).out)).mono ?_; rintro e w2 h; replace h := il_below h (HB _).out; rw [HE.out] at h; obtain ⟨A3, c3, rfl, ho, hb⟩ := h)
    go_wp2
    go_ret
    exact ⟨A3, c3, rfl, ho, hb⟩
  · go_enter Try.func102, Try.ntmps102
    go_wp2
    go_region_with (go_at_call 101; refine (concat_two _ _ _ _ _ _ _ _ (zs.drop k) (zs.take k) (w.alloc _).drew (heap_alloc_new w _) L1.out L2.out (by omega) (by omega) (fun h => by cases h) (fun h => by cases h) spot_some spot_some (ints_drop (HS _).out) (ints_take2 k (HS _).out)).mono ?_; rintro e w2 h; replace h := il_below h (HB _).out; rw [HE.out] at h; obtain ⟨A3, c3, rfl, ho, hb⟩ := h)
    go_wp2
    go_ret
    exact ⟨A3, c3, rfl, ho, hb⟩
set_option maxHeartbeats 1000000 in
theorem impl_deal (A : Option Addr) (n c k : Nat) (zs : List Int) (w : World) (hn : zs.length = n) (h0 : 1 ≤ n) (h12 : n ≤ 12) (hk : k ≤ n) (hss : IntsAt w w.heap.size .i64 A zs) :
    Calls Try.prog 93 #[.slice A n c, .int .i64 (k : Int)] w (IsIL w.heap.size (dealL zs k) w) := by
  have HN := Lib.hid hn
  have HS := Lib.hid hss
  have HE := Lib.hid (show (zs.take k).reverse ++ zs.drop k = dealL zs k from rfl)
  have HL := Lib.hid (show (dealL zs k).length = n by unfold dealL; rw [List.length_append, List.length_reverse, List.length_take, List.length_drop, hn]; omega)
  clear hn hss
  go_enter Try.func93, Try.ntmps93
  go_wp2_with fail
  refine (clone_any A n c zs _ HN.out (by omega) HS.out).mono ?_
  rintro e w1 ⟨A2, c2, rfl, ho, hb⟩
  rw [HN.out] at ho
  rw [HN.out]
  obtain ⟨g, rfl⟩ := own_shape ho (by omega)
  have hnc : n ≤ c2 := by
    rcases own_full ho with ⟨h, _⟩ | ⟨_, _, _, _, _, h, _⟩
    · cases h
    · exact h
  have hkc : k ≤ c2 := by omega
  have hlo := (own_lo ho g rfl).1
  have HO := Lib.hid ho
  have HB := Lib.hid hb
  clear ho hb hnc
  go_wp2_with fail
  refine (rev_any _ g n c2 k zs _ HN.out hk (by omega) HO.out _).mono ?_
  rintro e w2 ⟨rfl, ho2, hg2⟩
  rw [HE.out] at ho2
  have hb2 := HB.out.grown hg2 HB.out.size (fun b h => by simp only [Option.some.injEq] at h; omega)
  have HO2 := Lib.hid ho2
  clear HO HB ho2 hg2
  go_wp2
  go_ret
  exact ⟨some ⟨g, 0, none⟩, c2, by rw [HL.out]; rfl, by rw [HL.out]; exact HO2.out, hb2⟩
set_option maxHeartbeats 1000000 in
theorem impl_turn1 (A : Option Addr) (n c k : Nat) (zs : List Int) (w : World) (hn : zs.length = n) (h0 : 1 ≤ n) (h12 : n ≤ 12) (hk : k < n) (hz : Fits zs) (hss : IntsAt w w.heap.size .i64 A zs) :
    Calls Try.prog 95 #[.slice A n c, .int .i64 (k : Int)] w (IsIL w.heap.size (zs.set k (turnF (zs.getD k 0))) w) := by
  have HN := Lib.hid hn
  have HS := Lib.hid hss
  obtain ⟨hx1, hx2⟩ := hz k (by omega)
  have HL := Lib.hid (show (zs.set k (turnF (zs.getD k 0))).length = n by rw [List.length_set, hn])
  clear hn hss hz
  go_enter Try.func95, Try.ntmps95
  go_wp2_with fail
  refine (clone_any A n c zs _ HN.out (by omega) HS.out).mono ?_
  rintro e w1 ⟨A2, c2, rfl, ho, hb⟩
  rw [HN.out] at ho
  rw [HN.out]
  obtain ⟨g, rfl⟩ := own_shape ho (by omega)
  have hlo := (own_lo ho g rfl).1
  have hcell : w1.cell? ⟨g, k, none⟩ = some (.int .i64 (zs.getD k 0)) := by rw [ho.cellAt k (by omega)]; exact vals_get (by rw [HN.out]; exact hk)
  have hfz := ho.frozenAt k
  have hst := ho.stored k (.int .i64 (turnF (zs.getD k 0)))
  have hrow : (zs.map (Value.int .i64)).set k (.int .i64 (turnF (zs.getD k 0))) = (zs.set k (turnF (zs.getD k 0))).map (Value.int .i64) := vals_set zs k _
  rw [hrow] at hst
  have HST := Lib.hid hst
  have HB2 := Lib.hid (hb.grown hst.2 hb.size (fun b h => by simp only [Option.some.injEq] at h; omega))
  generalize zs.getD k 0 = x at *
  clear ho hb hst hrow
  go_wp2_with fail
  refine (Pk.impl_turn x _ hx1 hx2).mono ?_
  rintro e w' ⟨rfl, rfl⟩
  go_wp2
  go_ret
  exact ⟨some ⟨g, 0, none⟩, c2, by rw [HL.out]; rfl, by rw [HL.out]; exact HST.out.1, HB2.out⟩
set_option maxHeartbeats 1000000 in
theorem impl_under (A : Option Addr) (n c k : Nat) (zs : List Int) (w : World) (hn : zs.length = n) (h0 : 1 ≤ n) (h12 : n ≤ 12) (hnc : n ≤ c) (hk : k < n) (hss : IntsAt w w.heap.size .i64 A zs) :
    Calls Try.prog 100 #[.slice A n c, .int .i64 (k : Int)] w (IsIL w.heap.size (underL zs k) w) := by
  obtain ⟨b, o, rfl⟩ := ints_addr hss (by omega)
  have HB := fun o => Lib.hid (below_new w o)
  have HS := fun o => Lib.hid (ints_on hss (below_new w o))
  have hkc : k ≤ c := by omega
  have hkc1 : k + 1 ≤ c := by omega
  have hkn1 : k + 1 ≤ n := by omega
  have hck : ¬ c = k := by omega
  have HE := Lib.hid (show zs.take k ++ (zs.drop (k + 1) ++ (zs.drop k).take 1) = underL zs k from rfl)
  have L1 := Lib.hid (show (zs.take k).length = k by rw [List.length_take, hn]; omega)
  have L2 := Lib.hid (show (zs.drop (k + 1)).length = n - (k + 1) by rw [List.length_drop, hn])
  have L3 := Lib.hid (show ((zs.drop k).take 1).length = 1 by rw [List.length_take, List.length_drop, hn]; omega)
  clear hn hss
  have hW : IntKind.i64.wrap ((k : Int) + 1) = (k : Int) + 1 := IntWalk.i64_in _ (by omega)
  have hT : ((k : Int) + 1).toNat = k + 1 := by omega
  have hT2 : k + 1 - k = 1 := by omega
  by_cases hck1 : c = k + 1
  · obtain rfl : n = k + 1 := by omega
    subst hck1
    have hI2 : (k : Int) ≤ (k : Int) + 1 := by omega
    have hI4 : (0 : Int) ≤ (k : Int) + 1 := by omega
    go_enter Try.func100, Try.ntmps100
    go_wp2
    go_region_with (go_at_call 101; refine (concat_three _ _ _ _ _ _ _ _ _ _ _ (zs.take k) (zs.drop (k + 1)) ((zs.drop k).take 1) (w.alloc _).drew (heap_alloc_new w _) L1.out (L2.out.trans (Nat.sub_self _)) L3.out (by omega) (by omega) (by omega) (fun h => by cases h) (fun h => by cases h) (fun h => by cases h) spot_some spot_some spot_some (ints_take2 k (HS _).out) (ints_none _ _ _ (L2.out.trans (Nat.sub_self _))) (ints_take2 1 (ints_drop (HS _).out))).mono ?_; rintro e w2 h; replace h := il_below h (HB _).out; rw [HE.out] at h; obtain ⟨A3, c3, rfl, ho, hb⟩ := h)
    go_wp2
    go_ret
    exact ⟨A3, c3, rfl, ho, hb⟩
  · have hck2 : ¬ ((c : Int) = (k : Int) + 1) := by omega
    have hI1 : (k : Int) + 1 ≤ (n : Int) := by omega
    have hI2 : (k : Int) ≤ (k : Int) + 1 := by omega
    have hI3 : (k : Int) + 1 ≤ (c : Int) := by omega
    have hI4 : (0 : Int) ≤ (k : Int) + 1 := by omega
    go_enter Try.func100, Try.ntmps100
    go_wp2
    go_region_with (go_at_call 101; refine (concat_three _ _ _ _ _ _ _ _ _ _ _ (zs.take k) (zs.drop (k + 1)) ((zs.drop k).take 1) (w.alloc _).drew (heap_alloc_new w _) L1.out L2.out L3.out (by omega) (by omega) (by omega) (fun h => by cases h) (fun h => by cases h) (fun h => by cases h) spot_some spot_some spot_some (ints_take2 k (HS _).out) (ints_drop (HS _).out) (ints_take2 1 (ints_drop (HS _).out))).mono ?_; rintro e w2 h; replace h := il_below h (HB _).out; rw [HE.out] at h; obtain ⟨A3, c3, rfl, ho, hb⟩ := h)
    go_wp2
    go_ret
    exact ⟨A3, c3, rfl, ho, hb⟩
end Go.Proofs.Ytibephoepkofnaa.Mv1

namespace Go.Proofs.Ytibephoepkofnaa.Mv2
open Go.RowKit Fr Own Pk Ins Pfn Rws Lb Cat Mvp Mv1

def turnTo (ds : List Int) (j : Nat) : List Int := (ds.take j).map turnF ++ ds.drop j
theorem turnTo_zero (ds : List Int) : turnTo ds 0 = ds := by simp [turnTo]
theorem turnTo_len (ds : List Int) (j : Nat) : (turnTo ds j).length = ds.length := by simp [turnTo]; omega
theorem turnTo_get (ds : List Int) (j : Nat) (h : j < ds.length) : (turnTo ds j).getD j 0 = ds.getD j 0 := by
  have hl : ((ds.take j).map turnF).length = j := by simp; omega
  unfold turnTo
  rw [List.getD_eq_getElem?_getD, List.getElem?_append_right (by omega), hl, Nat.sub_self, List.getElem?_drop, Nat.add_zero, ← List.getD_eq_getElem?_getD]
theorem turnTo_next (ds : List Int) (j : Nat) (h : j < ds.length) : (turnTo ds j).set j (turnF (ds.getD j 0)) = turnTo ds (j + 1) := by
  have hl : ((ds.take j).map turnF).length = j := by simp; omega
  unfold turnTo
  rw [List.set_append_right (h := by omega), hl, Nat.sub_self, List.drop_eq_getElem_cons h, List.set_cons_zero, List.take_succ_eq_append_getElem h]
  simp only [List.map_append, List.map_cons, List.map_nil, List.append_assoc, List.cons_append, List.nil_append, List.getD_eq_getElem?_getD, List.getElem?_eq_getElem h, Option.getD_some]
theorem turnTo_flip (zs : List Int) (k : Nat) (hk : k ≤ zs.length) : turnTo (dealL zs k) k = (zs.take k).reverse.map turnF ++ zs.drop k := by
  have hl : ((zs.take k).reverse).length = k := by simp; omega
  unfold turnTo dealL
  rw [List.take_append_of_le_length (by omega), List.take_of_length_le (by omega), List.drop_append_of_le_length (by omega), List.drop_eq_nil_of_le (by omega), List.nil_append]
theorem fits_all {zs : List Int} (h : Fits zs) : ∀ x ∈ zs, -9223372036854775808 ≤ x ∧ x ≤ 9223372036854775807 := by
  intro x hx
  obtain ⟨i, hi, e⟩ := List.getElem_of_mem hx
  have := h i hi
  rw [List.getD_eq_getElem?_getD, List.getElem?_eq_getElem hi] at this
  rw [← e]; exact this
theorem fits_deal {zs : List Int} (h : Fits zs) (k : Nat) : Fits (dealL zs k) := by
  intro i hi
  rw [List.getD_eq_getElem?_getD, List.getElem?_eq_getElem hi]
  have hm : (dealL zs k)[i] ∈ dealL zs k := List.getElem_mem hi
  refine fits_all h _ ?_
  unfold dealL at hm
  rcases List.mem_append.1 hm with h1 | h1
  · exact List.mem_of_mem_take (List.mem_reverse.1 h1)
  · exact List.mem_of_mem_drop h1

set_option maxHeartbeats 1000000 in
theorem impl_flip (A : Option Addr) (n c k d : Nat) (zs : List Int) (w : World) (hn : zs.length = n) (h0 : 1 ≤ n) (h12 : n ≤ 12) (hk : k ≤ n) (hz : Fits zs) (hss : IntsAt w w.heap.size .i64 A zs)
    (hd : w.cell? ⟨d, 0, none⟩ = some (.func (.func 93) #[] #[])) :
    Calls Try.prog 97 #[.slice A n c, .int .i64 (k : Int), .pointer (some ⟨d, 0, none⟩)] w (IsIL w.heap.size ((zs.take k).reverse.map turnF ++ zs.drop k) w) := by
  have HN := Lib.hid hn
  have HS := Lib.hid hss
  have HE := Lib.hid (turnTo_flip zs k (by omega))
  have HZ := Lib.hid (turnTo_zero (dealL zs k))
  have HL := Lib.hid (show (dealL zs k).length = n by unfold dealL; rw [List.length_append, List.length_reverse, List.length_take, List.length_drop, hn]; omega)
  have HF := Lib.hid (fits_deal hz k)
  have HC := Lib.hid (impl_deal A n c k zs w hn h0 h12 hk hss)
  generalize dealL zs k = ds at *
  clear hn hss hz
  go_enter Try.func97, Try.ntmps97
  go_wp2_with fail
  refine HC.out.mono ?_
  rintro e w1 ⟨A2, c2, rfl, ho, hb⟩
  rw [HL.out] at ho
  rw [HL.out]
  obtain ⟨g, rfl⟩ := own_shape ho (by omega)
  have HO := Lib.hid (show w1.ownsRow w.heap.size 3 1 (.slice (some ⟨g, 0, none⟩) n c2) n (vals (turnTo ds 0)) by rw [HZ.out]; exact ho)
  have HB := Lib.hid hb
  have hlo := (own_lo ho g rfl).1
  clear ho hb HC
  go_wp2
  go_loopw [7, 13] (fun _ i wr => ∃ j : Nat, j ≤ k ∧ i = .int .i64 (j : Int) ∧ wr.ownsRow w.heap.size 3 1 (.slice (some ⟨g, 0, none⟩) n c2) n (vals (turnTo ds j)) ∧ Below w.heap.size w wr) (fun _ i _ => k - (intOf i).toNat)
  case atStart => exact ⟨0, Nat.zero_le _, rfl, HO.out, HB.out⟩
  case round =>
    obtain ⟨j, hj, rfl, ho, hb⟩ := hrel
    clear HO HB
    by_cases hlt : j < k
    · obtain ⟨hx1, hx2⟩ := HF.out j (by rw [HL.out]; omega)
      have hjn : j < n := by omega
      have hcell : wr.cell? ⟨g, j, none⟩ = some (.int .i64 (ds.getD j 0)) := by
        rw [ho.cellAt j (by omega), vals_get (by rw [turnTo_len, HL.out]; omega), turnTo_get ds j (by rw [HL.out]; omega)]
      have hfz := ho.frozenAt j
      have hst := ho.stored j (.int .i64 (turnF (ds.getD j 0)))
      rw [vals_set, turnTo_next ds j (by rw [HL.out]; omega)] at hst
      have HST := Lib.hid hst.1
      have HB2 := Lib.hid (hb.grown hst.2 hb.size (fun b h => by simp only [Option.some.injEq] at h; omega))
      generalize ds.getD j 0 = x at *
      clear ho hb hst
      go_wp2_with fail
      refine (Pk.impl_turn x _ hx1 hx2).mono ?_
      rintro e w' ⟨rfl, rfl⟩
      go_wp2
      go_roundw
      case rel => exact ⟨j + 1, by omega, by go_num, HST.out, HB2.out⟩
      case measure => simp [intOf]; omega
    · have hjk : j = k := by omega
      subst hjk
      rw [HE.out] at ho
      have HLE := Lib.hid (show ((zs.take j).reverse.map turnF ++ zs.drop j).length = n by rw [← HE.out, turnTo_len, HL.out])
      have HO2 := Lib.hid ho
      clear ho
      go_wp2
      go_ret
      exact ⟨some ⟨g, 0, none⟩, c2, by rw [HLE.out]; rfl, by rw [HLE.out]; exact HO2.out, hb⟩

/-! ### faro -/
/-- how long a slice is -/
def lenV : Value → Nat
  | .slice _ n _ => n
  | _ => 0
set_option maxHeartbeats 1000000 in
theorem impl_faro_at (A : Option Addr) (n c k : Nat) (kv : Int) (zs : List Int) (w : World) (hn : zs.length = n) (h0 : 1 ≤ n) (h12 : n ≤ 12) (hnc : n ≤ c) (hkv : (kv = 0 ∧ k = 0) ∨ (kv = 1 ∧ k = 1)) (hss : IntsAt w w.heap.size .i64 A zs) :
    Calls Try.prog 103 #[.slice A n c, .int .i64 kv] w (IsIL w.heap.size (faroL zs k) w) := by
  obtain ⟨i0, hi, hz0, hz1, hz2⟩ := info_parts infoInt
  obtain ⟨b, o, rfl⟩ := ints_addr hss (by omega)
  obtain ⟨h, hh⟩ : ∃ h : Nat, h = n / 2 := ⟨_, rfl⟩
  have hhn : h < n := by omega
  have hhc : h ≤ c := by omega
  have hch : ¬ c = h := by omega
  have hq : (n : Int) / 2 = (h : Int) := by omega
  have hq2 : (n : Int).tdiv 2 = (h : Int) := by rw [Int.tdiv_eq_ediv_of_nonneg (by omega)]; exact hq
  have HN := Lib.hid hn
  have HS := Lib.hid hss
  have HH := Lib.hid hh
  clear hn hss hh
  go_enter Try.func103, Try.ntmps103
  go_wp2
  go_quiet (fail)
  generalize hWd : w.drewN nq = wd
  have HW := Lib.hid (show Below w.heap.size w wd by rw [← hWd]; exact below_drewN (Below.refl _ w) nq)
  clear hWd
  have HU := Lib.hid (show (zs.take h).length = h by rw [List.length_take, HN.out]; omega)
  have HV := Lib.hid (show (zs.drop h).length = n - h by rw [List.length_drop, HN.out])
  have HI0 := Lib.hid (show k ≠ 1 → interL (h + (n - h) + 1) (zs.take h) (zs.drop h) [] = faroL zs k by
    intro h1; unfold faroL; rw [if_neg h1, HN.out, ← HH.out]; congr 2; omega)
  have HI1 := Lib.hid (show k = 1 → interL (n - h + h + 1) (zs.drop h) (zs.take h) [] = faroL zs k by
    intro h1; unfold faroL; rw [if_pos h1, HN.out, ← HH.out]; congr 2; omega)
  have HS1 := Lib.hid (show IntsAt w w.heap.size .i64 (some ⟨b, o, none⟩) (zs.take h) from ints_take2 h HS.out)
  have HS2 := Lib.hid (show IntsAt w w.heap.size .i64 (some ⟨b, o + h, none⟩) (zs.drop h) from ints_drop HS.out)
  have h3 : n - h ≤ c - h := by omega
  have h4 : h + (n - h) ≤ 12 := by omega
  have h5 : n - h + h ≤ 12 := by omega
  clear hq hq2 hch
  generalize hR : faroL zs k = R at *
  have HR := Lib.hid hR
  clear hR
  rcases hkv with ⟨rfl, rfl⟩ | ⟨rfl, rfl⟩
  all_goals
    go_wp2
    go_loopw [5, 6, 7] (fun s5 s6 s7 wr => ∃ (n1 n2 n3 c1 c2 c3 : Nat) (A1 A2 A3 : Option Addr) (u v q : List Int), s5 = .slice A1 n1 c1 ∧ s6 = .slice A2 n2 c2 ∧ s7 = .slice A3 n3 c3 ∧ Hid (u.length = n1) ∧ Hid (v.length = n2) ∧ n1 ≤ c1 ∧ n2 ≤ c2 ∧
      Hid (IntsAt w w.heap.size .i64 A1 u) ∧ Hid (IntsAt w w.heap.size .i64 A2 v) ∧ Hid (∃ b o, A1 = some ⟨b, o, none⟩) ∧ Hid (∃ b o, A2 = some ⟨b, o, none⟩) ∧ n1 + n2 ≤ 12 ∧ n3 + n1 + n2 ≤ 12 ∧ wr.ownsRow w.heap.size 3 1 (.slice A3 n3 c3) n3 (vals q) ∧ Hid (interL (n1 + n2 + 1) u v q = R) ∧ Below w.heap.size w wr) (fun s5 s6 _ _ => lenV s5 + lenV s6)
    case atStart => first
      | exact ⟨h, n - h, 0, c, c - h, 0, _, _, none, _, _, [], rfl, rfl, rfl, HU, HV, hhc, h3, HS1, HS2, ⟨b, o, rfl⟩, ⟨b, o + h, rfl⟩, h4, by omega, World.ownsRow_nil _ _ _ _, HI0.out (by first | trivial | decide), HW.out⟩
      | exact ⟨n - h, h, 0, c - h, c, 0, _, _, none, _, _, [], rfl, rfl, rfl, HV, HU, h3, hhc, HS2, HS1, ⟨b, o + h, rfl⟩, ⟨b, o, rfl⟩, h5, by omega, World.ownsRow_nil _ _ _ _, HI1.out (by first | trivial | decide), HW.out⟩
    case round =>
      obtain ⟨n1, n2, n3, c1, c2, c3, A1, A2, A3, u, v, q, rfl, rfl, rfl, HLU, HLV, hnc1, hnc2, HA1, HA2, HB1, HB2, h12s, h12t, hown, HI, hbw⟩ := hrel
      clear HS1 HS2 HI0 HI1 HU HV HW h3 h4 h5
      have hszw := hbw.size
      by_cases hn1 : n1 = 0
      · subst hn1
        have HF := Lib.hid (show q ++ v = R by
          have e : u = [] := List.eq_nil_of_length_eq_zero HLU.out
          have h := HI.out
          rw [e] at h
          exact h)
        have hat := HA2.out.below hbw
        have hsp : ∀ a, A2 = some a → a.spot = none := by
          obtain ⟨b2, o2, e⟩ := HB2.out
          rw [e]; exact spot_some
        have hnn : A2 = none → c2 = 0 := by
          obtain ⟨b2, o2, e⟩ := HB2.out
          intro e2; rw [e] at e2; cases e2
        have hn2s : n2 ≤ 4294967296 := by omega
        have hn3s : n3 ≤ 4294967296 := by omega
        clear HI h12s h12t hnc1 hnc2
        go_wp2_with (at_builtin; refine app_any rfl (.tmp 34) (.tmp 35) 32 rfl w.heap.size 3 i0 8 Try.underlying32 hi hz0 hz1 hz2 (by decide) A3 c3 n3 q rfl hown A2 n2 c2 v rfl HLV.out hnn _ hat hn3s hn2s hszw hsp ?_; intro A5 c5 w5 hown5 hgr5; rw [HF.out] at hown5; have hb5 := Lib.hid (hbw.grown hgr5 hszw (fun k hk => (own_lo hown k hk).1)); have hl5 := Lib.hid (show R.length = n3 + n2 by have := hown5.1; rw [vals_len] at this; omega); have ho5 := Lib.hid hown5; clear hown5 hgr5)
        go_ret
        exact ⟨A5, c5, by rw [hl5.out]; rfl, by rw [hl5.out]; exact ho5.out, hb5.out⟩
      · obtain ⟨m1, rfl⟩ : ∃ m1, n1 = m1 + 1 := ⟨n1 - 1, by omega⟩
        obtain ⟨b1, o1, e1⟩ := HB1.out
        subst e1
        obtain ⟨x, u', e2⟩ : ∃ x u', u = x :: u' := by
          cases u with
          | nil => have := HLU.out; simp at this
          | cons x u' => exact ⟨x, u', rfl⟩
        subst e2
        have hc : wr.cell? ⟨b1, o1, none⟩ = some (.int .i64 x) := by
          obtain ⟨b2, o2, e, hlt, hcc⟩ := (HA1.out.below hbw) 0 (by simp)
          simp only [Option.some.injEq, Addr.mk.injEq, and_true] at e
          rw [e.1, e.2]; exact hcc
        have HLU2 := Lib.hid (show u'.length = m1 by have := HLU.out; simpa using this)
        have HI2 := Lib.hid (show interL (n2 + m1 + 1) v u' (q ++ [x]) = R by
          have h := HI.out
          rw [show m1 + 1 + n2 + 1 = (n2 + m1 + 1) + 1 by omega] at h
          exact h)
        have HT : Hid (IntsAt w w.heap.size .i64 (some ⟨b1, o1 + 1, none⟩) u') := by
          have h := ints_drop (k := 1) HA1.out
          exact h
        have HT0 : m1 = 0 → Hid (IntsAt w w.heap.size .i64 (some ⟨b1, o1, none⟩) u') := fun h => ints_none _ _ _ (by rw [HLU2.out, h])
        have hn3s : n3 ≤ 4294967296 := by omega
        have hpos : (0 : Int) < (m1 : Int) + 1 := by omega
        clear HI HA1 HB1 HLU hn1
        by_cases hc1 : c1 = 1
        · obtain rfl : m1 = 0 := by omega
          subst hc1
          go_wp2_with (at_builtin; refine app_more rfl (.tmp 25) (.tmp 29) 32 rfl w.heap.size 3 i0 (.int .i64 0) 8 Try.underlying32 hi hz0 hz1 hz2 (by decide) rfl A3 c3 n3 (vals q) rfl hown (.int .i64 x) rfl _ rfl rfl hn3s hszw ?_; intro g c5 w5 hown5 hgr5; have hb5 := Lib.hid (hbw.grown hgr5 hszw (fun k hk => (own_lo hown k hk).1)); have ho5 := Lib.hid (show w5.ownsRow w.heap.size 3 1 (.slice (some ⟨g, 0, none⟩) (n3 + 1) c5) (n3 + 1) (vals (q ++ [x])) by unfold vals; rw [List.map_append]; exact hown5); clear hown5 hgr5)
          go_quiet (fail)
          refine ⟨?_, ?measure⟩
          (repeat apply Exists.intro)
          refine ⟨?rel, rfl⟩
          case rel => exact ⟨n2, 0, n3 + 1, c2, _, c5, A2, _, _, v, u', q ++ [x], rfl, rfl, rfl, HLV, HLU2, hnc2, Nat.zero_le _, HA2, HT0 (by first | trivial | rfl), HB2, (by first | trivial | exact ⟨_, _, rfl⟩), by omega, by omega, ho5.out, HI2, below_drewN hb5.out _⟩
          case measure => simp [lenV]
        · have hc0 : ¬ (c1 : Int) = 1 := by omega
          have hcm : m1 ≤ c1 - 1 := by omega
          go_wp2_with (at_builtin; refine app_more rfl (.tmp 25) (.tmp 29) 32 rfl w.heap.size 3 i0 (.int .i64 0) 8 Try.underlying32 hi hz0 hz1 hz2 (by decide) rfl A3 c3 n3 (vals q) rfl hown (.int .i64 x) rfl _ rfl rfl hn3s hszw ?_; intro g c5 w5 hown5 hgr5; have hb5 := Lib.hid (hbw.grown hgr5 hszw (fun k hk => (own_lo hown k hk).1)); have ho5 := Lib.hid (show w5.ownsRow w.heap.size 3 1 (.slice (some ⟨g, 0, none⟩) (n3 + 1) c5) (n3 + 1) (vals (q ++ [x])) by unfold vals; rw [List.map_append]; exact hown5); clear hown5 hgr5)
          go_quiet (fail)
          refine ⟨?_, ?measure⟩
          (repeat apply Exists.intro)
          refine ⟨?rel, rfl⟩
          case rel => exact ⟨n2, m1, n3 + 1, c2, _, c5, A2, _, _, v, u', q ++ [x], rfl, rfl, rfl, HLV, HLU2, hnc2, hcm, HA2, HT, HB2, (by first | trivial | exact ⟨_, _, rfl⟩), by omega, by omega, ho5.out, HI2, below_drewN hb5.out _⟩
          case measure => simp [lenV]; omega
end Go.Proofs.Ytibephoepkofnaa.Mv2

namespace Go.Proofs.Ytibephoepkofnaa.Mv3
open Go.RowKit Fr Own Pk Ins Pfn Rws Lb Cat Mvp Mv1 Mv2

theorem drop_one {zs : List Int} {j : Nat} (h : j < zs.length) : zs.drop j = zs.getD j 0 :: zs.drop (j + 1) := by
  rw [List.drop_eq_getElem_cons h]
  simp [List.getD_eq_getElem?_getD, List.getElem?_eq_getElem h]
set_option maxHeartbeats 1000000 in
theorem impl_monge_at (A : Option Addr) (n c k : Nat) (kv : Int) (zs : List Int) (w : World) (hn : zs.length = n) (h12 : n ≤ 12) (hkv : (kv = 0 ∧ k = 0) ∨ (kv = 1 ∧ k = 1)) (hss : IntsAt w w.heap.size .i64 A zs) :
    Calls Try.prog 104 #[.slice A n c, .int .i64 kv] w (IsIL w.heap.size (mongeL k 0 zs []) w) := by
  obtain ⟨i0, hi, hz0, hz1, hz2⟩ := info_parts infoInt
  have HN := Lib.hid hn
  obtain ⟨R, hR⟩ : ∃ R, R = mongeL k 0 zs [] := ⟨_, rfl⟩
  have HI0 := Lib.hid (show mongeL k 0 (zs.drop 0) [] = R by rw [List.drop_zero, hR])
  rw [← hR]
  clear hn hR
  rcases hkv with ⟨rfl, hk0⟩ | ⟨rfl, hk0⟩
  all_goals
    have HK := Lib.hid hk0
    clear hk0
    go_enter Try.func104, Try.ntmps104
    go_wp2
    go_loopw [5, 6, 7, 10] (fun s5 s6 s7 i wr => ∃ j : Nat, j ≤ n ∧ i = .int .i64 (j : Int) ∧ ∃ (A3 : Option Addr) (c3 : Nat) (q : List Int), s5 = .slice A3 j c3 ∧ wr.ownsRow w.heap.size 3 1 (.slice A3 j c3) j (vals q) ∧ Hid (mongeL k j (zs.drop j) q = R) ∧ Below w.heap.size w wr) (fun _ _ _ i _ => n - (intOf i).toNat)
    case atStart => exact ⟨0, Nat.zero_le _, rfl, none, 0, [], rfl, World.ownsRow_nil _ _ _ _, HI0, Below.refl _ w⟩
    case round =>
      obtain ⟨j, hj, rfl, A3, c3, q, rfl, hown, HI, hbw⟩ := hrel
      have hszw := hbw.size
      by_cases hlt : j < n
      · obtain ⟨b, o, rfl, hbb, hc⟩ := (hss.below hbw) j (by rw [HN.out]; exact hlt)
        have hd := drop_one (zs := zs) (j := j) (by rw [HN.out]; exact hlt)
        generalize zs.getD j 0 = x at hc hd
        rw [hd, mongeL] at HI
        have hjs : j ≤ 4294967296 := by omega
        have hjs2 : j ≤ 1048576 := by omega
        clear HI0 hd
        by_cases hjk : j % 2 = k
        · have HI2 := Lib.hid HI.out
          rw [if_pos hjk] at HI2
          first
            | have hA : (((j : Int) % 2) == 1) = false := by have := HK.out; rw [beq_eq_false_iff_ne]; omega
            | have hA : ((((j : Int) + 1) % 2) == 1) = false := by have := HK.out; rw [beq_eq_false_iff_ne]; omega
          clear HI hjk
          go_wp2_with (at_builtin; refine app_more rfl (.tmp 24) (.tmp 26) 32 rfl w.heap.size 3 i0 (.int .i64 0) 8 Try.underlying32 hi hz0 hz1 hz2 (by decide) rfl A3 c3 j (vals q) rfl hown (.int .i64 x) rfl _ rfl rfl hjs hszw ?_; intro g c5 w5 hown5 hgr5; have hb5 := Lib.hid (hbw.grown hgr5 hszw (fun k hk => (own_lo hown k hk).1)); have ho5 := Lib.hid (show w5.ownsRow w.heap.size 3 1 (.slice (some ⟨g, 0, none⟩) (j + 1) c5) (j + 1) (vals (q ++ [x])) by unfold vals; rw [List.map_append]; exact hown5); clear hown5 hgr5)
          go_roundw
          case rel => exact ⟨j + 1, by omega, by go_num, _, c5, q ++ [x], rfl, ho5.out, HI2, hb5.out⟩
          case measure => simp [intOf]; omega
        · have HI2 := Lib.hid HI.out
          rw [if_neg hjk] at HI2
          first
            | have hA : (((j : Int) % 2) == 1) = true := by have := HK.out; rw [beq_iff_eq]; omega
            | have hA : ((((j : Int) + 1) % 2) == 1) = true := by have := HK.out; rw [beq_iff_eq]; omega
          have HO := fun o => Lib.hid (hown.alloc o)
          have HBA := fun o => Lib.hid (hbw.alloc hszw o)
          have HLO := Lib.hid (own_lo hown)
          clear HI hjk hown hbw
          go_wp2_with fail
          refine (ins_front w.heap.size A3 j c3 1 wr.heap.size 1 q [x] _ rfl (by decide) (by decide) hjs2 (HO _).out (heap_alloc_new wr _) (fun k hk => by have := (HLO.out k hk).2; omega) (HBA _).out.size).mono ?_
          rintro e w5 ⟨A5, c5, rfl, ho, hg, _⟩
          have HO5 := Lib.hid ho
          have HB5 := Lib.hid ((HBA (.cells #[.int .i64 x] 3)).out.grown hg (HBA _).out.size (fun k hk => (HLO.out k hk).1))
          clear ho hg
          go_wp2
          go_roundw
          case rel => exact ⟨j + 1, by omega, by go_num, A5, c5, x :: q, rfl, HO5.out, HI2, HB5.out⟩
          case measure => simp [intOf]; omega
      · have hjn : j = n := by omega
        subst hjn
        have HE := Lib.hid (show q = R by
          have h := HI.out
          rw [List.drop_eq_nil_of_le (by rw [HN.out]; exact Nat.le_refl _)] at h
          exact h)
        rw [HE.out] at hown
        have HL := Lib.hid (show R.length = j by have := hown.1; rw [vals_len] at this; omega)
        have HO := Lib.hid hown
        clear hown HI
        go_wp2
        go_ret
        exact ⟨A3, c3, by rw [HL.out]; rfl, by rw [HL.out]; exact HO.out, hbw⟩
theorem milk_end {α : Type} : ∀ (f : Nat) (u q : List α), u.length ≤ 1 → u.length < f → milkL f u q = u ++ q
  | 0, u, q, h1, h2 => by omega
  | f + 1, [], q, h1, h2 => rfl
  | f + 1, [x], q, h1, h2 => rfl
  | f + 1, x :: y :: r, q, h1, h2 => by simp at h1
theorem milk_step {bt : Nat} {x : Int} {v q R : List Int} (hb : 1 ≤ bt) (hv : v.length = bt) (h : ∃ f, (x :: v).length < f ∧ milkL f (x :: v) q = R) :
    ∃ f, (v.take (bt - 1)).length < f ∧ milkL f (v.take (bt - 1)) ([x, (x :: v).getD bt 0] ++ q) = R := by
  obtain ⟨f, hf, e⟩ := h
  cases v with
  | nil => simp at hv; omega
  | cons y r =>
    cases f with
    | zero => simp at hf
    | succ f =>
      have hr : r.length = bt - 1 := by simp at hv; omega
      refine ⟨f, by simp at hf ⊢; omega, ?_⟩
      rw [milkL, hr] at e
      have hd : (y :: r).drop (bt - 1) = [(x :: y :: r).getD bt 0] := by
        have h1 : bt - 1 < (y :: r).length := by simp; omega
        rw [List.drop_eq_getElem_cons h1, List.drop_eq_nil_of_le (by simp; omega)]
        have h2 : (x :: y :: r).getD bt 0 = (y :: r)[bt - 1] := by
          obtain ⟨m, rfl⟩ : ∃ m, bt = m + 1 := ⟨bt - 1, by omega⟩
          rw [List.getD_cons_succ, List.getD_eq_getElem?_getD, List.getElem?_eq_getElem (by simpa using h1)]
          rfl
        rw [h2]
      rw [hd] at e
      exact e
set_option maxHeartbeats 1000000 in
theorem impl_milk (A : Option Addr) (n c : Nat) (zs : List Int) (w : World) (hn : zs.length = n) (h0 : 1 ≤ n) (h12 : n ≤ 12) (hnc : n ≤ c) (hss : IntsAt w w.heap.size .i64 A zs) :
    Calls Try.prog 99 #[.slice A n c] w (IsIL w.heap.size (milkL (n + 1) zs []) w) := by
  obtain ⟨i0, hi, hz0, hz1, hz2⟩ := info_parts infoInt
  obtain ⟨b, o, rfl⟩ := ints_addr hss (by omega)
  have HN := Lib.hid hn
  have HS := Lib.hid hss
  obtain ⟨R, hR⟩ : ∃ R, R = milkL (n + 1) zs [] := ⟨_, rfl⟩
  have HI0 := Lib.hid (show ∃ f, zs.length < f ∧ milkL f zs [] = R from ⟨n + 1, by omega, hR.symm⟩)
  rw [← hR]
  clear hn hR hss
  go_enter Try.func99, Try.ntmps99
  go_wp2
  go_loopw [0, 3, 4] (fun s0 s3 s4 wr => ∃ (n1 n3 c1 c3 : Nat) (A1 A3 : Option Addr) (u q : List Int), s0 = .slice A1 n1 c1 ∧ s3 = .slice A3 n3 c3 ∧ Hid (u.length = n1) ∧ n1 ≤ c1 ∧
    Hid (IntsAt w w.heap.size .i64 A1 u) ∧ Hid (∃ b o, A1 = some ⟨b, o, none⟩) ∧ n1 + n3 ≤ 12 ∧ wr.ownsRow w.heap.size 3 1 (.slice A3 n3 c3) n3 (vals q) ∧ Hid (∃ f, u.length < f ∧ milkL f u q = R) ∧ Below w.heap.size w wr) (fun s0 _ _ _ => lenV s0)
  case atStart => exact ⟨n, 0, c, 0, _, none, zs, [], rfl, rfl, HN, hnc, HS, ⟨b, o, rfl⟩, by omega, World.ownsRow_nil _ _ _ _, HI0, Below.refl _ w⟩
  case round =>
    obtain ⟨n1, n3, c1, c3, A1, A3, u, q, rfl, rfl, HLU, hnc1, HA1, HB1, h12s, hown, HI, hbw⟩ := hrel
    clear HS HI0
    have hszw := hbw.size
    obtain ⟨b1, o1, e1⟩ := HB1.out
    subst e1
    by_cases hn1 : n1 ≤ 1
    · have HE := Lib.hid (show u ++ q = R by
        obtain ⟨f, hf, e⟩ := HI.out
        rw [milk_end f u q (by rw [HLU.out]; exact hn1) hf] at e
        exact e)
      have hcond : decide ((1 : Int) < (n1 : Int)) = false := decide_eq_false (by omega)
      have HAT := fun o => Lib.hid ((HA1.out.below (hbw.alloc hszw o)).more (hbw.alloc hszw o).size)
      have hql : q.length = n3 := by have := hown.1; rw [vals_len] at this; omega
      have HQL := Lib.hid hql
      have HOA := fun o => Lib.hid (hown.alloc o)
      have HQ := fun o => Lib.hid (ints_of (HOA o).out)
      have HBA := fun o => Lib.hid (hbw.alloc hszw o)
      have HNIL := Lib.hid (show A3 = none → c3 = 0 by
        intro e
        rcases own_full hown with ⟨_, _, h⟩ | ⟨_, _, h, _⟩
        · exact h
        · rw [e] at h; cases h)
      have HSP := Lib.hid (show ∀ a, A3 = some a → a.spot = none by
        intro a e
        rcases own_full hown with ⟨h, _, _⟩ | ⟨_, _, h, _⟩
        · rw [e] at h; cases h
        · rw [e] at h; simp only [Option.some.injEq] at h; rw [h])
      have h1s : n1 ≤ 4096 := by omega
      have h3s : n3 ≤ 4096 := by omega
      clear hown HI hql
      go_wp2_with fail
      refine (concat_two _ _ _ _ _ _ _ _ u q _ (heap_alloc_new wr _) HLU.out HQL.out h1s h3s (fun h => by cases h) HNIL.out spot_some HSP.out (HAT _).out (HQ _).out).mono ?_
      rintro e w2 h
      replace h := il_after h (HBA _).out (HBA _).out.size
      rw [HE.out] at h
      obtain ⟨A5, c5, rfl, ho, hb⟩ := h
      go_wp2
      go_ret
      exact ⟨A5, c5, rfl, ho, hb⟩
    · obtain ⟨bt, rfl⟩ : ∃ bt, n1 = bt + 1 := ⟨n1 - 1, by omega⟩
      have hbt : 1 ≤ bt := by omega
      obtain ⟨x, v, e2⟩ : ∃ x v, u = x :: v := by
        cases u with
        | nil => have := HLU.out; simp at this
        | cons x v => exact ⟨x, v, rfl⟩
      subst e2
      have HLV := Lib.hid (show v.length = bt by have := HLU.out; simpa using this)
      have HI2 := Lib.hid (milk_step hbt HLV.out HI.out)
      have hat := HA1.out.below hbw
      have hc1 : wr.cell? ⟨b1, o1, none⟩ = some (.int .i64 x) := by
        obtain ⟨b2, o2, e, hlt, hcc⟩ := hat 0 (by simp)
        simp only [Option.some.injEq, Addr.mk.injEq, and_true] at e
        rw [e.1, e.2]; exact hcc
      have hc2 : wr.cell? ⟨b1, o1 + bt, none⟩ = some (.int .i64 ((x :: v).getD bt 0)) := by
        obtain ⟨b2, o2, e, hlt, hcc⟩ := hat bt (by simp [HLV.out])
        simp only [Option.some.injEq, Addr.mk.injEq, and_true] at e
        rw [e.1, e.2]; exact hcc
      have HA2 : Hid (IntsAt w w.heap.size .i64 (some ⟨b1, o1 + 1, none⟩) (v.take (bt - 1))) := by
        have h := ints_take2 (bt - 1) (ints_drop (k := 1) HA1.out)
        exact h
      have HLT := Lib.hid (show (v.take (bt - 1)).length = bt - 1 by rw [List.length_take, HLV.out]; omega)
      generalize (x :: v).getD bt 0 = y at hc2 HI2
      have hcond : (1 : Int) < (bt : Int) + 1 := by omega
      have hcc1 : ¬ c1 = 1 := by omega
      have hcc2 : ¬ (c1 : Int) = 1 := by omega
      have hbc : bt ≤ c1 := by omega
      have hbi : (1 : Int) ≤ (bt : Int) := by omega
      have hn3s : n3 ≤ 1048576 := by omega
      have HO := fun o => Lib.hid (hown.alloc o)
      have HBA := fun o => Lib.hid (hbw.alloc hszw o)
      have HLO := Lib.hid (own_lo hown)
      clear HI HA1 HB1 HLU hown hbw hat hn1
      go_wp2
      go_region_with (go_at_call 106; refine (ins_front w.heap.size A3 n3 c3 2 wr.heap.size 2 q [x, y] (wr.alloc _).drew rfl (by decide) (by decide) hn3s (HO _).out (heap_alloc_new wr _) (fun k hk => by have := (HLO.out k hk).2; omega) (HBA _).out.size).mono ?_; rintro e w5 ⟨A5, c5, rfl, ho, hg, _⟩; have HO5 := Lib.hid ho; have HB5 := Lib.hid (((HBA (.cells #[.int .i64 x, .int .i64 y] 3)).out.drew).grown hg (HBA _).out.size (fun k hk => (HLO.out k hk).1)); clear ho hg)
      all_goals
        go_wp2
        exact ⟨⟨bt - 1, n3 + 2, c1 - 1, c5, _, A5, v.take (bt - 1), [x, y] ++ q, rfl, rfl, HLT, by omega, HA2, ⟨_, _, rfl⟩, by omega, HO5.out, HI2, HB5.out⟩, by simp [lenV]; omega⟩

/-! ### a queue: a row of the call's own of which the first elements are gone -/
def QRow (w : World) (B g off n c : Nat) (zs : List Int) : Prop :=
  zs.length = n ∧ n ≤ c ∧ ∃ m ys, w.ownsRow B 3 1 (.slice (some ⟨g, 0, none⟩) m m) m ys ∧ off + c = m ∧ (ys.drop off).take n = vals zs
theorem q_of_own {w : World} {B g n c : Nat} {zs : List Int} (h : w.ownsRow B 3 1 (.slice (some ⟨g, 0, none⟩) n c) n (vals zs)) : QRow w B g 0 n c zs := by
  have hl : zs.length = n := by have := h.1; rw [vals_len] at this; omega
  rcases own_full h with ⟨h1, _⟩ | ⟨g', ys, hg, hB, _, hnc, _, hyl, hyt, hf, _⟩
  · cases h1
  · simp only [Option.some.injEq, Addr.mk.injEq, and_true] at hg
    subst hg
    exact ⟨hl, hnc, c, ys, hf, by omega, by rw [List.drop_zero]; exact hyt⟩
theorem q_pop {w : World} {B g off n c : Nat} {x : Int} {zs : List Int} (h : QRow w B g off (n + 1) c (x :: zs)) : QRow w B g (off + 1) n (c - 1) zs := by
  obtain ⟨h1, h2, m, ys, ho, hm, ht⟩ := h
  refine ⟨by simpa using h1, by omega, m, ys, ho, by omega, ?_⟩
  have e := congrArg List.tail ht
  rw [← List.drop_one, List.drop_take, List.drop_drop] at e
  simp only [Nat.add_sub_cancel] at e
  rw [e]
  rfl
theorem q_cell {w : World} {B g off n c : Nat} {zs : List Int} (h : QRow w B g off n c zs) (j : Nat) (hj : j < n) : w.cell? ⟨g, off + j, none⟩ = some (.int .i64 (zs.getD j 0)) := by
  obtain ⟨h1, h2, m, ys, ho, hm, ht⟩ := h
  rw [ho.cellAt (off + j) (by omega)]
  have e := congrArg (fun l => l[j]?) ht
  rw [List.getElem?_take_of_lt hj, List.getElem?_drop, vals_get (by omega)] at e
  exact e
theorem q_lt {w : World} {B g off n c : Nat} {zs : List Int} (h : QRow w B g off n c zs) : B ≤ g ∧ g < w.heap.size := by
  obtain ⟨_, _, m, ys, ho, _⟩ := h
  exact own_lo ho g rfl
theorem q_at {w : World} {B g off n c : Nat} {zs : List Int} (h : QRow w B g off n c zs) : IntsAt w w.heap.size .i64 (some ⟨g, off, none⟩) zs := by
  intro j hj
  exact ⟨g, off, rfl, (q_lt h).2, q_cell h j (by have := h.1; omega)⟩
theorem q_kept {w w' : World} {B g off n c : Nat} {zs : List Int} {row : Option Nat} (h : QRow w B g off n c zs) (hg : w.grownBy w' row) (hr : row ≠ some g) : QRow w' B g off n c zs := by
  obtain ⟨h1, h2, m, ys, ho, hm, ht⟩ := h
  exact ⟨h1, h2, m, ys, own_gr ho hg (fun k hk => by simp only [Option.map_some, Option.some.injEq] at hk; subst hk; exact hr), hm, ht⟩
theorem q_put {w : World} {B g off n c : Nat} {zs : List Int} (x : Int) (h : QRow w B g off n c zs) (hc : n + 1 ≤ c) : QRow (w.setCells g (off + n) [.int .i64 x]) B g off (n + 1) c (zs ++ [x]) ∧ w.grownBy (w.setCells g (off + n) [.int .i64 x]) (some g) := by
  obtain ⟨h1, h2, m, ys, ho, hm, ht⟩ := h
  have hs := ho.stored (off + n) (.int .i64 x)
  have hyl : ys.length = m := by have := ho.1; omega
  refine ⟨⟨by simp [h1], hc, m, _, hs.1, hm, ?_⟩, hs.2⟩
  rw [List.drop_set, if_neg (by omega), Nat.add_sub_cancel_left, List.take_succ_eq_append_getElem (by rw [List.length_set, List.length_drop]; omega), List.take_set_of_le (Nat.le_refl _), ht, List.getElem_set_self]
  simp [vals]
theorem app_queue {P : Program} {w : World} {ops : Array Oper} {rest : List Oper} {o : Oper} {a : Act} {Q : Exit → Act → World → Prop} (hgd : o.guard = none) (s x : Operand) (t : TypeId)
    (ho : o.op = .call { callee := .builtin .append, args := #[s, x], argTypes := #[t, t] })
    (B : Nat) (i : TypeInfo) (ht : P.underlying t = some (.slice 3)) (hi : P.info? 3 = some i) (hz : i.zero = some (.int .i64 0)) (hsize : i.size = 1) (hby : i.bytes = 8)
    (g off n c : Nat) (zs : List Int) (hs : a.eval s = .slice (some ⟨g, off, none⟩) n c) (hq : QRow w B g off n c zs) (y : Int) (N : Nat) (hx : a.eval x = .slice (some ⟨N, 0, none⟩) 1 1) (hN : N = w.heap.size) (hn : n ≤ 1048576) (hB : B ≤ w.heap.size)
    (h : ∀ g' off' c' w', QRow w' B g' off' (n + 1) c' (zs ++ [y]) → w.grownBy w' (some g) → (g' = g ∨ w.heap.size ≤ g') → wpList P ops Q rest (a.put o.dst (.slice (some ⟨g', off', none⟩) (n + 1) c')) w') :
    wpList P ops Q (o :: rest) a (w.alloc (.cells #[.int .i64 y] 3)) := by
  subst hN
  have hh : (w.alloc (.cells #[.int .i64 y] 3)).heap[w.heap.size]? = some (.cells #[.int .i64 y] 3 (0, 0)) := heap_alloc_new w _
  have hg0 : w.grownBy (w.alloc (.cells #[.int .i64 y] 3)) (some g) := grown_new w _ _
  have hlt := q_lt hq
  have hq2 : QRow (w.alloc (.cells #[.int .i64 y] 3)) B g off n c zs := q_kept hq (grown_new w _ none) (fun e => by cases e)
  have hl := hq.1
  refine wpList_append_arg _ hgd s x t ho 3 i (.int .i64 0) 1 8 ht hi hz hsize hby rfl (by decide) g off n c (vals zs) hs (by rw [vals_len]; omega) ?_ ⟨w.heap.size, 0, none⟩ 1 1 [.int .i64 y] hx rfl ?_ ?_ ?_ (by unfold maxLen; omega) (by omega) ?_ ?_
  · intro j u hu
    have hj : j < n := by
      have := (List.getElem?_eq_some_iff.1 hu).1
      rw [vals_len] at this; omega
    rw [q_cell hq2 j hj, ← hu, vals_get (by omega)]
  · intro j u hj
    match j, hj with
    | 0, hj =>
      simp at hj; subst hj
      show (w.alloc (.cells #[.int .i64 y] 3)).cell? ⟨w.heap.size, 0, none⟩ = _
      unfold World.cell?
      rw [hh]; rfl
  · intro u hu; simp at hu; subst hu; rfl
  · intro hr j hj
    have hj0 : j = 0 := by simpa using hj
    subst hj0
    obtain ⟨h1, h2, m, ys, hfo, hm, _⟩ := hq2
    have hyl : ys.length = m := by have := hfo.1; omega
    exact ⟨by rw [hfo.cellAt _ (by omega), List.getElem?_eq_getElem (by omega)]; rfl, hfo.frozenAt _⟩
  · intro hr
    have hp := q_put y hq2 (by omega)
    rw [Nat.mul_one]
    exact h g off c _ hp.1 (grown_trans hg0 hp.2) (Or.inl rfl)
  · intro hr v' w' how hgw
    obtain ⟨A', c', rfl⟩ := own_slice how
    obtain ⟨g', rfl⟩ := own_shape how (by omega)
    have hlo := (own_lo how g' rfl).1
    have hsz := hg0.size
    have how2 : w'.ownsRow B 3 1 (.slice (some ⟨g', 0, none⟩) (n + 1) c') (n + 1) (vals (zs ++ [y])) := by
      unfold vals
      rw [List.map_append]
      exact own_mono how (by omega)
    exact h g' 0 c' w' (q_of_own how2) (grown_trans hg0 ⟨hgw.os, hgw.tape, hgw.output, hgw.size, fun k hk _ => hgw.block k hk (fun e => by cases e)⟩) (Or.inr (by omega))
end Go.Proofs.Ytibephoepkofnaa.Mv3

namespace Go.Proofs.Ytibephoepkofnaa.Mv4
open Go.RowKit Fr Own Pk Ins Pfn Rws Lb Cat Mvp Mv1 Mv2 Mv3

def dlV : Value → Nat
  | .bool true => 0
  | _ => 1
theorem duck_end {α : Type} : ∀ (f : Nat) (u q : List α) (s : Nat), u.length ≤ 1 → duckL f u q s = u ++ q
  | 0, u, q, s, h1 => rfl
  | f + 1, [], q, s, h1 => rfl
  | f + 1, [x], q, s, h1 => rfl
  | f + 1, x :: y :: r, q, s, h1 => by simp at h1
/-- how many rounds are left at most -/
def duM (n s : Nat) : Nat := 2 * n + (if s % 2 = 1 then 0 else 1)
theorem duck_deal {m s : Nat} {x : Int} {v q R : List Int} (hv : v.length = m) (hm : 1 ≤ m) (hs : s % 2 = 1) (h : ∃ f, duM (m + 1) s < f ∧ duckL f (x :: v) q s = R) : ∃ f, duM m (s + 1) < f ∧ duckL f v (x :: q) (s + 1) = R := by
  obtain ⟨f, hf, e⟩ := h
  cases v with
  | nil => simp at hv; omega
  | cons y r =>
    cases f with
    | zero => omega
    | succ f =>
      refine ⟨f, ?_, ?_⟩
      · unfold duM at *
        rw [if_pos hs] at hf
        rw [if_neg (by omega)]
        omega
      · rw [duckL, if_pos hs] at e
        exact e
theorem duck_keep {m s : Nat} {x : Int} {v q R : List Int} (hv : v.length = m) (hm : 1 ≤ m) (hs : ¬ s % 2 = 1) (h : ∃ f, duM (m + 1) s < f ∧ duckL f (x :: v) q s = R) : ∃ f, duM (m + 1) (s + 1) < f ∧ duckL f (v ++ [x]) q (s + 1) = R := by
  obtain ⟨f, hf, e⟩ := h
  cases v with
  | nil => simp at hv; omega
  | cons y r =>
    cases f with
    | zero => omega
    | succ f =>
      refine ⟨f, ?_, ?_⟩
      · unfold duM at *
        rw [if_neg hs] at hf
        rw [if_pos (by omega)]
        omega
      · rw [duckL, if_neg hs] at e
        exact e
set_option maxHeartbeats 1000000 in
theorem impl_duck_at (A : Option Addr) (n c k : Nat) (kv : Int) (zs : List Int) (w : World) (hn : zs.length = n) (h0 : 1 ≤ n) (h12 : n ≤ 12) (hkv : (kv = 0 ∧ k = 0) ∨ (kv = 1 ∧ k = 1)) (hss : IntsAt w w.heap.size .i64 A zs) :
    Calls Try.prog 105 #[.slice A n c, .int .i64 kv] w (IsIL w.heap.size (duckL (2 * n + 2) zs [] k) w) := by
  obtain ⟨i0, hi, hz0, hz1, hz2⟩ := info_parts infoInt
  have HC := Lib.hid (clone_any A n c zs w hn (by omega) hss)
  have HN := Lib.hid hn
  obtain ⟨R, hR⟩ : ∃ R, R = duckL (2 * n + 2) zs [] k := ⟨_, rfl⟩
  have HI0 := Lib.hid (show ∃ f, duM n k < f ∧ duckL f zs [] k = R from ⟨2 * n + 2, by unfold duM; split <;> omega, hR.symm⟩)
  rw [← hR]
  clear hn hR hss
  rcases hkv with ⟨rfl, hk0⟩ | ⟨rfl, hk0⟩
  all_goals
    have HK := Lib.hid hk0
    have HK2 := Lib.hid (show decide (k % 2 = 1) = decide (k = 1) by rw [hk0])
    clear hk0
    go_enter Try.func105, Try.ntmps105
    go_wp2_with fail
    refine HC.out.mono ?_
    rintro e w1 ⟨A2, c2, rfl, ho, hb⟩
    rw [HN.out] at ho
    rw [HN.out]
    obtain ⟨g, rfl⟩ := own_shape ho (by omega)
    have HQ0 := Lib.hid (q_of_own ho)
    have HB0 := Lib.hid hb
    clear ho hb HC
    go_wp2
    go_loopw [5, 6, 7, 8] (fun s5 s6 s7 s8 wr => ∃ (g off n1 c1 n3 c3 s : Nat) (bb : Bool) (A3 : Option Addr) (u q : List Int), s5 = .slice (some ⟨g, off, none⟩) n1 c1 ∧ s6 = .slice A3 n3 c3 ∧ s7 = .bool bb ∧ Hid (bb = decide (s % 2 = 1)) ∧ Hid (QRow wr w.heap.size g off n1 c1 u) ∧ 1 ≤ n1 ∧ n1 ≤ c1 ∧ n1 + n3 ≤ 12 ∧
      Hid (wr.ownsRow w.heap.size 3 1 (.slice A3 n3 c3) n3 (vals q)) ∧ Hid (∀ k, A3.map (·.block) = some k → k ≠ g) ∧ Hid (∃ f, duM n1 s < f ∧ duckL f u q s = R) ∧ Below w.heap.size w wr) (fun s5 _ s7 _ _ => 2 * lenV s5 + dlV s7)
    case atStart => exact ⟨g, 0, n, c2, 0, 0, k, _, none, zs, [], rfl, rfl, rfl, (by show _ = _; rw [HK2.out, HK.out]; rfl), HQ0, h0, HQ0.out.2.1, by omega, World.ownsRow_nil _ _ _ _, (fun k h => by cases h), HI0, HB0.out⟩
    case round =>
      obtain ⟨g, off, n1, c1, n3, c3, s, bb, A3, u, q, rfl, rfl, rfl, HBB, HQ, hn1, hnc1, h12s, HO, HNE, HI, hbw⟩ := hrel
      clear HI0 HQ0 HB0
      have hszw := hbw.size
      have hql := Lib.hid (q_lt HQ.out)
      by_cases h1 : n1 = 1
      · subst h1
        have HE := Lib.hid (show u ++ q = R by
          obtain ⟨f, hf, e⟩ := HI.out
          rw [duck_end f u q s (by rw [HQ.out.1]; exact Nat.le_refl _)] at e
          exact e)
        have HQL := Lib.hid (show q.length = n3 by have := HO.out.1; rw [vals_len] at this; omega)
        have HOA := fun o => Lib.hid (HO.out.alloc o)
        have HQ2 := fun o => Lib.hid (ints_of (HOA o).out)
        have HBA := fun o => Lib.hid (hbw.alloc hszw o)
        have HQA := fun o => Lib.hid (q_at (q_kept HQ.out (grown_new wr o none) (fun e => by cases e)))
        have HNIL := Lib.hid (show A3 = none → c3 = 0 by
          intro e
          rcases own_full HO.out with ⟨_, _, h⟩ | ⟨_, _, h, _⟩
          · exact h
          · rw [e] at h; cases h)
        have HSP := Lib.hid (show ∀ a, A3 = some a → a.spot = none by
          intro a e
          rcases own_full HO.out with ⟨h, _, _⟩ | ⟨_, _, h, _⟩
          · rw [e] at h; cases h
          · rw [e] at h; simp only [Option.some.injEq] at h; rw [h])
        have h3s : n3 ≤ 4096 := by omega
        have HU1 := Lib.hid HQ.out.1
        clear HO HI HQ HNE hbw
        go_wp2_with fail
        refine (concat_two _ _ _ _ _ _ _ _ u q _ (heap_alloc_new wr _) HU1.out HQL.out (by decide) h3s (fun h => by cases h) HNIL.out spot_some HSP.out (HQA _).out (HQ2 _).out).mono ?_
        rintro e w2 h
        replace h := il_after h (HBA _).out (HBA _).out.size
        rw [HE.out] at h
        obtain ⟨A5, c5, rfl, ho, hb⟩ := h
        go_wp2
        go_ret
        exact ⟨A5, c5, rfl, ho, hb⟩
      · obtain ⟨m, rfl⟩ : ∃ m, n1 = m + 1 := ⟨n1 - 1, by omega⟩
        have hm : 1 ≤ m := by omega
        obtain ⟨x, v, e2⟩ : ∃ x v, u = x :: v := by
          cases u with
          | nil => have := HQ.out.1; simp at this
          | cons x v => exact ⟨x, v, rfl⟩
        subst e2
        have HLV := Lib.hid (show v.length = m by have := HQ.out.1; simpa using this)
        have hc : wr.cell? ⟨g, off, none⟩ = some (.int .i64 x) := q_cell HQ.out 0 (by omega)
        have HQP := Lib.hid (q_pop HQ.out)
        have hcond : (1 : Int) < (m : Int) + 1 := by omega
        have hcc1 : ¬ c1 = 1 := by omega
        have hcc2 : ¬ (c1 : Int) = 1 := by omega
        have hcm : m ≤ c1 - 1 := by omega
        have hm0 : 0 < m := by omega
        clear h1 hn1
        by_cases hs : s % 2 = 1
        · have hbb : bb = true := by rw [HBB.out]; exact decide_eq_true hs
          subst hbb
          have HI2 := Lib.hid (duck_deal HLV.out hm hs HI.out)
          have HB2 := Lib.hid (show false = decide ((s + 1) % 2 = 1) from (decide_eq_false (by omega)).symm)
          have HOA := fun o => Lib.hid (HO.out.alloc o)
          have HBA := fun o => Lib.hid (hbw.alloc hszw o)
          have HLO := Lib.hid (own_lo HO.out)
          have HQA := fun o => Lib.hid (q_kept HQP.out (grown_new wr o none) (fun e => by cases e))
          have hn3s : n3 ≤ 1048576 := by omega
          clear HI HO hbw HQ HQP hs
          go_wp2_with fail
          refine (ins_front w.heap.size A3 n3 c3 1 wr.heap.size 1 q [x] _ rfl (by decide) (by decide) hn3s (HOA _).out (heap_alloc_new wr _) (fun k hk => by have := (HLO.out k hk).2; omega) (HBA _).out.size).mono ?_
          rintro e w5 ⟨A5, c5, rfl, ho, hg, hf⟩
          have HQ5 := Lib.hid (q_kept (HQA _).out hg (fun e => HNE.out g e rfl))
          have HO5 := Lib.hid ho
          have HB5 := Lib.hid ((HBA (.cells #[.int .i64 x] 3)).out.grown hg (HBA _).out.size (fun k hk => (HLO.out k hk).1))
          have HN5 := Lib.hid (show ∀ k, A5.map (·.block) = some k → k ≠ g by
            intro k hk
            rcases hf k hk with h | h
            · exact HNE.out k h
            · have h1 := hql.out.2
              have h2 := Nat.le_trans ((Below.refl wr.heap.size wr).alloc (Nat.le_refl _) _).size h
              omega)
          clear ho hg hf
          go_wp2
          go_roundw
          case rel => exact ⟨g, off + 1, m, c1 - 1, n3 + 1, c5, s + 1, _, A5, v, [x] ++ q, rfl, rfl, rfl, HB2, HQ5, hm, hcm, by omega, HO5, HN5, HI2, HB5.out⟩
          case measure => simp [lenV, dlV]; omega
        · have hbb : bb = false := by rw [HBB.out]; exact decide_eq_false hs
          subst hbb
          have HI2 := Lib.hid (duck_keep HLV.out hm hs HI.out)
          have HB2 := Lib.hid (show true = decide ((s + 1) % 2 = 1) from (decide_eq_true (by omega)).symm)
          have hms : m ≤ 1048576 := by omega
          clear HI hs
          go_wp2_with (at_builtin; refine app_queue rfl (.tmp 28) (.tmp 30) 32 rfl w.heap.size i0 Try.underlying32 hi hz0 hz1 hz2 g (off + 1) m (c1 - 1) v rfl HQP.out x _ rfl rfl hms hszw ?_; intro g5 off5 c5 w5 hq5 hg5 hd5; have HQ5 := Lib.hid hq5; have HO5 := Lib.hid (own_gr HO.out hg5 (fun k hk e => by simp only [Option.some.injEq] at e; exact HNE.out k hk e.symm)); have HB5 := Lib.hid (hbw.grown hg5 hszw (fun k hk => by simp only [Option.some.injEq] at hk; have := hql.out.1; omega)); have HN5 := Lib.hid (show ∀ k, A3.map (·.block) = some k → k ≠ g5 by intro k hk e; rcases hd5 with h | h; exact HNE.out k hk (e.trans h); have := (own_lo HO.out k hk).2; omega); clear hq5 hg5 hd5)
          go_roundw
          case rel => exact ⟨g5, off5, m + 1, c5, n3, c3, s + 1, _, A3, v ++ [x], q, rfl, rfl, rfl, HB2, HQ5, by omega, HQ5.out.2.1, by omega, HO5, HN5, HI2, HB5.out⟩
          case measure => simp [lenV, dlV]
end Go.Proofs.Ytibephoepkofnaa.Mv4
