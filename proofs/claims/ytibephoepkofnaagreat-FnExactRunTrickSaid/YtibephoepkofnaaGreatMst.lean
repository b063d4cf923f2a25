/- The program's numbers of packets. maps.Values of a map of lists, collected and sorted. A map from packets' numbers to packets, as a loop fills it. -/
import Derived.Test.YtibephoepkofnaaGreatRws
import Derived.Test.YtibephoepkofnaaGreatPok
import Derived.Test.YtibephoepkofnaaGreatRfn
import Derived.Test.YtibephoepkofnaaGreatSip
import Derived.RangeFuncBox
import Derived.RangeFuncWrites
import Derived.RangeFuncLeaves
import Derived.Shelf.Abstract
import Derived.Shelf.RegionOpen
import Derived.WalkKit
import Derived.OwnWalkIn
import Derived.TacticsInMore
import Derived.LoopNIn
import Derived.LoopIn
import Derived.Maps.OwnIn
import Derived.Sort.MapsRangeIn
import Derived.Sort.LoopGhostIn
import Derived.Lib.SlKeysI
set_option linter.unusedVariables false
set_option maxRecDepth 20000
namespace Go.Proofs.YtibephoepkofnaaGreat.Pkn
open Go.RowKit Fr _root_.Go.Proofs.YtibephoepkofnaaGreat.Own Pk Ins Rws

def numTo (zs : List Int) : Nat → Int
  | 0 => 0
  | k + 1 => numTo zs k * 25 + zs.getD k 0 + 13
def numF (zs : List Int) : Int := numTo zs zs.length
/-- elements that stand for cards -/
def Cards (zs : List Int) : Prop := ∀ i, i < zs.length → -12 ≤ zs.getD i 0 ∧ zs.getD i 0 ≤ 11
theorem num_bound {zs : List Int} (h : Cards zs) : ∀ k, k ≤ zs.length → 0 ≤ numTo zs k ∧ numTo zs k < 26 ^ k
  | 0, _ => by simp [numTo]
  | k + 1, hk => by
    have h1 := num_bound h k (by omega)
    have h2 := h k (by omega)
    show 0 ≤ numTo zs k * 25 + zs.getD k 0 + 13 ∧ numTo zs k * 25 + zs.getD k 0 + 13 < 26 ^ (k + 1)
    rw [Int.pow_succ]
    generalize (26 : Int) ^ k = p at *
    omega
theorem num_small {zs : List Int} (h : Cards zs) (h12 : zs.length ≤ 12) (k : Nat) (hk : k ≤ zs.length) : 0 ≤ numTo zs k ∧ numTo zs k < 95428956661682176 := by
  have h1 := num_bound h k hk
  refine ⟨h1.1, Int.lt_of_lt_of_le h1.2 ?_⟩
  have e : ((26 : Int) ^ k) = ((26 ^ k : Nat) : Int) := by simp
  have h2 : 26 ^ k ≤ 26 ^ 12 := Nat.pow_le_pow_right (by decide) (by omega)
  rw [e]
  exact Int.ofNat_le.2 h2
theorem num_snoc {zs : List Int} {x : Int} : ∀ k, k ≤ zs.length → numTo (zs ++ [x]) k = numTo zs k
  | 0, _ => rfl
  | k + 1, hk => by
    show numTo (zs ++ [x]) k * 25 + (zs ++ [x]).getD k 0 + 13 = numTo zs k * 25 + zs.getD k 0 + 13
    rw [num_snoc k (by omega)]
    have : (zs ++ [x]).getD k 0 = zs.getD k 0 := by
      simp only [List.getD_eq_getElem?_getD]
      rw [List.getElem?_append_left (by omega)]
    rw [this]
theorem numF_snoc (zs : List Int) (x : Int) : numF (zs ++ [x]) = numF zs * 25 + x + 13 := by
  unfold numF
  rw [List.length_append, List.length_singleton]
  show numTo (zs ++ [x]) zs.length * 25 + (zs ++ [x]).getD zs.length 0 + 13 = _
  rw [num_snoc _ (Nat.le_refl _)]
  have : (zs ++ [x]).getD zs.length 0 = x := by simp [List.getD_eq_getElem?_getD]
  rw [this]
theorem cards_init {zs : List Int} {x : Int} (h : Cards (zs ++ [x])) : Cards zs ∧ -12 ≤ x ∧ x ≤ 11 := by
  constructor
  · intro i hi
    have := h i (by simp; omega)
    simp only [List.getD_eq_getElem?_getD] at this ⊢
    rwa [List.getElem?_append_left hi] at this
  · have := h zs.length (by simp)
    simpa [List.getD_eq_getElem?_getD] using this
theorem numF_pos {zs : List Int} (h : Cards zs) : 0 ≤ numF zs := (num_bound h zs.length (Nat.le_refl _)).1
/-- no two packets have one number -/
theorem num_inj : ∀ (n : Nat) (us vs : List Int), us.length + vs.length ≤ n → Cards us → Cards vs → numF us = numF vs → us = vs
  | 0, us, vs, hn, _, _, _ => by
    have e1 : us = [] := List.length_eq_zero_iff.1 (by omega)
    have e2 : vs = [] := List.length_eq_zero_iff.1 (by omega)
    rw [e1, e2]
  | n + 1, us, vs, hn, h1, h2, he => by
    rcases List.eq_nil_or_concat us with rfl | ⟨a, x, rfl⟩
    · rcases List.eq_nil_or_concat vs with rfl | ⟨b, y, rfl⟩
      · rfl
      · rw [List.concat_eq_append] at *
        obtain ⟨g1, g2, g3⟩ := cards_init h2
        have := numF_pos g1
        rw [numF_snoc] at he
        have e0 : numF [] = 0 := rfl
        omega
    · rw [List.concat_eq_append] at *
      obtain ⟨f1, f2, f3⟩ := cards_init h1
      rcases List.eq_nil_or_concat vs with rfl | ⟨b, y, rfl⟩
      · have := numF_pos f1
        rw [numF_snoc] at he
        have e0 : numF [] = 0 := rfl
        omega
      · rw [List.concat_eq_append] at *
        obtain ⟨g1, g2, g3⟩ := cards_init h2
        rw [numF_snoc, numF_snoc] at he
        have e1 : numF a = numF b := by omega
        have e2 : x = y := by omega
        rw [num_inj n a b (by simp at hn; omega) f1 g1 e1, e2]
theorem num_eq {us vs : List Int} (h1 : Cards us) (h2 : Cards vs) (he : numF us = numF vs) : us = vs := num_inj _ us vs (Nat.le_refl _) h1 h2 he
set_option maxHeartbeats 1000000 in
theorem num_any (A : Option Addr) (n c B : Nat) (zs : List Int) (w : World) (hn : zs.length = n) (h12 : n ≤ 12) (hcd : Cards zs) (hat : IntsAt w B .i64 A zs) :
    Calls Tryz.prog 75 #[.slice A n c] w fun e w' => e = .returned (.int .i64 (numF zs)) ∧ w = w' := by
  have HN := Lib.hid hn
  have HS := Lib.hid (fun k hk => num_small hcd (by omega) k hk)
  have HC := Lib.hid hcd
  clear hn hcd
  go_enter Tryz.func75, Tryz.ntmps75
  go_wp2
  go_loop [3, 5, 8] (fun s _ i => ∃ k : Nat, k ≤ n ∧ i = .int .i64 (k : Int) ∧ s = .int .i64 (numTo zs k)) (fun _ _ i => n - (intOf i).toNat)
  case atStart => exact ⟨0, Nat.zero_le _, rfl, rfl⟩
  case round =>
    obtain ⟨k, hk, rfl, rfl⟩ := hrel
    by_cases hlt : k < n
    · obtain ⟨b, o, rfl, hb, hc⟩ := hat k (by rw [HN.out]; exact hlt)
      obtain ⟨hx1, hx2⟩ := HC.out k (by rw [HN.out]; exact hlt)
      obtain ⟨hs1, hs2⟩ := HS.out k (by rw [HN.out]; omega)
      have HE := Lib.hid (show numTo zs (k + 1) = numTo zs k * 25 + zs.getD k 0 + 13 from rfl)
      generalize zs.getD k 0 = x at *
      generalize hy : numTo zs k = y at *
      have HY := Lib.hid hy
      clear hy
      go_wp2
      go_round
      case rel => exact ⟨k + 1, by omega, by go_num, by rw [HE.out]; congr 1; omega⟩
      case measure => simp [intOf]; omega
    · have hkn : k = n := by omega
      have HE := Lib.hid (show numTo zs k = numF zs by unfold numF; rw [HN.out, hkn])
      have hge : (n : Int) ≤ (k : Int) := by omega
      clear hlt hkn
      go_wp2
      go_ret
      exact ⟨congrArg (fun z => Ending.returned (.int .i64 z)) HE.out, rfl⟩
end Go.Proofs.YtibephoepkofnaaGreat.Pkn

namespace Go.Proofs.YtibephoepkofnaaGreat.Val
open Go.RowKit Go.Maps Go.Sort Go.Shelf Fr _root_.Go.Proofs.YtibephoepkofnaaGreat.Own Ins Rws Rfn

attribute [local go_sem] Oper.semAt_some

/-- a list in a map -/
def heldR : Value → Option (DataW Value × List MemPlace)
  | .slice A n c => some (.held (.slice A n c), [])
  | _ => none
theorem held_inv (v : Value) (y : DataW Value × List MemPlace) (h : heldR v = some y) : ∃ c : Option Addr × Nat × Nat, v = .slice c.1 c.2.1 c.2.2 := by
  cases v with
  | slice A n c => exact ⟨(A, n, c), rfl⟩
  | _ => simp [heldR] at h
set_option maxRecDepth 100000 in
set_option maxHeartbeats 1000000 in
theorem values_seq (Bm b m : Nat) (D : DataW Value) (V : Int → RD) (w : World) (hBm : Bm < w.heap.size) (hm : w.cell? ⟨Bm, 0, none⟩ = some (.map (some b))) (hown : w.ownsMap Tryz.prog 3 heldR b m D)
    (hV : ∀ x : Int, Maps.has D (.int .i64 x) = true → ∀ zd, D.atKey (.int .i64 x) zd = .held (V x).v) :
    SeqStopsK Fence.wide 4 Tryz.prog 106 #[.pointer (some ⟨Bm, 0, none⟩)] (fun x : Int => #[.slice (V x).A (V x).zs.length (V x).c]) KeepsWalks (fun xs => xs.Perm (intKeys D)) (fun _ => True) (Maps.size D) w := by
  intro l J Jx W hW hJ hJx hY h0
  have hm2 : W.cell? ⟨Bm, 0, none⟩ = some (.map (some b)) := (hW.cell (p := ⟨Bm, 0, none⟩) hBm).trans hm
  have hown2 : W.ownsMap Tryz.prog 3 heldR b m D := by
    have hbl := hown.lt
    obtain ⟨es, clock, hb, Ft, hs, hD⟩ := hown
    exact ⟨es, clock, (hW.block b hbl).trans hb, Ft, hs, hD⟩
  have K := int_keyed Tryz.underlying3
  refine callsIn_of_wp Tryz.func106 rfl trivial ?_ rfl
  simp only [Tryz.ntmps106, List.size_toArray, List.length_cons, List.length_nil, Nat.reduceAdd, Nat.reduceSub, Array.replicate_succ, Array.replicate_zero, List.push_toArray, List.append_toArray, List.nil_append, List.cons_append]
  gi_wp2_with (first
    | (gi_at_range; refine wpListIn_range_own _ rfl _ 115 rfl 3 22 K Tryz.underlying115 _ b m _ rfl hown2 ?_; intro w0 hrg0 hg0 hs0)
    | gi_in)
  try go_frame
  gi_loopw [4] (fun _ wr => ∃ (left : Lit → Bool) (cnt : Nat) (xs : List Int), wr.ranges Tryz.prog 3 heldR b W.heap.size m D left cnt ∧ xs.length + cnt ≤ Maps.size D ∧ CollectedI D left xs ∧ J xs wr)
    (fun _ wr => wr.rangeLeft b W.heap.size)
  case atStart =>
    exact ⟨_, _, [], hrg0, by simp, CollectedI.start D, hJ [] W w0 none h0 hg0 (fun r e => by cases e)⟩
  case round =>
    obtain ⟨left, cnt, xs, hrg, hcs, hC, hJs⟩ := hrel
    gi_wp2_with (first
      | (gi_at_next; refine wpListIn_next_ranges _ rfl _ rfl 3 K heldR (Value.int .i64) (fun c : Option Addr × Nat × Nat => Value.slice c.1 c.2.1 c.2.2) (fun key kl hk => by obtain ⟨x, hx, _⟩ := keyOf_int_inv Tryz.underlying3 hk; exact ⟨x, hx⟩) held_inv b W.heap.size m _ _ _ rfl hrg ?_ ?_)
      | gi_in)
    · intro hc0 hl0
      gi_wp2
      go_end0
      exact ⟨⟨_, rfl⟩, .inl ⟨xs, hC.perm hown2 K Tryz.underlying3 hl0, hJs⟩⟩
    · intro x c1 c2 c3 kl yd yp w2 cnt2 hkey hlk hv hat hrg2 hlt hg2 hs2 hen
      obtain ⟨x', ex, rfl, hwx⟩ := keyOf_int_inv Tryz.underlying3 hkey
      obtain rfl : x = x' := by simpa using ex
      have hhas : Maps.has D (.int .i64 x) = true := has_true_of_atKey hat
      have hvx : (Value.slice c1 c2 c3) = .slice (V x).A (V x).zs.length (V x).c := by
        have q := hV x hhas .nil
        rw [hat .nil] at q
        simp only [heldR, Option.some.injEq, Prod.mk.injEq] at hv
        rw [← hv.1] at q
        simpa [RD.v] using q
      have hJ2 : J xs w2 := hJ xs wr w2 (some W.heap.size) hJs hg2 (fun r e => by cases e; exact ⟨Nat.le_refl _, hrg.iter_walk⟩)
      obtain ⟨fn, tmps, assign, body, hy, hR⟩ := hY xs x w2 hJ2 (by omega)
      rw [← hvx] at hy
      clear hs2
      gi_wp2
      refine hR.mono ?_
      have hC2 : CollectedI D (fun z => left z && !z.sameKey (.int .i64 x)) (xs ++ [x]) := hC.step hlk hat
      rintro e W3 (⟨rfl, hJ3, hk3⟩ | ⟨rfl, hJx3⟩)
      · gi_wp2
        have hrg3 := hrg2.of_walks hk3
        go_roundw
        case rel => exact ⟨_, cnt2, xs ++ [x], hrg3, by simp; omega, hC2, hJ3⟩
        case measure => rw [hrg3.left_eq, hrg.left_eq]; exact hlt
      · gi_wp2
        refine bodyPost_ret (results_none rfl _ _ _) rfl ?_
        exact ⟨⟨_, rfl⟩, .inr ⟨_, trivial, hJx3⟩⟩
theorem walks_of_others {W W' : World} (h : KeepsOthers W W') : KeepsWalks W W' := ⟨h.size, fun k o hk hw => h.same k o hk (Obj.not_cells_of_walk hw)⟩
set_option maxRecDepth 100000 in
set_option maxHeartbeats 1000000 in
theorem append_seq (g : Nat) (lb : Array Value) (eg : ∀ args w, (callFunc g args).run Tryz.prog w = .ok (.enter g args) w) (V : Int → RD) (S : List Int → Prop) (N : Nat) (hN : N ≤ 100000) (w : World)
    (hseq : SeqStopsK Fence.wide 4 Tryz.prog g lb (fun x : Int => #[.slice (V x).A (V x).zs.length (V x).c]) KeepsWalks S (fun _ => True) N w) :
    CallsIn Fence.wide 5 Tryz.prog 122 #[.slice none 0 0, .func (.func g) #[] lb] w fun e w' => ∃ (v : Value) (xs : List Int), e = .returned v ∧ S xs ∧ w'.ownsRow w.heap.size 22 1 v xs.length (xs.map fun x => .slice (V x).A (V x).zs.length (V x).c) ∧ Below w.heap.size w w' := by
  obtain ⟨i0, hi, hz0, hz1, hz2⟩ := infos_parts
  have hHW : 63 ≠ 22 := by decide
  refine callsIn_of_wp_marks Tryz.func122 rfl trivial ?_ rfl
  simp only [Tryz.ntmps122, List.size_toArray, List.length_cons, List.length_nil, Nat.reduceAdd, Nat.reduceSub, Array.replicate_succ, Array.replicate_zero, List.push_toArray, List.append_toArray, List.nil_append, List.cons_append]
  gi_wp2
  have bS := Boxed.new w 63 (.slice none 0 0)
  have hB0 : Below w.heap.size w (w.alloc (.cells #[.slice none 0 0] 63)) := (Below.refl _ w).alloc (Nat.le_refl _) _
  refine wpIn_rangeFunc_ownF (n := 5) rfl (by decide) (gf := g) (lb := lb) rfl trivial eg
    hseq (fun h k => h.trans k) (fun W l o o' _ hl _ hw => KeepsWalks.putObj o' hl hw) hB0 (fun _ => rfl)
    (fun xs W => (∃ v, Boxed W w.heap.size 63 v ∧ W.ownsRow w.heap.size 22 1 v xs.length (xs.map fun x => .slice (V x).A (V x).zs.length (V x).c) ∧ True) ∧ Below w.heap.size w W)
    (fun _ _ _ => False)
    (OwnFrom.and (Own.from (holdsRow_own w.heap.size w.heap.size 63 22 1 (fun xs : List Int => xs.length) (fun xs => xs.map fun x => .slice (V x).A (V x).zs.length (V x).c) (fun _ _ => True)) _) (ownFrom_below (Nat.le_refl _) (by simp)))
    (fun _ _ _ _ _ hs _ _ => hs)
    ⟨⟨_, bS, ⟨rfl, .inl ⟨rfl, rfl⟩⟩, trivial⟩, hB0⟩
    (fun x => { tmps := #[.slice none 0 0, .func (.func g) #[] lb, .pointer (some ⟨w.heap.size, 0, none⟩), undef, .slice none 0 0, .slice (V x).A (V x).zs.length (V x).c, .func (.func g) #[] lb, .slice (V x).A (V x).zs.length (V x).c, undef, undef, undef, undef, undef], defers := [] }) ?assign ?body ?done ?stop
  case assign =>
    intro l x W K hK
    gi_wp2
    exact hK
  case body =>
    rintro l pre x W ⟨⟨v, hv, hrow, _⟩, hB⟩ hlt
    have hvc := hv.cell
    have hvf := hv.frozen
    have hBs := hB.size
    gi_wp2_with (first
      | (gi_at_builtin; refine wpListIn_append_own _ rfl _ _ 63 rfl w.heap.size 22 i0 (.slice none 0 0) 1 24 Tryz.underlying63 hi hz0 hz1 hz2 rfl (by decide) v pre.length _ rfl (hrow.alloc _) ⟨W.heap.size, 0, none⟩ 1 1 [.slice (V x).A (V x).zs.length (V x).c] rfl rfl (cell_one_new _ _ _) (by simp [Value.oneCell']) (by unfold maxLen; omega) (by omega) (by simp; omega) ?_; intro v' w3 hown' hg3 hnil3
         obtain ⟨a1, a2, a3, a4, a5⟩ := Boxed.appended hv hHW hrow hBs (Nat.le_refl _) hown' hg3
         have hvc3 := a1.cell
         have hvf3 := a1.frozen
         obtain ⟨g', cap', rfl⟩ := ownsRow_succ hown')
      | gi_in)
    exact ⟨a4, walks_of_others a4, ⟨_, a2, by simpa using a3, trivial⟩, hB.trans a5⟩
  case done =>
    rintro D ys W hD hS ⟨⟨v, hv, hrow, _⟩, hB⟩ hK
    have hvc := hv.cell
    have hvf := hv.frozen
    gi_wp2
    refine ⟨by simp, .inl ⟨_, _, rfl, run_takeDeferred hK, ?_⟩⟩
    exact ⟨_, results_tmp rfl _ _ _, v, ys, rfl, hS, ownsRow_putObj hrow _ hK rfl, hB.grown (grownBy_putObj' _ D _) hB.size (fun k e => by cases e; simp at hD; omega)⟩
  case stop =>
    rintro D c pre W _ _ h _
    exact h.elim
set_option maxHeartbeats 1000000 in
theorem collect_seq (g : Nat) (lb : Array Value) (eg : ∀ args w, (callFunc g args).run Tryz.prog w = .ok (.enter g args) w) (V : Int → RD) (S : List Int → Prop) (N : Nat) (hN : N ≤ 100000) (w : World)
    (hseq : SeqStopsK Fence.wide 4 Tryz.prog g lb (fun x : Int => #[.slice (V x).A (V x).zs.length (V x).c]) KeepsWalks S (fun _ => True) N w) :
    Calls Tryz.prog 105 #[.func (.func g) #[] lb] w fun e w' => ∃ (v : Value) (xs : List Int), e = .returned v ∧ S xs ∧ w'.ownsRow w.heap.size 22 1 v xs.length (xs.map fun x => .slice (V x).A (V x).zs.length (V x).c) ∧ Below w.heap.size w w' := by
  have C := callsIn_wide.1 (append_seq g lb eg V S N hN w hseq)
  go_enter Tryz.func105, Tryz.ntmps105
  go_wp2_with fail
  refine C.mono ?_
  rintro e w' ⟨v, xs, rfl, hS, hrow, hb⟩
  have HROW := Lib.hid hrow
  go_wp2
  go_ret
  exact ⟨v, xs, rfl, hS, HROW.out, hb⟩
theorem get_map {V : Int → RD} {xs : List Int} {i : Nat} (h : i < xs.length) : (xs.map V).getD i rd0 = V (xs.getD i 0) := by
  simp [List.getD_eq_getElem?_getD, List.getElem?_eq_getElem h]
theorem get_mem {xs : List Int} {i : Nat} (h : i < xs.length) : xs.getD i 0 ∈ xs := by
  rw [List.getD_eq_getElem?_getD, List.getElem?_eq_getElem h]
  exact List.getElem_mem _
theorem get_ne {xs : List Int} (hd : xs.Nodup) {i j : Nat} (hi : i < xs.length) (hj : j < xs.length) (h : i ≠ j) : xs.getD i 0 ≠ xs.getD j 0 := by
  rw [List.getD_eq_getElem?_getD, List.getElem?_eq_getElem hi, List.getD_eq_getElem?_getD, List.getElem?_eq_getElem hj]
  intro e
  exact h ((List.getElem_inj hd).1 e)
theorem own_shape2 {W : World} {B : Nat} {e : TypeId} {v : Value} {n : Nat} {xs : List Value} (h : W.ownsRow B e 1 v n xs) : ∃ A c, v = .slice A n c := by
  rcases h.2 with ⟨rfl, h0⟩ | ⟨g, cap, cur, hv, _⟩
  · exact ⟨none, 0, by rw [h0]⟩
  · exact ⟨_, _, hv⟩
/-- sorted, and no two the same -/
theorem sorted_cano {ss rs : List RD} (hp : ss.Perm rs) (hs : ∀ i j, i < j → j < ss.length → Srt.leL (ss.getD i rd0).zs (ss.getD j rd0).zs) (hd : (rs.map RD.zs).Nodup) : ss.map RD.zs = Srt.cano (rs.map RD.zs) := by
  have hd2 : (ss.map RD.zs).Nodup := (hp.map RD.zs).nodup_iff.2 hd
  refine Srt.cano_of ?_ fun x => (hp.map RD.zs).mem_iff
  unfold Srt.SortedL
  rw [List.pairwise_iff_getElem]
  intro i j hi hj hij
  rw [List.nodup_iff_pairwise_ne, List.pairwise_iff_getElem] at hd2
  have h1 := hd2 i j hi hj hij
  have h2 := hs i j hij (by simpa using hj)
  have g1 : ∀ k (hk : k < ss.length), (ss.getD k rd0).zs = (ss.map RD.zs)[k]'(by simpa using hk) := fun k hk => by simp [List.getD_eq_getElem?_getD, List.getElem?_eq_getElem hk]
  rw [g1 i (by simpa using hi), g1 j (by simpa using hj)] at h2
  exact Srt.less_of_le h2 h1
set_option maxHeartbeats 1000000 in
theorem sorted_seq (lo : Nat) (g : Nat) (lb : Array Value) (eg : ∀ args w, (callFunc g args).run Tryz.prog w = .ok (.enter g args) w) (V : Int → RD) (keys : List Int) (N : Nat) (hN : N ≤ 100000) (w : World) (hlo : lo ≤ w.heap.size)
    (hseq : SeqStopsK Fence.wide 4 Tryz.prog g lb (fun x : Int => #[.slice (V x).A (V x).zs.length (V x).c]) KeepsWalks (fun xs => xs.Perm keys) (fun _ => True) N w)
    (hkd : keys.Nodup) (hkl : keys.length ≤ 100000) (hrow : ∀ x ∈ keys, Row w lo w.heap.size (V x).A (V x).zs.length (V x).c (V x).zs)
    (hap : ∀ x ∈ keys, ∀ y ∈ keys, x ≠ y → ∀ b, (V x).b = some b → (V y).b ≠ some b) (hzd : ∀ x ∈ keys, ∀ y ∈ keys, x ≠ y → (V x).zs ≠ (V y).zs) (hzl : ∀ x ∈ keys, (V x).zs.length ≤ 1000) :
    Calls Tryz.prog 76 #[.func (.func g) #[] lb, .func (.func 78) #[] #[]] w (fun e w' => IsSS lo (Srt.cano (keys.map fun x => (V x).zs)) w e w' ∧ Below w.heap.size w w') := by
  have C := collect_seq g lb eg V _ N hN w hseq
  have hCS : ∀ (A : Option Addr) (c : Nat) (xs : List Int) (W : World), xs.Perm keys → W.ownsRow w.heap.size 22 1 (.slice A xs.length c) xs.length (xs.map fun x => .slice (V x).A (V x).zs.length (V x).c) → Below w.heap.size w W →
      Calls Tryz.prog 102 #[.slice A xs.length c, .func (.func 78) #[] #[]] W fun e w' => e = .returned (.tuple #[]) ∧ IsSS lo (Srt.cano (keys.map fun x => (V x).zs)) w (.returned (.slice A xs.length c)) w' ∧ Below w.heap.size w w' := by
    intro A c xs W hp hown hb
    have hsz := hb.size
    have hxd : xs.Nodup := hp.nodup_iff.2 hkd
    have hxm : ∀ i, i < xs.length → xs.getD i 0 ∈ keys := fun i hi => hp.mem_iff.1 (get_mem hi)
    have hss : SSRow W lo W.heap.size A xs.length c (xs.map V) := by
      refine ⟨?_, ?_, ?_, ?_, Nat.le_refl _⟩
      · rw [List.map_map]
        exact own_mono hown hlo
      · intro i hi
        rw [List.length_map] at hi
        rw [get_map hi]
        have hr := hrow _ (hxm i hi)
        exact ⟨own_low hr.1 hr.hi hb, fun a ha => Nat.lt_of_lt_of_le (hr.2.1 a ha) hsz, Nat.le_refl _⟩
      · intro i j hi hj hij b
        rw [List.length_map] at hi hj
        rw [get_map hi, get_map hj]
        exact hap _ (hxm i hi) _ (hxm j hj) (get_ne hxd hi hj hij) b
      · intro a ha
        subst ha
        exact (own_lo hown a.block rfl).2
    have hz : ∀ i, i < xs.length → ((xs.map V).getD i rd0).zs.length ≤ 1048576 := fun i hi => by
      rw [get_map hi]
      exact Nat.le_trans (hzl _ (hxm i hi)) (by decide)
    have hl : xs.length ≤ 100000 := by rw [hp.length_eq]; exact hkl
    refine (Srp.sort_rows lo W.heap.size A xs.length c (xs.map V) W hss (by omega) hz).mono ?_
    rintro e w' ⟨rfl, ss, hsp, hso, hs2, hg⟩
    refine ⟨rfl, ?_⟩
    have hsl : ss.length = xs.length := by rw [hsp.length_eq, List.length_map]
    have hnd : ((xs.map V).map RD.zs).Nodup := by
      rw [List.map_map, List.nodup_iff_pairwise_ne, List.pairwise_map]
      refine (List.nodup_iff_pairwise_ne.1 hxd).imp_of_mem ?_
      intro x y hx hy hne
      exact hzd x (hp.mem_iff.1 hx) y (hp.mem_iff.1 hy) hne
    have hc := sorted_cano hsp (fun i j hij hj => hso i j hij (by omega)) hnd
    have hce : Srt.cano ((xs.map V).map RD.zs) = Srt.cano (keys.map fun x => (V x).zs) := by
      refine Srt.cano_same fun x => ?_
      rw [List.map_map]
      exact (hp.map _).mem_iff
    rw [hce] at hc
    have hcl : xs.length = (Srt.cano (keys.map fun x => (V x).zs)).length := by rw [← hc, List.length_map, hsl]
    refine ⟨⟨A, c, ss, by rw [← hcl], hc, ?_, ?_⟩, hb.grown hg hsz (fun k hk => (own_lo hown k hk).1)⟩
    · rw [← hcl]
      exact hs2.higher hg.size (Nat.le_refl _)
    · refine (hb.mono hlo).grown hg (by omega) fun k hk => ?_
      have := (own_lo hown k hk).1
      omega
  go_enter Tryz.func76, Tryz.ntmps76
  have HC := Lib.hid hCS
  clear hCS hseq hrow hap hzd hzl hkd
  go_wp2_with fail
  refine C.mono ?_
  rintro e w1 ⟨v, xs, rfl, hS, hown, hb⟩
  obtain ⟨A, c, rfl⟩ := own_shape2 hown
  have CS := Lib.hid (HC.out A c xs w1 hS hown hb)
  generalize xs.length = n1 at *
  clear hown C HC
  go_wp2_with fail
  refine CS.out.mono ?_
  rintro e w2 ⟨rfl, h⟩
  have HI := Lib.hid h
  clear h CS
  go_wp2
  go_ret
  exact HI.out
end Go.Proofs.YtibephoepkofnaaGreat.Val

namespace Go.Proofs.YtibephoepkofnaaGreat.Mst
open Go.RowKit Go.Maps Fr _root_.Go.Proofs.YtibephoepkofnaaGreat.Own Ins Rws Rfn Val Pkn

def num (r : RD) : Int := numF r.zs
/-- the map's block b: the lists in it, none twice, each in a block of its own from lo on -/
structure MS (W : World) (lo b m : Nat) (rs : List RD) : Prop where
  own : ∃ D, W.ownsMap Tryz.prog 3 heldR b m D ∧ (∀ x : Int, Maps.has D (.int .i64 x) = decide (x ∈ rs.map num)) ∧ Maps.size D = rs.length ∧ ∀ r ∈ rs, ∀ zd, D.atKey (.int .i64 (num r)) zd = .held r.v
  nd : (rs.map num).Nodup
  card : ∀ r ∈ rs, Cards r.zs ∧ r.zs.length ≤ 12
  row : ∀ r ∈ rs, Row W lo W.heap.size r.A r.zs.length r.c r.zs
  apart : rs.Pairwise fun r s => ∀ k, r.b = some k → s.b ≠ some k
theorem own_cells {W : World} {B : Nat} {e : TypeId} {s n c m : Nat} {A : Option Addr} {xs : List Value} (h : W.ownsRow B e s (.slice A n c) m xs) : ∀ k, A.map (·.block) = some k → ∃ cs f, W.heap[k]? = some (.cells cs e f) := by
  intro k hk
  rcases h.2 with ⟨hv, _⟩ | ⟨g, cap, cur, hv, hg, hh, _⟩
  · simp only [Value.slice.injEq] at hv
    rw [hv.1] at hk
    cases hk
  · simp only [Value.slice.injEq] at hv
    rw [hv.1] at hk
    simp only [Option.map_some, Option.some.injEq] at hk
    subst hk
    exact ⟨_, _, hh⟩
theorem ms_start {W : World} {lo b : Nat} (h : W.ownsMap Tryz.prog 3 heldR b 0 (.map [])) : MS W lo b 0 [] :=
  ⟨⟨_, h, fun x => by simp [Maps.has], rfl, fun r hr => (by cases hr)⟩, List.nodup_nil, fun r hr => (by cases hr), fun r hr => (by cases hr), List.Pairwise.nil⟩
theorem map_grw {W W' : World} {B b m : Nat} {D : DataW Value} (h : W.ownsMap Tryz.prog 3 heldR b m D) (hg : Grw B W W') (hb : b < B) : W'.ownsMap Tryz.prog 3 heldR b m D := by
  have hl := h.lt
  obtain ⟨es, clock, h1, h2, h3, h4⟩ := h
  exact ⟨es, clock, (hg.block b hl (Or.inl hb)).trans h1, h2, h3, h4⟩
theorem row_grw {W W' : World} {B lo : Nat} {r : RD} (h : Row W lo W.heap.size r.A r.zs.length r.c r.zs) (hg : Grw B W W') : Row W' lo W'.heap.size r.A r.zs.length r.c r.zs :=
  ⟨hg.own h.1, fun a ha => Nat.lt_of_lt_of_le (h.2.1 a ha) hg.size, Nat.le_refl _⟩
theorem MS.grw {W W' : World} {B lo b m : Nat} {rs : List RD} (h : MS W lo b m rs) (hg : Grw B W W') (hb : b < B) : MS W' lo b m rs := by
  obtain ⟨D, h1, h2⟩ := h.own
  exact ⟨⟨D, map_grw h1 hg hb, h2⟩, h.nd, h.card, fun r hr => row_grw (h.row r hr) hg, h.apart⟩
theorem MS.lt {W : World} {lo b m : Nat} {rs : List RD} (h : MS W lo b m rs) : b < W.heap.size := by
  obtain ⟨D, h1, h2⟩ := h.own
  exact h1.lt
theorem drop_one {x : Int} : ∀ {l : List RD}, (l.map num).Nodup → x ∈ l.map num → (l.filter fun s => decide (num s ≠ x)).length + 1 = l.length
  | [], _, h => by cases h
  | s :: l, hd, h => by
    simp only [List.map_cons, List.nodup_cons] at hd
    by_cases e : num s = x
    · have hno : x ∉ l.map num := by rw [← e]; exact hd.1
      have hall : l.filter (fun s => decide (num s ≠ x)) = l := List.filter_eq_self.2 fun a ha => by
        simp only [decide_eq_true_eq]
        intro e2
        exact hno (List.mem_map.2 ⟨a, ha, e2⟩)
      rw [List.filter_cons, if_neg (by simp [e]), hall]
      rfl
    · have h2 : x ∈ l.map num := by
        rcases List.mem_cons.1 h with h | h
        · exact absurd h.symm e
        · exact h
      rw [List.filter_cons, if_pos (by simp [e]), List.length_cons, drop_one hd.2 h2, List.length_cons]
theorem keep_all {x : Int} {l : List RD} (h : x ∉ l.map num) : l.filter (fun s => decide (num s ≠ x)) = l := List.filter_eq_self.2 fun a ha => by
  simp only [decide_eq_true_eq]
  intro e2
  exact h (List.mem_map.2 ⟨a, ha, e2⟩)
theorem lit_ne {c d : Int} (h : c ≠ d) : (Lit.int .i64 c) ≠ .int .i64 d := fun e => h (by injection e)
/-- one more list -/
def putR (rs : List RD) (r : RD) : List RD := (rs.filter fun s => decide (num s ≠ num r)) ++ [r]
theorem put_mem {rs : List RD} {r : RD} (hc : ∀ s ∈ rs, Cards s.zs) (hr : Cards r.zs) (z : List Int) : z ∈ (putR rs r).map RD.zs ↔ z ∈ rs.map RD.zs ∨ z = r.zs := by
  unfold putR
  rw [List.map_append, List.mem_append]
  constructor
  · rintro (h | h)
    · obtain ⟨s, hs, rfl⟩ := List.mem_map.1 h
      exact Or.inl (List.mem_map.2 ⟨s, (List.mem_filter.1 hs).1, rfl⟩)
    · simp only [List.map_cons, List.map_nil, List.mem_singleton] at h
      exact Or.inr h
  · rintro (h | h)
    · obtain ⟨s, hs, rfl⟩ := List.mem_map.1 h
      by_cases e : num s = num r
      · right
        simp only [List.map_cons, List.map_nil, List.mem_singleton]
        exact num_eq (hc s hs) hr e
      · left
        exact List.mem_map.2 ⟨s, List.mem_filter.2 ⟨hs, by simpa using e⟩, rfl⟩
    · right
      simp [h]
theorem ms_put {W W' : World} {lo b m : Nat} {rs : List RD} {r : RD} {D : DataW Value} (h : MS W lo b m rs) (hD : W.ownsMap Tryz.prog 3 heldR b m D)
    (h2 : (∀ x : Int, Maps.has D (.int .i64 x) = decide (x ∈ rs.map num)) ∧ Maps.size D = rs.length ∧ ∀ r ∈ rs, ∀ zd, D.atKey (.int .i64 (num r)) zd = .held r.v)
    (hkey : keyOf Tryz.prog 3 (.int .i64 (num r)) = some (.int .i64 (num r))) (hown : W'.ownsMap Tryz.prog 3 heldR b (m + 1) (D.put (.int .i64 (num r)) (.held r.v))) (hg : W.grownBy W' (some b))
    (hr : Row W lo W.heap.size r.A r.zs.length r.c r.zs) (hnew : ∀ s ∈ rs, ∀ k, s.b = some k → r.b ≠ some k) (hc : Cards r.zs ∧ r.zs.length ≤ 12) : MS W' lo b (m + 1) (putR rs r) := by
  have ht : Tidy D := hD.tidy Pok.keyed
  have hk : WideAt.IsKeyLit (.int .i64 (num r)) := Pok.keyed.key hkey
  obtain ⟨es, clock, hmb, _⟩ := hD
  have hrow : ∀ s : RD, Row W lo W.heap.size s.A s.zs.length s.c s.zs → Row W' lo W'.heap.size s.A s.zs.length s.c s.zs := fun s hs =>
    ⟨own_gr hs.1 hg fun k hk e => (by
      obtain ⟨cs, f, hcs⟩ := own_cells hs.1 k hk
      cases e
      rw [hmb] at hcs
      cases hcs), fun a ha => Nat.lt_of_lt_of_le (hs.2.1 a ha) hg.size, Nat.le_refl _⟩
  have hin : ∀ s, s ∈ putR rs r ↔ (s ∈ rs ∧ num s ≠ num r) ∨ s = r := by
    intro s
    unfold putR
    rw [List.mem_append, List.mem_filter, List.mem_singleton, decide_eq_true_iff]
  refine ⟨⟨_, hown, ?_, ?_, ?_⟩, ?_, ?_, ?_, ?_⟩
  · intro x
    by_cases e : x = num r
    · subst e
      rw [has_put_same ht.isMap hk]
      symm
      exact decide_eq_true (List.mem_map.2 ⟨r, (hin r).2 (Or.inr rfl), rfl⟩)
    · rw [has_put_other (lit_ne e), h2.1 x]
      congr 1
      refine propext ⟨fun hx => ?_, fun hx => ?_⟩
      · obtain ⟨s, hs, rfl⟩ := List.mem_map.1 hx
        exact List.mem_map.2 ⟨s, (hin s).2 (Or.inl ⟨hs, e⟩), rfl⟩
      · obtain ⟨s, hs, rfl⟩ := List.mem_map.1 hx
        rcases (hin s).1 hs with q | q
        · exact List.mem_map.2 ⟨s, q.1, rfl⟩
        · subst q; exact absurd rfl e
  · rw [size_put ht, h2.1, h2.2.1]
    unfold putR
    rw [List.length_append, List.length_singleton]
    by_cases e : num r ∈ rs.map num
    · rw [if_pos (by simpa using e), drop_one h.nd e]
    · rw [if_neg (by simpa using e), keep_all e]
  · intro s hs zd
    rcases (hin s).1 hs with q | q
    · rw [atKey_put_other (lit_ne q.2)]
      exact h2.2.2 s q.1 zd
    · subst q
      exact atKey_put_same ht.isMap hk _ _
  · unfold putR
    rw [List.map_append, List.nodup_append]
    refine ⟨(List.filter_sublist.map num).nodup h.nd, by simp, ?_⟩
    intro a ha c hc2 e
    obtain ⟨s, hs, rfl⟩ := List.mem_map.1 ha
    simp only [List.map_cons, List.map_nil, List.mem_singleton] at hc2
    subst hc2
    have := (List.mem_filter.1 hs).2
    simp only [decide_eq_true_eq] at this
    exact this e
  · intro s hs
    rcases (hin s).1 hs with q | q
    · exact h.card s q.1
    · subst q; exact hc
  · intro s hs
    rcases (hin s).1 hs with q | q
    · exact hrow s (h.row s q.1)
    · subst q; exact hrow s hr
  · unfold putR
    rw [List.pairwise_append]
    refine ⟨h.apart.sublist List.filter_sublist, List.pairwise_singleton _ _, ?_⟩
    intro s hs t ht2 k hk2
    rw [List.mem_singleton] at ht2
    subst ht2
    exact hnew s (List.mem_filter.1 hs).1 k hk2
theorem put_len {rs : List RD} {r : RD} (hd : (rs.map num).Nodup) : rs.length ≤ (putR rs r).length ∧ (putR rs r).length ≤ rs.length + 1 := by
  unfold putR
  rw [List.length_append, List.length_singleton]
  by_cases e : num r ∈ rs.map num
  · have := drop_one hd e
    omega
  · rw [keep_all e]; omega
theorem find_num {rs : List RD} {r : RD} (hd : (rs.map num).Nodup) (hr : r ∈ rs) : (rs.find? fun s => decide (num s = num r)).getD rd0 = r := by
  induction rs with
  | nil => cases hr
  | cons s l ih =>
    simp only [List.map_cons, List.nodup_cons] at hd
    by_cases e : num s = num r
    · rw [List.find?_cons_of_pos (by simpa using e)]
      rcases List.mem_cons.1 hr with q | q
      · simp [q]
      · exact absurd (List.mem_map.2 ⟨r, q, e.symm⟩) hd.1
    · rw [List.find?_cons_of_neg (by simpa using e)]
      rcases List.mem_cons.1 hr with q | q
      · subst q; exact absurd rfl e
      · exact ih hd.2 q
theorem apart_of {rs : List RD} (h : rs.Pairwise fun r s => ∀ k, r.b = some k → s.b ≠ some k) : ∀ r ∈ rs, ∀ s ∈ rs, r ≠ s → ∀ k, r.b = some k → s.b ≠ some k := by
  induction h with
  | nil => intro r hr; cases hr
  | cons h1 h2 ih =>
    intro r hr s hs hne k hk e
    rcases List.mem_cons.1 hr with q | q
    · rcases List.mem_cons.1 hs with q2 | q2
      · exact hne (q.trans q2.symm)
      · subst q; exact h1 s q2 k hk e
    · rcases List.mem_cons.1 hs with q2 | q2
      · subst q2; exact h1 r q k e hk
      · exact ih r q s q2 hne k hk e
theorem ent_values : ∀ args w, (callFunc 106 args).run Tryz.prog w = .ok (.enter 106 args) w := enters_of Tryz.func106 (by kernel_rfl) rfl
theorem box_values (mb : Option Nat) (w : World) : Calls Tryz.prog 77 #[.map mb] w fun e w' => e = .returned (.func (.func 106) #[] #[.pointer (some ⟨w.heap.size, 0, none⟩)]) ∧ w' = w.alloc (.cells #[.map mb] 115) := by
  go_enter Tryz.func77, Tryz.ntmps77
  go_wp2
  go_ret
  exact ⟨rfl, rfl⟩
/-- the lists of the map, in order -/
theorem ms_sorted {W : World} {lo b m Bm : Nat} {rs : List RD} (h : MS W lo b m rs) (hl : rs.length ≤ 100000) (hlo : lo ≤ W.heap.size) (hBm : Bm < W.heap.size) (hm : W.cell? ⟨Bm, 0, none⟩ = some (.map (some b))) :
    Calls Tryz.prog 76 #[.func (.func 106) #[] #[.pointer (some ⟨Bm, 0, none⟩)], .func (.func 78) #[] #[]] W (fun e W' => IsSS lo (Srt.cano (rs.map RD.zs)) W e W' ∧ Below W.heap.size W W') := by
  obtain ⟨D, h1, h2, h3, h4⟩ := h.own
  have hperm : (rs.map num).Perm (intKeys D) := CollectedI.perm (left := fun _ => false) ⟨h.nd, fun x => by rw [h2 x]; simp⟩ h1 Pok.keyed Tryz.underlying3 (fun _ => rfl)
  have hV : ∀ x : Int, x ∈ rs.map num → ∃ r ∈ rs, num r = x ∧ (rs.find? fun s => decide (num s = x)).getD rd0 = r := by
    intro x hx
    obtain ⟨r, hr, rfl⟩ := List.mem_map.1 hx
    exact ⟨r, hr, rfl, find_num h.nd hr⟩
  have hseq := values_seq Bm b m D (fun x => (rs.find? fun s => decide (num s = x)).getD rd0) W hBm hm h1 (by
    intro x hx zd
    rw [h2 x, decide_eq_true_iff] at hx
    obtain ⟨r, hr, rfl, e⟩ := hV x hx
    rw [e]
    exact h4 r hr zd)
  have hmem : ∀ x, x ∈ intKeys D → x ∈ rs.map num := fun x hx => hperm.mem_iff.2 hx
  have hres := sorted_seq lo 106 _ ent_values (fun x => (rs.find? fun s => decide (num s = x)).getD rd0) (intKeys D) (Maps.size D) (by omega) W hlo hseq (hperm.nodup_iff.1 h.nd) (by rw [← hperm.length_eq, List.length_map]; exact hl)
    (by
      intro x hx
      obtain ⟨r, hr, rfl, e⟩ := hV x (hmem x hx)
      simp only [e]
      exact h.row r hr)
    (by
      intro x hx y hy hne
      obtain ⟨r, hr, rfl, e⟩ := hV x (hmem x hx)
      obtain ⟨s, hs, rfl, e2⟩ := hV y (hmem y hy)
      simp only [e, e2]
      exact apart_of h.apart r hr s hs (fun q => hne (by rw [q])))
    (by
      intro x hx y hy hne
      obtain ⟨r, hr, rfl, e⟩ := hV x (hmem x hx)
      obtain ⟨s, hs, rfl, e2⟩ := hV y (hmem y hy)
      simp only [e, e2]
      intro q
      exact hne (by unfold num; rw [q]))
    (by
      intro x hx
      obtain ⟨r, hr, rfl, e⟩ := hV x (hmem x hx)
      simp only [e]
      exact Nat.le_trans (h.card r hr).2 (by decide))
  have hce : Srt.cano ((intKeys D).map fun x => ((rs.find? fun s => decide (num s = x)).getD rd0).zs) = Srt.cano (rs.map RD.zs) := by
    refine Srt.cano_same fun z => ?_
    constructor
    · intro hz
      obtain ⟨x, hx, rfl⟩ := List.mem_map.1 hz
      obtain ⟨r, hr, rfl, e⟩ := hV x (hmem x hx)
      rw [e]
      exact List.mem_map.2 ⟨r, hr, rfl⟩
    · intro hz
      obtain ⟨r, hr, rfl⟩ := List.mem_map.1 hz
      refine List.mem_map.2 ⟨num r, hperm.mem_iff.1 (List.mem_map.2 ⟨r, hr, rfl⟩), ?_⟩
      rw [find_num h.nd hr]
  rw [hce] at hres
  exact hres
end Go.Proofs.YtibephoepkofnaaGreat.Mst
