/- The program's choices as functions that are ranged over: itself, cuts, riffles, picks. -/
import Derived.Test.YtibephoepkofnaaGreatRfn
import Derived.Test.YtibephoepkofnaaGreatLb
import Derived.Test.YtibephoepkofnaaGreatPf
import Derived.Test.YtibephoepkofnaaGreatWv
import Derived.Test.YtibephoepkofnaaGreatCat3
import Derived.Shelf.Abstract
import Derived.Shelf.RegionOpen
import Derived.WalkKit
import Derived.OwnWalkIn
import Derived.TacticsInMore
import Derived.LoopNIn
import Derived.LoopIn
import Derived.Sort.LoopGhostIn
import Derived.Sort.CutIn
import Derived.Sort.QuietIn
set_option linter.unusedVariables false
set_option maxRecDepth 20000
namespace Go.Proofs.YtibephoepkofnaaGreat.Itr
open Go.RowKit Go.Shelf Fr _root_.Go.Proofs.YtibephoepkofnaaGreat.Own Pk Ins Pfn Rws Lb Mvp Pf Wv Rfn Cat3

attribute [local go_sem] Oper.semAt_some

/-- the captured list -/
def KPb (bp : Nat) (A : Option Addr) (n c : Nat) (zs : List Int) (W : World) : Prop := W.cell? ⟨bp, 0, none⟩ = some (.slice A n c) ∧ IntsAt W W.heap.size .i64 A zs
set_option maxHeartbeats 1000000 in
theorem itself_iter (bp : Nat) (A : Option Addr) (n c : Nat) (zs : List Int) (hn : zs.length = n) (hn2 : n ≤ 12) :
    Iter 127 #[.pointer (some ⟨bp, 0, none⟩)] (KPb bp A n c zs) [zs] := by
  subst hn
  intro l J Jx hKP hst hY W h0
  obtain ⟨hc, hat⟩ := hKP 0 W h0
  refine callsIn_of_wp Tryz.func127 rfl trivial ?_ rfl
  simp only [Tryz.ntmps127, List.size_toArray, List.length_cons, List.length_nil, Nat.reduceAdd, Nat.reduceSub, Array.replicate_succ, Array.replicate_zero, List.push_toArray, List.append_toArray, List.nil_append, List.cons_append]
  gi_wp2_with fail
  refine ⟨trivial, ?_⟩
  refine (callsIn_wide.2 (clone_any A _ c zs W rfl (by omega) hat)).mono ?_
  rintro e w2 ⟨A4, c4, rfl, hown, hb⟩
  obtain ⟨fn, tmps, assign, body, hy, hR⟩ := hY 0 W w2 A4 c4 (by simp) h0 (grown_none hb) hown
  simp only [List.getD_cons_zero] at hy
  gi_wp2
  refine hR.mono ?_
  rintro e W3 (⟨rfl, h3⟩ | ⟨rfl, h3⟩)
  · gi_wp2
    go_end0
    exact ⟨⟨_, rfl⟩, .inl h3⟩
  · gi_wp2
    go_end0
    exact ⟨⟨_, rfl⟩, .inr h3⟩
def cutsF (zs : List Int) : List (List Int) := (List.range zs.length).map fun k => moveF 1 k zs
theorem row_get {f : Nat → List Int} {n k : Nat} (h : k < n) : ((List.range n).map f).getD k [] = f k := by
  simp [List.getD_eq_getElem?_getD, h]
set_option maxHeartbeats 2000000 in
theorem cuts_iter (bp : Nat) (A : Option Addr) (n c : Nat) (zs : List Int) (hn : zs.length = n) (hnc : n ≤ c) (hok : Pok.okB zs = true) (hz : Fits zs) :
    Iter 128 #[.pointer (some ⟨bp, 0, none⟩)] (KPb bp A n c zs) (cutsF zs) := by
  subst hn
  intro l J Jx hKP hst hY W h0
  have HKP := Lib.hid hKP
  have hn2 : zs.length ≤ 12 := by
    by_cases h : zs.length ≤ 12
    · exact h
    · rw [Pok.okB_long zs (by omega)] at hok; cases hok
  have HP := Lib.hid (fun (k : Nat) (hk : k < zs.length) (W : World) (hat : IntsAt W W.heap.size .i64 A zs) => (show Calls Tryz.prog 34 #[.slice A zs.length c, .agg #[.int .i64 1, .int .i64 (k : Int)]] W (IsILB W.heap.size (moveF 1 k zs) true W) from by
    have hb : perfB zs 1 k = true := by
      unfold perfB
      rw [hok]
      unfold mvB
      rw [decide_eq_true (show (1 : Int) ≤ zs.length ∧ (zs.length : Int) ≤ 12 by omega), decide_eq_true (show (0 : Int) ≤ k ∧ (0 : Int) ≤ 1 by omega)]
      have hk1 : kOk (1 : Int).toNat (k : Int).toNat (zs.length : Int).toNat = true := by
        show kOk 1 k zs.length = true
        unfold kOk
        rw [if_pos (Or.inl rfl), decide_eq_true (by omega)]
      rw [hk1]
      rfl
    have h := impl_perform A zs.length c 1 k zs W rfl hnc (by omega) hz hat
    rw [perfF_yes hb, hb] at h
    exact h))
  have HR := Lib.hid (show ∀ k, k < zs.length → (cutsF zs).getD k [] = moveF 1 k zs from fun k hk => row_get hk)
  have HL := Lib.hid (show (cutsF zs).length = zs.length by simp [cutsF])
  obtain ⟨hc0, hat0⟩ := hKP 0 W h0
  refine callsIn_of_wp Tryz.func128 rfl trivial ?_ rfl
  simp only [Tryz.ntmps128, List.size_toArray, List.length_cons, List.length_nil, Nat.reduceAdd, Nat.reduceSub, Array.replicate_succ, Array.replicate_zero, List.push_toArray, List.append_toArray, List.nil_append, List.cons_append]
  gi_wp2
  gi_loopw [3, 4, 5, 8] (fun _ _ _ i wr => ∃ k : Nat, k ≤ zs.length ∧ i = .int .i64 (k : Int) ∧ J k wr) (fun _ _ _ i _ => zs.length - (intOf i).toNat)
  case atStart => exact ⟨0, Nat.zero_le _, rfl, h0⟩
  case round =>
    obtain ⟨k, hk, rfl, hj⟩ := hrel
    obtain ⟨hc, hat⟩ := HKP.out k wr hj
    by_cases hlt : k < zs.length
    · gi_wp2_with fail
      refine ⟨trivial, ?_⟩
      refine (callsIn_wide.2 (HP.out k hlt wr hat)).mono ?_
      rintro e w2 ⟨A4, c4, rfl, hown, hb⟩
      obtain ⟨fn, tmps, assign, body, hy, hR⟩ := hY k wr w2 A4 c4 (by rw [HL.out]; exact hlt) hj (grown_none hb) (by rw [HR.out k hlt]; exact hown)
      rw [HR.out k hlt] at hy
      generalize (moveF 1 k zs).length = m4 at *
      gi_wp2
      refine hR.mono ?_
      rintro e W3 (⟨rfl, h3⟩ | ⟨rfl, h3⟩)
      · obtain ⟨hc3, hat3⟩ := HKP.out (k + 1) W3 h3
        gi_wp2
        go_roundw
        case rel => exact ⟨k + 1, by omega, by go_num, h3⟩
        case measure => simp [intOf]; omega
      · gi_wp2
        refine bodyPost_ret (results_none rfl _ _ _) rfl ?_
        exact ⟨⟨_, rfl⟩, .inr h3⟩
    · have hkn : k = zs.length := by omega
      subst hkn
      have HJ := Lib.hid hj
      gi_wp2
      go_end0
      exact ⟨⟨_, rfl⟩, .inl (by rw [HL.out]; exact HJ.out)⟩
set_option maxHeartbeats 2000000 in
theorem riffles_iter (bp : Nat) (A : Option Addr) (n c : Nat) (zs : List Int) (hn : zs.length = n) (hpos : 1 ≤ n) (hn2 : n ≤ 12)
    (HRF : ∀ (w : Nat), w < 2 ^ n → ∀ W : World, IntsAt W W.heap.size .i64 A zs → Calls Tryz.prog 130 #[.slice A n c, .int .u64 (w : Int)] W (IsIL W.heap.size (rifOf zs (bitsN w n)) W)) :
    Iter 129 #[.pointer (some ⟨bp, 0, none⟩)] (KPb bp A n c zs) (rifI zs) := by
  subst hn
  intro l J Jx hKP hst hY W h0
  have HKP := Lib.hid hKP
  have HC := Lib.hid HRF
  have HR := Lib.hid (show ∀ k, k < 2 ^ zs.length → (rifI zs).getD k [] = rifOf zs (bitsN k zs.length) from fun k hk => row_get hk)
  have HL := Lib.hid (show (rifI zs).length = 2 ^ zs.length by simp [rifI])
  have hp1 : 2 ^ zs.length ≤ 4096 := Nat.pow_le_pow_right (by decide) hn2
  clear HRF
  obtain ⟨hc0, hat0⟩ := hKP 0 W h0
  refine callsIn_of_wp Tryz.func129 rfl trivial ?_ rfl
  simp only [Tryz.ntmps129, List.size_toArray, List.length_cons, List.length_nil, Nat.reduceAdd, Nat.reduceSub, Array.replicate_succ, Array.replicate_zero, List.push_toArray, List.append_toArray, List.nil_append, List.cons_append]
  gi_wp2
  obtain ⟨N, hN⟩ : ∃ N, N = 2 ^ zs.length := ⟨_, rfl⟩
  have hwr : IntKind.u64.wrap ((2 : Int) ^ zs.length) = (N : Int) := by
    have e : ((2 : Int) ^ zs.length) = ((2 ^ zs.length : Nat) : Int) := by simp
    rw [e, ← hN, IntKind.wrap_u64]
    omega
  rw [hwr]
  rw [← hN] at HC HR HL hp1
  clear hwr
  have HN := Lib.hid hN
  clear hN
  gi_loopw [3, 7] (fun _ i wr => ∃ k : Nat, k ≤ N ∧ i = .int .u64 (k : Int) ∧ J k wr) (fun _ i _ => N - (intOf i).toNat)
  case atStart => exact ⟨0, Nat.zero_le _, rfl, h0⟩
  case round =>
    obtain ⟨k, hk, rfl, hj⟩ := hrel
    obtain ⟨hc, hat⟩ := HKP.out k wr hj
    by_cases hlt : k < N
    · gi_wp2_with fail
      refine ⟨trivial, ?_⟩
      refine (callsIn_wide.2 (HC.out k hlt wr hat)).mono ?_
      rintro e w2 ⟨A4, c4, rfl, hown, hb⟩
      obtain ⟨fn, tmps, assign, body, hy, hR⟩ := hY k wr w2 A4 c4 (by rw [HL.out]; exact hlt) hj (grown_none hb) (by rw [HR.out k hlt]; exact hown)
      rw [HR.out k hlt] at hy
      generalize (rifOf zs (bitsN k zs.length)).length = m4 at *
      gi_wp2
      refine hR.mono ?_
      rintro e W3 (⟨rfl, h3⟩ | ⟨rfl, h3⟩)
      · obtain ⟨hc3, hat3⟩ := HKP.out (k + 1) W3 h3
        have hk64 : IntKind.u64.wrap ((k : Int) + 1) = (k : Int) + 1 := by rw [IntKind.wrap_u64]; omega
        gi_wp2
        go_roundw
        case rel => exact ⟨k + 1, by omega, by go_num, h3⟩
        case measure => simp [intOf]; omega
      · gi_wp2
        refine bodyPost_ret (results_none rfl _ _ _) rfl ?_
        exact ⟨⟨_, rfl⟩, .inr h3⟩
    · have hkn : k = N := by omega
      subst hkn
      have HJ := Lib.hid hj
      gi_wp2
      go_end0
      exact ⟨⟨_, rfl⟩, .inl (by rw [HL.out]; exact HJ.out)⟩
def pickOf (zs : List Int) (i : Nat) : List Int := zs.getD i 0 :: (zs.take i ++ zs.drop (i + 1))
def picksF (zs : List Int) : List (List Int) := (List.range zs.length).map fun i => pickOf zs i
set_option maxHeartbeats 2000000 in
theorem picks_iter (bp : Nat) (A : Option Addr) (n c : Nat) (zs : List Int) (hn : zs.length = n) (hnc : n ≤ c) (hpos : 1 ≤ n) (hn2 : n ≤ 12) :
    Iter 131 #[.pointer (some ⟨bp, 0, none⟩)] (KPb bp A n c zs) (picksF zs) := by
  subst hn
  intro l J Jx hKP hst hY W h0
  have HKP := Lib.hid hKP
  have HR := Lib.hid (show ∀ k, k < zs.length → (picksF zs).getD k [] = pickOf zs k from fun k hk => row_get hk)
  have HL := Lib.hid (show (picksF zs).length = zs.length by simp [picksF])
  obtain ⟨hc0, hat0⟩ := hKP 0 W h0
  refine callsIn_of_wp Tryz.func131 rfl trivial ?_ rfl
  simp only [Tryz.ntmps131, List.size_toArray, List.length_cons, List.length_nil, Nat.reduceAdd, Nat.reduceSub, Array.replicate_succ, Array.replicate_zero, List.push_toArray, List.append_toArray, List.nil_append, List.cons_append]
  gi_wp2
  gi_loopw [3, 6] (fun _ i wr => ∃ k : Nat, k ≤ zs.length ∧ i = .int .i64 (k : Int) ∧ J k wr) (fun _ i _ => zs.length - (intOf i).toNat)
  case atStart => exact ⟨0, Nat.zero_le _, rfl, h0⟩
  case round =>
    obtain ⟨k, hk, rfl, hj⟩ := hrel
    obtain ⟨hc, hat⟩ := HKP.out k wr hj
    by_cases hlt : k < zs.length
    · have hkc : (k : Int) ≤ (c : Int) := by omega
      have hk1 : (k : Int) + 1 ≤ (c : Int) := by omega
      have hk2 : (k : Int) ≤ (k : Int) + 1 := by omega
      have hk3 : (k : Int) + 1 ≤ (zs.length : Int) := by omega
      have hk0 : (0 : Int) ≤ (k : Int) := by omega
      have hk4 : (0 : Int) ≤ (k : Int) + 1 := by omega
      have hw1 : IntKind.i64.wrap ((k : Int) + 1) = (k : Int) + 1 := IntWalk.i64_in _ (by omega)
      have hT : ((k : Int) + 1).toNat = k + 1 := by omega
      have hcd : wr.drew.cell? ⟨bp, 0, none⟩ = some (.slice A zs.length c) := hc
      obtain ⟨b, o, rfl⟩ : ∃ b o, A = some ⟨b, o, none⟩ := by
        obtain ⟨b, o, e, _⟩ := hat 0 (by omega)
        exact ⟨b, o, e⟩
      have hck0 : ¬ c = k := by omega
      have HCAT := Lib.hid (concat3 wr (some ⟨b, o + k, none⟩) (some ⟨b, o, none⟩) (if c = k + 1 then some ⟨b, o, none⟩ else some ⟨b, o + (k + 1), none⟩) 1 k (zs.length - (k + 1)) (c - k) c (c - (k + 1)) [zs.getD k 0] (zs.take k) (zs.drop (k + 1))
        rfl (by rw [List.length_take]; omega) (by rw [List.length_drop]) (by decide) (by omega) (by omega) (fun h => by cases h) (fun h => by cases h) (fun h => by split at h <;> cases h) Mv1.spot_some Mv1.spot_some (fun a h => by split at h <;> (cases h; rfl))
        (by
          have h := Mv1.ints_take2 1 (Mv1.ints_drop (k := k) hat)
          have e : (zs.drop k).take 1 = [zs.getD k 0] := by rw [List.drop_eq_getElem_cons hlt, List.take_succ_cons, List.take_zero]; simp [List.getD_eq_getElem?_getD, List.getElem?_eq_getElem hlt]
          rw [e] at h
          exact h)
        (Mv1.ints_take2 k hat)
        (by
          by_cases hc1 : c = k + 1
          · have hz : zs.drop (k + 1) = [] := List.drop_eq_nil_of_le (by omega)
            rw [hz]
            exact IntsAt.none_ _ _ _ _
          · rw [if_neg hc1]
            exact Mv1.ints_drop (k := k + 1) hat))
      have HPK := Lib.hid (show [zs.getD k 0] ++ zs.take k ++ zs.drop (k + 1) = pickOf zs k by simp [pickOf])
      rw [HPK.out] at HCAT
      gi_upto_region 3 with fail
      refine wpIn_region_any (by kernel_rfl) ?_
      change wpAnyIn _ _ _ _ _ _ _ _ _ (World.drew _)
      refine wpAnyIn_take (i := 0) (v := ?_) rfl rfl (by kernel_rfl) (by kernel_rfl) (by kernel_rfl) (fun _ _ _ h => h) ⟨Or.inl ⟨by rfl, ?_⟩, fun _ => rfl⟩ ?_
      rotate_left
      · (intro w; go_simp; (try with_reducible rfl))
      refine wpAnyIn_take (i := 2) (v := ?_) rfl rfl (by kernel_rfl) (by kernel_rfl) (by kernel_rfl) (fun _ _ _ h => h) ⟨Or.inl ⟨by rfl, ?_⟩, fun _ => rfl⟩ ?_
      rotate_left
      · (intro w; go_simp; (try with_reducible rfl))
      refine wpAnyIn_take (i := 3) (v := ?_) rfl rfl (by kernel_rfl) (by kernel_rfl) (by kernel_rfl) (fun _ _ _ h => h) ⟨Or.inl ⟨by rfl, ?_⟩, fun _ => rfl⟩ ?_
      rotate_left
      · (intro w; go_simp; (try with_reducible rfl))
      refine wpAnyIn_take (i := 4) (v := ?_) rfl rfl (by kernel_rfl) (by kernel_rfl) (by kernel_rfl) (fun _ _ _ h => h) ⟨Or.inl ⟨by rfl, ?_⟩, fun _ => rfl⟩ ?_
      rotate_left
      · (intro w; go_simp; (try with_reducible rfl))
      refine wpAnyIn_take (i := 7) (v := ?_) rfl rfl (by kernel_rfl) (by kernel_rfl) (by kernel_rfl) (fun _ _ _ h => h) ⟨Or.inl ⟨by rfl, ?_⟩, fun _ => rfl⟩ ?_
      rotate_left
      · (intro w; go_simp; (try with_reducible rfl))
      refine wpAnyIn_take (i := 10) (v := ?_) rfl rfl (by kernel_rfl) (by kernel_rfl) (by kernel_rfl) (fun _ _ _ h => h) ⟨Or.inl ⟨by rfl, ?_⟩, fun _ => rfl⟩ ?_
      rotate_left
      · (intro w; go_simp; (try with_reducible rfl))
      refine wpAnyIn_take (i := 11) (v := ?_) rfl rfl (by kernel_rfl) (by kernel_rfl) (by kernel_rfl) (fun _ _ _ h => h) ⟨Or.inl ⟨by rfl, ?_⟩, fun _ => rfl⟩ ?_
      rotate_left
      · (intro w; go_simp; (try with_reducible rfl))
      refine wpAnyIn_ready (rs := [1, 6, 9]) (by kernel_rfl) (by simp) ?_
      refine (AllReadyIn.cons rfl (fun K hK => ?_) (AllReadyIn.cons rfl (fun K hK => ?_) (AllReadyIn.cons rfl (fun K hK => ?_) AllReadyIn.nil)))
      · go_simp
        refine hK _ _ ?_
        clear hK K
        refine wpAnyIn_take (i := 5) (v := ?_) rfl rfl (by kernel_rfl) (by kernel_rfl) (by kernel_rfl) (fun _ _ _ h => h) ⟨Or.inl ⟨by rfl, ?_⟩, fun _ => rfl⟩ ?_
        rotate_left
        · (intro w; go_simp; (try with_reducible rfl))
        refine wpAnyIn_ready (rs := [6, 9]) (by kernel_rfl) (by simp) ?_
        refine (AllReadyIn.cons rfl (fun K hK => ?_) (AllReadyIn.cons rfl (fun K hK => ?_) AllReadyIn.nil))
        · go_simp
          refine hK _ _ ?_
          clear hK K
          refine wpAnyIn_take (i := 8) (v := ?_) rfl rfl (by kernel_rfl) (by kernel_rfl) (by kernel_rfl) (fun _ _ _ h => h) ⟨Or.inl ⟨by rfl, ?_⟩, fun _ => rfl⟩ ?_
          rotate_left
          · (intro w; go_simp; (try with_reducible rfl))
          refine wpAnyIn_ready (rs := [9]) (by kernel_rfl) (by simp) ?_
          refine (AllReadyIn.cons rfl (fun K hK => ?_) AllReadyIn.nil)
          · go_simp
            refine hK _ _ ?_
            clear hK K
            refine wpAnyIn_take (i := 12) (v := ?_) rfl rfl (by kernel_rfl) (by kernel_rfl) (by kernel_rfl) (fun _ _ _ h => h) ⟨Or.inl ⟨by rfl, ?_⟩, fun _ => rfl⟩ ?_
            rotate_left
            · (intro w; go_simp; (try with_reducible rfl))
            refine wpAnyIn_ready (rs := [13]) (by kernel_rfl) (by simp) ?_
            refine (AllReadyIn.cons rfl (fun K hK => ?_) AllReadyIn.nil)
            go_simp
            refine hK _ _ ?_
            clear hK K
            refine wpAnyIn_ready (rs := [14]) (by kernel_rfl) (by simp) ?_
            refine (AllReadyIn.cons rfl (fun K hK => ?_) AllReadyIn.nil)
            go_simp
            refine ⟨trivial, ?_⟩
            refine (callsIn_wide.2 HCAT.out).mono ?_
            rintro e w4 ⟨A4, c4, rfl, hown, hb⟩
            refine hK _ _ ?_
            clear hK K
            obtain ⟨fn, tmps, assign, body, hy, hR⟩ := hY k wr w4 A4 c4 (by rw [HL.out]; exact hlt) hj (grown_none hb) (by rw [HR.out k hlt]; exact hown)
            rw [HR.out k hlt] at hy
            generalize (pickOf zs k).length = m4 at *
            refine wpAnyIn_ready (rs := [15]) (by kernel_rfl) (by simp) ?_
            refine (AllReadyIn.cons rfl (fun K hK => ?_) AllReadyIn.nil)
            go_simp
            refine hR.mono ?_
            rintro e W3 (⟨rfl, h3⟩ | ⟨rfl, h3⟩)
            · refine hK _ _ ?_
              clear hK K
              refine wpAnyIn_ready (rs := [16]) (by kernel_rfl) (by simp) ?_
              refine (AllReadyIn.cons rfl (fun K hK => ?_) AllReadyIn.nil)
              go_simp
              refine hK _ _ ?_
              clear hK K
              refine wpAnyIn_done (by kernel_rfl) ?_ _
              gi_wp2
              go_roundw
              case rel => exact ⟨k + 1, by omega, by go_num, h3⟩
              case measure => simp [intOf]; omega
            · refine hK _ _ ?_
              clear hK K
              refine wpAnyIn_ready (rs := [16]) (by kernel_rfl) (by simp) ?_
              refine (AllReadyIn.cons rfl (fun K hK => ?_) AllReadyIn.nil)
              go_simp
              refine hK _ _ ?_
              clear hK K
              refine wpAnyIn_done (by kernel_rfl) ?_ _
              gi_wp2
              all_goals (refine bodyPost_ret (results_none rfl _ _ _) rfl ?_; exact ⟨⟨_, rfl⟩, .inr h3⟩)
        · go_simp
          refine hK _ _ ?_
          clear hK K
          refine wpAnyIn_take (i := 12) (v := ?_) rfl rfl (by kernel_rfl) (by kernel_rfl) (by kernel_rfl) (fun _ _ _ h => h) ⟨Or.inl ⟨by rfl, ?_⟩, fun _ => rfl⟩ ?_
          rotate_left
          · (intro w; go_simp; (try with_reducible rfl))
          refine wpAnyIn_ready (rs := [6]) (by kernel_rfl) (by simp) ?_
          refine (AllReadyIn.cons rfl (fun K hK => ?_) AllReadyIn.nil)
          · go_simp
            refine hK _ _ ?_
            clear hK K
            refine wpAnyIn_take (i := 8) (v := ?_) rfl rfl (by kernel_rfl) (by kernel_rfl) (by kernel_rfl) (fun _ _ _ h => h) ⟨Or.inl ⟨by rfl, ?_⟩, fun _ => rfl⟩ ?_
            rotate_left
            · (intro w; go_simp; (try with_reducible rfl))
            refine wpAnyIn_ready (rs := [13]) (by kernel_rfl) (by simp) ?_
            refine (AllReadyIn.cons rfl (fun K hK => ?_) AllReadyIn.nil)
            go_simp
            refine hK _ _ ?_
            clear hK K
            refine wpAnyIn_ready (rs := [14]) (by kernel_rfl) (by simp) ?_
            refine (AllReadyIn.cons rfl (fun K hK => ?_) AllReadyIn.nil)
            go_simp
            refine ⟨trivial, ?_⟩
            refine (callsIn_wide.2 HCAT.out).mono ?_
            rintro e w4 ⟨A4, c4, rfl, hown, hb⟩
            refine hK _ _ ?_
            clear hK K
            obtain ⟨fn, tmps, assign, body, hy, hR⟩ := hY k wr w4 A4 c4 (by rw [HL.out]; exact hlt) hj (grown_none hb) (by rw [HR.out k hlt]; exact hown)
            rw [HR.out k hlt] at hy
            generalize (pickOf zs k).length = m4 at *
            refine wpAnyIn_ready (rs := [15]) (by kernel_rfl) (by simp) ?_
            refine (AllReadyIn.cons rfl (fun K hK => ?_) AllReadyIn.nil)
            go_simp
            refine hR.mono ?_
            rintro e W3 (⟨rfl, h3⟩ | ⟨rfl, h3⟩)
            · refine hK _ _ ?_
              clear hK K
              refine wpAnyIn_ready (rs := [16]) (by kernel_rfl) (by simp) ?_
              refine (AllReadyIn.cons rfl (fun K hK => ?_) AllReadyIn.nil)
              go_simp
              refine hK _ _ ?_
              clear hK K
              refine wpAnyIn_done (by kernel_rfl) ?_ _
              gi_wp2
              go_roundw
              case rel => exact ⟨k + 1, by omega, by go_num, h3⟩
              case measure => simp [intOf]; omega
            · refine hK _ _ ?_
              clear hK K
              refine wpAnyIn_ready (rs := [16]) (by kernel_rfl) (by simp) ?_
              refine (AllReadyIn.cons rfl (fun K hK => ?_) AllReadyIn.nil)
              go_simp
              refine hK _ _ ?_
              clear hK K
              refine wpAnyIn_done (by kernel_rfl) ?_ _
              gi_wp2
              all_goals (refine bodyPost_ret (results_none rfl _ _ _) rfl ?_; exact ⟨⟨_, rfl⟩, .inr h3⟩)
      · go_simp
        refine hK _ _ ?_
        clear hK K
        refine wpAnyIn_take (i := 8) (v := ?_) rfl rfl (by kernel_rfl) (by kernel_rfl) (by kernel_rfl) (fun _ _ _ h => h) ⟨Or.inl ⟨by rfl, ?_⟩, fun _ => rfl⟩ ?_
        rotate_left
        · (intro w; go_simp; (try with_reducible rfl))
        refine wpAnyIn_ready (rs := [1, 9]) (by kernel_rfl) (by simp) ?_
        refine (AllReadyIn.cons rfl (fun K hK => ?_) (AllReadyIn.cons rfl (fun K hK => ?_) AllReadyIn.nil))
        · go_simp
          refine hK _ _ ?_
          clear hK K
          refine wpAnyIn_take (i := 5) (v := ?_) rfl rfl (by kernel_rfl) (by kernel_rfl) (by kernel_rfl) (fun _ _ _ h => h) ⟨Or.inl ⟨by rfl, ?_⟩, fun _ => rfl⟩ ?_
          rotate_left
          · (intro w; go_simp; (try with_reducible rfl))
          refine wpAnyIn_ready (rs := [9]) (by kernel_rfl) (by simp) ?_
          refine (AllReadyIn.cons rfl (fun K hK => ?_) AllReadyIn.nil)
          · go_simp
            refine hK _ _ ?_
            clear hK K
            refine wpAnyIn_take (i := 12) (v := ?_) rfl rfl (by kernel_rfl) (by kernel_rfl) (by kernel_rfl) (fun _ _ _ h => h) ⟨Or.inl ⟨by rfl, ?_⟩, fun _ => rfl⟩ ?_
            rotate_left
            · (intro w; go_simp; (try with_reducible rfl))
            refine wpAnyIn_ready (rs := [13]) (by kernel_rfl) (by simp) ?_
            refine (AllReadyIn.cons rfl (fun K hK => ?_) AllReadyIn.nil)
            go_simp
            refine hK _ _ ?_
            clear hK K
            refine wpAnyIn_ready (rs := [14]) (by kernel_rfl) (by simp) ?_
            refine (AllReadyIn.cons rfl (fun K hK => ?_) AllReadyIn.nil)
            go_simp
            refine ⟨trivial, ?_⟩
            refine (callsIn_wide.2 HCAT.out).mono ?_
            rintro e w4 ⟨A4, c4, rfl, hown, hb⟩
            refine hK _ _ ?_
            clear hK K
            obtain ⟨fn, tmps, assign, body, hy, hR⟩ := hY k wr w4 A4 c4 (by rw [HL.out]; exact hlt) hj (grown_none hb) (by rw [HR.out k hlt]; exact hown)
            rw [HR.out k hlt] at hy
            generalize (pickOf zs k).length = m4 at *
            refine wpAnyIn_ready (rs := [15]) (by kernel_rfl) (by simp) ?_
            refine (AllReadyIn.cons rfl (fun K hK => ?_) AllReadyIn.nil)
            go_simp
            refine hR.mono ?_
            rintro e W3 (⟨rfl, h3⟩ | ⟨rfl, h3⟩)
            · refine hK _ _ ?_
              clear hK K
              refine wpAnyIn_ready (rs := [16]) (by kernel_rfl) (by simp) ?_
              refine (AllReadyIn.cons rfl (fun K hK => ?_) AllReadyIn.nil)
              go_simp
              refine hK _ _ ?_
              clear hK K
              refine wpAnyIn_done (by kernel_rfl) ?_ _
              gi_wp2
              go_roundw
              case rel => exact ⟨k + 1, by omega, by go_num, h3⟩
              case measure => simp [intOf]; omega
            · refine hK _ _ ?_
              clear hK K
              refine wpAnyIn_ready (rs := [16]) (by kernel_rfl) (by simp) ?_
              refine (AllReadyIn.cons rfl (fun K hK => ?_) AllReadyIn.nil)
              go_simp
              refine hK _ _ ?_
              clear hK K
              refine wpAnyIn_done (by kernel_rfl) ?_ _
              gi_wp2
              all_goals (refine bodyPost_ret (results_none rfl _ _ _) rfl ?_; exact ⟨⟨_, rfl⟩, .inr h3⟩)
        · go_simp
          refine hK _ _ ?_
          clear hK K
          refine wpAnyIn_take (i := 12) (v := ?_) rfl rfl (by kernel_rfl) (by kernel_rfl) (by kernel_rfl) (fun _ _ _ h => h) ⟨Or.inl ⟨by rfl, ?_⟩, fun _ => rfl⟩ ?_
          rotate_left
          · (intro w; go_simp; (try with_reducible rfl))
          refine wpAnyIn_ready (rs := [1]) (by kernel_rfl) (by simp) ?_
          refine (AllReadyIn.cons rfl (fun K hK => ?_) AllReadyIn.nil)
          · go_simp
            refine hK _ _ ?_
            clear hK K
            refine wpAnyIn_take (i := 5) (v := ?_) rfl rfl (by kernel_rfl) (by kernel_rfl) (by kernel_rfl) (fun _ _ _ h => h) ⟨Or.inl ⟨by rfl, ?_⟩, fun _ => rfl⟩ ?_
            rotate_left
            · (intro w; go_simp; (try with_reducible rfl))
            refine wpAnyIn_ready (rs := [13]) (by kernel_rfl) (by simp) ?_
            refine (AllReadyIn.cons rfl (fun K hK => ?_) AllReadyIn.nil)
            go_simp
            refine hK _ _ ?_
            clear hK K
            refine wpAnyIn_ready (rs := [14]) (by kernel_rfl) (by simp) ?_
            refine (AllReadyIn.cons rfl (fun K hK => ?_) AllReadyIn.nil)
            go_simp
            refine ⟨trivial, ?_⟩
            refine (callsIn_wide.2 HCAT.out).mono ?_
            rintro e w4 ⟨A4, c4, rfl, hown, hb⟩
            refine hK _ _ ?_
            clear hK K
            obtain ⟨fn, tmps, assign, body, hy, hR⟩ := hY k wr w4 A4 c4 (by rw [HL.out]; exact hlt) hj (grown_none hb) (by rw [HR.out k hlt]; exact hown)
            rw [HR.out k hlt] at hy
            generalize (pickOf zs k).length = m4 at *
            refine wpAnyIn_ready (rs := [15]) (by kernel_rfl) (by simp) ?_
            refine (AllReadyIn.cons rfl (fun K hK => ?_) AllReadyIn.nil)
            go_simp
            refine hR.mono ?_
            rintro e W3 (⟨rfl, h3⟩ | ⟨rfl, h3⟩)
            · refine hK _ _ ?_
              clear hK K
              refine wpAnyIn_ready (rs := [16]) (by kernel_rfl) (by simp) ?_
              refine (AllReadyIn.cons rfl (fun K hK => ?_) AllReadyIn.nil)
              go_simp
              refine hK _ _ ?_
              clear hK K
              refine wpAnyIn_done (by kernel_rfl) ?_ _
              gi_wp2
              go_roundw
              case rel => exact ⟨k + 1, by omega, by go_num, h3⟩
              case measure => simp [intOf]; omega
            · refine hK _ _ ?_
              clear hK K
              refine wpAnyIn_ready (rs := [16]) (by kernel_rfl) (by simp) ?_
              refine (AllReadyIn.cons rfl (fun K hK => ?_) AllReadyIn.nil)
              go_simp
              refine hK _ _ ?_
              clear hK K
              refine wpAnyIn_done (by kernel_rfl) ?_ _
              gi_wp2
              all_goals (refine bodyPost_ret (results_none rfl _ _ _) rfl ?_; exact ⟨⟨_, rfl⟩, .inr h3⟩)
      · go_simp
        refine hK _ _ ?_
        clear hK K
        refine wpAnyIn_take (i := 12) (v := ?_) rfl rfl (by kernel_rfl) (by kernel_rfl) (by kernel_rfl) (fun _ _ _ h => h) ⟨Or.inl ⟨by rfl, ?_⟩, fun _ => rfl⟩ ?_
        rotate_left
        · (intro w; go_simp; (try with_reducible rfl))
        refine wpAnyIn_ready (rs := [1, 6]) (by kernel_rfl) (by simp) ?_
        refine (AllReadyIn.cons rfl (fun K hK => ?_) (AllReadyIn.cons rfl (fun K hK => ?_) AllReadyIn.nil))
        · go_simp
          refine hK _ _ ?_
          clear hK K
          refine wpAnyIn_take (i := 5) (v := ?_) rfl rfl (by kernel_rfl) (by kernel_rfl) (by kernel_rfl) (fun _ _ _ h => h) ⟨Or.inl ⟨by rfl, ?_⟩, fun _ => rfl⟩ ?_
          rotate_left
          · (intro w; go_simp; (try with_reducible rfl))
          refine wpAnyIn_ready (rs := [6]) (by kernel_rfl) (by simp) ?_
          refine (AllReadyIn.cons rfl (fun K hK => ?_) AllReadyIn.nil)
          · go_simp
            refine hK _ _ ?_
            clear hK K
            refine wpAnyIn_take (i := 8) (v := ?_) rfl rfl (by kernel_rfl) (by kernel_rfl) (by kernel_rfl) (fun _ _ _ h => h) ⟨Or.inl ⟨by rfl, ?_⟩, fun _ => rfl⟩ ?_
            rotate_left
            · (intro w; go_simp; (try with_reducible rfl))
            refine wpAnyIn_ready (rs := [13]) (by kernel_rfl) (by simp) ?_
            refine (AllReadyIn.cons rfl (fun K hK => ?_) AllReadyIn.nil)
            go_simp
            refine hK _ _ ?_
            clear hK K
            refine wpAnyIn_ready (rs := [14]) (by kernel_rfl) (by simp) ?_
            refine (AllReadyIn.cons rfl (fun K hK => ?_) AllReadyIn.nil)
            go_simp
            refine ⟨trivial, ?_⟩
            refine (callsIn_wide.2 HCAT.out).mono ?_
            rintro e w4 ⟨A4, c4, rfl, hown, hb⟩
            refine hK _ _ ?_
            clear hK K
            obtain ⟨fn, tmps, assign, body, hy, hR⟩ := hY k wr w4 A4 c4 (by rw [HL.out]; exact hlt) hj (grown_none hb) (by rw [HR.out k hlt]; exact hown)
            rw [HR.out k hlt] at hy
            generalize (pickOf zs k).length = m4 at *
            refine wpAnyIn_ready (rs := [15]) (by kernel_rfl) (by simp) ?_
            refine (AllReadyIn.cons rfl (fun K hK => ?_) AllReadyIn.nil)
            go_simp
            refine hR.mono ?_
            rintro e W3 (⟨rfl, h3⟩ | ⟨rfl, h3⟩)
            · refine hK _ _ ?_
              clear hK K
              refine wpAnyIn_ready (rs := [16]) (by kernel_rfl) (by simp) ?_
              refine (AllReadyIn.cons rfl (fun K hK => ?_) AllReadyIn.nil)
              go_simp
              refine hK _ _ ?_
              clear hK K
              refine wpAnyIn_done (by kernel_rfl) ?_ _
              gi_wp2
              go_roundw
              case rel => exact ⟨k + 1, by omega, by go_num, h3⟩
              case measure => simp [intOf]; omega
            · refine hK _ _ ?_
              clear hK K
              refine wpAnyIn_ready (rs := [16]) (by kernel_rfl) (by simp) ?_
              refine (AllReadyIn.cons rfl (fun K hK => ?_) AllReadyIn.nil)
              go_simp
              refine hK _ _ ?_
              clear hK K
              refine wpAnyIn_done (by kernel_rfl) ?_ _
              gi_wp2
              all_goals (refine bodyPost_ret (results_none rfl _ _ _) rfl ?_; exact ⟨⟨_, rfl⟩, .inr h3⟩)
        · go_simp
          refine hK _ _ ?_
          clear hK K
          refine wpAnyIn_take (i := 8) (v := ?_) rfl rfl (by kernel_rfl) (by kernel_rfl) (by kernel_rfl) (fun _ _ _ h => h) ⟨Or.inl ⟨by rfl, ?_⟩, fun _ => rfl⟩ ?_
          rotate_left
          · (intro w; go_simp; (try with_reducible rfl))
          refine wpAnyIn_ready (rs := [1]) (by kernel_rfl) (by simp) ?_
          refine (AllReadyIn.cons rfl (fun K hK => ?_) AllReadyIn.nil)
          · go_simp
            refine hK _ _ ?_
            clear hK K
            refine wpAnyIn_take (i := 5) (v := ?_) rfl rfl (by kernel_rfl) (by kernel_rfl) (by kernel_rfl) (fun _ _ _ h => h) ⟨Or.inl ⟨by rfl, ?_⟩, fun _ => rfl⟩ ?_
            rotate_left
            · (intro w; go_simp; (try with_reducible rfl))
            refine wpAnyIn_ready (rs := [13]) (by kernel_rfl) (by simp) ?_
            refine (AllReadyIn.cons rfl (fun K hK => ?_) AllReadyIn.nil)
            go_simp
            refine hK _ _ ?_
            clear hK K
            refine wpAnyIn_ready (rs := [14]) (by kernel_rfl) (by simp) ?_
            refine (AllReadyIn.cons rfl (fun K hK => ?_) AllReadyIn.nil)
            go_simp
            refine ⟨trivial, ?_⟩
            refine (callsIn_wide.2 HCAT.out).mono ?_
            rintro e w4 ⟨A4, c4, rfl, hown, hb⟩
            refine hK _ _ ?_
            clear hK K
            obtain ⟨fn, tmps, assign, body, hy, hR⟩ := hY k wr w4 A4 c4 (by rw [HL.out]; exact hlt) hj (grown_none hb) (by rw [HR.out k hlt]; exact hown)
            rw [HR.out k hlt] at hy
            generalize (pickOf zs k).length = m4 at *
            refine wpAnyIn_ready (rs := [15]) (by kernel_rfl) (by simp) ?_
            refine (AllReadyIn.cons rfl (fun K hK => ?_) AllReadyIn.nil)
            go_simp
            refine hR.mono ?_
            rintro e W3 (⟨rfl, h3⟩ | ⟨rfl, h3⟩)
            · refine hK _ _ ?_
              clear hK K
              refine wpAnyIn_ready (rs := [16]) (by kernel_rfl) (by simp) ?_
              refine (AllReadyIn.cons rfl (fun K hK => ?_) AllReadyIn.nil)
              go_simp
              refine hK _ _ ?_
              clear hK K
              refine wpAnyIn_done (by kernel_rfl) ?_ _
              gi_wp2
              go_roundw
              case rel => exact ⟨k + 1, by omega, by go_num, h3⟩
              case measure => simp [intOf]; omega
            · refine hK _ _ ?_
              clear hK K
              refine wpAnyIn_ready (rs := [16]) (by kernel_rfl) (by simp) ?_
              refine (AllReadyIn.cons rfl (fun K hK => ?_) AllReadyIn.nil)
              go_simp
              refine hK _ _ ?_
              clear hK K
              refine wpAnyIn_done (by kernel_rfl) ?_ _
              gi_wp2
              all_goals (refine bodyPost_ret (results_none rfl _ _ _) rfl ?_; exact ⟨⟨_, rfl⟩, .inr h3⟩)
    · -- PICK END
      have hkn : k = zs.length := by omega
      subst hkn
      have HJ := Lib.hid hj
      gi_wp2
      go_end0
      exact ⟨⟨_, rfl⟩, .inl (by rw [HL.out]; exact HJ.out)⟩
end Go.Proofs.YtibephoepkofnaaGreat.Itr
