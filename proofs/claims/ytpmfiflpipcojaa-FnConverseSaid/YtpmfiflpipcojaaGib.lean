/- HasBlocks of the model: every block of successive cards has different remainders. -/
import Derived.Test.YtpmfiflpipcojaaGip
import Derived.BigQuiet
import Derived.Deep.QuietTactic
set_option linter.unusedVariables false
set_option maxRecDepth 20000
namespace Go.Proofs.Ytpmfiflpipcojaa.Gib
open Go.RowKit Fr Own Pk Ins Pok Prm Pfn Rws Gip

/-- the remainder of what lies at a place -/
def rr (zs : List Int) (s i : Nat) : Nat := (zs.getD i 0).toNat % s
/-- no card ahead of place i in its block has the same remainder -/
def okBlk (zs : List Int) (s i : Nat) : Bool := (List.range i).all fun k => decide (k < i - i % s) || decide (rr zs s k ≠ rr zs s i)
def blkB (zs : List Int) (s : Int) : Bool := permB zs && decide (1 ≤ s ∧ s ≤ zs.length) && (List.range zs.length).all (okBlk zs s.toNat)
theorem blk_no {zs : List Int} {s : Int} (h : permB zs = false) : blkB zs s = false := by unfold blkB; rw [h]; rfl
theorem blk_out {zs : List Int} {s : Int} (h : ¬ (1 ≤ s ∧ s ≤ zs.length)) : blkB zs s = false := by unfold blkB; rw [decide_eq_false h, Bool.and_false]; rfl
theorem okBlk_iff {zs : List Int} {s i : Nat} : okBlk zs s i = true ↔ ∀ k, i - i % s ≤ k → k < i → rr zs s k ≠ rr zs s i := by
  unfold okBlk
  rw [List.all_eq_true]
  constructor
  · intro h k h1 h2
    have := h k (List.mem_range.2 h2)
    simp only [Bool.or_eq_true, decide_eq_true_eq] at this
    rcases this with h3 | h3
    · omega
    · exact h3
  · intro h k hk
    simp only [Bool.or_eq_true, decide_eq_true_eq]
    by_cases e : k < i - i % s
    · exact Or.inl e
    · exact Or.inr (h k (by omega) (List.mem_range.1 hk))
theorem blk_bad {zs : List Int} {s i k : Nat} (hi : i < zs.length) (h1 : i - i % s ≤ k) (h2 : k < i) (h : rr zs s k = rr zs s i) : blkB zs (s : Int) = false := by
  unfold blkB
  rw [Bool.and_eq_false_iff]
  refine Or.inr (Bool.eq_false_iff.2 fun hall => ?_)
  have := List.all_eq_true.1 hall i (List.mem_range.2 hi)
  rw [Int.toNat_natCast] at this
  exact okBlk_iff.1 this k h1 h2 h
theorem blk_good {zs : List Int} {s : Nat} (hp : permB zs = true) (h1 : 1 ≤ s) (h2 : s ≤ zs.length) (h : ∀ i, i < zs.length → okBlk zs s i = true) : blkB zs (s : Int) = true := by
  unfold blkB
  rw [hp, decide_eq_true (show (1 : Int) ≤ s ∧ (s : Int) ≤ zs.length by omega), Int.toNat_natCast]
  exact List.all_eq_true.2 fun i hi => h i (List.mem_range.1 hi)
theorem nat_tmod (a b : Nat) : ((a : Int)).tmod (b : Int) = ((a % b : Nat) : Int) := rfl

set_option maxHeartbeats 2000000 in
theorem spec_blk (A : Option Addr) (n c : Nat) (zs : List Int) (s : Int) (w : World) (hn : zs.length = n) (hnc : n ≤ c) (hn2 : n ≤ 9223372036854775807) (hz : Fits zs) (hss : IntsAt w w.heap.size .i64 A zs) :
    Calls Try.prog 34 #[.slice A n c, .int .i64 s] w fun e w' => e = .returned (.bool (blkB zs s)) ∧ Below w.heap.size w w' := by
  have HF := Lib.hid (spec_perm A n c zs w hn hnc hn2 hz hss)
  have HN := Lib.hid hn
  have HSH := Lib.hid (@perm_short zs)
  have HIR := Lib.hid (@inR_perm zs)
  clear hn hz
  cases hp : permB zs with
  | false =>
    have HS := Lib.hid (blk_no (s := s) hp)
    have HP := Lib.hid hp
    clear hp
    go_enter Try.func34, Try.ntmps34
    go_wp2_with fail
    refine HF.out.mono ?_
    rintro e w' ⟨rfl, rfl⟩
    rw [HP.out]
    go_wp2
    go_ret
    exact ⟨ret_b HS.out.symm, Below.refl _ _⟩
  | true =>
    have h12 := HSH.out hp
    rw [HN.out] at h12
    have hin := HIR.out hp
    rw [HN.out] at hin
    by_cases hs : 1 ≤ s ∧ s ≤ (n : Int)
    · obtain ⟨S, rfl⟩ : ∃ S : Nat, s = S := ⟨s.toNat, by omega⟩
      have hS1 : 1 ≤ S := by omega
      have hS2 : S ≤ n := by omega
      have HIY := Lib.hid (fun w => in_yes (S : Int) 1 (n : Int) w hs.1 hs.2)
      have HP := Lib.hid hp
      have HIN := Lib.hid hin
      have hS0 : ((S : Int) == 0) = false := by simp; omega
      have hS0' : ¬ S = 0 := by omega
      clear hp hs hin
      go_enter Try.func34, Try.ntmps34
      go_wp2_with fail
      refine HF.out.mono ?_
      rintro e w' ⟨rfl, rfl⟩
      rw [HP.out]
      go_wp2_with fail
      refine (HIY.out _).mono ?_
      rintro e w' ⟨rfl, rfl⟩
      go_wp2
      go_loopw [5, 6, 20] (fun _ _ i wr => ∃ k : Nat, k ≤ n ∧ i = .int .i64 (k : Int) ∧ Hid (∀ j, j < k → okBlk zs S j = true) ∧ ∃ d, wr = w.drewN d) (fun _ _ i _ => n - (intOf i).toNat)
      case atStart => exact ⟨0, Nat.zero_le _, rfl, (fun i hi => absurd hi (Nat.not_lt_zero _)), 0, rfl⟩
      case round =>
        obtain ⟨k, hk, rfl, HG, d, rfl⟩ := hrel
        by_cases hlt : k < n
        · obtain ⟨b, o, rfl, hbb, hc⟩ := hss k (by rw [HN.out]; exact hlt)
          have hx := HIN.out k (by rw [HN.out]; exact hlt)
          obtain ⟨y, hy⟩ : ∃ y : Nat, zs.getD k 0 = y := ⟨(zs.getD k 0).toNat, by omega⟩
          rw [hy] at hc hx
          have hry : rr zs S k = y % S := by unfold rr; rw [hy, Int.toNat_natCast]
          have hm1 := nat_tmod k S
          have hm2 := nat_tmod y S
          have hml : k % S ≤ k := Nat.mod_le _ _
          have HRY2 := Lib.hid (Nat.mod_lt y (show 0 < S by omega))
          have HRY := Lib.hid hry
          have HNX := Lib.hid (show okBlk zs S k = true → ∀ j, j < k + 1 → okBlk zs S j = true from fun hx j hj => by
            by_cases e : j = k
            · rw [e]; exact hx
            · exact HG.out j (by omega))
          have hyS : (y : Int) < 12 := by omega
          have HAT := Lib.hid (show ∀ j, j < n → ∃ z : Nat, z < 12 ∧ zs.getD j 0 = (z : Int) ∧ (w.drewN d).cell? ⟨b, o + j, none⟩ = some (.int .i64 (z : Int)) from fun j hj => by
            obtain ⟨b2, o2, e, _, hcj⟩ := hss j (by rw [HN.out]; exact hj)
            simp only [Option.some.injEq, Addr.mk.injEq, and_true] at e
            obtain ⟨rfl, rfl⟩ := e
            have hxj := HIN.out j (by rw [HN.out]; exact hj)
            obtain ⟨z, hz⟩ : ∃ z : Nat, zs.getD j 0 = z := ⟨(zs.getD j 0).toNat, by omega⟩
            rw [hz] at hcj hxj
            exact ⟨z, by omega, hz, cell_drewN hcj d⟩)
          have HBD := Lib.hid (fun (j : Nat) h1 h2 h3 => blk_bad (zs := zs) (s := S) (i := k) (k := j) (by rw [HN.out]; exact hlt) h1 h2 h3)
          generalize hq : k % S = q at *
          generalize hqy : y % S = ry at *
          have HQ := Lib.hid hq
          clear hy hry HG hq hqy hx
          have hc0 : (w.drewN d).cell? ⟨b, o + k, none⟩ = some (.int .i64 (y : Int)) := cell_drewN hc d
          obtain ⟨W, hW⟩ : ∃ W, W = w.drewN d := ⟨_, rfl⟩
          rw [← hW] at hc0 HAT
          rw [← hW]
          have HW := Lib.hid hW
          clear hW hc
          go_wp2
          go_loopw [7] (fun v wt => ∃ j : Nat, k - q ≤ j ∧ j ≤ k ∧ v = .int .i64 (j : Int) ∧ Hid (∀ x, k - q ≤ x → x < j → rr zs S x ≠ ry) ∧ ∃ d, wt = W.drewN d) (fun v _ => k - (intOf v).toNat)
          case atStart => exact ⟨k - q, Nat.le_refl _, by omega, congrArg (Value.int .i64) (by omega), (fun x h1 h2 => absurd h2 (by omega)), 0, rfl⟩
          case round =>
            obtain ⟨j, hj1, hj2, rfl, HNE, d2, rfl⟩ := hrel
            by_cases hlt2 : j < k
            · obtain ⟨z, hz12, hzz, hcz⟩ := HAT.out j (by omega)
              have hrz : rr zs S j = z % S := by unfold rr; rw [hzz, Int.toNat_natCast]
              have hm3 := nat_tmod z S
              have hwz : IntKind.i64.wrap ((z % S : Nat) : Int) = ((z % S : Nat) : Int) := by have := Nat.mod_lt z (show 0 < S by omega); rw [IntKind.wrap_i64]; omega
              have hwy : IntKind.i64.wrap (ry : Int) = (ry : Int) := by have := HRY2.out; rw [IntKind.wrap_i64]; omega
              have HBJ := Lib.hid (HBD.out j hj1 hlt2)
              generalize hqz : z % S = rz at *
              have HRZ := Lib.hid hrz
              have hjn : j < n := by omega
              clear hrz hzz hqz hc0
              by_cases he : rz = ry
              · subst he
                have HS := Lib.hid (HBJ.out (by rw [HRZ.out, HRY.out]))
                clear HNE
                go_wp2
                go_quiet (fail)
                go_wp2
                go_ret
                refine ⟨ret_b HS.out.symm, ?_⟩
                rw [HW.out]
                exact below_drewN (below_drewN (below_drewN (Below.refl _ w) _) _) _
              · have hne : ((rz : Int) == (ry : Int)) = false := by simp; omega
                have hnen : (rz == ry) = false := by simp; omega
                have HS := Lib.hid (show ∀ x, k - q ≤ x → x < j + 1 → rr zs S x ≠ ry from fun x h1 h2 => by
                  by_cases e : x = j
                  · rw [e, HRZ.out]; exact he
                  · exact HNE.out x h1 (by omega))
                clear HNE he
                go_wp2
                go_quiet (fail)
                go_wp2
                go_roundw
                case rel => exact ⟨j + 1, by omega, by omega, by go_num, HS.out, _, rfl⟩
                case measure => simp [intOf]; omega
            · have hjk : j = k := by omega
              have HS := Lib.hid (HNX.out (okBlk_iff.2 fun x h1 h2 => by rw [HRY.out]; exact HNE.out x (by rw [← HQ.out]; exact h1) (by omega)))
              clear HNE hc0
              go_wp2
              go_roundw
              case rel => exact ⟨k + 1, by omega, by go_num, HS.out, d + d2, by rw [HW.out, World.drewN_drewN]⟩
              case measure => simp [intOf]; omega
        · have hkn : k = n := by omega
          have HS := Lib.hid (blk_good HP.out hS1 (by rw [HN.out]; exact hS2) (fun i hi => HG.out i (by rw [hkn, ← HN.out]; exact hi)))
          clear HG hkn
          go_wp2
          go_ret
          exact ⟨ret_b HS.out.symm, below_drewN (Below.refl _ w) _⟩
    · have HS := Lib.hid (blk_out (s := s) (zs := zs) (by rw [HN.out]; exact hs))
      have HIO := Lib.hid (fun w => in_no s 1 (n : Int) w hs)
      have HP := Lib.hid hp
      clear hp hs hin
      go_enter Try.func34, Try.ntmps34
      go_wp2_with fail
      refine HF.out.mono ?_
      rintro e w' ⟨rfl, rfl⟩
      rw [HP.out]
      go_wp2_with fail
      refine (HIO.out _).mono ?_
      rintro e w' ⟨rfl, rfl⟩
      go_wp2
      go_ret
      exact ⟨ret_b HS.out.symm, Below.refl _ _⟩
end Go.Proofs.Ytpmfiflpipcojaa.Gib
