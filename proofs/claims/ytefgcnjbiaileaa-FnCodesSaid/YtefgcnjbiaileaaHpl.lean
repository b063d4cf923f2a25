/- Where a list lies in a list of lists, in the program (placeOf). -/
import Derived.Test.YtefgcnjbiaileaaHcg
set_option linter.unusedVariables false
set_option maxRecDepth 20000
namespace Go.Proofs.Ytefgcnjbiaileaa.Hpl
open Go.RowKit Fr _root_.Go.Proofs.Ytefgcnjbiaileaa.Own Pk Ins Rws Sam Srt Sst Cpf Fnd Hix Hco Hcp Hcf Cde

theorem place_1 (bp : Nat) (A B : Option Addr) (n m c d : Nat) (us vs : List Int) (w : World) (hn : us.length = n) (hm : vs.length = m) (hn2 : n ≤ 1048576) (hm2 : m ≤ 1048576) (h1 : IntsAt w w.heap.size .i64 A us) (h2 : IntsAt w w.heap.size .i64 B vs) (hbox : w.cell? ⟨bp, 0, none⟩ = some (.slice B m d)) :
    Calls Try.prog 42 #[.slice A n c, .pointer (some ⟨bp, 0, none⟩)] w fun e w' => e = .returned (.bool (sameB us vs)) ∧ ∃ q, w' = w.drewN q := by
  have HC := Lib.hid (same_q _ _ A B n m c d us vs w hn hm (by omega) (by omega) h1 h2)
  clear h1 h2 hn hm
  go_enter Try.func42, Try.ntmps42
  go_wp2_with fail
  refine HC.out.mono ?_
  rintro e w1 ⟨rfl, q, rfl⟩
  go_wp2
  go_ret
  exact ⟨rfl, q, rfl⟩
set_option maxHeartbeats 2000000 in
theorem index_ss (bp : Nat) (A B : Option Addr) (n c nq cq : Nat) (ls : List RD) (q : List Int) (w : World) (hn : ls.length = n) (hat : LL w A ls) (hz : ∀ i, i < n → (ls.getD i rd0).zs.length ≤ 1048576) (hn2 : n ≤ 1048576)
    (hq : q.length = nq) (hq2 : nq ≤ 1048576) (hqat : IntsAt w w.heap.size .i64 B q) (hbox : w.cell? ⟨bp, 0, none⟩ = some (.slice B nq cq)) :
    Calls Try.prog 41 #[.slice A n c, .func (.func 42) #[] #[.pointer (some ⟨bp, 0, none⟩)]] w fun e w' => e = .returned (.int .i64 (idxI q (ls.map RD.zs))) ∧ ∃ d, w' = w.drewN d := by
  have HN := Lib.hid hn
  have HZ := Lib.hid hz
  have HAT := Lib.hid hat
  have HQ := Lib.hid hqat
  have HQL := Lib.hid hq
  have HBX := Lib.hid hbox
  obtain ⟨R, hR⟩ : ∃ R, R = idxI q (ls.map RD.zs) := ⟨_, rfl⟩
  rw [← hR]
  have HR := Lib.hid hR
  clear hR hn hz hat hqat hq hbox
  go_enter Try.func41, Try.ntmps41
  go_wp2
  go_loopw [5, 8] (fun _ i wr => ∃ k d : Nat, k ≤ n ∧ i = .int .i64 (k : Int) ∧ wr = w.drewN d ∧ Hid (inK q ls k = false)) (fun _ i _ => n - (intOf i).toNat)
  case atStart => exact ⟨0, 0, Nat.zero_le _, rfl, rfl, (show inK q ls 0 = false from by unfold inK; simp)⟩
  case round =>
    obtain ⟨k, d, hk, rfl, rfl, HF⟩ := hrel
    by_cases hlt : k < n
    · obtain ⟨b, o, rfl, hc, hi⟩ := HAT.out k (by rw [HN.out]; exact hlt)
      have hzk := HZ.out k hlt
      have HE := Lib.hid (inK_next (q := q) (ls := ls) (k := k) (by rw [HN.out]; exact hlt))
      have HIX := Lib.hid (show (ls.getD k rd0).zs = q → R = (k : Int) from fun h => by rw [HR.out]; exact idx_at (by rw [HN.out]; exact hlt) HF.out h)
      have hc2 := cell_drewN hc d
      have hi2 := ints_drewN hi d
      clear hc hi
      generalize ls.getD k rd0 = r at *
      obtain ⟨B1, d1, zs⟩ := r
      simp only [RD.v] at hc2 hi2 hzk HE HIX
      have HC := Lib.hid (place_1 bp B1 B zs.length nq d1 cq zs q (w.drewN d) rfl HQL.out hzk hq2 hi2 (ints_drewN HQ.out d) (cell_drewN HBX.out d))
      clear hi2
      generalize zs.length = m1 at *
      obtain ⟨V, hV⟩ : ∃ V, V = w.drewN d := ⟨_, rfl⟩
      rw [← hV] at hc2 HC
      rw [← hV]
      have HV := Lib.hid hV
      clear hV
      go_wp2_with fail
      refine HC.out.mono ?_
      rintro e w' ⟨rfl, d', rfl⟩
      by_cases hb : zs = q
      · have HT := Lib.hid (HIX.out hb)
        have HSB := Lib.hid (show sameB zs q = true from decide_eq_true hb)
        rw [HSB.out]
        clear hb HC
        go_wp2
        go_ret
        exact ⟨by rw [HT.out]; rfl, d + d', by rw [HV.out, World.drewN_drewN]⟩
      · have HT := Lib.hid (show inK q ls (k + 1) = false by rw [HE.out, HF.out, decide_eq_false hb]; rfl)
        have HSB := Lib.hid (show sameB zs q = false from decide_eq_false hb)
        rw [HSB.out]
        clear hb HC
        go_wp2
        go_roundw
        case rel => exact ⟨k + 1, d + d', by omega, by go_num, by rw [HV.out, World.drewN_drewN], HT⟩
        case measure => simp [intOf]; omega
    · have hkn : k = n := by omega
      subst hkn
      have HT := Lib.hid (show R = -1 by rw [HR.out]; exact idx_not HN.out HF.out)
      go_wp2
      go_ret
      exact ⟨by rw [HT.out]; rfl, d, rfl⟩
theorem place_any (A B : Option Addr) (n c nq cq : Nat) (ls : List RD) (q : List Int) (w : World) (hn : ls.length = n) (hat : LL w A ls) (hz : ∀ i, i < n → (ls.getD i rd0).zs.length ≤ 1048576) (hn2 : n ≤ 1048576)
    (hq : q.length = nq) (hq2 : nq ≤ 1048576) (hqat : IntsAt w w.heap.size .i64 B q) :
    Calls Try.prog 29 #[.slice A n c, .slice B nq cq] w fun e w' => e = .returned (.int .i64 (idxI q (ls.map RD.zs))) ∧ Below w.heap.size w w' := by
  obtain ⟨W, hW⟩ : ∃ W, W = w.alloc (.cells #[.slice B nq cq] 33) := ⟨_, rfl⟩
  have hbW : Below w.heap.size w W := by rw [hW]; exact (Below.refl _ w).alloc (Nat.le_refl _) _
  have hcW : W.cell? ⟨w.heap.size, 0, none⟩ = some (.slice B nq cq) := by
    rw [hW]
    unfold World.cell?
    rw [heap_alloc_new w _]; rfl
  have HB := Lib.hid hbW
  have HC := Lib.hid (index_ss w.heap.size A B n c nq cq ls q W hn (ll_below hat hbW) hz hn2 hq hq2 ((hqat.below hbW).more hbW.size) hcW)
  clear hbW hcW hn hat hz hq hqat
  go_enter Try.func29, Try.ntmps29
  go_wp2_with fail
  rw [← hW]
  clear hW
  refine HC.out.mono ?_
  rintro e w2 ⟨rfl, d, rfl⟩
  have HB2 := Lib.hid (below_drewN HB.out d)
  go_wp2
  go_ret
  exact ⟨rfl, HB2.out⟩
end Go.Proofs.Ytefgcnjbiaileaa.Hpl
