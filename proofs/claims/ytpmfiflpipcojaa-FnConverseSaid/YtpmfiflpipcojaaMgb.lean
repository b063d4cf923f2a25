/- How the laws draw a Gilbreath permutation (MakeGilbreath), and what all of up to eight cards have (checked by the kernel). -/
import Derived.Test.YtpmfiflpipcojaaGit
import Derived.Test.YtpmfiflpipcojaaGic
import Derived.Test.YtpmfiflpipcojaaGib
import Derived.Test.YtpmfiflpipcojaaMkp
set_option linter.unusedVariables false
set_option maxRecDepth 20000
namespace Go.Proofs.Ytpmfiflpipcojaa.Mgb
open Go.RowKit Fr _root_.Go.Proofs.Ytpmfiflpipcojaa.Own Pk Pok Ins Prm Pfn Rws Cur Mkp Gip Gir Gic Gib

/-- 0, 1, 0, 1, .. -/
def altF (m : Nat) : List Int := (List.range m).map fun i => ((i % 2 : Nat) : Int)
def goodG (m : Nat) (q : List Int) : Bool := gilB q && decide (q.length = m) && ((List.range (m + 1)).all fun s => s == 0 || blkB q ((s : Nat) : Int)) && difB 2 (colF (altF m) q) && colB (altF m) q
theorem chk : ((List.range 9).all fun m => m == 0 || (decide ((gilsF (m : Int)).length = 2 ^ (m - 1)) && difB 1 (altF m) && (gilsF (m : Int)).all (goodG m))) = true := by kernel_rfl
theorem at_m {f : Nat → Bool} (h : ((List.range 9).all fun m => m == 0 || f m) = true) {m : Nat} (h1 : 1 ≤ m) (hm : m ≤ 8) : f m = true := by
  have := List.all_eq_true.1 h m (List.mem_range.2 (by omega))
  have h0 : (m == 0) = false := by simp; omega
  rwa [h0, Bool.false_or] at this
theorem gils_len {m : Nat} (h1 : 1 ≤ m) (hm : m ≤ 8) : (gilsF (m : Int)).length = 2 ^ (m - 1) := by
  have := at_m chk h1 hm
  simp only [Bool.and_eq_true, decide_eq_true_eq] at this
  exact this.1.1
theorem gils_alt {m : Nat} (h1 : 1 ≤ m) (hm : m ≤ 8) : difB 1 (altF m) = true := by
  have := at_m chk h1 hm
  simp only [Bool.and_eq_true, decide_eq_true_eq] at this
  exact this.1.2
theorem gils_good {m : Nat} (h1 : 1 ≤ m) (hm : m ≤ 8) {q : List Int} (hq : q ∈ gilsF (m : Int)) : gilB q = true ∧ q.length = m ∧ (∀ s : Nat, 1 ≤ s → s ≤ m → blkB q (s : Int) = true) ∧ difB 2 (colF (altF m) q) = true ∧ colB (altF m) q = true := by
  have := at_m chk h1 hm
  simp only [Bool.and_eq_true] at this
  have := List.all_eq_true.1 this.2 q hq
  unfold goodG at this
  simp only [Bool.and_eq_true, decide_eq_true_eq] at this
  obtain ⟨⟨⟨⟨q1, q2⟩, q3⟩, q4⟩, q5⟩ := this
  refine ⟨q1, q2, fun s h1 h2 => ?_, q4, q5⟩
  have := List.all_eq_true.1 q3 s (List.mem_range.2 (by omega))
  have h0 : (s == 0) = false := by simp; omega
  rwa [h0, Bool.false_or] at this
def GilMade (w : World) (e : Ending) (w' : World) : Prop :=
  ∃ A2 m c2 zs, e = .returned (.slice A2 m c2) ∧ zs.length = m ∧ 1 ≤ m ∧ m ≤ 8 ∧ zs ∈ gilsF (m : Int) ∧ w'.ownsRow w.heap.size 3 1 (.slice A2 m c2) m (vals zs) ∧ Below w.heap.size w w'
set_option maxHeartbeats 2000000 in
theorem make_gil (A : Option Addr) (n cap : Nat) (w : World) (hn : n ≤ 1048576) (hbytes : BytesAt w w.heap.size A n) :
    Calls Try.prog 12 #[.slice A n cap] w (GilMade w) := by
  go_enter Try.func12, Try.ntmps12
  go_wp2_with fail
  refine (new_any A n cap _ hn hbytes).mono ?_
  rintro e w1 ⟨c, rfl, hwc, hcur, hb1⟩
  have hby := hbytes.below hb1
  have hsz := hb1.size
  have hc1 := hcur.lt
  go_wp2_with fail
  refine (below_any w.heap.size c A n cap 8 _ (by omega) (by omega) hn hwc hcur hby).mono ?_
  rintro e w2 ⟨x, rfl, hx0, hx1, hc2, ho2⟩
  have T2 := hb1.trans (ho2.below hwc)
  have hs2 := ho2.size
  have hby2 := hby.below (ho2.below hwc)
  obtain ⟨m, hm⟩ : ∃ m : Nat, 1 + x = (m : Int) := ⟨(1 + x).toNat, by omega⟩
  have hm1 : 1 ≤ m := by omega
  have hm8 : m ≤ 8 := by omega
  go_wp2_with fail
  clear hm hx0 hx1
  refine (Git.spec_gils (m : Int) _ (by omega) (by omega)).mono ?_
  rintro e w5 ⟨A5, c5, rs5, rfl, hz5, h5, hb5⟩
  obtain ⟨N, hN⟩ : ∃ N, N = (gilsF (m : Int)).length := ⟨_, rfl⟩
  have hN2 : 1 ≤ N ∧ N ≤ 128 := by
    have h := gils_len hm1 hm8
    have h2 : 2 ^ (m - 1) ≤ 2 ^ 7 := Nat.pow_le_pow_right (by decide) (by omega)
    have h3 : 0 < 2 ^ (m - 1) := Nat.pow_pos (by decide)
    have h4 : (2 : Nat) ^ 7 = 128 := by decide
    omega
  rw [← hN] at h5
  rw [← hN]
  have hs5 := hb5.size
  have hc5 := hc2.below hb5 (by omega)
  have T5 := T2.trans (hb5.mono (by omega))
  have hby5 := hby2.below (hb5.mono (by omega))
  clear hN
  go_wp2_with fail
  refine (below_any w.heap.size c A n cap (N : Int) _ (by omega) (by omega) hn hwc hc5 hby5).mono ?_
  rintro e w6 ⟨y, rfl, hy0, hy1, hc6, ho6⟩
  obtain ⟨i, rfl⟩ : ∃ i : Nat, y = (i : Int) := ⟨y.toNat, by omega⟩
  have hi : i < N := by omega
  have h6 := h5.grown (only_grown ho6) (fun k hk => by simp only [Option.some.injEq] at hk; omega)
  obtain ⟨g, rfl, hca⟩ := h6.cell i hi
  have hri := h6.2.1 i (by rw [h6.len]; exact hi)
  obtain ⟨zi, hzi⟩ : ∃ z, z = (rs5.getD i rd0).zs := ⟨_, rfl⟩
  have hmem : zi ∈ gilsF (m : Int) := by
    rw [← hz5, hzi, List.getD_eq_getElem?_getD, List.getElem?_eq_getElem (by rw [h6.len]; exact hi)]
    exact List.mem_map.2 ⟨_, List.getElem_mem _, rfl⟩
  have hzl := (gils_good hm1 hm8 hmem).2.1
  simp only [RD.v] at hca
  rw [← hzi, hzl] at hca hri
  generalize (rs5.getD i rd0).A = Ai at *
  generalize (rs5.getD i rd0).c = ci at *
  have HO := Lib.hid (own_mono hri.own (show w.heap.size ≤ w2.heap.size by omega))
  have T6 := Lib.hid (T5.trans (ho6.below hwc))
  have q1 : (0 : Int) ≤ (i : Int) := by omega
  have HZL := Lib.hid hzl
  have HME := Lib.hid hmem
  clear hri h6 h5 T5 T2 hc6 hc5 hby hby2 hby5 hmem hzi hz5 hzl
  go_wp2
  go_ret
  exact ⟨Ai, m, ci, zi, rfl, HZL.out, hm1, hm8, HME.out, HO.out, T6.out⟩
end Go.Proofs.Ytpmfiflpipcojaa.Mgb
