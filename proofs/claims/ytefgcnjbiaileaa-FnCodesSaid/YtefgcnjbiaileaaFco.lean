/- What FnCodes asks, plainly: checked by the kernel for hands of 1 to 3 cards and decks of up to three more. -/
import Derived.Test.YtefgcnjbiaileaaFci
import Derived.Test.YtefgcnjbiaileaaHen
import Derived.Test.YtefgcnjbiaileaaHde
import Derived.Test.YtefgcnjbiaileaaCur
import Derived.Test.YtefgcnjbiaileaaHcf
set_option linter.unusedVariables false
set_option maxRecDepth 20000
namespace Go.Proofs.Ytefgcnjbiaileaa.Fco
open Go.RowKit Fr _root_.Go.Proofs.Ytefgcnjbiaileaa.Own Pk Ins Hnd Hno Hnl Hco Hcp Hen Hde Fcd

def oneB (n k : Int) (h : List Int) : Bool :=
  encB n (fndH n k) (fndS n k) h && decB n (fndH n k) (fndS n k) (encV n (fndH n k) (fndS n k) h) && decide (((encV n (fndH n k) (fndS n k) h).length : Int) = k - 1) &&
    decide (decI n (fndH n k) (fndS n k) (encV n (fndH n k) (fndS n k) h) ∈ h) && decide (decI n (fndH n k) (fndS n k) (encV n (fndH n k) (fndS n k) h) ∉ encV n (fndH n k) (fndS n k) h) && (encV n (fndH n k) (fndS n k) h).all fun y => decide (y ∈ h)
def okF (n k : Int) : Bool :=
  (fndB n k == decide (n ≤ largestI k)) && (hallI n k == decide (largestI k < n)) && decide (k ≤ largestI k) &&
    (if fndB n k = true then codeB n (fndH n k) (fndS n k) && decide ((handsI n k).length ≤ (messagesI n (k - 1)).length) && decide (handsI n k ≠ []) && (handsI n k).all (oneB n k)
     else decide ((messagesI n (k - 1)).length < (handsI n k).length))
theorem chk1 : ((List.range 4).all fun (d : Nat) => okF (1 + (d : Int)) 1) = true := by kernel_rfl
theorem chk2 : ((List.range 4).all fun (d : Nat) => okF (2 + (d : Int)) 2) = true := by kernel_rfl
theorem chk3 : ((List.range 4).all fun (d : Nat) => okF (3 + (d : Int)) 3) = true := by kernel_rfl
theorem ok_at {n k : Int} (hk : 1 ≤ k ∧ k ≤ 3) (hn : k ≤ n ∧ n ≤ k + 3) : okF n k = true := by
  obtain ⟨d, hd⟩ : ∃ d : Nat, n = k + (d : Int) := ⟨(n - k).toNat, by omega⟩
  have hd4 : d < 4 := by omega
  subst hd
  have : k = 1 ∨ k = 2 ∨ k = 3 := by omega
  rcases this with e | e | e <;> subst e
  · exact List.all_eq_true.1 chk1 d (List.mem_range.2 hd4)
  · exact List.all_eq_true.1 chk2 d (List.mem_range.2 hd4)
  · exact List.all_eq_true.1 chk3 d (List.mem_range.2 hd4)
/-- short lists of small numbers -/
def smallB (l : List (List Int)) : Bool := decide (l.length ≤ 1000) && l.all fun h => decide (h.length ≤ 1000) && h.all fun y => decide (0 ≤ y ∧ y ≤ 1000)
def okS (n k : Int) : Bool := smallB (handsI n k) && smallB (fndS n k)
theorem chs1 : ((List.range 4).all fun (d : Nat) => okS (1 + (d : Int)) 1) = true := by kernel_rfl
theorem chs2 : ((List.range 4).all fun (d : Nat) => okS (2 + (d : Int)) 2) = true := by kernel_rfl
theorem chs3 : ((List.range 4).all fun (d : Nat) => okS (3 + (d : Int)) 3) = true := by kernel_rfl
theorem okS_at {n k : Int} (hk : 1 ≤ k ∧ k ≤ 3) (hn : k ≤ n ∧ n ≤ k + 3) : okS n k = true := by
  obtain ⟨d, hd⟩ : ∃ d : Nat, n = k + (d : Int) := ⟨(n - k).toNat, by omega⟩
  have hd4 : d < 4 := by omega
  subst hd
  have : k = 1 ∨ k = 2 ∨ k = 3 := by omega
  rcases this with e | e | e <;> subst e
  · exact List.all_eq_true.1 chs1 d (List.mem_range.2 hd4)
  · exact List.all_eq_true.1 chs2 d (List.mem_range.2 hd4)
  · exact List.all_eq_true.1 chs3 d (List.mem_range.2 hd4)
theorem small_at {l : List (List Int)} {rs : List Rws.RD} (h : smallB l = true) (hz : rs.map Rws.RD.zs = l) : l.length ≤ 1000 ∧ ∀ i, (rs.getD i Rws.rd0).zs.length ≤ 1000 ∧ Fits (rs.getD i Rws.rd0).zs := by
  unfold smallB at h
  rw [Bool.and_eq_true, decide_eq_true_eq, List.all_eq_true] at h
  refine ⟨h.1, fun i => ?_⟩
  by_cases hi : i < rs.length
  · have hm : (rs.getD i Rws.rd0).zs ∈ l := by
      rw [← hz, List.getD_eq_getElem?_getD, List.getElem?_eq_getElem hi]
      exact List.mem_map.2 ⟨_, List.getElem_mem _, rfl⟩
    have h2 := h.2 _ hm
    rw [Bool.and_eq_true, decide_eq_true_eq, List.all_eq_true] at h2
    refine ⟨h2.1, fun j hj => ?_⟩
    have h3 := of_decide_eq_true (h2.2 ((rs.getD i Rws.rd0).zs.getD j 0) (by rw [List.getD_eq_getElem?_getD (l := (rs.getD i Rws.rd0).zs), List.getElem?_eq_getElem hj]; exact List.getElem_mem _))
    omega
  · rw [List.getD_eq_getElem?_getD, List.getElem?_eq_none (by omega)]
    exact ⟨Nat.zero_le _, fun j hj => absurd hj (Nat.not_lt_zero _)⟩
theorem ok_one {n k : Int} (h : okF n k = true) : fndB n k = decide (n ≤ largestI k) ∧ hallI n k = decide (largestI k < n) ∧ k ≤ largestI k := by
  unfold okF at h
  simp only [Bool.and_eq_true, beq_iff_eq, decide_eq_true_eq] at h
  exact ⟨h.1.1.1, h.1.1.2, h.1.2⟩
theorem ok_no {n k : Int} (h : okF n k = true) (hb : fndB n k = false) : (messagesI n (k - 1)).length < (handsI n k).length := by
  unfold okF at h
  rw [hb] at h
  simp only [Bool.and_eq_true] at h
  have := h.2
  rw [if_neg (by decide)] at this
  exact of_decide_eq_true this
theorem ok_yes {n k : Int} (h : okF n k = true) (hb : fndB n k = true) : codeB n (fndH n k) (fndS n k) = true ∧ (handsI n k).length ≤ (messagesI n (k - 1)).length ∧ handsI n k ≠ [] ∧ ∀ q ∈ handsI n k, oneB n k q = true := by
  unfold okF at h
  rw [hb] at h
  simp only [Bool.and_eq_true] at h
  have := h.2
  rw [if_pos trivial] at this
  simp only [Bool.and_eq_true, decide_eq_true_eq, List.all_eq_true] at this
  exact ⟨this.1.1.1, this.1.1.2, this.1.2, this.2⟩
theorem one_yes {n k : Int} {h : List Int} (q : oneB n k h = true) : ∃ ms x, ms = encV n (fndH n k) (fndS n k) h ∧ x = decI n (fndH n k) (fndS n k) ms ∧ encB n (fndH n k) (fndS n k) h = true ∧ decB n (fndH n k) (fndS n k) ms = true ∧ (ms.length : Int) = k - 1 ∧ x ∈ h ∧ x ∉ ms ∧ ∀ y ∈ ms, y ∈ h := by
  unfold oneB at q
  simp only [Bool.and_eq_true, decide_eq_true_eq, List.all_eq_true] at q
  exact ⟨_, _, rfl, rfl, q.1.1.1.1.1, q.1.1.1.1.2, q.1.1.1.2, q.1.1.2, q.1.2, q.2⟩
theorem code_call {W : World} {lo hi : Nat} {A B : Option Addr} {nh c ns d : Nat} {rs r2 : List Rws.RD} {n k : Int} (y1 : codeB n (fndH n k) (fndS n k) = true) (hz : rs.map Rws.RD.zs = fndH n k) (hy : r2.map Rws.RD.zs = fndS n k) (hcr : Cde.CR W lo hi A nh c rs B ns d r2) (hn : rs.length = nh) (hm : r2.length = ns)
    (hb : -1000 ≤ n ∧ n ≤ 1000) (s1 : ∀ i, (rs.getD i Rws.rd0).zs.length ≤ 1000 ∧ Fits (rs.getD i Rws.rd0).zs) (s2 : ∀ i, (r2.getD i Rws.rd0).zs.length ≤ 1000 ∧ Fits (r2.getD i Rws.rd0).zs) (h3 : nh ≤ 1000) :
    Calls Try.prog 10 #[.agg #[.int .i64 n, .slice A nh c, .slice B ns d]] W fun e w' => e = .returned (.bool true) ∧ Below W.heap.size W w' := by
  obtain ⟨mid, q1, q2, _⟩ := hcr
  have h := Hcf.impl_code n A nh c B ns d rs r2 W (by omega) (by omega) hn hm (Hcf.ll_of_ss q1) (Hcf.ll_of_ss q2) (fun i _ => Nat.le_trans (s1 i).1 (by omega)) (fun i _ => ⟨Nat.le_trans (s2 i).1 (by omega), (s2 i).2⟩) (by omega)
  rw [hz, hy, y1] at h
  exact h
theorem found_is {n k : Int} (h : fndB n k = true) : fndD n k = n ∧ fndH n k = handsI n k := by
  unfold fndD fndH
  rw [if_pos h, if_pos h]
  exact ⟨rfl, rfl⟩
set_option maxHeartbeats 1000000 in
theorem law_has (A : Option Addr) (n c : Nat) (zs : List Int) (x : Int) (w : World) (hn : zs.length = n) (hn2 : n ≤ 9223372036854775807) (hss : IntsAt w w.heap.size .i64 A zs) :
    Calls Try.prog 13 #[.slice A n c, .int .i64 x] w fun e w' => e = .returned (.bool (Pok.hasB zs x)) ∧ w = w' := by
  have HN := Lib.hid hn
  clear hn
  go_enter Try.func13, Try.ntmps13
  go_wp2
  go_loop [6, 9] (fun _ i => ∃ j : Nat, j ≤ n ∧ i = .int .i64 j ∧ Hid (∀ i, i < j → zs.getD i 0 ≠ x)) (fun _ i => n - (intOf i).toNat)
  case atStart => exact ⟨0, Nat.zero_le _, rfl, (fun i hi => absurd hi (Nat.not_lt_zero _))⟩
  case round =>
    obtain ⟨j, hj, rfl, HE⟩ := hrel
    by_cases hlt : j < n
    · obtain ⟨b, o, rfl, hbb, hc⟩ := hss j (by rw [HN.out]; exact hlt)
      have hlt' : j < zs.length := by rw [HN.out]; exact hlt
      have hyes : zs.getD j 0 = x → Pok.hasB zs x = true := by
        intro e
        refine decide_eq_true ?_
        rw [← e, List.getD_eq_getElem?_getD, List.getElem?_eq_getElem hlt']
        exact List.getElem_mem _
      have hst : zs.getD j 0 ≠ x → ∀ i, i < j + 1 → zs.getD i 0 ≠ x := by
        intro e i hi
        by_cases hik : i = j
        · rw [hik]; exact e
        · exact HE.out i (by omega)
      generalize zs.getD j 0 = y at hc hyes hst
      by_cases hxy : y = x
      · have HS := Lib.hid (hyes hxy)
        have hb : (y == x) = true := by simpa using hxy
        clear hst hyes HE hxy hlt'
        go_wp2
        go_ret
        exact ⟨ret_b HS.out.symm, rfl⟩
      · have HS := Lib.hid (hst hxy)
        have hb : (y == x) = false := by simpa using hxy
        clear hst hyes HE hxy hlt'
        go_wp2
        go_round
        case rel => exact ⟨j + 1, by omega, by go_num, HS.out⟩
        case measure => simp [intOf]; omega
    · have hjn : j = n := by omega
      have hno : Pok.hasB zs x = false := by
        refine decide_eq_false fun hm => ?_
        obtain ⟨i, hi, e⟩ := List.mem_iff_getElem.1 hm
        have h9 := HE.out i (by rw [hjn, ← HN.out]; exact hi)
        rw [List.getD_eq_getElem?_getD, List.getElem?_eq_getElem hi] at h9
        exact h9 e
      have HS := Lib.hid hno
      clear hno HE hjn
      go_wp2
      go_ret
      exact ⟨ret_b HS.out.symm, rfl⟩
end Go.Proofs.Ytefgcnjbiaileaa.Fco
