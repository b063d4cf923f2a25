/- FaroTo of the program and of the model. -/
import Derived.Test.YtpbpgpccjabghaaFsz
import Derived.Test.YtpbpgpccjabghaaPfn
import Derived.Test.YtpbpgpccjabghaaShelf
import Derived.Test.YtpbpgpccjabghaaSv2
set_option linter.unusedVariables false
set_option maxRecDepth 20000
namespace Go.Proofs.Ytpbpgpccjabghaa.Fto
open Go.RowKit Fr Own Pk Pok Ins Pfn Rws Fsz Lb Cat Mvp Mv1 Mv2 Mv3 Mv4 Sv Sv2

/-- the number of binary digits -/
def blen (a : Nat) : Nat := if a = 0 then 0 else if a < 2 then 1 else if a < 4 then 2 else if a < 8 then 3 else 4
def bdig (a i : Nat) : Int := ((a / 2 ^ i) % 2 : Nat)
/-- the highest digits, but for the last d ones -/
def bhi (a d : Nat) : List Int := (List.range (blen a - d)).map fun i => bdig a (blen a - 1 - i)
def toB (n a : Int) : Bool := szB n && decide (0 ≤ a ∧ a ≤ n - 1)
def toF (n a : Int) : List Int := if toB n a then bhi a.toNat 0 else []
theorem toF_no {n a : Int} (h : toB n a = false) : toF n a = [] := by unfold toF; rw [h]; rfl
theorem toF_yes {n a : Int} (h : toB n a = true) : toF n a = bhi a.toNat 0 := by unfold toF; rw [h]; rfl
theorem bhi_chk : ((List.range 12).all fun a => decide (blen a ≤ 4) && ((List.range 5).all fun d => d == 0 || decide (blen a < d) || (bhi a (d - 1) == bhi a d ++ [bdig a (d - 1)]))) = true := by kernel_rfl
theorem blen_le (a : Nat) : blen a ≤ 4 := by unfold blen; repeat (split <;> try omega)
theorem bhi_next {a d : Nat} (ha : a < 12) (h0 : 1 ≤ d) (hd : d ≤ blen a) : bhi a (d - 1) = bhi a d ++ [bdig a (d - 1)] := by
  have h := List.all_eq_true.1 bhi_chk a (List.mem_range.2 ha)
  rw [Bool.and_eq_true] at h
  have h3 := of_decide_eq_true h.1
  have h2 := List.all_eq_true.1 h.2 d (List.mem_range.2 (by omega))
  simp only [Bool.or_eq_true, beq_iff_eq, decide_eq_true_eq] at h2
  rcases h2 with (h2 | h2) | h2
  · omega
  · omega
  · exact h2
theorem bit_chk : ((List.range 12).all fun a => (List.range 4).all fun d => bits .and .i64 ((a : Int) / 2 ^ d) 1 == bdig a d) = true := by kernel_rfl
theorem bit_eq {a d : Nat} (ha : a < 12) (hd : d < 4) : bits .and .i64 ((a : Int) / 2 ^ d) 1 = bdig a d := eq_of_beq (List.all_eq_true.1 (List.all_eq_true.1 bit_chk a (List.mem_range.2 ha)) d (List.mem_range.2 hd))
theorem len_chk : ((List.range 12).all fun a => Lib.bitLen a == blen a) = true := by kernel_rfl
theorem len_eq {a : Nat} (ha : a < 12) : Lib.bitLen a = blen a := eq_of_beq (List.all_eq_true.1 len_chk a (List.mem_range.2 ha))
theorem bhi_all (a : Nat) : bhi a (blen a) = [] := by unfold bhi; rw [Nat.sub_self]; rfl
theorem bhi_len (a d : Nat) : (bhi a d).length = blen a - d := by unfold bhi; simp
theorem toF_short (n a : Int) : (toF n a).length ≤ 1048576 := by
  cases h : toB n a with
  | true => rw [toF_yes h, bhi_len]; have := blen_le a.toNat; omega
  | false => rw [toF_no h]; exact Nat.zero_le _
theorem half_chk : ((List.range 12).all fun a => a == 0 || (bhi a 0 == bhi (a / 2) 0 ++ [((a % 2 : Nat) : Int)])) = true := by kernel_rfl
theorem bhi_half {a : Nat} (ha : a < 12) (h0 : a ≠ 0) : bhi a 0 = bhi (a / 2) 0 ++ [((a % 2 : Nat) : Int)] := by
  have h := List.all_eq_true.1 half_chk a (List.mem_range.2 ha)
  simp only [Bool.or_eq_true, beq_iff_eq] at h
  rcases h with h | h
  · exact absurd h h0
  · exact h
theorem to_parts {n a : Int} (h : toB n a = true) : szB n = true ∧ 0 ≤ a ∧ a ≤ n - 1 := by
  unfold toB at h
  rw [Bool.and_eq_true, decide_eq_true_eq] at h
  exact h

set_option maxHeartbeats 1000000 in
theorem impl_to (n a : Int) (w : World) (h1 : -9223372036854775808 ≤ n) (h2 : n ≤ 9223372036854775807) (h3 : -9223372036854775808 ≤ a) (h4 : a ≤ 9223372036854775807) :
    Calls Try.prog 14 #[.int .i64 n, .int .i64 a] w (IsILB w.heap.size (toF n a) (toB n a) w) := by
  obtain ⟨i0, hi, hz0, hz1, hz2⟩ := info_parts infoInt
  cases hb : toB n a with
  | false =>
    rw [toF_no hb]
    cases hs : szB n with
    | false =>
      have HS := Lib.hid hs
      clear hs hb
      go_enter Try.func14, Try.ntmps14
      go_wp2_with fail
      refine (impl_sz n _ h1 h2).mono ?_
      rintro e w1 ⟨rfl, rfl⟩
      rw [HS.out]
      go_wp2
      go_ret2
      exact nil_ilb _ _
    | true =>
      have hk : ¬ (0 ≤ a ∧ a ≤ n - 1) := fun h => by unfold toB at hb; rw [hs, decide_eq_true h] at hb; cases hb
      have HS := Lib.hid hs
      clear hs hb
      by_cases hlo : a < 0
      · clear hk
        go_enter Try.func14, Try.ntmps14
        go_wp2_with fail
        refine (impl_sz n _ h1 h2).mono ?_
        rintro e w1 ⟨rfl, rfl⟩
        rw [HS.out]
        go_wp2
        go_ret2
        exact nil_ilb _ _
      · have hlo' : decide (a < 0) = false := decide_eq_false hlo
        have hhi : n ≤ a := by omega
        clear hk
        go_enter Try.func14, Try.ntmps14
        go_wp2_with fail
        refine (impl_sz n _ h1 h2).mono ?_
        rintro e w1 ⟨rfl, rfl⟩
        rw [HS.out]
        go_wp2
        go_ret2
        exact nil_ilb _ _
  | true =>
    rw [toF_yes hb]
    obtain ⟨hs, ha, han⟩ := to_parts hb
    obtain ⟨p1, p2, _⟩ := sz_parts hs
    obtain ⟨m, rfl⟩ : ∃ m : Nat, a = m := ⟨a.toNat, by omega⟩
    rw [show ((m : Int)).toNat = m from rfl]
    have hm : m < 12 := by omega
    have HS := Lib.hid hs
    have hlo' : decide ((m : Int) < 0) = false := decide_eq_false (by omega)
    have hhi' : decide (n ≤ (m : Int)) = false := decide_eq_false (by omega)
    clear hs hb
    go_enter Try.func14, Try.ntmps14
    go_wp2_with fail
    refine (impl_sz n _ h1 h2).mono ?_
    rintro e w1 ⟨rfl, rfl⟩
    rw [HS.out]
    go_wp2_with fail
    refine (Try.bits_Len (m : Int) _ (by omega) (by omega)).mono ?_
    rintro e w' ⟨rfl, h⟩
    replace h := h.symm
    subst h
    rw [show (m : Int).toNat = m from rfl, (len_eq hm)]
    have hbl := blen_le m
    have hw1 : IntKind.i64.wrap ((blen m : Int) - 1) = (blen m : Int) - 1 := IntWalk.i64_in _ (by omega)
    go_wp2
    go_loopw [6, 7] (fun s6 s7 wr => ∃ (d : Nat) (A : Option Addr) (c : Nat), d ≤ blen m ∧ s7 = .int .i64 ((d : Int) - 1) ∧ s6 = .slice A (blen m - d) c ∧ Hid (wr.ownsRow w.heap.size 3 1 (.slice A (blen m - d) c) (blen m - d) (vals (bhi m d))) ∧ Below w.heap.size w wr) (fun _ s7 _ => (intOf s7 + 1).toNat)
    case atStart => exact ⟨blen m, none, 0, Nat.le_refl _, rfl, by rw [Nat.sub_self], by rw [Nat.sub_self, bhi_all]; exact World.ownsRow_nil _ _ _ _, Below.refl _ _⟩
    case round =>
      obtain ⟨d, A, c, hd, rfl, rfl, hown, hbw⟩ := hrel
      have hsz := hbw.size
      by_cases h0 : d = 0
      · subst h0
        rw [Nat.sub_zero] at hown
        go_wp2
        go_ret2
        exact ⟨A, c, by rw [bhi_len]; rfl, by rw [bhi_len]; exact hown.out, hbw⟩
      · have hd1 : 0 ≤ (d : Int) - 1 := by omega
        have hnx := Lib.hid (bhi_next hm (by omega) hd)
        have hbit := bit_eq hm (show d - 1 < 4 by omega)
        have hex : ((d : Int) - 1) = ((d - 1 : Nat) : Int) := by omega
        go_wp2_with (at_builtin; refine app_one rfl (.tmp 28) (.tmp 33) 24 rfl w.heap.size 3 i0 (.int .i64 0) 8 Try.underlying24 hi hz0 hz1 hz2 (by decide) rfl _ _ _ rfl hown.out _ rfl rfl (by omega) (by omega) ?_; intro g c4 w2 hown2 hb2)
        go_roundw
        case rel =>
          have e1 : blen m - d + 1 = blen m - (d - 1) := by omega
          have hv : vals (bhi m (d - 1)) = vals (bhi m d) ++ [.int .i64 (bdig m (d - 1))] := by rw [hnx.out]; simp [vals]
          refine ⟨d - 1, some ⟨g, 0, none⟩, c4, by omega, by rw [← hex], by rw [← e1], ?_, hbw.trans hb2⟩
          rw [← e1, hv]
          exact hown2
        case measure => simp [intOf]; omega
set_option maxHeartbeats 1000000 in
theorem spec_to (n a : Int) (w : World) (h1 : -9223372036854775808 ≤ n) (h2 : n ≤ 9223372036854775807) (h3 : -9223372036854775808 ≤ a) (h4 : a ≤ 9223372036854775807) :
    Calls Try.prog 32 #[.int .i64 n, .int .i64 a] w (IsILB w.heap.size (toF n a) (toB n a) w) := by
  obtain ⟨i0, hi, hz0, hz1, hz2⟩ := info_parts infoInt
  cases hb : toB n a with
  | false =>
    rw [toF_no hb]
    cases hs : szB n with
    | false =>
      have HS := Lib.hid hs
      clear hs hb
      go_enter Try.func32, Try.ntmps32
      go_wp2_with fail
      refine (spec_sz n _ h1 h2).mono ?_
      rintro e w1 ⟨rfl, rfl⟩
      rw [HS.out]
      go_wp2
      go_ret2
      exact nil_ilb _ _
    | true =>
      have hk : ¬ (0 ≤ a ∧ a ≤ n - 1) := fun h => by unfold toB at hb; rw [hs, decide_eq_true h] at hb; cases hb
      have HS := Lib.hid hs
      obtain ⟨p1, p2, _⟩ := sz_parts hs
      have hw1 : IntKind.i64.wrap (n - 1) = n - 1 := IntWalk.i64_in _ (by omega)
      have HK := Lib.hid hk
      clear hs hb hk
      go_enter Try.func32, Try.ntmps32
      go_wp2_with fail
      refine (spec_sz n _ h1 h2).mono ?_
      rintro e w1 ⟨rfl, rfl⟩
      rw [HS.out]
      go_wp2_with fail
      refine (in_no a 0 (n - 1) _ HK.out).mono ?_
      rintro e w' ⟨rfl, rfl⟩
      go_wp2
      go_ret2
      exact nil_ilb _ _
  | true =>
    rw [toF_yes hb]
    obtain ⟨hs, ha, han⟩ := to_parts hb
    obtain ⟨p1, p2, _⟩ := sz_parts hs
    obtain ⟨m, rfl⟩ : ∃ m : Nat, a = m := ⟨a.toNat, by omega⟩
    rw [show ((m : Int)).toNat = m from rfl]
    have hm : m < 12 := by omega
    have hw1 : IntKind.i64.wrap (n - 1) = n - 1 := IntWalk.i64_in _ (by omega)
    have HS := Lib.hid hs
    have HB0 := fun o => Lib.hid ((Below.refl w.heap.size w).alloc (Nat.le_refl _) o)
    obtain ⟨R, hR⟩ : ∃ R, R = bhi m 0 := ⟨_, rfl⟩
    have HI0 := Lib.hid (show bhi m 0 ++ [] = R by rw [List.append_nil, hR])
    have HR4 := Lib.hid (show R.length ≤ 4 by rw [hR, bhi_len]; exact blen_le m)
    rw [← hR]
    clear hs hb hR
    go_enter Try.func32, Try.ntmps32
    go_wp2_with fail
    refine (spec_sz n _ h1 h2).mono ?_
    rintro e w1 ⟨rfl, rfl⟩
    rw [HS.out]
    go_wp2_with fail
    refine (in_yes m 0 (n - 1) _ ha han).mono ?_
    rintro e w' ⟨rfl, rfl⟩
    go_wp2
    go_loopw [1, 6] (fun s1 s6 wr => ∃ (x j : Nat) (A : Option Addr) (c : Nat) (q : List Int), x < 12 ∧ s1 = .int .i64 (x : Int) ∧ s6 = .slice A j c ∧ Hid (bhi x 0 ++ q = R) ∧ wr.ownsRow w.heap.size 3 1 (.slice A j c) j (vals q) ∧ Below w.heap.size w wr) (fun s1 _ _ => (intOf s1).toNat)
    case atStart => exact ⟨m, 0, _, 0, [], hm, rfl, rfl, HI0, World.ownsRow_lit w #[] 0 (Nat.le_refl _) (Nat.zero_le _) rfl, (HB0 _).out⟩
    case round =>
      obtain ⟨x, j, A, c, q, hx, rfl, rfl, HI, hown, hbw⟩ := hrel
      have hszw := hbw.size
      have HQL := Lib.hid (row_len hown)
      clear HI0 HB0
      by_cases h0 : x = 0
      · subst h0
        have HQ := Lib.hid (show q = R from HI.out)
        rw [HQ.out] at hown HQL
        clear HI
        go_wp2
        go_ret2
        exact ⟨A, c, by rw [HQL.out]; rfl, by rw [HQL.out]; exact hown, hbw⟩
      · have hx0 : 0 < x := by omega
        have hx0' : (0 : Int) < (x : Int) := by omega
        have HI2 := Lib.hid (show bhi (x / 2) 0 ++ (((x % 2 : Nat) : Int) :: q) = R by
          have h := HI.out
          rw [bhi_half hx h0, List.append_assoc] at h
          exact h)
        have hj4 : j ≤ 4294967296 := by
          have h := congrArg List.length HI.out
          rw [List.length_append, HQL.out] at h
          have := HR4.out
          omega
        have hnil := row_nil hown
        have hspot := row_spot hown
        have ey : (x : Int) % 2 = ((x % 2 : Nat) : Int) := by omega
        obtain ⟨y, hy⟩ : ∃ y : Int, y = ((x % 2 : Nat) : Int) := ⟨_, rfl⟩
        have hy2 : (x : Int) % 2 = y := by omega
        rw [← hy] at HI2
        have HLIT := Lib.hid (World.ownsRow_lit (base := wr.heap.size) (e := 3) (size := 1) wr #[.int .i64 y] 1 (Nat.le_refl _) (by decide) rfl)
        have HQA := Lib.hid (ints_of (hown.alloc (.cells #[.int .i64 y] 3)))
        have HBA := Lib.hid (hbw.alloc hszw (.cells #[.int .i64 y] 3))
        have hsa : wr.heap.size ≤ (wr.alloc (.cells #[.int .i64 y] 3)).heap.size := by simp
        have hj1 : 1 + j = j + 1 := Nat.add_comm 1 j
        clear HI hown hbw ey hy
        go_wp2_with (at_builtin; refine app_any rfl (.tmp 22) (.tmp 23) 24 rfl wr.heap.size 3 i0 8 Try.underlying24 hi hz0 hz1 hz2 (by decide) _ 1 1 [y] rfl HLIT.out A j c q rfl HQL.out hnil _ HQA.out (by decide) hj4 hsa hspot ?_; intro A5 c5 w5 hown5 hgr5; have HB5 := Lib.hid (HBA.out.grown hgr5 HBA.out.size (fun b h => by have := (own_lo HLIT.out b h).1; omega)); have HO5 := Lib.hid (show w5.ownsRow w.heap.size 3 1 (.slice A5 (j + 1) c5) (j + 1) (vals (y :: q)) by rw [← hj1]; exact own_mono hown5 hszw); rw [hj1]; clear hown5 hgr5)
        go_roundw
        case rel => exact ⟨x / 2, j + 1, A5, c5, y :: q, by omega, by go_num, rfl, HI2, HO5.out, HB5.out⟩
        case measure => simp [intOf]; omega
end Go.Proofs.Ytpbpgpccjabghaa.Fto
