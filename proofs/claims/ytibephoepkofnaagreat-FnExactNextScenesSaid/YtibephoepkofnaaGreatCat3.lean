/- How many bits of a small number are 1 (bits.OnesCount), and one riffle of the program. slices.Concat of three lists. -/
import Derived.Test.YtibephoepkofnaaGreatWv
import Derived.Test.YtibephoepkofnaaGreatLb
import Derived.Test.YtibephoepkofnaaGreatMv4
import Derived.Laws.BitsLemmas
import Derived.Deep.CutRange
import Derived.Test.YtibephoepkofnaaGreatCat
set_option linter.unusedVariables false
set_option maxRecDepth 20000
namespace Go.Proofs.YtibephoepkofnaaGreat.Onc
open Go.RowKit Fr _root_.Go.Proofs.YtibephoepkofnaaGreat.Own Pk Ins Pfn Rws Lb Wv

def m0 : Nat := 6148914691236517205
def m1 : Nat := 3689348814741910323
def m2 : Nat := 1085102592571150095
def a1 (x : Nat) : Nat := (x / 2 &&& m0) + (x &&& m0)
def a2 (x : Nat) : Nat := (x / 4 &&& m1) + (x &&& m1)
def a3 (x : Nat) : Nat := (x / 16 + x) &&& m2
def a4 (x : Nat) : Nat := x + x / 256
def a5 (x : Nat) : Nat := x + x / 65536
def a6 (x : Nat) : Nat := x + x / 4294967296
def pc (x : Nat) : Nat := a6 (a5 (a4 (a3 (a2 (a1 x))))) &&& 127
theorem pc_all : ((List.range 4096).all fun x => pc x == (bitsN x 12).count true) = true := by kernel_rfl
theorem pc_eq {x : Nat} (h : x < 4096) : pc x = (bitsN x 12).count true := by
  have := List.all_eq_true.1 pc_all x (List.mem_range.2 h)
  simpa using this
theorem a1_le (x : Nat) : a1 x ≤ x / 2 + x := Nat.add_le_add Nat.and_le_left Nat.and_le_left
theorem a2_le (x : Nat) : a2 x ≤ x / 4 + x := Nat.add_le_add Nat.and_le_left Nat.and_le_left
theorem a3_le (x : Nat) : a3 x ≤ x / 16 + x := Nat.and_le_left
theorem wraps63 (n : Int) (h₀ : 0 ≤ n) (h₁ : n < 2 ^ 63) : IntKind.u64.wrap n = n := by rw [IntKind.wrap_u64]; omega
theorem and_n (a b : Nat) (ha : a < 9223372036854775808) (hb : b < 9223372036854775808) : bits .and .u64 (a : Int) (b : Int) = ((a &&& b : Nat) : Int) := (bits_nat .u64 63 (by decide) wraps63 a b ha hb).1
theorem and_i (a b : Nat) (ha : a < 9223372036854775808) (hb : b < 9223372036854775808) : bits .and .u64 ((a : Nat) : Int) (b : Int) = ((a &&& b : Nat) : Int) := and_n a b ha hb
theorem wr_n (a b : Nat) (h : a + b < 9223372036854775808) : IntKind.u64.wrap ((a : Int) + (b : Int)) = ((a + b : Nat) : Int) := by rw [wraps63 _ (by omega) (by omega)]; omega
theorem s1 (x : Nat) (h : x < 1099511627776) : IntKind.u64.wrap (bits .and .u64 ((x : Int) / 2) 6148914691236517205 + bits .and .u64 (x : Int) 6148914691236517205) = ((a1 x : Nat) : Int) := by
  have hl := a1_le x
  rw [show ((x : Int) / 2) = ((x / 2 : Nat) : Int) by omega, show (6148914691236517205 : Int) = ((m0 : Nat) : Int) from rfl, and_n _ _ (by omega) (by decide), and_n _ _ (by omega) (by decide), wr_n _ _ (by show a1 x < _; omega)]
  rfl
theorem s2 (x : Nat) (h : x < 1099511627776) : IntKind.u64.wrap (bits .and .u64 ((x : Int) / 4) 3689348814741910323 + bits .and .u64 (x : Int) 3689348814741910323) = ((a2 x : Nat) : Int) := by
  have hl := a2_le x
  rw [show ((x : Int) / 4) = ((x / 4 : Nat) : Int) by omega, show (3689348814741910323 : Int) = ((m1 : Nat) : Int) from rfl, and_n _ _ (by omega) (by decide), and_n _ _ (by omega) (by decide), wr_n _ _ (by show a2 x < _; omega)]
  rfl
theorem s3 (x : Nat) (h : x < 1099511627776) : bits .and .u64 ((x : Int) / 16 + (x : Int)) 1085102592571150095 = ((a3 x : Nat) : Int) := by
  rw [show ((x : Int) / 16 + (x : Int)) = ((x / 16 + x : Nat) : Int) by omega, show (1085102592571150095 : Int) = ((m2 : Nat) : Int) from rfl, and_n _ _ (by omega) (by decide)]
  rfl
theorem s4 (x : Nat) : (x : Int) + (x : Int) / 256 = ((a4 x : Nat) : Int) := by unfold a4; omega
theorem s5 (x : Nat) : (x : Int) + (x : Int) / 65536 = ((a5 x : Nat) : Int) := by unfold a5; omega
theorem s6 (x : Nat) : (x : Int) + (x : Int) / 4294967296 = ((a6 x : Nat) : Int) := by unfold a6; omega
set_option maxHeartbeats 1000000 in
theorem ones64 (x : Nat) (hx : x < 4096) (w : World) : Calls Tryz.prog 150 #[.int .u64 (x : Int)] w fun e w' => e = .returned (.int .i64 ((bitsN x 12).count true : Nat)) ∧ w = w' := by
  have HP := Lib.hid (pc_eq hx)
  go_enter Tryz.func150, Tryz.ntmps150
  go_upto_region 2 with fail
  rw [s1 x (by omega)]
  have l1 := a1_le x
  go_upto_region 3 with fail
  rw [s2 (a1 x) (by omega)]
  have l2 := a2_le (a1 x)
  go_upto_region 4 with fail
  rw [s3 (a2 (a1 x)) (by omega)]
  have l3 := a3_le (a2 (a1 x))
  go_upto_region 5 with fail
  rw [s4 (a3 (a2 (a1 x)))]
  have l4 : a4 (a3 (a2 (a1 x))) ≤ a3 (a2 (a1 x)) + a3 (a2 (a1 x)) / 256 := Nat.le_refl _
  go_upto_region 6 with fail
  rw [s5 (a4 (a3 (a2 (a1 x))))]
  have l5 : a5 (a4 (a3 (a2 (a1 x)))) ≤ a4 (a3 (a2 (a1 x))) + a4 (a3 (a2 (a1 x))) / 65536 := Nat.le_refl _
  go_upto_region 7 with fail
  rw [s6 (a5 (a4 (a3 (a2 (a1 x)))))]
  have l6 : a6 (a5 (a4 (a3 (a2 (a1 x))))) ≤ a5 (a4 (a3 (a2 (a1 x)))) + a5 (a4 (a3 (a2 (a1 x)))) / 4294967296 := Nat.le_refl _
  have hy : a6 (a5 (a4 (a3 (a2 (a1 x))))) < 1099511627776 := by omega
  have HE := Lib.hid (show bits .and .i64 ((a6 (a5 (a4 (a3 (a2 (a1 x))))) : Nat) : Int) 127 = (((bitsN x 12).count true : Nat) : Int) by
    rw [show (127 : Int) = ((127 : Nat) : Int) from rfl, (bits_nat .i64 63 (by decide) (fun n h0 h1 => IntWalk.i64_in n (by omega)) _ 127 (by omega) (by decide)).1]
    exact congrArg _ HP.out)
  clear l1 l2 l3 l4 l5 l6
  generalize a6 (a5 (a4 (a3 (a2 (a1 x))))) = y at *
  go_wp2
  go_ret
  exact ⟨congrArg (fun z => Ending.returned (.int .i64 z)) HE.out, rfl⟩
theorem ones (x : Nat) (hx : x < 4096) (w : World) : Calls Tryz.prog 143 #[.int .u64 (x : Int)] w fun e w' => e = .returned (.int .i64 ((bitsN x 12).count true : Nat)) ∧ w = w' := by
  go_enter Tryz.func143, Tryz.ntmps143
  go_wp2_with fail
  refine (ones64 x hx w).mono ?_
  rintro e w' ⟨rfl, rfl⟩
  go_wp2
  go_ret
  exact ⟨rfl, rfl⟩
theorem bitsN_more (w : Nat) : ∀ (n m : Nat), w < 2 ^ n → n ≤ m → (bitsN w m).count true = (bitsN w n).count true := by
  intro n m hw hm
  obtain ⟨d, rfl⟩ : ∃ d, m = n + d := ⟨m - n, by omega⟩
  unfold bitsN
  rw [List.range_add, List.map_append, List.count_append, List.map_map]
  have : ((List.range d).map ((fun i => w.testBit i) ∘ fun x => n + x)).count true = 0 := by
    rw [List.count_eq_zero]
    intro h
    obtain ⟨i, _, hi⟩ := List.mem_map.1 h
    have : w.testBit (n + i) = false := Nat.testBit_lt_two_pow (Nat.lt_of_lt_of_le hw (Nat.pow_le_pow_right (by decide) (by omega)))
    simp [this] at hi
  omega
theorem bits_drop (w n k : Nat) (h : k < n) : (bitsN w n).drop k = w.testBit k :: (bitsN w n).drop (k + 1) := by
  rw [List.drop_eq_getElem_cons (by rw [bitsN_len]; exact h)]
  congr 1
  simp [bitsN]
theorem bit_test (way k : Nat) (h : way < 4096) : (bits .and .u64 ((way : Int) / 2 ^ k) 1 == 1) = way.testBit k := by
  have e : ((way : Int) / 2 ^ k) = ((way / 2 ^ k : Nat) : Int) := by
    rw [Int.natCast_ediv]
    simp
  have hl : way / 2 ^ k < 9223372036854775808 := Nat.lt_of_le_of_lt (Nat.div_le_self _ _) (by omega)
  rw [e, show (1 : Int) = ((1 : Nat) : Int) from rfl, and_n _ _ hl (by decide), Nat.testBit_eq_decide_div_mod_eq, Nat.and_one_is_mod]
  rw [Bool.eq_iff_iff]
  simp only [beq_iff_eq, decide_eq_true_eq]
  omega
theorem il_of {w w' : World} {A : Option Addr} {n c : Nat} {R : List Int} (h : w'.ownsRow w.heap.size 3 1 (.slice A n c) n (vals R)) (hb : Below w.heap.size w w') : IsIL w.heap.size R w (.returned (.slice A n c)) w' := by
  have hl : R.length = n := by have := h.1; simpa [vals] using this
  subst hl
  exact ⟨A, c, rfl, h, hb⟩
set_option maxHeartbeats 2000000 in
theorem riffled_any (way : Nat) (A : Option Addr) (n c : Nat) (zs : List Int) (w : World) (hw : way < 2 ^ n) (hn : zs.length = n) (hnc : n ≤ c) (hpos : 1 ≤ n) (hn2 : n ≤ 12) (hat : IntsAt w w.heap.size .i64 A zs) :
    Calls Tryz.prog 130 #[.slice A n c, .int .u64 (way : Int)] w (IsIL w.heap.size (rifOf zs (bitsN way n)) w) := by
  have hw2 : way < 4096 := Nat.lt_of_lt_of_le hw (Nat.pow_le_pow_right (by decide) hn2)
  obtain ⟨i0, hi, hz0, hz1, hz2⟩ := info_parts infoInt
  obtain ⟨b, o, rfl⟩ : ∃ b o, A = some ⟨b, o, none⟩ := by
    obtain ⟨b, o, e, _⟩ := hat 0 (by omega)
    exact ⟨b, o, e⟩
  obtain ⟨size, hsz⟩ : ∃ s, s = (bitsN way n).count true := ⟨_, rfl⟩
  have hs12 : (bitsN way 12).count true = size := by rw [hsz]; exact bitsN_more way n 12 hw hn2
  have hsn : size ≤ n := by rw [hsz]; have := count_le (bitsN way n); rw [bitsN_len] at this; exact this
  have HO := Lib.hid (fun w => ones way hw2 w)
  rw [hs12] at HO
  have HSZ := Lib.hid hsz
  clear hs12 hsz
  obtain ⟨R, hR⟩ : ∃ R, R = rifOf zs (bitsN way n) := ⟨_, rfl⟩
  rw [← hR]
  have HRR := Lib.hid hR
  clear hR
  go_enter Tryz.func130, Tryz.ntmps130
  go_wp2_with fail
  refine (HO.out _).mono ?_
  rintro e w' ⟨rfl, rfl⟩
  go_upto_region 2 with fail
  have HST := Lib.hid (show ril ((bitsN way n).drop 0) (zs.take size) (zs.drop size) = R by rw [HRR.out, HSZ.out]; rfl)
  have HCT := Lib.hid (show ((bitsN way n).drop 0).count true = size from HSZ.out.symm)
  have HLN := Lib.hid (bitsN_len way n)
  have L1 := Lib.hid (show (zs.take size).length = size by rw [List.length_take, hn]; omega)
  have L2 := Lib.hid (show (zs.drop size).length = n - size by rw [List.length_drop, hn])
  have I1 := Lib.hid (show IntsAt w w.heap.size .i64 (some ⟨b, o, none⟩) (zs.take size) from Prm.ints_take size hat)
  have hsc : size ≤ c := by omega
  have HD := Lib.hid (bits_drop way n)
  generalize bitsN way n = L at *
  have HS2 : ∀ (v : Value), v = (if c = size then v else v) := fun v => by split <;> rfl
  clear HO hn HSZ HRR HS2
  have q1 : (0 : Int) ≤ (size : Int) := by omega
  have q2 : (size : Int) ≤ (c : Int) := by omega
  have q3 : (size : Int) ≤ (n : Int) := by omega
  go_cut [6, 7] from 10 (fun s6 s7 wx => ∃ (A2 : Option Addr) (c2 d : Nat), s6 = .slice (some ⟨b, o, none⟩) size c ∧ s7 = .slice A2 (n - size) c2 ∧ n - size ≤ c2 ∧ IntsAt w w.heap.size .i64 A2 (zs.drop size) ∧ wx = w.drewN d)
  case first =>
    by_cases hcs : c = size
    · subst hcs
      have hnn : n = c := by omega
      subst hnn
      have hz : zs.drop n = [] := List.length_eq_zero_iff.1 (by rw [L2.out]; omega)
      have HZ := Lib.hid hz
      clear L1 L2 HST HCT I1 hz
      go_wp2
      go_quiet (fail)
      go_wp2
      go_meet
      refine ⟨some ⟨b, o, none⟩, 0, _, rfl, by rw [Nat.sub_self], ?_, ?_, rfl⟩
      · omega
      · rw [HZ.out]; exact IntsAt.none_ _ _ _ _
    · have hcs2 : ¬ ((c : Int) = (size : Int)) := by omega
      have HI := Lib.hid (Mv1.ints_drop (k := size) hat)
      clear L1 L2 HST HCT I1
      go_wp2
      go_quiet (fail)
      go_wp2
      go_meet
      refine ⟨_, _, _, rfl, rfl, ?_, HI.out, rfl⟩
      omega
  case rest =>
  clear hat
  obtain ⟨A2, c2, d, rfl, rfl, hc2, hi2, rfl⟩ := hcut
  go_wp2
  go_loopw [6, 7, 8, 9, 20] (fun s6 s7 s8 _ i wr => ∃ (k : Nat) (A1 : Option Addr) (m1 c1 : Nat) (us : List Int) (A2 : Option Addr) (m2 c2 : Nat) (vs : List Int) (Aq : Option Addr) (cq : Nat) (ds : List Int), k ≤ n ∧ i = .int .i64 (k : Int) ∧
    s6 = .slice A1 m1 c1 ∧ s7 = .slice A2 m2 c2 ∧ s8 = .slice Aq k cq ∧ Hid (us.length = m1) ∧ Hid (vs.length = m2) ∧ m1 ≤ c1 ∧ m2 ≤ c2 ∧ IntsAt w w.heap.size .i64 A1 us ∧ IntsAt w w.heap.size .i64 A2 vs ∧ Hid ((L.drop k).count true = m1) ∧ m1 + m2 = n - k ∧
    Hid (ds ++ ril (L.drop k) us vs = R) ∧ wr.ownsRow w.heap.size 3 1 (.slice Aq k cq) k (vals ds) ∧ Below w.heap.size w wr) (fun _ _ _ _ i _ => n - (intOf i).toNat)
  case atStart => exact ⟨0, some ⟨b, o, none⟩, size, c, zs.take size, A2, n - size, c2, zs.drop size, none, 0, [], Nat.zero_le _, rfl, rfl, rfl, rfl, L1, L2, hsc, hc2, I1.out, hi2, HCT, by omega, HST, World.ownsRow_nil _ _ _ _, below_drewN (Below.refl _ _) _⟩
  case round =>
    clear HST HCT L1 L2 I1 hi2 hc2
    obtain ⟨k, A1, m1, c1, us, A2, m2, c2, vs, Aq, cq, ds, hk, rfl, rfl, rfl, rfl, HU, HV, hmc1, hmc2, hi1, hi2, HC, hmm, HX, hown, hb⟩ := hrel
    have hszw := hb.size
    by_cases hlt : k < n
    · have hbt := bit_test way k hw2
      have hdk := HD.out k hlt
      cases hbit : way.testBit k with
      | true =>
        rw [hbit] at hbt hdk
        have HC2 := Lib.hid (show (L.drop (k + 1)).count true + 1 = m1 by have h := HC.out; rw [hdk, List.count_cons_self] at h; exact h)
        obtain ⟨m, rfl⟩ : ∃ m, m1 = m + 1 := ⟨(L.drop (k + 1)).count true, HC2.out.symm⟩
        obtain ⟨x, us', rfl⟩ : ∃ x us', us = x :: us' := by
          cases us with
          | nil => exact absurd HU.out (by simp)
          | cons x us' => exact ⟨x, us', rfl⟩
        obtain ⟨b1, o1, rfl, hbb, hcx0⟩ := hi1 0 (by simp)
        have hcx : wr.cell? ⟨b1, o1, none⟩ = some (.int .i64 x) := (hb.cell (p := ⟨b1, o1, none⟩) hbb).trans hcx0
        have HU2 := Lib.hid (show us'.length = m by have := HU.out; simpa using this)
        have HX2 := Lib.hid (show (ds ++ [x]) ++ ril (L.drop (k + 1)) us' vs = R by rw [← HX.out, hdk]; simp [ril])
        have HC3 := Lib.hid (show (L.drop (k + 1)).count true = m by have := HC2.out; omega)
        have HI1 := Lib.hid hi1
        have HB := Lib.hid hb
        clear hi1 hcx0 HX HC HC2 HU hdk hbit
        by_cases hc1 : c1 = 1
        · subst hc1
          obtain rfl : m = 0 := by omega
          have hu0 : us' = [] := List.length_eq_zero_iff.1 HU2.out
          subst hu0
          go_wp2_with (at_builtin; refine app_more rfl (.tmp 28) (.tmp 32) 22 rfl w.heap.size 3 i0 (.int .i64 0) 8 Tryz.underlying22 hi hz0 hz1 hz2 (by decide) rfl Aq cq k _ rfl hown (.int .i64 x) rfl _ rfl rfl (by omega) (by omega) ?_; intro g6 c6 w6 hown6 hgr6)
          go_roundw
          case rel => exact ⟨k + 1, _, 0, _, [], A2, m2, c2, vs, _, c6, ds ++ [x], by omega, by go_num, rfl, rfl, by go_num, HU2, HV, Nat.zero_le _, hmc2, IntsAt.none_ _ _ _ _, hi2, HC3, by omega, HX2, (show _ from (by unfold vals at hown6 ⊢; rw [List.map_append]; exact hown6)), HB.out.grown hgr6 (by omega) (fun j hj => (own_lo hown j hj).1)⟩
          case measure => simp [intOf]; omega
        · have hc2 : ¬ ((c1 : Int) = 1) := by omega
          have hc3 : 1 ≤ c1 := by omega
          go_wp2_with (at_builtin; refine app_more rfl (.tmp 28) (.tmp 32) 22 rfl w.heap.size 3 i0 (.int .i64 0) 8 Tryz.underlying22 hi hz0 hz1 hz2 (by decide) rfl Aq cq k _ rfl hown (.int .i64 x) rfl _ rfl rfl (by omega) (by omega) ?_; intro g6 c6 w6 hown6 hgr6)
          go_roundw
          case rel => exact ⟨k + 1, _, m, _, us', A2, m2, c2, vs, _, c6, ds ++ [x], by omega, by go_num, rfl, rfl, by go_num, HU2, HV, by omega, hmc2, Mv1.ints_drop (k := 1) HI1.out, hi2, HC3, by omega, HX2, (show _ from (by unfold vals at hown6 ⊢; rw [List.map_append]; exact hown6)), HB.out.grown hgr6 (by omega) (fun j hj => (own_lo hown j hj).1)⟩
          case measure => simp [intOf]; omega
      | false =>
        rw [hbit] at hbt hdk
        have HC3 := Lib.hid (show (L.drop (k + 1)).count true = m1 by have h := HC.out; rw [hdk] at h; simpa using h)
        have hcl := count_le (L.drop (k + 1))
        rw [List.length_drop, HLN.out, HC3.out] at hcl
        obtain ⟨m, rfl⟩ : ∃ m, m2 = m + 1 := ⟨m2 - 1, by omega⟩
        clear hcl
        obtain ⟨x, vs', rfl⟩ : ∃ x vs', vs = x :: vs' := by
          cases vs with
          | nil => exact absurd HV.out (by simp)
          | cons x vs' => exact ⟨x, vs', rfl⟩
        obtain ⟨b1, o1, rfl, hbb, hcx0⟩ := hi2 0 (by simp)
        have hcx : wr.cell? ⟨b1, o1, none⟩ = some (.int .i64 x) := (hb.cell (p := ⟨b1, o1, none⟩) hbb).trans hcx0
        have HU2 := Lib.hid (show vs'.length = m by have := HV.out; simpa using this)
        have HX2 := Lib.hid (show (ds ++ [x]) ++ ril (L.drop (k + 1)) us vs' = R by rw [← HX.out, hdk]; simp [ril])
        have HI1 := Lib.hid hi2
        have HB := Lib.hid hb
        clear hi2 hcx0 HX HC HV hdk hbit
        by_cases hc1 : c2 = 1
        · subst hc1
          obtain rfl : m = 0 := by omega
          have hu0 : vs' = [] := List.length_eq_zero_iff.1 HU2.out
          subst hu0
          go_wp2_with (at_builtin; refine app_more rfl (.tmp 36) (.tmp 40) 22 rfl w.heap.size 3 i0 (.int .i64 0) 8 Tryz.underlying22 hi hz0 hz1 hz2 (by decide) rfl Aq cq k _ rfl hown (.int .i64 x) rfl _ rfl rfl (by omega) (by omega) ?_; intro g6 c6 w6 hown6 hgr6)
          go_roundw
          case rel => exact ⟨k + 1, A1, m1, c1, us, _, 0, _, [], _, c6, ds ++ [x], by omega, by go_num, rfl, rfl, by go_num, HU, HU2, hmc1, Nat.zero_le _, hi1, IntsAt.none_ _ _ _ _, HC3, by omega, HX2, (show _ from (by unfold vals at hown6 ⊢; rw [List.map_append]; exact hown6)), HB.out.grown hgr6 (by omega) (fun j hj => (own_lo hown j hj).1)⟩
          case measure => simp [intOf]; omega
        · have hc2 : ¬ ((c2 : Int) = 1) := by omega
          have hc3 : 1 ≤ c2 := by omega
          go_wp2_with (at_builtin; refine app_more rfl (.tmp 36) (.tmp 40) 22 rfl w.heap.size 3 i0 (.int .i64 0) 8 Tryz.underlying22 hi hz0 hz1 hz2 (by decide) rfl Aq cq k _ rfl hown (.int .i64 x) rfl _ rfl rfl (by omega) (by omega) ?_; intro g6 c6 w6 hown6 hgr6)
          go_roundw
          case rel => exact ⟨k + 1, A1, m1, c1, us, _, m, _, vs', _, c6, ds ++ [x], by omega, by go_num, rfl, rfl, by go_num, HU, HU2, hmc1, by omega, hi1, Mv1.ints_drop (k := 1) HI1.out, HC3, by omega, HX2, (show _ from (by unfold vals at hown6 ⊢; rw [List.map_append]; exact hown6)), HB.out.grown hgr6 (by omega) (fun j hj => (own_lo hown j hj).1)⟩
          case measure => simp [intOf]; omega
    · have hkn : k = n := by omega
      subst hkn
      have HR := Lib.hid (show ds = R by
        have h := HX.out
        rw [List.drop_eq_nil_of_le (by rw [HLN.out]; exact Nat.le_refl _)] at h
        simpa [ril] using h)
      have HE := Lib.hid (show IsIL w.heap.size R w (.returned (.slice Aq k cq)) wr by rw [← HR.out]; exact il_of hown hb)
      clear hown hb HX
      go_wp2
      go_ret
      exact HE.out
end Go.Proofs.YtibephoepkofnaaGreat.Onc

namespace Go.Proofs.YtibephoepkofnaaGreat.Cat3
open Go.RowKit Fr _root_.Go.Proofs.YtibephoepkofnaaGreat.Own Ins Pfn Rws Lb Cat
def pick3 {α : Type} (a b c : α) (j : Nat) : α := if j = 0 then a else if j = 1 then b else c
theorem three {P : Nat → Prop} (h0 : P 0) (h1 : P 1) (h2 : P 2) : ∀ j, j < 3 → P j := fun j hj => by
  rcases (show j = 0 ∨ j = 1 ∨ j = 2 by omega) with rfl | rfl | rfl
  · exact h0
  · exact h1
  · exact h2
theorem concat3 (w : World) (A0 A1 A2 : Option Addr) (n0 n1 n2 c0 c1 c2 : Nat) (z0 z1 z2 : List Int) (l0 : z0.length = n0) (l1 : z1.length = n1) (l2 : z2.length = n2) (b0 : n0 ≤ 4096) (b1 : n1 ≤ 4096) (b2 : n2 ≤ 4096)
    (e0 : A0 = none → c0 = 0) (e1 : A1 = none → c1 = 0) (e2 : A2 = none → c2 = 0) (s0 : ∀ a, A0 = some a → a.spot = none) (s1 : ∀ a, A1 = some a → a.spot = none) (s2 : ∀ a, A2 = some a → a.spot = none)
    (i0 : IntsAt w w.heap.size .i64 A0 z0) (i1 : IntsAt w w.heap.size .i64 A1 z1) (i2 : IntsAt w w.heap.size .i64 A2 z2) :
    Calls Tryz.prog 96 #[.slice (some ⟨w.heap.size, 0, none⟩) 3 3] (w.alloc (.cells #[.slice A0 n0 c0, .slice A1 n1 c1, .slice A2 n2 c2] 22)).drew
      (IsIL w.heap.size (z0 ++ z1 ++ z2) w) := by
  have hb : Below w.heap.size w (w.alloc (.cells #[.slice A0 n0 c0, .slice A1 n1 c1, .slice A2 n2 c2] 22)).drew := ((Below.refl w.heap.size w).alloc (Nat.le_refl _) _).drew
  have hn : (w.alloc (.cells #[.slice A0 n0 c0, .slice A1 n1 c1, .slice A2 n2 c2] 22)).drew.heap[w.heap.size]? = some (.cells #[.slice A0 n0 c0, .slice A1 n1 c1, .slice A2 n2 c2] 22 (0, 0)) := heap_alloc_new w _
  have hlt : w.heap.size < (w.alloc (.cells #[.slice A0 n0 c0, .slice A1 n1 c1, .slice A2 n2 c2] 22)).drew.heap.size := (Array.getElem?_eq_some_iff.1 hn).1
  generalize (w.alloc (.cells #[.slice A0 n0 c0, .slice A1 n1 c1, .slice A2 n2 c2] 22)).drew = V at *
  have hc : ∀ j, j < 3 → V.cell? ⟨w.heap.size, j, none⟩ = some (.slice (pick3 A0 A1 A2 j) (pick3 n0 n1 n2 j) (pick3 c0 c1 c2 j)) := by
    refine three ?_ ?_ ?_ <;> (unfold World.cell?; rw [hn]; rfl)
  have h := concat_any w.heap.size 3 3 (pick3 A0 A1 A2) (pick3 n0 n1 n2) (pick3 c0 c1 c2) (pick3 z0 z1 z2) V (Nat.le_refl _) hc hlt (three l0 l1 l2) (three b0 b1 b2) (three e0 e1 e2) (three s0 s1 s2)
    (three ((i0.below hb).more hb.size) ((i1.below hb).more hb.size) ((i2.below hb).more hb.size))
  refine h.mono ?_
  rintro e w' ⟨A, c, rfl, ho, hb2⟩
  have e3 : cat (pick3 z0 z1 z2) 3 = z0 ++ z1 ++ z2 := by
    show (([] ++ z0) ++ z1) ++ z2 = _
    rw [List.nil_append]
  rw [e3] at ho ⊢
  exact ⟨A, c, rfl, own_mono ho hb.size, hb.trans (hb2.mono hb.size)⟩
end Go.Proofs.YtibephoepkofnaaGreat.Cat3
