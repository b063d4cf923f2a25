/- What an element of a packet stands for: the functions CardOf, IsUp and TurnCard of the program and of the model, and l01In, for every integer. What the laws' helpers over lists of integers do: toIntS copies, eqIntS compares, markIntS writes marks and heldIntS looks whether they are still there. Lists of elements: CountUp, PositionOf and SamePacket of the program and of the model, for every list of ints. -/
import Derived.Test.YtibephoepkofnaaOwn
import Derived.BigQuiet
import Derived.Deep.QuietTactic
set_option linter.unusedVariables false
set_option maxRecDepth 20000
namespace Go.Proofs.Ytibephoepkofnaa.Pk
open Go.RowKit Fr Own

/-- the card that an element stands for, or -1 -/
def cardF (x : Int) : Int := if 0 ≤ x ∧ x ≤ 11 then x else if -12 ≤ x ∧ x ≤ -1 then -1 - x else -1
def upB (x : Int) : Bool := decide (-12 ≤ x ∧ x ≤ -1)
def turnF (x : Int) : Int := if -12 ≤ x ∧ x ≤ 11 then -1 - x else x
theorem cardF_down {x : Int} (h1 : 0 ≤ x) (h2 : x ≤ 11) : cardF x = x := by unfold cardF; rw [if_pos (by omega)]
theorem cardF_up {x : Int} (h1 : -12 ≤ x) (h2 : x < 0) : cardF x = -1 - x := by unfold cardF; rw [if_neg (by omega), if_pos (by omega)]
theorem cardF_none {x : Int} (h : ¬ (-12 ≤ x ∧ x ≤ 11)) : cardF x = -1 := by unfold cardF; rw [if_neg (by omega), if_neg (by omega)]
theorem cardF_bd (x : Int) : -1 ≤ cardF x ∧ cardF x ≤ 11 := by unfold cardF; split <;> (try split) <;> omega
theorem cardF_pos {x : Int} (h : 0 ≤ cardF x) : -12 ≤ x ∧ x ≤ 11 := by
  by_cases h1 : -12 ≤ x ∧ x ≤ 11
  · exact h1
  · rw [cardF_none h1] at h; omega

theorem ret_i {a b : Int} (h : a = b) : Ending.returned (.int .i64 a) = .returned (.int .i64 b) := by rw [h]
theorem ret_b {a b : Bool} (h : a = b) : Ending.returned (.bool a) = .returned (.bool b) := by rw [h]

theorem in_yes (n lo hi : Int) (w : World) (h1 : lo ≤ n) (h2 : n ≤ hi) :
    Calls Try.prog 28 #[.int .i64 n, .int .i64 lo, .int .i64 hi] w fun e w' => e = .returned (.bool true) ∧ w = w' := by
  go_enter Try.func28, Try.ntmps28
  go_wp2
  go_ret
  exact ⟨rfl, rfl⟩
theorem in_no (n lo hi : Int) (w : World) (h : ¬ (lo ≤ n ∧ n ≤ hi)) :
    Calls Try.prog 28 #[.int .i64 n, .int .i64 lo, .int .i64 hi] w fun e w' => e = .returned (.bool false) ∧ w = w' := by
  by_cases h1 : lo ≤ n
  · have h3 : decide (n ≤ hi) = false := decide_eq_false (by omega)
    clear h
    go_enter Try.func28, Try.ntmps28
    go_wp2
    go_ret
    exact ⟨rfl, rfl⟩
  · have h3 : decide (lo ≤ n) = false := decide_eq_false (by omega)
    clear h
    go_enter Try.func28, Try.ntmps28
    go_wp2
    go_ret
    exact ⟨rfl, rfl⟩
/-- l01In at any arguments -/
theorem in_any (n lo hi : Int) (w : World) :
    Calls Try.prog 28 #[.int .i64 n, .int .i64 lo, .int .i64 hi] w fun e w' => e = .returned (.bool (decide (lo ≤ n ∧ n ≤ hi))) ∧ w = w' := by
  by_cases h : lo ≤ n ∧ n ≤ hi
  · rw [decide_eq_true h]; exact in_yes n lo hi w h.1 h.2
  · rw [decide_eq_false h]; exact in_no n lo hi w h

theorem impl_card (x : Int) (w : World) (h1 : -9223372036854775808 ≤ x) (h2 : x ≤ 9223372036854775807) :
    Calls Try.prog 50 #[.int .i64 x] w fun e w' => e = .returned (.int .i64 (cardF x)) ∧ w = w' := by
  by_cases h : x < 0
  · by_cases h3 : -12 ≤ x
    · have E := Lib.hid (cardF_up h3 h)
      go_enter Try.func50, Try.ntmps50
      go_wp2
      go_ret
      exact ⟨ret_i E.out.symm, rfl⟩
    · have E := Lib.hid (cardF_none (x := x) (by omega))
      go_enter Try.func50, Try.ntmps50
      go_wp2
      go_ret
      exact ⟨ret_i E.out.symm, rfl⟩
  · by_cases h3 : x ≤ 11
    · have E := Lib.hid (cardF_down (by omega) h3)
      go_enter Try.func50, Try.ntmps50
      go_wp2
      go_ret
      exact ⟨ret_i E.out.symm, rfl⟩
    · have E := Lib.hid (cardF_none (x := x) (by omega))
      go_enter Try.func50, Try.ntmps50
      go_wp2
      go_ret
      exact ⟨ret_i E.out.symm, rfl⟩
theorem spec_card (x : Int) (w : World) (h1 : -9223372036854775808 ≤ x) (h2 : x ≤ 9223372036854775807) :
    Calls Try.prog 54 #[.int .i64 x] w fun e w' => e = .returned (.int .i64 (cardF x)) ∧ w = w' := by
  by_cases h : 0 ≤ x ∧ x ≤ 11
  · obtain ⟨ha, hb⟩ := h
    have E := Lib.hid (cardF_down ha hb)
    go_enter Try.func54, Try.ntmps54
    go_wp2_with (go_at_call 28; refine (in_yes _ _ _ _ ha hb).mono ?_; rintro e w' ⟨rfl, rfl⟩)
    go_ret
    exact ⟨ret_i E.out.symm, rfl⟩
  · by_cases h3 : -12 ≤ x ∧ x ≤ -1
    · have E := Lib.hid (cardF_up h3.1 (by omega))
      have h3a := h3.1
      go_enter Try.func54, Try.ntmps54
      go_wp2_with fail
      refine (in_no _ _ _ _ h).mono ?_
      rintro e w' ⟨rfl, rfl⟩
      go_wp2_with fail
      refine (in_yes _ _ _ _ h3.1 h3.2).mono ?_
      rintro e w' ⟨rfl, rfl⟩
      have hx1 : x ≤ -1 := h3.2
      clear h h3
      go_wp2
      go_ret
      exact ⟨ret_i E.out.symm, rfl⟩
    · have E := Lib.hid (cardF_none (x := x) (by omega))
      go_enter Try.func54, Try.ntmps54
      go_wp2_with fail
      refine (in_no _ _ _ _ h).mono ?_
      rintro e w' ⟨rfl, rfl⟩
      go_wp2_with fail
      refine (in_no _ _ _ _ h3).mono ?_
      rintro e w' ⟨rfl, rfl⟩
      clear h h3
      go_wp2
      go_ret
      exact ⟨ret_i E.out.symm, rfl⟩
theorem spec_up (x : Int) (w : World) :
    Calls Try.prog 69 #[.int .i64 x] w fun e w' => e = .returned (.bool (upB x)) ∧ w = w' := by
  go_enter Try.func69, Try.ntmps69
  go_wp2_with fail
  refine (in_any _ _ _ _).mono ?_
  rintro e w' ⟨rfl, rfl⟩
  go_wp2
  go_ret
  exact ⟨ret_b (a := decide (-12 ≤ x) && decide (x ≤ -1)) (by unfold upB; simp), rfl⟩
theorem impl_up (x : Int) (w : World) (h1 : -9223372036854775808 ≤ x) (h2 : x ≤ 9223372036854775807) :
    Calls Try.prog 65 #[.int .i64 x] w fun e w' => e = .returned (.bool (upB x)) ∧ w = w' := by
  by_cases h : x < 0
  · by_cases h3 : -12 ≤ x
    · have E := Lib.hid (show upB x = true from decide_eq_true (by omega))
      have hc : 0 ≤ cardF x := by rw [cardF_up h3 h]; omega
      go_enter Try.func65, Try.ntmps65
      go_wp2_with (go_at_call 50; refine (impl_card _ _ h1 h2).mono ?_; rintro e w' ⟨rfl, rfl⟩)
      go_ret
      exact ⟨ret_b E.out.symm, rfl⟩
    · have E := Lib.hid (show upB x = false from decide_eq_false (by omega))
      have hc : decide (0 ≤ cardF x) = false := decide_eq_false (by rw [cardF_none (by omega)]; omega)
      go_enter Try.func65, Try.ntmps65
      go_wp2_with (go_at_call 50; refine (impl_card _ _ h1 h2).mono ?_; rintro e w' ⟨rfl, rfl⟩)
      go_ret
      exact ⟨ret_b E.out.symm, rfl⟩
  · have E := Lib.hid (show upB x = false from decide_eq_false (by omega))
    have h' : decide (x < 0) = false := decide_eq_false h
    go_enter Try.func65, Try.ntmps65
    go_wp2
    go_ret
    exact ⟨ret_b E.out.symm, rfl⟩
theorem impl_turn (x : Int) (w : World) (h1 : -9223372036854775808 ≤ x) (h2 : x ≤ 9223372036854775807) :
    Calls Try.prog 96 #[.int .i64 x] w fun e w' => e = .returned (.int .i64 (turnF x)) ∧ w = w' := by
  by_cases h : -12 ≤ x ∧ x ≤ 11
  · have E := Lib.hid (show turnF x = -1 - x from by unfold turnF; rw [if_pos h])
    have hc : 0 ≤ cardF x := by unfold cardF; split <;> (try split) <;> omega
    obtain ⟨ha, hb⟩ := h
    go_enter Try.func96, Try.ntmps96
    go_wp2_with (go_at_call 50; refine (impl_card _ _ h1 h2).mono ?_; rintro e w' ⟨rfl, rfl⟩)
    go_ret
    exact ⟨ret_i E.out.symm, rfl⟩
  · have E := Lib.hid (show turnF x = x from by unfold turnF; rw [if_neg h])
    have hc : cardF x < 0 := by rw [cardF_none h]; omega
    clear h
    go_enter Try.func96, Try.ntmps96
    go_wp2_with (go_at_call 50; refine (impl_card _ _ h1 h2).mono ?_; rintro e w' ⟨rfl, rfl⟩)
    go_ret
    exact ⟨ret_i E.out.symm, rfl⟩

end Go.Proofs.Ytibephoepkofnaa.Pk

namespace Go.Proofs.Ytibephoepkofnaa.Ins
open Go.RowKit Fr Own

theorem infoInt : (Try.prog.info? 3).map (fun i => (i.zero, i.size, i.bytes)) = some (some (.int .i64 0), 1, 8) := by kernel_rfl

/-- every element is an int -/
def Fits (zs : List Int) : Prop := ∀ i, i < zs.length → -9223372036854775808 ≤ zs.getD i 0 ∧ zs.getD i 0 ≤ 9223372036854775807
theorem wf_lo {n : Int} (h : (Lit.int .i64 n).wf = true) : -9223372036854775808 ≤ n ∧ n ≤ 9223372036854775807 := by
  simpa [Lit.wf, IntKind.min, IntKind.max, IntKind.signed, IntKind.bits] using h
theorem wf_hi {n : Int} (h1 : -9223372036854775808 ≤ n) (h2 : n ≤ 9223372036854775807) : (Lit.int .i64 n).wf = true := by
  simp [Lit.wf, IntKind.min, IntKind.max, IntKind.signed, IntKind.bits]; omega
theorem fits_of {zs : List Int} (h : ∀ z ∈ zs, (Lit.int .i64 z).wf = true) : Fits zs := by
  intro i hi
  have e : zs.getD i 0 = zs[i] := by rw [List.getD_eq_getElem?_getD, List.getElem?_eq_getElem hi]; rfl
  rw [e]
  exact wf_lo (h _ (List.getElem_mem _))

/-- a row of the call's own reads as its list -/
theorem own_ints {w : World} {base g n cap : Nat} {zs : List Int} (h : w.ownsRow base 3 1 (.slice (some ⟨g, 0, none⟩) n cap) n (zs.map (Value.int .i64))) : IntsAt w (g + 1) .i64 (some ⟨g, 0, none⟩) zs := by
  intro k hk
  have hl : zs.length = n := by simpa using h.1
  refine ⟨g, 0, rfl, by omega, ?_⟩
  rw [Nat.zero_add, h.cellAt k (by omega)]
  simp [List.getElem?_map, List.getElem?_eq_getElem hk, List.getD_eq_getElem?_getD]
theorem own_ilen {w : World} {B g n c : Nat} {zs : List Int} (h : w.ownsRow B 3 1 (.slice (some ⟨g, 0, none⟩) n c) n (zs.map (Value.int .i64))) : zs.length = n := by
  have := h.1; simpa using this

/-- the value of a row that one owns: nil, or at the start of a block -/
theorem own_shape {w : World} {B : Nat} {e : TypeId} {A : Option Addr} {n c : Nat} {xs : List Value} (h : w.ownsRow B e 1 (.slice A n c) n xs) (hn : 0 < n) : ∃ g, A = some ⟨g, 0, none⟩ := by
  rcases h.2 with ⟨_, h0⟩ | ⟨g, cap, cur, hv, _⟩
  · omega
  · simp only [Value.slice.injEq] at hv
    exact ⟨g, hv.1⟩
/-- an owned row reads as its list -/
theorem ints_of {w : World} {B : Nat} {A : Option Addr} {n c : Nat} {zs : List Int} (h : w.ownsRow B 3 1 (.slice A n c) n (zs.map (Value.int .i64))) : IntsAt w w.heap.size .i64 A zs := by
  intro k hk
  have hl : zs.length = n := by simpa using h.1
  obtain ⟨g, rfl⟩ := own_shape h (by omega)
  have hg := h.lt g rfl
  obtain ⟨b, o, e, hb, hc⟩ := own_ints h k hk
  exact ⟨b, o, e, by simp only [Option.some.injEq, Addr.mk.injEq] at e; omega, hc⟩
/-- a call hands back a list of ints in memory of its own (or nil) and writes nothing below B -/
def IsIL (B : Nat) (zs : List Int) (w : World) (e : Ending) (w' : World) : Prop :=
  ∃ A c, e = .returned (.slice A zs.length c) ∧ w'.ownsRow B 3 1 (.slice A zs.length c) zs.length (zs.map (Value.int .i64)) ∧ Below B w w'
theorem nil_il (w : World) (B : Nat) : IsIL B [] w (.returned (.slice none 0 0)) w := ⟨none, 0, rfl, World.ownsRow_nil _ _ _ _, Below.refl _ _⟩

/-- what the copy holds after k rounds -/
def icopied (zs : List Int) (n k : Nat) : List Value := (zs.take k).map (Value.int .i64) ++ List.replicate (n - k) (.int .i64 0)
theorem icopied_all (zs : List Int) (n : Nat) (h : zs.length = n) : icopied zs n n = zs.map (Value.int .i64) := by
  unfold icopied
  rw [Nat.sub_self, List.replicate_zero, List.append_nil, List.take_of_length_le (by omega)]
theorem icopied_next (zs : List Int) (n k : Nat) (h : zs.length = n) (hk : k < n) : (icopied zs n k).set k (.int .i64 (zs.getD k 0)) = icopied zs n (k + 1) := by
  have hl : ((zs.take k).map (Value.int .i64)).length = k := by simp; omega
  unfold icopied
  rw [List.set_append_right (h := by omega), hl, Nat.sub_self]
  obtain ⟨m, hm⟩ : ∃ m, n - k = m + 1 := ⟨n - k - 1, by omega⟩
  rw [hm, List.replicate_succ, List.set_cons_zero, show n - (k + 1) = m from by omega, List.take_succ_eq_append_getElem (show k < zs.length by omega)]
  simp only [List.map_append, List.map_cons, List.map_nil, List.append_assoc, List.cons_append, List.nil_append, List.getD_eq_getElem?_getD, List.getElem?_eq_getElem (show k < zs.length by omega), Option.getD_some]

def IsICopy (B : Nat) (n : Nat) (zs : List Int) (w : World) (e : Ending) (w' : World) : Prop :=
  ∃ g, e = .returned (.slice (some ⟨g, 0, none⟩) n n) ∧ B ≤ g ∧ w'.ownsRow B 3 1 (.slice (some ⟨g, 0, none⟩) n n) n (zs.map (Value.int .i64)) ∧ Below B w w'

set_option maxHeartbeats 1000000 in
theorem to_any (A : Option Addr) (n c : Nat) (zs : List Int) (w : World) (hn : zs.length = n) (hn2 : n ≤ 1048576) (hss : IntsAt w w.heap.size .i64 A zs) :
    Calls Try.prog 37 #[.slice A n c] w (IsICopy w.heap.size n zs w) := by
  have HN := Lib.hid hn
  clear hn
  obtain ⟨i0, hi, hz0, hz1, hz2⟩ := info_parts infoInt
  go_enter Try.func37, Try.ntmps37
  go_wp2_with (refine wpList_make_full _ rfl (.tmp 6) (.tmp 6) 32 rfl w.heap.size 3 i0 (.int .i64 0) 1 Try.underlying32 hi hz0 hz1 .i64 .i64 n n n rfl rfl rfl rfl (by rw [hz2]; omega) (by unfold maxLen; omega) (Nat.le_refl _) ?_)
  intro w1 hown hgrow
  have hb0 : Below w.heap.size w w1 := (Below.refl _ w).grown hgrow (Nat.le_refl _) (fun k hk => by cases hk)
  have hown0 : w1.ownsRow w.heap.size 3 1 (.slice (some ⟨w.heap.size, 0, none⟩) n n) n (icopied zs n 0) := by
    have e : (madeCells #[Value.int .i64 0] n).toList = icopied zs n 0 := by
      rw [toList_madeCells_one]
      rfl
    rw [← e]
    simpa using hown
  clear hown hgrow
  go_wp2
  go_loopw [4] (fun i wr => ∃ k : Nat, k ≤ n ∧ i = .int .i64 k ∧ wr.ownsRow w.heap.size 3 1 (.slice (some ⟨w.heap.size, 0, none⟩) n n) n (icopied zs n k) ∧ Below w.heap.size w wr) (fun i _ => n - (intOf i).toNat)
  case atStart => exact ⟨0, Nat.zero_le _, rfl, hown0, hb0⟩
  case round =>
    obtain ⟨k, hk, rfl, hownk, hbk⟩ := hrel
    by_cases hlt : k < n
    · obtain ⟨b, o, rfl, hbb, hc⟩ := hss.below hbk k (by rw [HN.out]; exact hlt)
      have hnext := icopied_next zs n k HN.out hlt
      generalize zs.getD k 0 = x at hnext hc
      have hst := hownk.stored k (.int .i64 x)
      rw [hnext] at hst
      have hlen : (icopied zs n k).length = n := by have := hownk.1; omega
      have hcell : wr.cell? ⟨w.heap.size, k, none⟩ = some ((icopied zs n k)[k]'(by omega)) := by
        rw [hownk.cellAt k (by omega)]; exact List.getElem?_eq_getElem (by omega)
      have hfz := hownk.frozenAt k
      generalize (icopied zs n k)[k]'(by omega) = old at hcell
      have hb2 := hbk.setCell (p := ⟨w.heap.size, k, none⟩) (Nat.le_refl _) (.int .i64 x)
      have HST := Lib.hid hst
      have HB2 := Lib.hid hb2
      clear hnext hst hlen hb2 hownk hbk
      go_wp2
      go_roundw
      case rel => exact ⟨k + 1, by omega, by go_num, HST.out.1, HB2.out⟩
      case measure => simp [intOf]; omega
    · have hkn : k = n := by omega
      rw [hkn, icopied_all zs n HN.out] at hownk
      have HO := Lib.hid hownk
      clear hownk hkn
      go_wp2
      go_ret
      exact ⟨w.heap.size, rfl, Nat.le_refl _, HO.out, hbk⟩

set_option maxHeartbeats 1000000 in
theorem eq_same (A1 A2 : Option Addr) (n c1 c2 : Nat) (zs : List Int) (w : World) (hn : zs.length = n) (hn2 : n ≤ 4194304) (h1 : IntsAt w w.heap.size .i64 A1 zs) (h2 : IntsAt w w.heap.size .i64 A2 zs) :
    Calls Try.prog 41 #[.slice A1 n c1, .slice A2 n c2] w fun e w' => e = .returned (.bool true) ∧ Below w.heap.size w w' := by
  have HN := Lib.hid hn
  clear hn
  go_enter Try.func41, Try.ntmps41
  go_wp2
  go_loopw [5] (fun i wr => ∃ k : Nat, k ≤ n ∧ i = .int .i64 k ∧ ∃ d, wr = w.drewN d) (fun i _ => n - (intOf i).toNat)
  case atStart => exact ⟨0, Nat.zero_le _, rfl, 0, rfl⟩
  case round =>
    obtain ⟨k, hk, rfl, d, rfl⟩ := hrel
    by_cases hlt : k < n
    · obtain ⟨b1, o1, rfl, hbb1, hc1⟩ := h1 k (by rw [HN.out]; exact hlt)
      obtain ⟨b2, o2, rfl, hbb2, hc2⟩ := h2 k (by rw [HN.out]; exact hlt)
      generalize zs.getD k 0 = x at hc1 hc2
      go_wp2
      go_quiet (fail)
      go_wp2
      go_roundw
      case rel => exact ⟨k + 1, by omega, by go_num, _, rfl⟩
      case measure => simp [intOf]; omega
    · go_wp2
      go_ret
      exact ⟨rfl, below_drewN (Below.refl _ w) d⟩

/-! ### marks -/

/-- the numbers from k on -/
def imarks (k : Int) (n : Nat) : List Int := (List.range n).map fun i : Nat => k + (i : Int)
theorem imarks_length (k : Int) (n : Nat) : (imarks k n).length = n := by simp [imarks]
theorem imarks_get (k : Int) (n i : Nat) (h : i < n) : (imarks k n).getD i 0 = k + (i : Int) := by
  simp [imarks, List.getD_eq_getElem?_getD, h]
def imarked (k : Int) (n i : Nat) (xs : List Value) : List Value := ((imarks k n).take i).map (Value.int .i64) ++ xs.drop i
theorem imarked_zero (k : Int) (n : Nat) (xs : List Value) : imarked k n 0 xs = xs := by simp [imarked]
theorem imarked_all (k : Int) (n : Nat) (xs : List Value) (h : xs.length = n) : imarked k n n xs = (imarks k n).map (Value.int .i64) := by
  unfold imarked
  rw [List.take_of_length_le (by rw [imarks_length]; omega), List.drop_eq_nil_of_le (by omega), List.append_nil]
theorem imarked_next (k : Int) (n i : Nat) (xs : List Value) (h : xs.length = n) (hi : i < n) : (imarked k n i xs).set i (.int .i64 (k + (i : Int))) = imarked k n (i + 1) xs := by
  have hm := imarks_length k n
  have hl : (((imarks k n).take i).map (Value.int .i64)).length = i := by simp; omega
  unfold imarked
  rw [List.set_append_right (h := by omega), hl, Nat.sub_self, List.drop_eq_getElem_cons (by omega), List.set_cons_zero, List.take_succ_eq_append_getElem (show i < (imarks k n).length by omega)]
  have hg := imarks_get k n i hi
  rw [List.getD_eq_getElem?_getD, List.getElem?_eq_getElem (show i < (imarks k n).length by omega), Option.getD_some] at hg
  simp only [List.map_append, List.map_cons, List.map_nil, List.append_assoc, List.cons_append, List.nil_append, hg]

theorem grown_trans {a b c : World} {row : Option Nat} (h : a.grownBy b row) (k : b.grownBy c row) : a.grownBy c row :=
  ⟨k.os.trans h.os, k.tape.trans h.tape, k.output.trans h.output, Nat.le_trans h.size k.size, fun i hi hr => (k.block i (Nat.lt_of_lt_of_le hi h.size) hr).trans (h.block i hi hr)⟩

def IMarked (B : Nat) (k : Int) (n : Nat) (A : Option Addr) (c : Nat) (w : World) (e : Ending) (w' : World) : Prop :=
  e = .returned (.int .i64 (k + (n : Int))) ∧ w'.ownsRow B 3 1 (.slice A n c) n ((imarks k n).map (Value.int .i64)) ∧ w.grownBy w' (A.map (·.block))

set_option maxHeartbeats 1000000 in
theorem mark_any (B : Nat) (k : Int) (n : Nat) (A : Option Addr) (c : Nat) (xs : List Value) (w : World) (hk0 : 0 ≤ k) (hkn : k + n ≤ 1073741824) (hown : w.ownsRow B 3 1 (.slice A n c) n xs) :
    Calls Try.prog 44 #[.slice A n c, .int .i64 k] w (IMarked B k n A c w) := by
  have hxl : xs.length = n := by have := hown.1; omega
  have HXL := Lib.hid hxl
  clear hxl
  have hown0 : w.ownsRow B 3 1 (.slice A n c) n (imarked k n 0 xs) := by rw [imarked_zero]; exact hown
  go_enter Try.func44, Try.ntmps44
  go_wp2
  go_loopw [1, 5] (fun q i wr => ∃ j : Nat, j ≤ n ∧ i = .int .i64 j ∧ q = .int .i64 (k + (j : Int)) ∧ wr.ownsRow B 3 1 (.slice A n c) n (imarked k n j xs) ∧ w.grownBy wr (A.map (·.block))) (fun _ i _ => n - (intOf i).toNat)
  case atStart => exact ⟨0, Nat.zero_le _, rfl, by simp, hown0, World.grownBy.refl w _⟩
  case round =>
    obtain ⟨j, hj, rfl, rfl, hownj, hbj⟩ := hrel
    by_cases hlt : j < n
    · obtain ⟨g, rfl⟩ := own_shape hownj (by omega)
      have hnext := imarked_next k n j xs HXL.out hlt
      have hlen : (imarked k n j xs).length = n := by have := hownj.1; omega
      have hst := hownj.stored j (.int .i64 (k + (j : Int)))
      rw [hnext] at hst
      have hcell : wr.cell? ⟨g, j, none⟩ = some ((imarked k n j xs)[j]'(by rw [hlen]; exact hlt)) := by
        rw [hownj.cellAt j (by omega)]; exact List.getElem?_eq_getElem (by rw [hlen]; exact hlt)
      have hfz := hownj.frozenAt j
      generalize (imarked k n j xs)[j]'(by rw [hlen]; exact hlt) = old at hcell
      have hb2 : w.grownBy _ ((some (⟨g, 0, none⟩ : Addr)).map (·.block)) := grown_trans hbj hst.2
      have HST := Lib.hid hst
      have HB2 := Lib.hid hb2
      clear hst hb2 hownj hown hown0 hnext hlen hbj
      go_wp2
      go_roundw
      case rel => exact ⟨j + 1, by omega, by go_num, by go_num, HST.out.1, HB2.out⟩
      case measure => simp [intOf]; omega
    · have hjn : j = n := by omega
      rw [hjn, imarked_all k n xs HXL.out] at hownj
      have HO := Lib.hid hownj
      have HJ := Lib.hid hjn
      have HBJ := Lib.hid hbj
      clear hownj hjn hown hown0 hbj
      go_wp2
      go_ret
      exact ⟨congrArg (fun z : Nat => Ending.returned (.int .i64 (k + (z : Int)))) HJ.out, HO.out, HBJ.out⟩
set_option maxHeartbeats 1000000 in
theorem held_any (k : Int) (n c : Nat) (A : Option Addr) (w : World) (hk0 : 0 ≤ k) (hkn : k + n ≤ 1073741824) (hss : IntsAt w w.heap.size .i64 A (imarks k n)) :
    Calls Try.prog 46 #[.slice A n c, .int .i64 k] w fun e w' => e = .returned (.int .i64 (k + (n : Int))) ∧ w = w' := by
  go_enter Try.func46, Try.ntmps46
  go_wp2
  go_loop [1, 5] (fun q i => ∃ j : Nat, j ≤ n ∧ i = .int .i64 j ∧ q = .int .i64 (k + (j : Int))) (fun _ i => n - (intOf i).toNat)
  case atStart => exact ⟨0, Nat.zero_le _, rfl, by simp⟩
  case round =>
    obtain ⟨j, hj, rfl, rfl⟩ := hrel
    by_cases hlt : j < n
    · obtain ⟨b, o, rfl, hbb, hc⟩ := hss j (by rw [imarks_length]; exact hlt)
      rw [imarks_get k n j hlt] at hc
      go_wp2
      go_round
      case rel => exact ⟨j + 1, by omega, by go_num, by go_num⟩
      case measure => simp [intOf]; omega
    · have hjn : j = n := by omega
      have HJ := Lib.hid hjn
      clear hjn
      go_wp2
      go_ret
      exact ⟨congrArg (fun z : Nat => Ending.returned (.int .i64 (k + (z : Int)))) HJ.out, rfl⟩

/-! ### a row of the call's own between two blocks; what a later step leaves of it -/

/-- a list of ints of the call's own, in a block from lo on and below hi (or nil) -/
def Row (W : World) (lo hi : Nat) (A : Option Addr) (n c : Nat) (zs : List Int) : Prop :=
  W.ownsRow lo 3 1 (.slice A n c) n (zs.map (Value.int .i64)) ∧ (∀ a, A = some a → a.block < hi) ∧ hi ≤ W.heap.size
theorem Row.mk {W : World} {lo : Nat} {A : Option Addr} {n c : Nat} {zs : List Int} (h : W.ownsRow lo 3 1 (.slice A n c) n (zs.map (Value.int .i64))) : Row W lo W.heap.size A n c zs :=
  ⟨h, fun a e => (h.lt a.block (by subst e; rfl)).2, Nat.le_refl _⟩
theorem Row.own {W : World} {lo hi : Nat} {A : Option Addr} {n c : Nat} {zs : List Int} (h : Row W lo hi A n c zs) : W.ownsRow lo 3 1 (.slice A n c) n (zs.map (Value.int .i64)) := h.1
theorem Row.at_ {W : World} {lo hi : Nat} {A : Option Addr} {n c : Nat} {zs : List Int} (h : Row W lo hi A n c zs) : IntsAt W W.heap.size .i64 A zs := ints_of h.1
theorem Row.below {W W' : World} {lo hi : Nat} {A : Option Addr} {n c : Nat} {zs : List Int} (h : Row W lo hi A n c zs) (hb : Below W.heap.size W W') : Row W' lo hi A n c zs :=
  ⟨own_below h.1 hb, h.2.1, Nat.le_trans h.2.2 hb.size⟩
theorem Row.lo {W : World} {lo hi : Nat} {A : Option Addr} {n c : Nat} {zs : List Int} (h : Row W lo hi A n c zs) : ∀ k, A.map (·.block) = some k → lo ≤ k := by
  intro k hk
  cases A with
  | none => cases hk
  | some a =>
    simp only [Option.map_some, Option.some.injEq] at hk
    subst hk
    exact (h.1.lt a.block rfl).1
theorem Row.hi {W : World} {lo hi : Nat} {A : Option Addr} {n c : Nat} {zs : List Int} (h : Row W lo hi A n c zs) : ∀ k, A.map (·.block) = some k → k < hi := by
  intro k hk
  cases A with
  | none => cases hk
  | some a =>
    simp only [Option.map_some, Option.some.injEq] at hk
    subst hk
    exact h.2.1 a rfl
/-- another row is written -/
theorem Row.grown {W W' : World} {lo hi : Nat} {A : Option Addr} {n c : Nat} {zs : List Int} {row : Option Nat} (h : Row W lo hi A n c zs) (hg : W.grownBy W' row) (hr : ∀ k, row = some k → k < lo ∨ hi ≤ k) : Row W' lo hi A n c zs := by
  refine ⟨h.1.kept hg ?_, h.2.1, Nat.le_trans h.2.2 hg.size⟩
  cases A with
  | none => exact Or.inl rfl
  | some a =>
    refine Or.inr fun e => ?_
    have h1 := h.1.lt a.block rfl
    have h2 := h.2.1 a rfl
    have := hr a.block e.symm
    omega
/-- this row is written -/
theorem Row.marked {W W' : World} {lo hi : Nat} {A : Option Addr} {n c : Nat} {zs ys : List Int} {row : Option Nat} (h : Row W lo hi A n c zs) (ho : W'.ownsRow lo 3 1 (.slice A n c) n (ys.map (Value.int .i64))) (hg : W.grownBy W' row) : Row W' lo hi A n c ys :=
  ⟨ho, h.2.1, Nat.le_trans h.2.2 hg.size⟩
theorem at_below {W W' : World} {B : Nat} {A : Option Addr} {zs : List Int} (h : IntsAt W B .i64 A zs) (hb : Below W.heap.size W W') (hB : B ≤ W.heap.size) : IntsAt W' B .i64 A zs := h.below (hb.mono hB)
theorem at_grown {W W' : World} {B : Nat} {A : Option Addr} {zs : List Int} {row : Option Nat} (h : IntsAt W B .i64 A zs) (hg : W.grownBy W' row) (hB : B ≤ W.heap.size) (hr : ∀ k, row = some k → B ≤ k) : IntsAt W' B .i64 A zs :=
  h.below ((Below.refl B W).grown hg hB hr)

end Go.Proofs.Ytibephoepkofnaa.Ins

namespace Go.Proofs.Ytibephoepkofnaa.Pl
open Go.RowKit Fr Own Pk Ins

/-- how many of the first k elements lie face up -/
def upTo (zs : List Int) : Nat → Nat
  | 0 => 0
  | k + 1 => upTo zs k + (if upB (zs.getD k 0) then 1 else 0)
theorem upTo_le (zs : List Int) (k : Nat) : upTo zs k ≤ k := by
  induction k with
  | zero => exact Nat.le_refl _
  | succ k ih => simp only [upTo]; split <;> omega
theorem upTo_yes (zs : List Int) (k : Nat) (h : upB (zs.getD k 0) = true) : upTo zs (k + 1) = upTo zs k + 1 := by simp only [upTo, h, if_true]
theorem upTo_no (zs : List Int) (k : Nat) (h : upB (zs.getD k 0) = false) : upTo zs (k + 1) = upTo zs k := by simp only [upTo, h]; simp

set_option maxHeartbeats 1000000 in
theorem impl_count (A : Option Addr) (n c : Nat) (zs : List Int) (w : World) (hn : zs.length = n) (hn2 : n ≤ 9223372036854775807) (hz : Fits zs) (hss : IntsAt w w.heap.size .i64 A zs) :
    Calls Try.prog 51 #[.slice A n c] w fun e w' => e = .returned (.int .i64 (upTo zs n : Nat)) ∧ w = w' := by
  have HN := Lib.hid hn
  clear hn
  go_enter Try.func51, Try.ntmps51
  go_wp2
  go_loop [3, 5, 8] (fun q x i => ∃ j : Nat, j ≤ n ∧ i = .int .i64 j ∧ ∃ m : Nat, Hid (m = upTo zs j) ∧ m ≤ j ∧ q = .int .i64 m) (fun _ _ i => n - (intOf i).toNat)
  case atStart => exact ⟨0, Nat.zero_le _, rfl, 0, rfl, Nat.le_refl _, rfl⟩
  case round =>
    obtain ⟨j, hj, rfl, m, HM, hm, rfl⟩ := hrel
    by_cases hlt : j < n
    · obtain ⟨b, o, rfl, hbb, hc⟩ := hss j (by rw [HN.out]; exact hlt)
      obtain ⟨hx1, hx2⟩ := hz j (by rw [HN.out]; exact hlt)
      have hy := upTo_yes zs j
      have ho := upTo_no zs j
      generalize zs.getD j 0 = x at hc hx1 hx2 hy ho
      by_cases hu : upB x = true
      · have HY := Lib.hid (hy hu)
        clear hy ho
        go_wp2_with fail
        refine (impl_up x _ hx1 hx2).mono ?_
        rintro e w' ⟨rfl, rfl⟩
        go_wp2
        go_round
        case rel => exact ⟨j + 1, by omega, by go_num, m + 1, by show m + 1 = _; rw [HY.out, HM.out], by omega, by go_num⟩
        case measure => simp [intOf]; omega
      · have hu' : upB x = false := Bool.eq_false_iff.2 hu
        have HO := Lib.hid (ho hu')
        clear hy ho hu
        go_wp2_with fail
        refine (impl_up x _ hx1 hx2).mono ?_
        rintro e w' ⟨rfl, rfl⟩
        go_wp2
        go_round
        case rel => exact ⟨j + 1, by omega, by go_num, m, by show m = _; rw [HO.out, HM.out], by omega, rfl⟩
        case measure => simp [intOf]; omega
    · have hjn : j = n := by omega
      rw [hjn] at HM
      clear hjn
      go_wp2
      go_ret
      exact ⟨congrArg (fun z : Nat => Ending.returned (.int .i64 (z : Int))) HM.out, rfl⟩
set_option maxHeartbeats 1000000 in
theorem spec_count (A : Option Addr) (n c : Nat) (zs : List Int) (w : World) (hn : zs.length = n) (hn2 : n ≤ 9223372036854775807) (hss : IntsAt w w.heap.size .i64 A zs) :
    Calls Try.prog 63 #[.slice A n c] w fun e w' => e = .returned (.int .i64 (upTo zs n : Nat)) ∧ w = w' := by
  have HN := Lib.hid hn
  clear hn
  go_enter Try.func63, Try.ntmps63
  go_wp2
  go_loop [3, 5, 8] (fun q x i => ∃ j : Nat, j ≤ n ∧ i = .int .i64 j ∧ ∃ m : Nat, Hid (m = upTo zs j) ∧ m ≤ j ∧ q = .int .i64 m) (fun _ _ i => n - (intOf i).toNat)
  case atStart => exact ⟨0, Nat.zero_le _, rfl, 0, rfl, Nat.le_refl _, rfl⟩
  case round =>
    obtain ⟨j, hj, rfl, m, HM, hm, rfl⟩ := hrel
    by_cases hlt : j < n
    · obtain ⟨b, o, rfl, hbb, hc⟩ := hss j (by rw [HN.out]; exact hlt)
      have hy := upTo_yes zs j
      have ho := upTo_no zs j
      generalize zs.getD j 0 = x at hc hy ho
      by_cases hu : upB x = true
      · have HY := Lib.hid (hy hu)
        clear hy ho
        go_wp2_with fail
        refine (spec_up x _).mono ?_
        rintro e w' ⟨rfl, rfl⟩
        go_wp2
        go_round
        case rel => exact ⟨j + 1, by omega, by go_num, m + 1, by show m + 1 = _; rw [HY.out, HM.out], by omega, by go_num⟩
        case measure => simp [intOf]; omega
      · have hu' : upB x = false := Bool.eq_false_iff.2 hu
        have HO := Lib.hid (ho hu')
        clear hy ho hu
        go_wp2_with fail
        refine (spec_up x _).mono ?_
        rintro e w' ⟨rfl, rfl⟩
        go_wp2
        go_round
        case rel => exact ⟨j + 1, by omega, by go_num, m, by show m = _; rw [HO.out, HM.out], by omega, rfl⟩
        case measure => simp [intOf]; omega
    · have hjn : j = n := by omega
      rw [hjn] at HM
      clear hjn
      go_wp2
      go_ret
      exact ⟨congrArg (fun z : Nat => Ending.returned (.int .i64 (z : Int))) HM.out, rfl⟩

/-! ### PositionOf -/
/-- the first place from i on, of at most f, that bears the card, or -1 -/
def posFrom (zs : List Int) (card : Int) : Nat → Nat → Int
  | 0, _ => -1
  | f + 1, i => if 0 ≤ card ∧ cardF (zs.getD i 0) = card then (i : Int) else posFrom zs card f (i + 1)
def posF (zs : List Int) (card : Int) : Int := posFrom zs card zs.length 0
theorem posFrom_hit (zs : List Int) (card : Int) (f i : Nat) (h0 : 0 ≤ card) (h : cardF (zs.getD i 0) = card) : posFrom zs card (f + 1) i = i := by
  simp only [posFrom]; rw [if_pos ⟨h0, h⟩]
theorem posFrom_miss (zs : List Int) (card : Int) (f i : Nat) (h : ¬ (0 ≤ card ∧ cardF (zs.getD i 0) = card)) : posFrom zs card (f + 1) i = posFrom zs card f (i + 1) := by
  simp only [posFrom]; rw [if_neg h]
theorem posFrom_range (zs : List Int) (card : Int) (f i : Nat) : -1 ≤ posFrom zs card f i ∧ posFrom zs card f i < (i + f : Nat) := by
  induction f generalizing i with
  | zero => simp only [posFrom]; omega
  | succ f ih =>
    simp only [posFrom]
    split
    · omega
    · have := ih (i + 1); omega
theorem posF_range (zs : List Int) (card : Int) : -1 ≤ posF zs card ∧ posF zs card < zs.length := by
  have := posFrom_range zs card zs.length 0
  unfold posF; omega
theorem posFrom_neg (zs : List Int) (card : Int) (f i : Nat) : posFrom zs card f i < 0 ↔ ∀ j, i ≤ j → j < i + f → ¬ (0 ≤ card ∧ cardF (zs.getD j 0) = card) := by
  induction f generalizing i with
  | zero => simp only [posFrom]; constructor
            · intro _ j h1 h2; omega
            · intro _; omega
  | succ f ih =>
    by_cases h : 0 ≤ card ∧ cardF (zs.getD i 0) = card
    · rw [posFrom_hit zs card f i h.1 h.2]
      constructor
      · intro h1; omega
      · intro h1; exact absurd h (h1 i (Nat.le_refl _) (by omega))
    · rw [posFrom_miss zs card f i h, ih]
      constructor
      · intro h1 j hj1 hj2
        by_cases e : j = i
        · rw [e]; exact h
        · exact h1 j (by omega) (by omega)
      · intro h1 j hj1 hj2
        exact h1 j (by omega) (by omega)
theorem posF_neg (zs : List Int) (card : Int) : posF zs card < 0 ↔ ∀ j, j < zs.length → ¬ (0 ≤ card ∧ cardF (zs.getD j 0) = card) := by
  unfold posF
  rw [posFrom_neg]
  constructor
  · intro h j hj; exact h j (Nat.zero_le _) (by omega)
  · intro h j _ hj; exact h j (by omega)

set_option maxHeartbeats 1000000 in
theorem impl_pos (A : Option Addr) (n c : Nat) (zs : List Int) (card : Int) (w : World) (hn : zs.length = n) (hn2 : n ≤ 9223372036854775807) (hz : Fits zs) (hss : IntsAt w w.heap.size .i64 A zs) :
    Calls Try.prog 61 #[.slice A n c, .int .i64 card] w fun e w' => e = .returned (.int .i64 (posF zs card)) ∧ w = w' := by
  have HN := Lib.hid hn
  clear hn
  go_enter Try.func61, Try.ntmps61
  go_wp2
  go_loop [5, 6, 9] (fun _ _ i => ∃ j : Nat, j ≤ n ∧ i = .int .i64 j ∧ Hid (posF zs card = posFrom zs card (n - j) j)) (fun _ _ i => n - (intOf i).toNat)
  case atStart => exact ⟨0, Nat.zero_le _, rfl, by show _ = _; rw [posF, HN.out]; rfl⟩
  case round =>
    obtain ⟨j, hj, rfl, HP⟩ := hrel
    by_cases hlt : j < n
    · obtain ⟨b, o, rfl, hbb, hc⟩ := hss j (by rw [HN.out]; exact hlt)
      obtain ⟨hx1, hx2⟩ := hz j (by rw [HN.out]; exact hlt)
      obtain ⟨f, hf⟩ : ∃ f, n - j = f + 1 := ⟨n - j - 1, by omega⟩
      have hp := HP.out
      rw [hf] at hp
      have hhit := posFrom_hit zs card f j
      have hmiss := posFrom_miss zs card f j
      generalize zs.getD j 0 = x at hc hx1 hx2 hhit hmiss
      by_cases h0 : 0 ≤ card
      · by_cases he : cardF x = card
        · have HR := Lib.hid (hp.trans (hhit h0 he))
          have he1 : (cardF x == card) = true := by simpa using he
          clear hhit hmiss hp hf HP he
          go_wp2_with fail
          refine (impl_card x _ hx1 hx2).mono ?_
          rintro e w' ⟨rfl, rfl⟩
          go_wp2
          go_ret
          exact ⟨ret_i HR.out.symm, rfl⟩
        · have HR := Lib.hid (hp.trans (hmiss (fun h => he h.2)))
          have he1 : (cardF x == card) = false := by simpa using he
          have hf2 : f = n - (j + 1) := by omega
          have HF := Lib.hid hf2
          clear hhit hmiss hp hf HP he hf2
          go_wp2_with fail
          refine (impl_card x _ hx1 hx2).mono ?_
          rintro e w' ⟨rfl, rfl⟩
          go_wp2
          go_round
          case rel => exact ⟨j + 1, by omega, by go_num, by show _ = _; rw [HR.out, HF.out]⟩
          case measure => simp [intOf]; omega
      · have HR := Lib.hid (hp.trans (hmiss (fun h => h0 h.1)))
        have h01 : decide (0 ≤ card) = false := decide_eq_false h0
        have hf2 : f = n - (j + 1) := by omega
        have HF := Lib.hid hf2
        clear hhit hmiss hp hf HP hf2
        go_wp2
        go_round
        case rel => exact ⟨j + 1, by omega, by go_num, by show _ = _; rw [HR.out, HF.out]⟩
        case measure => simp [intOf]; omega
    · have hjn : n - j = 0 := by omega
      have hp := HP.out
      rw [hjn] at hp
      have HR := Lib.hid hp
      clear hjn hp HP
      go_wp2
      go_ret
      exact ⟨ret_i HR.out.symm, rfl⟩
set_option maxHeartbeats 1000000 in
theorem spec_pos (A : Option Addr) (n c : Nat) (zs : List Int) (card : Int) (w : World) (hn : zs.length = n) (hn2 : n ≤ 9223372036854775807) (hz : Fits zs) (hss : IntsAt w w.heap.size .i64 A zs) :
    Calls Try.prog 56 #[.slice A n c, .int .i64 card] w fun e w' => e = .returned (.int .i64 (posF zs card)) ∧ w = w' := by
  have HN := Lib.hid hn
  clear hn
  go_enter Try.func56, Try.ntmps56
  go_wp2
  go_loop [5, 6, 9] (fun _ _ i => ∃ j : Nat, j ≤ n ∧ i = .int .i64 j ∧ Hid (posF zs card = posFrom zs card (n - j) j)) (fun _ _ i => n - (intOf i).toNat)
  case atStart => exact ⟨0, Nat.zero_le _, rfl, by show _ = _; rw [posF, HN.out]; rfl⟩
  case round =>
    obtain ⟨j, hj, rfl, HP⟩ := hrel
    by_cases hlt : j < n
    · obtain ⟨b, o, rfl, hbb, hc⟩ := hss j (by rw [HN.out]; exact hlt)
      obtain ⟨hx1, hx2⟩ := hz j (by rw [HN.out]; exact hlt)
      obtain ⟨f, hf⟩ : ∃ f, n - j = f + 1 := ⟨n - j - 1, by omega⟩
      have hp := HP.out
      rw [hf] at hp
      have hhit := posFrom_hit zs card f j
      have hmiss := posFrom_miss zs card f j
      generalize zs.getD j 0 = x at hc hx1 hx2 hhit hmiss
      by_cases he : cardF x = card
      · by_cases h0 : 0 ≤ card
        · have HR := Lib.hid (hp.trans (hhit h0 he))
          have he1 : (cardF x == card) = true := by simpa using he
          clear hhit hmiss hp hf HP he
          go_wp2_with fail
          refine (spec_card x _ hx1 hx2).mono ?_
          rintro e w' ⟨rfl, rfl⟩
          go_wp2
          go_ret
          exact ⟨ret_i HR.out.symm, rfl⟩
        · have HR := Lib.hid (hp.trans (hmiss (fun h => h0 h.1)))
          have he1 : (cardF x == card) = true := by simpa using he
          have h01 : decide (0 ≤ card) = false := decide_eq_false h0
          have hf2 : f = n - (j + 1) := by omega
          have HF := Lib.hid hf2
          clear hhit hmiss hp hf HP he hf2
          go_wp2_with fail
          refine (spec_card x _ hx1 hx2).mono ?_
          rintro e w' ⟨rfl, rfl⟩
          go_wp2
          go_round
          case rel => exact ⟨j + 1, by omega, by go_num, by show _ = _; rw [HR.out, HF.out]⟩
          case measure => simp [intOf]; omega
      · have HR := Lib.hid (hp.trans (hmiss (fun h => he h.2)))
        have he1 : (cardF x == card) = false := by simpa using he
        have hf2 : f = n - (j + 1) := by omega
        have HF := Lib.hid hf2
        clear hhit hmiss hp hf HP hf2 he
        go_wp2_with fail
        refine (spec_card x _ hx1 hx2).mono ?_
        rintro e w' ⟨rfl, rfl⟩
        go_wp2
        go_round
        case rel => exact ⟨j + 1, by omega, by go_num, by show _ = _; rw [HR.out, HF.out]⟩
        case measure => simp [intOf]; omega
    · have hjn : n - j = 0 := by omega
      have hp := HP.out
      rw [hjn] at hp
      have HR := Lib.hid hp
      clear hjn hp HP
      go_wp2
      go_ret
      exact ⟨ret_i HR.out.symm, rfl⟩

end Go.Proofs.Ytibephoepkofnaa.Pl
