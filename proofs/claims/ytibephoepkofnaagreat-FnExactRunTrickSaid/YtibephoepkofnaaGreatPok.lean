/- PacketOk of the program (by a set of the cards) and of the model (by a list of them), for every list of ints; and l02Has. -/
import Derived.Test.YtibephoepkofnaaGreatPkt
import Derived.Maps.OwnSet
import Derived.Maps.RangeWalk
set_option linter.unusedVariables false
set_option maxRecDepth 20000
namespace Go.Proofs.YtibephoepkofnaaGreat.Pok
open Go.RowKit Fr Own Pk Ins Go.Maps

/-- the different cards of the first k elements, in their order -/
def dist (zs : List Int) : Nat → List Int
  | 0 => []
  | k + 1 => if 0 ≤ cardF (zs.getD k 0) then (if cardF (zs.getD k 0) ∈ dist zs k then dist zs k else dist zs k ++ [cardF (zs.getD k 0)]) else dist zs k
theorem dist_neg (zs : List Int) (k : Nat) (h : cardF (zs.getD k 0) < 0) : dist zs (k + 1) = dist zs k := by simp only [dist]; rw [if_neg (by omega)]
theorem dist_old (zs : List Int) (k : Nat) (h : cardF (zs.getD k 0) ∈ dist zs k) : dist zs (k + 1) = dist zs k := by
  by_cases h0 : 0 ≤ cardF (zs.getD k 0)
  · simp only [dist]; rw [if_pos h0, if_pos h]
  · exact dist_neg zs k (by omega)
theorem dist_new (zs : List Int) (k : Nat) (h0 : 0 ≤ cardF (zs.getD k 0)) (h : cardF (zs.getD k 0) ∉ dist zs k) : dist zs (k + 1) = dist zs k ++ [cardF (zs.getD k 0)] := by
  simp only [dist]; rw [if_pos h0, if_neg h]
theorem dist_some (zs : List Int) (k : Nat) (h0 : 0 ≤ cardF (zs.getD k 0)) : dist zs (k + 1) = if cardF (zs.getD k 0) ∈ dist zs k then dist zs k else dist zs k ++ [cardF (zs.getD k 0)] := by
  simp only [dist]; rw [if_pos h0]
theorem dist_step (zs : List Int) (k : Nat) : (dist zs (k + 1)).length ≤ (dist zs k).length + 1 := by
  simp only [dist]
  split
  · split
    · omega
    · simp
  · omega
theorem dist_len (zs : List Int) (k : Nat) : (dist zs k).length ≤ k := by
  induction k with
  | zero => simp [dist]
  | succ k ih => have := dist_step zs k; omega
theorem dist_far (zs : List Int) (k j : Nat) : (dist zs (k + j)).length ≤ (dist zs k).length + j := by
  induction j with
  | zero => exact Nat.le_refl _
  | succ j ih => have := dist_step zs (k + j); rw [← Nat.add_assoc]; omega
theorem dist_mem (zs : List Int) (k : Nat) (c : Int) : c ∈ dist zs k ↔ 0 ≤ c ∧ ∃ i, i < k ∧ cardF (zs.getD i 0) = c := by
  induction k with
  | zero => simp [dist]
  | succ k ih =>
    constructor
    · intro h
      by_cases h0 : 0 ≤ cardF (zs.getD k 0)
      · rw [dist_some zs k h0] at h
        split at h
        · obtain ⟨a, i, hi, e⟩ := ih.1 h; exact ⟨a, i, by omega, e⟩
        · rcases List.mem_append.1 h with h | h
          · obtain ⟨a, i, hi, e⟩ := ih.1 h; exact ⟨a, i, by omega, e⟩
          · have e : c = cardF (zs.getD k 0) := by simpa using h
            exact ⟨by omega, k, by omega, e.symm⟩
      · rw [dist_neg zs k (by omega)] at h
        obtain ⟨a, i, hi, e⟩ := ih.1 h; exact ⟨a, i, by omega, e⟩
    · rintro ⟨h0, i, hi, e⟩
      by_cases hik : i = k
      · subst hik
        rw [dist_some zs i (by omega)]
        split
        · rename_i hm; rw [e] at hm; exact hm
        · rw [e]; simp
      · have hm := ih.2 ⟨h0, i, by omega, e⟩
        simp only [dist]
        split
        · split
          · exact hm
          · exact List.mem_append_left _ hm
        · exact hm
/-- is the list a packet? -/
def okB (zs : List Int) : Bool := decide (zs.length ≤ 12) && decide ((dist zs zs.length).length = zs.length)
theorem okB_long (zs : List Int) (h : 12 < zs.length) : okB zs = false := by unfold okB; rw [decide_eq_false (by omega)]; rfl
theorem okB_short (zs : List Int) (h : zs.length ≤ 12) : okB zs = decide ((dist zs zs.length).length = zs.length) := by unfold okB; rw [decide_eq_true h]; rfl
theorem okB_stop (zs : List Int) (k : Nat) (hk : k < zs.length) (h : dist zs (k + 1) = dist zs k) : okB zs = false := by
  have h1 := dist_far zs (k + 1) (zs.length - (k + 1))
  rw [show k + 1 + (zs.length - (k + 1)) = zs.length by omega, h] at h1
  have h2 := dist_len zs k
  unfold okB
  rw [decide_eq_false (p := (dist zs zs.length).length = zs.length) (by omega), Bool.and_false]
theorem okB_yes {zs : List Int} (h : okB zs = true) : zs.length ≤ 12 ∧ (dist zs zs.length).length = zs.length := by
  unfold okB at h
  rw [Bool.and_eq_true, decide_eq_true_eq, decide_eq_true_eq] at h
  exact h

/-- is the number on the list? -/
def hasB (zs : List Int) (x : Int) : Bool := decide (x ∈ zs)

set_option maxHeartbeats 1000000 in
theorem has_any (A : Option Addr) (n c : Nat) (zs : List Int) (x : Int) (w : World) (hn : zs.length = n) (hn2 : n ≤ 9223372036854775807) (hss : IntsAt w w.heap.size .i64 A zs) :
    Calls Tryz.prog 50 #[.slice A n c, .int .i64 x] w fun e w' => e = .returned (.bool (hasB zs x)) ∧ w = w' := by
  have HN := Lib.hid hn
  clear hn
  go_enter Tryz.func50, Tryz.ntmps50
  go_wp2
  go_loop [6, 9] (fun _ i => ∃ j : Nat, j ≤ n ∧ i = .int .i64 j ∧ Hid (∀ i, i < j → zs.getD i 0 ≠ x)) (fun _ i => n - (intOf i).toNat)
  case atStart => exact ⟨0, Nat.zero_le _, rfl, (fun i hi => absurd hi (Nat.not_lt_zero _))⟩
  case round =>
    obtain ⟨j, hj, rfl, HE⟩ := hrel
    by_cases hlt : j < n
    · obtain ⟨b, o, rfl, hbb, hc⟩ := hss j (by rw [HN.out]; exact hlt)
      have hlt' : j < zs.length := by rw [HN.out]; exact hlt
      have hyes : zs.getD j 0 = x → hasB zs x = true := by
        intro e
        refine decide_eq_true ?_
        rw [← e, List.getD_eq_getElem?_getD, List.getElem?_eq_getElem hlt']
        exact List.getElem_mem _
      have hst : zs.getD j 0 ≠ x → ∀ i, i < j + 1 → zs.getD i 0 ≠ x := by
        intro e i hi
        by_cases hik : i = j
        · rw [hik]; exact e
        · exact HE.out i (by omega)
      generalize zs.getD j 0 = y at hc hyes hst
      by_cases hxy : y = x
      · have HS := Lib.hid (hyes hxy)
        have hb : (y == x) = true := by simpa using hxy
        clear hst hyes HE hxy hlt'
        go_wp2
        go_ret
        exact ⟨ret_b HS.out.symm, rfl⟩
      · have HS := Lib.hid (hst hxy)
        have hb : (y == x) = false := by simpa using hxy
        clear hst hyes HE hxy hlt'
        go_wp2
        go_round
        case rel => exact ⟨j + 1, by omega, by go_num, HS.out⟩
        case measure => simp [intOf]; omega
    · have hjn : j = n := by omega
      have hno : hasB zs x = false := by
        refine decide_eq_false fun hm => ?_
        obtain ⟨i, hi, e⟩ := List.mem_iff_getElem.1 hm
        have h9 := HE.out i (by rw [hjn, ← HN.out]; exact hi)
        rw [List.getD_eq_getElem?_getD, List.getElem?_eq_getElem hi] at h9
        exact h9 e
      have HS := Lib.hid hno
      clear hno HE hjn
      go_wp2
      go_ret
      exact ⟨ret_b HS.out.symm, rfl⟩

/-- the set of the numbers of a list -/
def SetIs (D : DataW Unit) (l : List Int) : Prop := (∀ c : Int, Maps.has D (.int .i64 c) = decide (c ∈ l)) ∧ Maps.size D = l.length
theorem setIs_nil : SetIs (.map []) [] := ⟨fun c => by simp [Maps.has], rfl⟩
theorem lit_ne {c d : Int} (h : c ≠ d) : (Lit.int .i64 c) ≠ .int .i64 d := fun e => h (by injection e)
theorem setIs_put {D : DataW Unit} {l : List Int} {c : Int} (ht : Tidy D) (hk : WideAt.IsKeyLit (.int .i64 c)) (u : DataW Unit) (h : SetIs D l) : SetIs (D.put (.int .i64 c) u) (if c ∈ l then l else l ++ [c]) := by
  refine ⟨fun d => ?_, ?_⟩
  · by_cases e : d = c
    · subst e
      rw [has_put_same ht.isMap hk]
      symm
      refine decide_eq_true ?_
      split
      · assumption
      · simp
    · rw [has_put_other (lit_ne e), h.1 d]
      split
      · rfl
      · congr 1
        simp [e]
  · rw [size_put ht, h.1 c, h.2]
    by_cases e : c ∈ l
    · rw [if_pos e, if_pos (by simpa using e)]
    · rw [if_neg e, if_neg (by simpa using e)]; simp

theorem keyed : Keyed Tryz.prog 3 := int_keyed Tryz.underlying3
theorem key_int {a : Int} (h1 : -9223372036854775808 ≤ a) (h2 : a ≤ 9223372036854775807) : keyOf Tryz.prog 3 (.int .i64 a) = some (.int .i64 a) := keyOf_int_mk Tryz.underlying3 (wf_hi h1 h2)

/-- a call hands back a new map that is the set of the list -/
def IsSet (B : Nat) (l : List Int) (w : World) (e : Ending) (w' : World) : Prop :=
  ∃ b m D, e = .returned (.map (some b)) ∧ B ≤ b ∧ m ≤ 12 ∧ w'.ownsMap Tryz.prog 3 (plainElem Tryz.prog 4) b m D ∧ SetIs D l ∧ Below B w w'

set_option maxHeartbeats 1000000 in
theorem seen_any (A : Option Addr) (n c : Nat) (zs : List Int) (w : World) (hn : zs.length = n) (hn2 : n ≤ 12) (hz : Fits zs) (hss : IntsAt w w.heap.size .i64 A zs) :
    Calls Tryz.prog 56 #[.slice A n c] w (IsSet w.heap.size (dist zs n) w) := by
  have HN := Lib.hid hn
  clear hn
  have hmm := @run_makeMap Tryz.prog
  go_enter Tryz.func56, Tryz.ntmps56
  go_wp2
  go_loopw [5, 6, 10] (fun _ _ i wr => ∃ k : Nat, k ≤ n ∧ i = .int .i64 k ∧ (∃ m D, m ≤ k ∧ wr.ownsMap Tryz.prog 3 (plainElem Tryz.prog 4) w.heap.size m D ∧ SetIs D (dist zs k)) ∧ Below w.heap.size w wr) (fun _ _ i _ => n - (intOf i).toNat)
  case atStart => exact ⟨0, Nat.zero_le _, rfl, ⟨0, _, Nat.le_refl _, World.ownsMap_made _ _ _ _, setIs_nil⟩, (Below.refl _ _).alloc (Nat.le_refl _) _⟩
  case round =>
    obtain ⟨k, hk, rfl, ⟨m, D, hm, hown, hset⟩, hbw⟩ := hrel
    have hsz := hbw.size
    by_cases hlt : k < n
    · obtain ⟨b, o, rfl, hbb, hc⟩ := (hss.below hbw) k (by rw [HN.out]; exact hlt)
      obtain ⟨hx1, hx2⟩ := hz k (by rw [HN.out]; exact hlt)
      have hneg := dist_neg zs k
      have hsome := dist_some zs k
      generalize zs.getD k 0 = x at hc hx1 hx2 hneg hsome
      have hbd := cardF_bd x
      by_cases h0 : 0 ≤ cardF x
      · have hkey := key_int (a := cardF x) (by omega) (by omega)
        have hput := setIs_put (hown.tidy keyed) (keyed.key hkey) (.lit (.bool true)) hset
        rw [← hsome h0] at hput
        have HP := Lib.hid hput
        clear hneg hsome hput hset hbd
        go_wp2_with fail
        refine (impl_card x _ hx1 hx2).mono ?_
        rintro e w' ⟨rfl, rfl⟩
        go_wp2_with (at_mapUpdate; refine wpList_mapUpdate_own _ rfl _ _ _ 92 rfl 3 4 keyed Tryz.underlying92 _ w.heap.size m _ rfl hown (by unfold maxLen; omega) _ _ _ rfl rfl hkey (.lit (.bool true)) [] (plainElem_bool Tryz.underlying4 true) ?_; intro w1 hown1 hgr1)
        go_roundw
        case rel => exact ⟨k + 1, by omega, by go_num, ⟨m + 1, _, by omega, hown1, HP.out⟩, hbw.grown hgr1 (by omega) (fun j hj => by cases hj; exact Nat.le_refl _)⟩
        case measure => simp [intOf]; omega
      · have hst := hneg (by omega)
        have HS := Lib.hid hst
        have HSET := Lib.hid hset
        have h0' : decide (0 ≤ cardF x) = false := decide_eq_false h0
        clear hneg hsome hst hset h0
        go_wp2_with fail
        refine (impl_card x _ hx1 hx2).mono ?_
        rintro e w' ⟨rfl, rfl⟩
        go_wp2
        go_roundw
        case rel => exact ⟨k + 1, by omega, by go_num, ⟨m, D, by omega, hown, by rw [HS.out]; exact HSET.out⟩, hbw⟩
        case measure => simp [intOf]; omega
    · have hkn : k = n := by omega
      rw [hkn] at hset
      have HS := Lib.hid hset
      clear hset hkn
      go_wp2
      go_ret
      exact ⟨w.heap.size, m, D, rfl, Nat.le_refl _, by omega, hown, HS.out, hbw⟩
set_option maxHeartbeats 1000000 in
theorem impl_ok (A : Option Addr) (n c : Nat) (zs : List Int) (w : World) (hn : zs.length = n) (hn2 : n ≤ 9223372036854775807) (hz : Fits zs) (hss : IntsAt w w.heap.size .i64 A zs) :
    Calls Tryz.prog 31 #[.slice A n c] w fun e w' => e = .returned (.bool (okB zs)) ∧ Below w.heap.size w w' := by
  by_cases h12 : n ≤ 12
  · have hok := okB_short zs (by omega)
    rw [hn] at hok
    have HN := Lib.hid hn
    have HOK := Lib.hid hok
    clear hn hok
    go_enter Tryz.func31, Tryz.ntmps31
    go_wp2_with fail
    refine (seen_any A n c zs _ HN.out h12 hz hss).mono ?_
    rintro e w1 ⟨b, m, D, rfl, hb, hm, hown, hset, hbel⟩
    have hs := hset.2
    have HS := Lib.hid hs
    clear hs hset
    have hlen : ∀ ty, _ := fun ty => hown.len (e := 4) Tryz.underlying92 ty
    go_wp2
    go_ret
    refine ⟨?_, hbel⟩
    rw [HOK.out, HS.out]
    refine ret_b (a := ((((dist zs n).length : Nat) : Int) == (n : Int))) ?_
    rw [Bool.eq_iff_iff]
    simp only [beq_iff_eq, decide_eq_true_eq]
    omega
  · have HS := Lib.hid (okB_long zs (by omega))
    have h12' : decide ((n : Int) ≤ 12) = false := decide_eq_false (by omega)
    clear hn
    go_enter Tryz.func31, Tryz.ntmps31
    go_wp2
    go_ret
    exact ⟨ret_b HS.out.symm, Below.refl _ w⟩
set_option maxHeartbeats 1000000 in
set_option maxRecDepth 20000 in
theorem spec_ok (A : Option Addr) (n c : Nat) (zs : List Int) (w : World) (hn : zs.length = n) (hn2 : n ≤ 9223372036854775807) (hz : Fits zs) (hss : IntsAt w w.heap.size .i64 A zs) :
    Calls Tryz.prog 26 #[.slice A n c] w fun e w' => e = .returned (.bool (okB zs)) ∧ Below w.heap.size w w' := by
  by_cases h12 : n ≤ 12
  · have HN := Lib.hid hn
    clear hn
    obtain ⟨i0, hi, hz0, hz1, hz2⟩ := info_parts infoInt
    go_enter Tryz.func26, Tryz.ntmps26
    go_wp2
    go_loopw [3, 5, 6, 13] (fun v _ _ i wr => ∃ k : Nat, k ≤ n ∧ i = .int .i64 k ∧ (∃ A c, v = .slice A k c) ∧ Hid ((dist zs k).length = k) ∧ wr.ownsRow w.heap.size 3 1 v k ((dist zs k).map (Value.int .i64)) ∧ Below w.heap.size w wr) (fun _ _ _ i _ => n - (intOf i).toNat)
    case atStart => exact ⟨0, Nat.zero_le _, rfl, ⟨_, _, rfl⟩, rfl, World.ownsRow_lit w #[] 0 (Nat.le_refl _) (Nat.zero_le _) rfl, (Below.refl _ w).alloc (Nat.le_refl _) _⟩
    case round =>
      obtain ⟨k, hk, rfl, ⟨A2, c2, rfl⟩, HL, hown, hbw⟩ := hrel
      have hsz := hbw.size
      by_cases hlt : k < n
      · obtain ⟨b, o, rfl, hbb, hc⟩ := (hss.below hbw) k (by rw [HN.out]; exact hlt)
        obtain ⟨hx1, hx2⟩ := hz k (by rw [HN.out]; exact hlt)
        have hneg := dist_neg zs k
        have hold := dist_old zs k
        have hnew := dist_new zs k
        have hstop := okB_stop zs k (by rw [HN.out]; exact hlt)
        generalize zs.getD k 0 = x at hc hx1 hx2 hneg hold hnew
        by_cases h0 : 0 ≤ cardF x
        · have hat := ints_of hown
          by_cases hin : cardF x ∈ dist zs k
          · have HS := Lib.hid (hstop (hold hin))
            have hB : hasB (dist zs k) (cardF x) = true := decide_eq_true hin
            have HB := Lib.hid hB
            clear hneg hold hnew hstop hin hB
            go_wp2_with fail
            refine (spec_card x _ hx1 hx2).mono ?_
            rintro e w' ⟨rfl, rfl⟩
            go_wp2_with fail
            refine (has_any A2 k c2 (dist zs k) (cardF x) _ HL.out (by omega) hat).mono ?_
            rintro e w' ⟨rfl, rfl⟩
            rw [HB.out]
            go_wp2
            go_ret
            exact ⟨ret_b HS.out.symm, hbw⟩
          · have HS := Lib.hid (hnew h0 hin)
            have hB : hasB (dist zs k) (cardF x) = false := decide_eq_false hin
            have HB := Lib.hid hB
            clear hneg hold hnew hstop hin hB
            go_wp2_with fail
            refine (spec_card x _ hx1 hx2).mono ?_
            rintro e w' ⟨rfl, rfl⟩
            go_wp2_with fail
            refine (has_any A2 k c2 (dist zs k) (cardF x) _ HL.out (by omega) hat).mono ?_
            rintro e w' ⟨rfl, rfl⟩
            rw [HB.out]
            go_wp2_with (at_builtin; refine app_one rfl (.tmp 26) (.tmp 28) 22 rfl w.heap.size 3 i0 (.int .i64 0) 8 Tryz.underlying22 hi hz0 hz1 hz2 (by decide) rfl _ _ _ rfl hown (.int .i64 (cardF x)) rfl rfl (by omega) (by omega) ?_; intro g c3 w2 hown2 hb2)
            go_roundw
            case rel => exact ⟨k + 1, by omega, by go_num, ⟨_, _, rfl⟩, by rw [HS.out]; show _ = _; rw [List.length_append, HL.out]; rfl, by rw [HS.out]; simpa using hown2, hbw.trans hb2⟩
            case measure => simp [intOf]; omega
        · have HS := Lib.hid (hstop (hneg (by omega)))
          have h0' : cardF x < 0 := by omega
          clear hneg hold hnew hstop h0
          go_wp2_with fail
          refine (spec_card x _ hx1 hx2).mono ?_
          rintro e w' ⟨rfl, rfl⟩
          go_wp2
          go_ret
          exact ⟨ret_b HS.out.symm, hbw⟩
      · have hkn : k = n := by omega
        have hok : okB zs = true := by
          have h1 := HL.out
          rw [hkn] at h1
          unfold okB
          rw [HN.out, decide_eq_true h12, decide_eq_true h1]; rfl
        have HS := Lib.hid hok
        clear hok hkn
        go_wp2
        go_ret
        exact ⟨ret_b HS.out.symm, hbw⟩
  · have HS := Lib.hid (okB_long zs (by omega))
    clear hn
    go_enter Tryz.func26, Tryz.ntmps26
    go_wp2
    go_ret
    exact ⟨ret_b HS.out.symm, Below.refl _ w⟩

end Go.Proofs.YtibephoepkofnaaGreat.Pok
