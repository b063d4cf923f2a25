/- The model's moves: l04Back, l04Faro, l04Monge. -/
import Derived.Test.YthcggkhpamjjbaaGreatMv4
set_option linter.unusedVariables false
set_option maxRecDepth 20000
namespace Go.Proofs.YthcggkhpamjjbaaGreat.Sv
open Go.RowKit Fr Own Pk Ins Pfn Rws Lb Cat Mvp Mv1 Mv2 Mv3

theorem sf_all : ((List.range 13).all fun n => (List.range 2).all fun k => sfaroL k (n + 1) ((List.range n).take (n / 2)) ((List.range n).drop (n / 2)) [] == faroL (List.range n) k) = true := by kernel_rfl
theorem sfaro_eq {zs : List Int} {k n : Nat} (hn : zs.length = n) (h12 : n ≤ 12) (hk : k ≤ 1) : sfaroL k (n + 1) (zs.take (n / 2)) (zs.drop (n / 2)) [] = faroL zs k := by
  have h1 := List.all_eq_true.1 sf_all n (List.mem_range.2 (by omega))
  have h2 := List.all_eq_true.1 h1 k (List.mem_range.2 (by omega))
  rw [beq_iff_eq] at h2
  have e := as_range zs
  rw [hn] at e
  rw [e, faro_map, ← h2, ← sfaro_map, List.map_take, List.map_drop]
  rfl
theorem row_nil {w : World} {B : Nat} {A : Option Addr} {n c : Nat} {xs : List Value} (h : w.ownsRow B 3 1 (.slice A n c) n xs) : A = none → c = 0 := by
  intro e
  rcases own_full h with ⟨_, _, h2⟩ | ⟨_, _, h2, _⟩
  · exact h2
  · rw [e] at h2; cases h2
theorem row_spot {w : World} {B : Nat} {A : Option Addr} {n c : Nat} {xs : List Value} (h : w.ownsRow B 3 1 (.slice A n c) n xs) : ∀ a, A = some a → a.spot = none := by
  intro a e
  rcases own_full h with ⟨h2, _, _⟩ | ⟨_, _, h2, _⟩
  · rw [e] at h2; cases h2
  · rw [e] at h2; simp only [Option.some.injEq] at h2; rw [h2]
theorem row_len {w : World} {B : Nat} {A : Option Addr} {n c : Nat} {zs : List Int} (h : w.ownsRow B 3 1 (.slice A n c) n (vals zs)) : zs.length = n := by have := h.1; rw [vals_len] at this; omega
theorem row_end {w w' : World} {A : Option Addr} {n c : Nat} {R : List Int} (h : w'.ownsRow w.heap.size 3 1 (.slice A n c) n (vals R)) (hb : Below w.heap.size w w') : IsIL w.heap.size R w (.returned (.slice A n c)) w' := by
  have hl := row_len h
  subst hl
  exact ⟨A, c, rfl, h, hb⟩

def mapUp (up : Bool) (l : List Int) : List Int := if up then l.map turnF else l
def backTo (up : Bool) (zs : List Int) (k r : Nat) : List Int := mapUp up ((zs.take k).drop r).reverse
theorem back_start (up : Bool) (zs : List Int) (k : Nat) (h : k ≤ zs.length) : backTo up zs k k = [] := by
  unfold backTo mapUp
  rw [List.drop_eq_nil_of_le (by rw [List.length_take]; omega)]
  split <;> rfl
theorem back_next (up : Bool) (zs : List Int) (k m : Nat) (hk : k ≤ zs.length) (hm : m < k) : backTo up zs k m = backTo up zs k (m + 1) ++ [if up then turnF (zs.getD m 0) else zs.getD m 0] := by
  have h1 : m < (zs.take k).length := by rw [List.length_take]; omega
  have h2 : (zs.take k)[m] = zs.getD m 0 := by
    rw [List.getElem_take, List.getD_eq_getElem?_getD, List.getElem?_eq_getElem (by omega)]
    rfl
  unfold backTo mapUp
  rw [List.drop_eq_getElem_cons h1, List.reverse_cons, h2]
  cases up
  · rfl
  · simp
set_option maxHeartbeats 1000000 in
theorem spec_back (up : Bool) (A : Option Addr) (n c k : Nat) (zs : List Int) (w : World) (hn : zs.length = n) (h0 : 1 ≤ n) (h12 : n ≤ 12) (hnc : n ≤ c) (hk : k ≤ n) (hz : Fits zs) (hss : IntsAt w w.heap.size .i64 A zs) :
    Calls Tryz.prog 96 #[.slice A n c, .int .i64 (k : Int), .bool up] w (IsIL w.heap.size (mapUp up (zs.take k).reverse ++ zs.drop k) w) := by
  obtain ⟨i0, hi, hz0, hz1, hz2⟩ := info_parts infoInt
  obtain ⟨b, o, rfl⟩ := ints_addr hss (by omega)
  have HN := Lib.hid hn
  have HS := Lib.hid hss
  have HZ := Lib.hid hz
  have HI0 := Lib.hid (back_start up zs k (by omega))
  have HI := fun m h => Lib.hid (back_next up zs k m (by omega) h)
  have HE := Lib.hid (show backTo up zs k 0 = mapUp up (zs.take k).reverse by unfold backTo; rw [List.drop_zero])
  obtain ⟨R, hR⟩ : ∃ R, R = mapUp up (zs.take k).reverse ++ zs.drop k := ⟨_, rfl⟩
  rw [← hR]
  have HR := Lib.hid hR
  have HL := Lib.hid (show (zs.drop k).length = n - k by rw [List.length_drop, hn])
  have HB0 := fun o => Lib.hid ((Below.refl w.heap.size w).alloc (Nat.le_refl _) o)
  clear hn hss hz hR
  cases up
  all_goals
    go_enter Tryz.func96, Tryz.ntmps96
    go_wp2
    go_loopw [7, 8] (fun s7 s8 wr => ∃ r : Nat, r ≤ k ∧ s8 = .int .i64 ((r : Int) - 1) ∧ ∃ (A3 : Option Addr) (n3 c3 : Nat) (q : List Int), s7 = .slice A3 n3 c3 ∧ n3 + r = k ∧ wr.ownsRow w.heap.size 3 1 (.slice A3 n3 c3) n3 (vals q) ∧ Hid (q = backTo _ zs k r) ∧ Below w.heap.size w wr) (fun _ i _ => (intOf i + 1).toNat)
    case atStart => exact ⟨k, Nat.le_refl _, rfl, _, 0, 0, [], rfl, by omega, World.ownsRow_lit w #[] 0 (Nat.le_refl _) (Nat.zero_le _) rfl, HI0.out.symm, (HB0 _).out⟩
    case round =>
      obtain ⟨r, hr, rfl, A3, n3, c3, q, rfl, hnr, hown, HQ, hbw⟩ := hrel
      clear HI0 HB0
      have hszw := hbw.size
      by_cases hr0 : r = 0
      · subst hr0
        have hn3 : n3 = k := by omega
        subst hn3
        have HF := Lib.hid (show q ++ zs.drop n3 = R by rw [HR.out, HQ.out, HE.out])
        have hatw := HS.out.below hbw
        clear HQ hr hnr
        by_cases hck : c = n3
        · obtain rfl : n = n3 := by omega
          subst hck
          have hL0 := HL.out.trans (Nat.sub_self _)
          go_wp2_with (at_builtin; refine app_any rfl (.tmp 32) (.tmp 35) 28 rfl w.heap.size 3 i0 8 Tryz.underlying28 hi hz0 hz1 hz2 (by decide) A3 c3 _ q rfl hown _ 0 _ (zs.drop _) rfl hL0 (fun h => by cases h) wr.heap.size (ints_none _ _ _ hL0) (by omega) (by omega) hszw spot_some ?_; intro A5 c5 w5 hown5 hgr5; rw [HF.out] at hown5; have he5 := Lib.hid (row_end hown5 (hbw.grown hgr5 hszw (fun k hk => (own_lo hown k hk).1))); clear hown5 hgr5)
          go_ret
          exact he5.out
        · have hn3s : n3 ≤ 4294967296 := by omega
          have hns : n - n3 ≤ 4294967296 := by omega
          have hsum : n3 + (n - n3) = n := by omega
          go_wp2_with (at_builtin; refine app_any rfl (.tmp 32) (.tmp 35) 28 rfl w.heap.size 3 i0 8 Tryz.underlying28 hi hz0 hz1 hz2 (by decide) A3 c3 n3 q rfl hown _ (n - n3) _ (zs.drop n3) rfl HL.out (fun h => by cases h) _ (ints_drop hatw) hn3s hns hszw spot_some ?_; intro A5 c5 w5 hown5 hgr5; rw [HF.out, hsum] at hown5; have he5 := Lib.hid (row_end hown5 (hbw.grown hgr5 hszw (fun k hk => (own_lo hown k hk).1))); clear hown5 hgr5)
          go_ret
          exact he5.out
      · obtain ⟨m, rfl⟩ : ∃ m, r = m + 1 := ⟨r - 1, by omega⟩
        obtain ⟨b2, o2, e2, hbb, hc⟩ := (HS.out.below hbw) m (by rw [HN.out]; omega)
        simp only [Option.some.injEq, Addr.mk.injEq, and_true] at e2
        obtain ⟨rfl, rfl⟩ := e2
        obtain ⟨hx1, hx2⟩ := HZ.out m (by rw [HN.out]; omega)
        have hq := (HI m (by omega)).out
        rw [← HQ.out] at hq
        have HQ2 := Lib.hid hq
        have hmn : m < n := by omega
        have hn3s : n3 ≤ 4294967296 := by omega
        have hnr2 : n3 + 1 + m = k := by omega
        clear hq HQ hr0 hnr HI
        generalize zs.getD m 0 = x at *
        first
          | go_wp2_with (at_builtin; refine app_more rfl (.tmp 25) (.tmp 30) 28 rfl w.heap.size 3 i0 (.int .i64 0) 8 Tryz.underlying28 hi hz0 hz1 hz2 (by decide) rfl A3 c3 n3 (vals q) rfl hown (.int .i64 x) rfl _ rfl rfl hn3s hszw ?_; intro g c5 w5 hown5 hgr5; have hb5 := Lib.hid (hbw.grown hgr5 hszw (fun k hk => (own_lo hown k hk).1)); have ho5 := Lib.hid (show w5.ownsRow w.heap.size 3 1 (.slice (some ⟨g, 0, none⟩) (n3 + 1) c5) (n3 + 1) (vals (q ++ [x])) by unfold vals; rw [List.map_append]; exact hown5); clear hown5 hgr5)
            go_roundw
            case rel => exact ⟨m, by omega, by go_num, _, n3 + 1, c5, q ++ [x], rfl, hnr2, ho5.out, HQ2.out.symm, hb5.out⟩
            case measure => simp [intOf]
          | go_wp2_with fail
            refine (Pk.spec_turn x _ hx1 hx2).mono ?_
            rintro e w' ⟨rfl, rfl⟩
            go_wp2_with (at_builtin; refine app_more rfl (.tmp 17) (.tmp 23) 28 rfl w.heap.size 3 i0 (.int .i64 0) 8 Tryz.underlying28 hi hz0 hz1 hz2 (by decide) rfl A3 c3 n3 (vals q) rfl hown (.int .i64 (turnF x)) rfl _ rfl rfl hn3s hszw ?_; intro g c5 w5 hown5 hgr5; have hb5 := Lib.hid (hbw.grown hgr5 hszw (fun k hk => (own_lo hown k hk).1)); have ho5 := Lib.hid (show w5.ownsRow w.heap.size 3 1 (.slice (some ⟨g, 0, none⟩) (n3 + 1) c5) (n3 + 1) (vals (q ++ [turnF x])) by unfold vals; rw [List.map_append]; exact hown5); clear hown5 hgr5)
            go_roundw
            case rel => exact ⟨m, by omega, by go_num, _, n3 + 1, c5, q ++ [turnF x], rfl, hnr2, ho5.out, HQ2.out.symm, hb5.out⟩
            case measure => simp [intOf]
set_option maxHeartbeats 2000000 in
theorem spec_faro_at (A : Option Addr) (n c k : Nat) (kv : Int) (zs : List Int) (w : World) (hn : zs.length = n) (h0 : 1 ≤ n) (h12 : n ≤ 12) (hnc : n ≤ c) (hkv : (kv = 0 ∧ k = 0) ∨ (kv = 1 ∧ k = 1)) (hss : IntsAt w w.heap.size .i64 A zs) :
    Calls Tryz.prog 130 #[.slice A n c, .int .i64 kv] w (IsIL w.heap.size (faroL zs k) w) := by
  obtain ⟨i0, hi, hz0, hz1, hz2⟩ := info_parts infoInt
  obtain ⟨b, o, rfl⟩ := ints_addr hss (by omega)
  obtain ⟨h, hh⟩ : ∃ h : Nat, h = n / 2 := ⟨_, rfl⟩
  have hhn : h < n := by omega
  have hhc : h ≤ c := by omega
  have hch : ¬ c = h := by omega
  have hq2 : (n : Int) / 2 = (h : Int) := by omega
  have HN := Lib.hid hn
  have HU := Lib.hid (show (zs.take h).length = h by rw [List.length_take, hn]; omega)
  have HV := Lib.hid (show (zs.drop h).length = n - h by rw [List.length_drop, hn])
  obtain ⟨R, hR⟩ : ∃ R, R = faroL zs k := ⟨_, rfl⟩
  have HI0 := Lib.hid (show sfaroL k (h + (n - h) + 1) (zs.take h) (zs.drop h) [] = R by rw [hR, ← sfaro_eq hn h12 (by omega), hh]; congr 1; omega)
  rw [← hR]
  have HS1 := Lib.hid (show IntsAt w w.heap.size .i64 (some ⟨b, o, none⟩) (zs.take h) from ints_take2 h hss)
  have HS2 := Lib.hid (show IntsAt w w.heap.size .i64 (some ⟨b, o + h, none⟩) (zs.drop h) from ints_drop hss)
  have h3 : n - h ≤ c - h := by omega
  have h4 : 0 + h + (n - h) ≤ 12 := by omega
  have HB0 := fun o => Lib.hid ((Below.refl w.heap.size w).alloc (Nat.le_refl _) o)
  clear hn hss hh hR
  rcases hkv with ⟨rfl, hk0⟩ | ⟨rfl, hk0⟩
  all_goals
    have HK := Lib.hid hk0
    clear hk0
    go_enter Tryz.func130, Tryz.ntmps130
    go_wp2
    go_loopw [5, 6, 7] (fun s5 s6 s7 wr => ∃ (n1 n2 n3 c1 c2 c3 : Nat) (A1 A2 A3 : Option Addr) (u v q : List Int), s5 = .slice A1 n1 c1 ∧ s6 = .slice A2 n2 c2 ∧ s7 = .slice A3 n3 c3 ∧ Hid (u.length = n1) ∧ Hid (v.length = n2) ∧ n1 ≤ c1 ∧ n2 ≤ c2 ∧
      Hid (IntsAt w w.heap.size .i64 A1 u) ∧ Hid (IntsAt w w.heap.size .i64 A2 v) ∧ Hid (∃ b o, A1 = some ⟨b, o, none⟩) ∧ Hid (∃ b o, A2 = some ⟨b, o, none⟩) ∧ n3 + n1 + n2 ≤ 12 ∧ wr.ownsRow w.heap.size 3 1 (.slice A3 n3 c3) n3 (vals q) ∧ Hid (sfaroL k (n1 + n2 + 1) u v q = R) ∧ Below w.heap.size w wr) (fun s5 s6 _ _ => lenV s5 + lenV s6)
    case atStart => exact ⟨h, n - h, 0, c, c - h, 0, _, _, _, _, _, [], rfl, rfl, rfl, HU, HV, hhc, h3, HS1, HS2, ⟨b, o, rfl⟩, ⟨b, o + h, rfl⟩, h4, World.ownsRow_lit w #[] 0 (Nat.le_refl _) (Nat.zero_le _) rfl, HI0, (HB0 _).out⟩
    case round =>
      obtain ⟨n1, n2, n3, c1, c2, c3, A1, A2, A3, u, v, q, rfl, rfl, rfl, HLU, HLV, hnc1, hnc2, HA1, HA2, HB1, HB2, h12t, hown, HI, hbw⟩ := hrel
      clear HS1 HS2 HI0 HU HV h3 h4 HB0 hch hq2
      have hszw := hbw.size
      have hl3 := Lib.hid (row_len hown)
      by_cases hn1 : n1 = 0
      · subst hn1
        have hu : u = [] := List.eq_nil_of_length_eq_zero HLU.out
        by_cases hn2 : n2 = 0
        · subst hn2
          have hv : v = [] := List.eq_nil_of_length_eq_zero HLV.out
          have HF := Lib.hid (show q = R by
            have h := HI.out
            rw [hu, hv] at h
            exact h)
          rw [HF.out] at hown
          have he5 := Lib.hid (row_end hown hbw)
          clear hown HI hu hv
          go_wp2
          go_ret
          exact he5.out
        · obtain ⟨m1, rfl⟩ : ∃ m1, n2 = m1 + 1 := ⟨n2 - 1, by omega⟩
          obtain ⟨b1, o1, e1⟩ := HB2.out
          subst e1
          obtain ⟨x, u', e2⟩ : ∃ x u', v = x :: u' := by
            cases v with
            | nil => have := HLV.out; simp at this
            | cons x u' => exact ⟨x, u', rfl⟩
          subst e2
          have hc : wr.cell? ⟨b1, o1, none⟩ = some (.int .i64 x) := by
            obtain ⟨b2, o2, e, hlt, hcc⟩ := (HA2.out.below hbw) 0 (by simp)
            simp only [Option.some.injEq, Addr.mk.injEq, and_true] at e
            rw [e.1, e.2]; exact hcc
          have HLU2 := Lib.hid (show u'.length = m1 by have := HLV.out; simpa using this)
          have HT : Hid (IntsAt w w.heap.size .i64 (some ⟨b1, o1 + 1, none⟩) u') := by
            have h := ints_drop (k := 1) HA2.out
            exact h
          have HT0 : m1 = 0 → Hid (IntsAt w w.heap.size .i64 (some ⟨b1, o1, none⟩) u') := fun h => ints_none _ _ _ (by rw [HLU2.out, h])
          have hn3s : n3 ≤ 4294967296 := by omega
          have hpos : (0 : Int) < (m1 : Int) + 1 := by omega
          have hpos0 : 0 < m1 + 1 := by omega
          have HI2 := Lib.hid (show sfaroL k (0 + m1 + 1) u u' (q ++ [x]) = R by
            have h := HI.out
            rw [hu] at h ⊢
            rw [show 0 + (m1 + 1) + 1 = (0 + m1 + 1) + 1 by omega] at h
            exact h)
          clear HI HA2 HB2 HLV hn2 hu
          by_cases hc1 : c2 = 1
          · obtain rfl : m1 = 0 := by omega
            subst hc1
            go_wp2_with (at_builtin; refine app_more rfl (.tmp 50) (.tmp 54) 28 rfl w.heap.size 3 i0 (.int .i64 0) 8 Tryz.underlying28 hi hz0 hz1 hz2 (by decide) rfl A3 c3 n3 (vals q) rfl hown (.int .i64 x) rfl _ rfl rfl hn3s hszw ?_; intro g c5 w5 hown5 hgr5; have hb5 := Lib.hid (hbw.grown hgr5 hszw (fun k hk => (own_lo hown k hk).1)); have ho5 := Lib.hid (show w5.ownsRow w.heap.size 3 1 (.slice (some ⟨g, 0, none⟩) (n3 + 1) c5) (n3 + 1) (vals (q ++ [x])) by unfold vals; rw [List.map_append]; exact hown5); clear hown5 hgr5)
            go_roundw
            case rel => exact ⟨0, 0, n3 + 1, c1, _, c5, A1, _, _, u, u', q ++ [x], rfl, rfl, rfl, HLU, HLU2, hnc1, Nat.zero_le _, HA1, HT0 (by first | trivial | rfl), HB1, (by first | trivial | exact ⟨_, _, rfl⟩), by omega, ho5.out, HI2, hb5.out⟩
            case measure => simp [lenV]
          · have hc0 : ¬ (c2 : Int) = 1 := by omega
            have hcm : m1 ≤ c2 - 1 := by omega
            go_wp2_with (at_builtin; refine app_more rfl (.tmp 50) (.tmp 54) 28 rfl w.heap.size 3 i0 (.int .i64 0) 8 Tryz.underlying28 hi hz0 hz1 hz2 (by decide) rfl A3 c3 n3 (vals q) rfl hown (.int .i64 x) rfl _ rfl rfl hn3s hszw ?_; intro g c5 w5 hown5 hgr5; have hb5 := Lib.hid (hbw.grown hgr5 hszw (fun k hk => (own_lo hown k hk).1)); have ho5 := Lib.hid (show w5.ownsRow w.heap.size 3 1 (.slice (some ⟨g, 0, none⟩) (n3 + 1) c5) (n3 + 1) (vals (q ++ [x])) by unfold vals; rw [List.map_append]; exact hown5); clear hown5 hgr5)
            go_roundw
            case rel => exact ⟨0, m1, n3 + 1, c1, _, c5, A1, _, _, u, u', q ++ [x], rfl, rfl, rfl, HLU, HLU2, hnc1, hcm, HA1, HT, HB1, (by first | trivial | exact ⟨_, _, rfl⟩), by omega, ho5.out, HI2, hb5.out⟩
            case measure => simp [lenV]
      · by_cases hn2 : n2 = 0
        · subst hn2
          have hv : v = [] := List.eq_nil_of_length_eq_zero HLV.out
          obtain ⟨m1, rfl⟩ : ∃ m1, n1 = m1 + 1 := ⟨n1 - 1, by omega⟩
          obtain ⟨b1, o1, e1⟩ := HB1.out
          subst e1
          obtain ⟨x, u', e2⟩ : ∃ x u', u = x :: u' := by
            cases u with
            | nil => have := HLU.out; simp at this
            | cons x u' => exact ⟨x, u', rfl⟩
          subst e2
          have hc : wr.cell? ⟨b1, o1, none⟩ = some (.int .i64 x) := by
            obtain ⟨b2, o2, e, hlt, hcc⟩ := (HA1.out.below hbw) 0 (by simp)
            simp only [Option.some.injEq, Addr.mk.injEq, and_true] at e
            rw [e.1, e.2]; exact hcc
          have HLU2 := Lib.hid (show u'.length = m1 by have := HLU.out; simpa using this)
          have HT : Hid (IntsAt w w.heap.size .i64 (some ⟨b1, o1 + 1, none⟩) u') := by
            have h := ints_drop (k := 1) HA1.out
            exact h
          have HT0 : m1 = 0 → Hid (IntsAt w w.heap.size .i64 (some ⟨b1, o1, none⟩) u') := fun h => ints_none _ _ _ (by rw [HLU2.out, h])
          have hn3s : n3 ≤ 4294967296 := by omega
          have hpos : (0 : Int) < (m1 : Int) + 1 := by omega
          have hpos0 : 0 < m1 + 1 := by omega
          have HI2 := Lib.hid (show sfaroL k (m1 + 0 + 1) u' v (q ++ [x]) = R by
            have h := HI.out
            rw [hv] at h ⊢
            rw [show m1 + 1 + 0 + 1 = (m1 + 0 + 1) + 1 by omega] at h
            exact h)
          clear HI HA1 HB1 HLU hn1 hv
          by_cases hc1 : c1 = 1
          · obtain rfl : m1 = 0 := by omega
            subst hc1
            go_wp2_with (at_builtin; refine app_more rfl (.tmp 42) (.tmp 46) 28 rfl w.heap.size 3 i0 (.int .i64 0) 8 Tryz.underlying28 hi hz0 hz1 hz2 (by decide) rfl A3 c3 n3 (vals q) rfl hown (.int .i64 x) rfl _ rfl rfl hn3s hszw ?_; intro g c5 w5 hown5 hgr5; have hb5 := Lib.hid (hbw.grown hgr5 hszw (fun k hk => (own_lo hown k hk).1)); have ho5 := Lib.hid (show w5.ownsRow w.heap.size 3 1 (.slice (some ⟨g, 0, none⟩) (n3 + 1) c5) (n3 + 1) (vals (q ++ [x])) by unfold vals; rw [List.map_append]; exact hown5); clear hown5 hgr5)
            go_roundw
            case rel => exact ⟨0, 0, n3 + 1, _, c2, c5, _, A2, _, u', v, q ++ [x], rfl, rfl, rfl, HLU2, HLV, Nat.zero_le _, hnc2, HT0 (by first | trivial | rfl), HA2, (by first | trivial | exact ⟨_, _, rfl⟩), HB2, by omega, ho5.out, HI2, hb5.out⟩
            case measure => simp [lenV]
          · have hc0 : ¬ (c1 : Int) = 1 := by omega
            have hcm : m1 ≤ c1 - 1 := by omega
            go_wp2_with (at_builtin; refine app_more rfl (.tmp 42) (.tmp 46) 28 rfl w.heap.size 3 i0 (.int .i64 0) 8 Tryz.underlying28 hi hz0 hz1 hz2 (by decide) rfl A3 c3 n3 (vals q) rfl hown (.int .i64 x) rfl _ rfl rfl hn3s hszw ?_; intro g c5 w5 hown5 hgr5; have hb5 := Lib.hid (hbw.grown hgr5 hszw (fun k hk => (own_lo hown k hk).1)); have ho5 := Lib.hid (show w5.ownsRow w.heap.size 3 1 (.slice (some ⟨g, 0, none⟩) (n3 + 1) c5) (n3 + 1) (vals (q ++ [x])) by unfold vals; rw [List.map_append]; exact hown5); clear hown5 hgr5)
            go_roundw
            case rel => exact ⟨m1, 0, n3 + 1, _, c2, c5, _, A2, _, u', v, q ++ [x], rfl, rfl, rfl, HLU2, HLV, hcm, hnc2, HT, HA2, (by first | trivial | exact ⟨_, _, rfl⟩), HB2, by omega, ho5.out, HI2, hb5.out⟩
            case measure => simp [lenV]
        · obtain ⟨m2, hm2⟩ : ∃ m2, n2 = m2 + 1 := ⟨n2 - 1, by omega⟩
          obtain ⟨m3, hm3⟩ : ∃ m3, n1 = m3 + 1 := ⟨n1 - 1, by omega⟩
          have hb0 : ((n2 : Int) == 0) = false := beq_eq_false_iff_ne.2 (by omega)
          have hp1 : (0 : Int) < (n1 : Int) := by omega
          have hp2 : (0 : Int) < (n2 : Int) := by omega
          have hp3 : 0 < n1 := by omega
          have hp4 : 0 < n2 := by omega
          have hp5 : ¬ n2 = 0 := by omega
          by_cases hpar : n3 % 2 = k
          · first
              | have hA : (((n3 : Int) % 2) == 0) = true := by have := HK.out; rw [beq_iff_eq]; omega
              | have hA : (((n3 : Int) % 2) == 1) = true := by have := HK.out; rw [beq_iff_eq]; omega
            obtain ⟨y, v', ev⟩ : ∃ y v', v = y :: v' := by
              cases v with
              | nil => have := HLV.out; simp at this; omega
              | cons y v' => exact ⟨y, v', rfl⟩
            clear hm3
            obtain ⟨m1, rfl⟩ : ∃ m1, n1 = m1 + 1 := ⟨n1 - 1, by omega⟩
            obtain ⟨b1, o1, e1⟩ := HB1.out
            subst e1
            obtain ⟨x, u', e2⟩ : ∃ x u', u = x :: u' := by
              cases u with
              | nil => have := HLU.out; simp at this
              | cons x u' => exact ⟨x, u', rfl⟩
            subst e2
            have hc : wr.cell? ⟨b1, o1, none⟩ = some (.int .i64 x) := by
              obtain ⟨b2, o2, e, hlt, hcc⟩ := (HA1.out.below hbw) 0 (by simp)
              simp only [Option.some.injEq, Addr.mk.injEq, and_true] at e
              rw [e.1, e.2]; exact hcc
            have HLU2 := Lib.hid (show u'.length = m1 by have := HLU.out; simpa using this)
            have HT : Hid (IntsAt w w.heap.size .i64 (some ⟨b1, o1 + 1, none⟩) u') := by
              have h := ints_drop (k := 1) HA1.out
              exact h
            have HT0 : m1 = 0 → Hid (IntsAt w w.heap.size .i64 (some ⟨b1, o1, none⟩) u') := fun h => ints_none _ _ _ (by rw [HLU2.out, h])
            have hn3s : n3 ≤ 4294967296 := by omega
            have hpos : (0 : Int) < (m1 : Int) + 1 := by omega
            have hpos0 : 0 < m1 + 1 := by omega
            have HI2 := Lib.hid (show sfaroL k (m1 + n2 + 1) u' v (q ++ [x]) = R by
              have h := HI.out
              rw [show m1 + 1 + n2 + 1 = (m1 + n2 + 1) + 1 by omega, ev, sfaroL, hl3.out, if_pos hpar, ← ev] at h
              exact h)
            clear HI HA1 HB1 HLU hn1 hpar ev hm2 hp1 hp3
            by_cases hc1 : c1 = 1
            · obtain rfl : m1 = 0 := by omega
              subst hc1
              go_wp2_with (at_builtin; refine app_more rfl (.tmp 42) (.tmp 46) 28 rfl w.heap.size 3 i0 (.int .i64 0) 8 Tryz.underlying28 hi hz0 hz1 hz2 (by decide) rfl A3 c3 n3 (vals q) rfl hown (.int .i64 x) rfl _ rfl rfl hn3s hszw ?_; intro g c5 w5 hown5 hgr5; have hb5 := Lib.hid (hbw.grown hgr5 hszw (fun k hk => (own_lo hown k hk).1)); have ho5 := Lib.hid (show w5.ownsRow w.heap.size 3 1 (.slice (some ⟨g, 0, none⟩) (n3 + 1) c5) (n3 + 1) (vals (q ++ [x])) by unfold vals; rw [List.map_append]; exact hown5); clear hown5 hgr5)
              go_roundw
              case rel => exact ⟨0, n2, n3 + 1, _, c2, c5, _, A2, _, u', v, q ++ [x], rfl, rfl, rfl, HLU2, HLV, Nat.zero_le _, hnc2, HT0 (by first | trivial | rfl), HA2, (by first | trivial | exact ⟨_, _, rfl⟩), HB2, by omega, ho5.out, HI2, hb5.out⟩
              case measure => simp [lenV]
            · have hc0 : ¬ (c1 : Int) = 1 := by omega
              have hcm : m1 ≤ c1 - 1 := by omega
              go_wp2_with (at_builtin; refine app_more rfl (.tmp 42) (.tmp 46) 28 rfl w.heap.size 3 i0 (.int .i64 0) 8 Tryz.underlying28 hi hz0 hz1 hz2 (by decide) rfl A3 c3 n3 (vals q) rfl hown (.int .i64 x) rfl _ rfl rfl hn3s hszw ?_; intro g c5 w5 hown5 hgr5; have hb5 := Lib.hid (hbw.grown hgr5 hszw (fun k hk => (own_lo hown k hk).1)); have ho5 := Lib.hid (show w5.ownsRow w.heap.size 3 1 (.slice (some ⟨g, 0, none⟩) (n3 + 1) c5) (n3 + 1) (vals (q ++ [x])) by unfold vals; rw [List.map_append]; exact hown5); clear hown5 hgr5)
              go_roundw
              case rel => exact ⟨m1, n2, n3 + 1, _, c2, c5, _, A2, _, u', v, q ++ [x], rfl, rfl, rfl, HLU2, HLV, hcm, hnc2, HT, HA2, (by first | trivial | exact ⟨_, _, rfl⟩), HB2, by omega, ho5.out, HI2, hb5.out⟩
              case measure => simp [lenV]
          · first
              | have hA : (((n3 : Int) % 2) == 0) = false := by have := HK.out; rw [beq_eq_false_iff_ne]; omega
              | have hA : (((n3 : Int) % 2) == 1) = false := by have := HK.out; rw [beq_eq_false_iff_ne]; omega
            obtain ⟨y, v', ev⟩ : ∃ y v', u = y :: v' := by
              cases u with
              | nil => have := HLU.out; simp at this; omega
              | cons y v' => exact ⟨y, v', rfl⟩
            clear hm2
            obtain ⟨m1, rfl⟩ : ∃ m1, n2 = m1 + 1 := ⟨n2 - 1, by omega⟩
            obtain ⟨b1, o1, e1⟩ := HB2.out
            subst e1
            obtain ⟨x, u', e2⟩ : ∃ x u', v = x :: u' := by
              cases v with
              | nil => have := HLV.out; simp at this
              | cons x u' => exact ⟨x, u', rfl⟩
            subst e2
            have hc : wr.cell? ⟨b1, o1, none⟩ = some (.int .i64 x) := by
              obtain ⟨b2, o2, e, hlt, hcc⟩ := (HA2.out.below hbw) 0 (by simp)
              simp only [Option.some.injEq, Addr.mk.injEq, and_true] at e
              rw [e.1, e.2]; exact hcc
            have HLU2 := Lib.hid (show u'.length = m1 by have := HLV.out; simpa using this)
            have HT : Hid (IntsAt w w.heap.size .i64 (some ⟨b1, o1 + 1, none⟩) u') := by
              have h := ints_drop (k := 1) HA2.out
              exact h
            have HT0 : m1 = 0 → Hid (IntsAt w w.heap.size .i64 (some ⟨b1, o1, none⟩) u') := fun h => ints_none _ _ _ (by rw [HLU2.out, h])
            have hn3s : n3 ≤ 4294967296 := by omega
            have hpos : (0 : Int) < (m1 : Int) + 1 := by omega
            have hpos0 : 0 < m1 + 1 := by omega
            have HI2 := Lib.hid (show sfaroL k (n1 + m1 + 1) u u' (q ++ [x]) = R by
              have h := HI.out
              rw [show n1 + (m1 + 1) + 1 = (n1 + m1 + 1) + 1 by omega, ev, sfaroL, hl3.out, if_neg hpar, ← ev] at h
              exact h)
            clear HI HA2 HB2 HLV hn2 hpar ev hm3 hp2 hp4 hp5
            by_cases hc1 : c2 = 1
            · obtain rfl : m1 = 0 := by omega
              subst hc1
              go_wp2_with (at_builtin; refine app_more rfl (.tmp 50) (.tmp 54) 28 rfl w.heap.size 3 i0 (.int .i64 0) 8 Tryz.underlying28 hi hz0 hz1 hz2 (by decide) rfl A3 c3 n3 (vals q) rfl hown (.int .i64 x) rfl _ rfl rfl hn3s hszw ?_; intro g c5 w5 hown5 hgr5; have hb5 := Lib.hid (hbw.grown hgr5 hszw (fun k hk => (own_lo hown k hk).1)); have ho5 := Lib.hid (show w5.ownsRow w.heap.size 3 1 (.slice (some ⟨g, 0, none⟩) (n3 + 1) c5) (n3 + 1) (vals (q ++ [x])) by unfold vals; rw [List.map_append]; exact hown5); clear hown5 hgr5)
              go_roundw
              case rel => exact ⟨n1, 0, n3 + 1, c1, _, c5, A1, _, _, u, u', q ++ [x], rfl, rfl, rfl, HLU, HLU2, hnc1, Nat.zero_le _, HA1, HT0 (by first | trivial | rfl), HB1, (by first | trivial | exact ⟨_, _, rfl⟩), by omega, ho5.out, HI2, hb5.out⟩
              case measure => simp [lenV]
            · have hc0 : ¬ (c2 : Int) = 1 := by omega
              have hcm : m1 ≤ c2 - 1 := by omega
              go_wp2_with (at_builtin; refine app_more rfl (.tmp 50) (.tmp 54) 28 rfl w.heap.size 3 i0 (.int .i64 0) 8 Tryz.underlying28 hi hz0 hz1 hz2 (by decide) rfl A3 c3 n3 (vals q) rfl hown (.int .i64 x) rfl _ rfl rfl hn3s hszw ?_; intro g c5 w5 hown5 hgr5; have hb5 := Lib.hid (hbw.grown hgr5 hszw (fun k hk => (own_lo hown k hk).1)); have ho5 := Lib.hid (show w5.ownsRow w.heap.size 3 1 (.slice (some ⟨g, 0, none⟩) (n3 + 1) c5) (n3 + 1) (vals (q ++ [x])) by unfold vals; rw [List.map_append]; exact hown5); clear hown5 hgr5)
              go_roundw
              case rel => exact ⟨n1, m1, n3 + 1, c1, _, c5, A1, _, _, u, u', q ++ [x], rfl, rfl, rfl, HLU, HLU2, hnc1, hcm, HA1, HT, HB1, (by first | trivial | exact ⟨_, _, rfl⟩), by omega, ho5.out, HI2, hb5.out⟩
              case measure => simp [lenV]
end Go.Proofs.YthcggkhpamjjbaaGreat.Sv
