/- The model's moves: l04Back, l04Faro, l04Monge. The model's moves: l04Monge, l04Milk, l04Duck. The model's moves: l04Milk, l04Duck. -/
import Derived.Test.YtibephoepkofnaaGreatMv4
import Derived.BigQuiet
import Derived.Deep.QuietTactic
import Derived.Deep.RegionHeld3
import Derived.Deep.RegionLaw
set_option linter.unusedVariables false
set_option maxRecDepth 20000
namespace Go.Proofs.YtibephoepkofnaaGreat.Sv
open Go.RowKit Fr Own Pk Ins Pfn Rws Lb Cat Mvp Mv1 Mv2 Mv3

theorem sf_all : ((List.range 13).all fun n => (List.range 2).all fun k => sfaroL k (n + 1) ((List.range n).take (n / 2)) ((List.range n).drop (n / 2)) [] == faroL (List.range n) k) = true := by kernel_rfl
theorem sfaro_eq {zs : List Int} {k n : Nat} (hn : zs.length = n) (h12 : n ≤ 12) (hk : k ≤ 1) : sfaroL k (n + 1) (zs.take (n / 2)) (zs.drop (n / 2)) [] = faroL zs k := by
  have h1 := List.all_eq_true.1 sf_all n (List.mem_range.2 (by omega))
  have h2 := List.all_eq_true.1 h1 k (List.mem_range.2 (by omega))
  rw [beq_iff_eq] at h2
  have e := as_range zs
  rw [hn] at e
  rw [e, faro_map, ← h2, ← sfaro_map, List.map_take, List.map_drop]
  rfl
theorem row_nil {w : World} {B : Nat} {A : Option Addr} {n c : Nat} {xs : List Value} (h : w.ownsRow B 3 1 (.slice A n c) n xs) : A = none → c = 0 := by
  intro e
  rcases own_full h with ⟨_, _, h2⟩ | ⟨_, _, h2, _⟩
  · exact h2
  · rw [e] at h2; cases h2
theorem row_spot {w : World} {B : Nat} {A : Option Addr} {n c : Nat} {xs : List Value} (h : w.ownsRow B 3 1 (.slice A n c) n xs) : ∀ a, A = some a → a.spot = none := by
  intro a e
  rcases own_full h with ⟨h2, _, _⟩ | ⟨_, _, h2, _⟩
  · rw [e] at h2; cases h2
  · rw [e] at h2; simp only [Option.some.injEq] at h2; rw [h2]
theorem row_len {w : World} {B : Nat} {A : Option Addr} {n c : Nat} {zs : List Int} (h : w.ownsRow B 3 1 (.slice A n c) n (vals zs)) : zs.length = n := by have := h.1; rw [vals_len] at this; omega
theorem row_end {w w' : World} {A : Option Addr} {n c : Nat} {R : List Int} (h : w'.ownsRow w.heap.size 3 1 (.slice A n c) n (vals R)) (hb : Below w.heap.size w w') : IsIL w.heap.size R w (.returned (.slice A n c)) w' := by
  have hl := row_len h
  subst hl
  exact ⟨A, c, rfl, h, hb⟩

def mapUp (up : Bool) (l : List Int) : List Int := if up then l.map turnF else l
def backTo (up : Bool) (zs : List Int) (k r : Nat) : List Int := mapUp up ((zs.take k).drop r).reverse
theorem back_start (up : Bool) (zs : List Int) (k : Nat) (h : k ≤ zs.length) : backTo up zs k k = [] := by
  unfold backTo mapUp
  rw [List.drop_eq_nil_of_le (by rw [List.length_take]; omega)]
  split <;> rfl
theorem back_next (up : Bool) (zs : List Int) (k m : Nat) (hk : k ≤ zs.length) (hm : m < k) : backTo up zs k m = backTo up zs k (m + 1) ++ [if up then turnF (zs.getD m 0) else zs.getD m 0] := by
  have h1 : m < (zs.take k).length := by rw [List.length_take]; omega
  have h2 : (zs.take k)[m] = zs.getD m 0 := by
    rw [List.getElem_take, List.getD_eq_getElem?_getD, List.getElem?_eq_getElem (by omega)]
    rfl
  unfold backTo mapUp
  rw [List.drop_eq_getElem_cons h1, List.reverse_cons, h2]
  cases up
  · rfl
  · simp
set_option maxHeartbeats 1000000 in
theorem spec_back (up : Bool) (A : Option Addr) (n c k : Nat) (zs : List Int) (w : World) (hn : zs.length = n) (h0 : 1 ≤ n) (h12 : n ≤ 12) (hnc : n ≤ c) (hk : k ≤ n) (hz : Fits zs) (hss : IntsAt w w.heap.size .i64 A zs) :
    Calls Tryz.prog 63 #[.slice A n c, .int .i64 (k : Int), .bool up] w (IsIL w.heap.size (mapUp up (zs.take k).reverse ++ zs.drop k) w) := by
  obtain ⟨i0, hi, hz0, hz1, hz2⟩ := info_parts infoInt
  obtain ⟨b, o, rfl⟩ := ints_addr hss (by omega)
  have HN := Lib.hid hn
  have HS := Lib.hid hss
  have HZ := Lib.hid hz
  have HI0 := Lib.hid (back_start up zs k (by omega))
  have HI := fun m h => Lib.hid (back_next up zs k m (by omega) h)
  have HE := Lib.hid (show backTo up zs k 0 = mapUp up (zs.take k).reverse by unfold backTo; rw [List.drop_zero])
  obtain ⟨R, hR⟩ : ∃ R, R = mapUp up (zs.take k).reverse ++ zs.drop k := ⟨_, rfl⟩
  rw [← hR]
  have HR := Lib.hid hR
  have HL := Lib.hid (show (zs.drop k).length = n - k by rw [List.length_drop, hn])
  have HB0 := fun o => Lib.hid ((Below.refl w.heap.size w).alloc (Nat.le_refl _) o)
  clear hn hss hz hR
  cases up
  all_goals
    go_enter Tryz.func63, Tryz.ntmps63
    go_wp2
    go_loopw [7, 8] (fun s7 s8 wr => ∃ r : Nat, r ≤ k ∧ s8 = .int .i64 ((r : Int) - 1) ∧ ∃ (A3 : Option Addr) (n3 c3 : Nat) (q : List Int), s7 = .slice A3 n3 c3 ∧ n3 + r = k ∧ wr.ownsRow w.heap.size 3 1 (.slice A3 n3 c3) n3 (vals q) ∧ Hid (q = backTo _ zs k r) ∧ Below w.heap.size w wr) (fun _ i _ => (intOf i + 1).toNat)
    case atStart => exact ⟨k, Nat.le_refl _, rfl, _, 0, 0, [], rfl, by omega, World.ownsRow_lit w #[] 0 (Nat.le_refl _) (Nat.zero_le _) rfl, HI0.out.symm, (HB0 _).out⟩
    case round =>
      obtain ⟨r, hr, rfl, A3, n3, c3, q, rfl, hnr, hown, HQ, hbw⟩ := hrel
      clear HI0 HB0
      have hszw := hbw.size
      by_cases hr0 : r = 0
      · subst hr0
        have hn3 : n3 = k := by omega
        subst hn3
        have HF := Lib.hid (show q ++ zs.drop n3 = R by rw [HR.out, HQ.out, HE.out])
        have hatw := HS.out.below hbw
        clear HQ hr hnr
        by_cases hck : c = n3
        · obtain rfl : n = n3 := by omega
          subst hck
          have hL0 := HL.out.trans (Nat.sub_self _)
          go_wp2_with (at_builtin; refine app_any rfl (.tmp 32) (.tmp 35) 22 rfl w.heap.size 3 i0 8 Tryz.underlying22 hi hz0 hz1 hz2 (by decide) A3 c3 _ q rfl hown _ 0 _ (zs.drop _) rfl hL0 (fun h => by cases h) wr.heap.size (ints_none _ _ _ hL0) (by omega) (by omega) hszw spot_some ?_; intro A5 c5 w5 hown5 hgr5; rw [HF.out] at hown5; have he5 := Lib.hid (row_end hown5 (hbw.grown hgr5 hszw (fun k hk => (own_lo hown k hk).1))); clear hown5 hgr5)
          go_ret
          exact he5.out
        · have hn3s : n3 ≤ 4294967296 := by omega
          have hns : n - n3 ≤ 4294967296 := by omega
          have hsum : n3 + (n - n3) = n := by omega
          go_wp2_with (at_builtin; refine app_any rfl (.tmp 32) (.tmp 35) 22 rfl w.heap.size 3 i0 8 Tryz.underlying22 hi hz0 hz1 hz2 (by decide) A3 c3 n3 q rfl hown _ (n - n3) _ (zs.drop n3) rfl HL.out (fun h => by cases h) _ (ints_drop hatw) hn3s hns hszw spot_some ?_; intro A5 c5 w5 hown5 hgr5; rw [HF.out, hsum] at hown5; have he5 := Lib.hid (row_end hown5 (hbw.grown hgr5 hszw (fun k hk => (own_lo hown k hk).1))); clear hown5 hgr5)
          go_ret
          exact he5.out
      · obtain ⟨m, rfl⟩ : ∃ m, r = m + 1 := ⟨r - 1, by omega⟩
        obtain ⟨b2, o2, e2, hbb, hc⟩ := (HS.out.below hbw) m (by rw [HN.out]; omega)
        simp only [Option.some.injEq, Addr.mk.injEq, and_true] at e2
        obtain ⟨rfl, rfl⟩ := e2
        obtain ⟨hx1, hx2⟩ := HZ.out m (by rw [HN.out]; omega)
        have hq := (HI m (by omega)).out
        rw [← HQ.out] at hq
        have HQ2 := Lib.hid hq
        have hmn : m < n := by omega
        have hn3s : n3 ≤ 4294967296 := by omega
        have hnr2 : n3 + 1 + m = k := by omega
        clear hq HQ hr0 hnr HI
        generalize zs.getD m 0 = x at *
        first
          | go_wp2_with (at_builtin; refine app_more rfl (.tmp 25) (.tmp 30) 22 rfl w.heap.size 3 i0 (.int .i64 0) 8 Tryz.underlying22 hi hz0 hz1 hz2 (by decide) rfl A3 c3 n3 (vals q) rfl hown (.int .i64 x) rfl _ rfl rfl hn3s hszw ?_; intro g c5 w5 hown5 hgr5; have hb5 := Lib.hid (hbw.grown hgr5 hszw (fun k hk => (own_lo hown k hk).1)); have ho5 := Lib.hid (show w5.ownsRow w.heap.size 3 1 (.slice (some ⟨g, 0, none⟩) (n3 + 1) c5) (n3 + 1) (vals (q ++ [x])) by unfold vals; rw [List.map_append]; exact hown5); clear hown5 hgr5)
            go_roundw
            case rel => exact ⟨m, by omega, by go_num, _, n3 + 1, c5, q ++ [x], rfl, hnr2, ho5.out, HQ2.out.symm, hb5.out⟩
            case measure => simp [intOf]
          | go_wp2_with fail
            refine (Pk.spec_turn x _ hx1 hx2).mono ?_
            rintro e w' ⟨rfl, rfl⟩
            go_wp2_with (at_builtin; refine app_more rfl (.tmp 17) (.tmp 23) 22 rfl w.heap.size 3 i0 (.int .i64 0) 8 Tryz.underlying22 hi hz0 hz1 hz2 (by decide) rfl A3 c3 n3 (vals q) rfl hown (.int .i64 (turnF x)) rfl _ rfl rfl hn3s hszw ?_; intro g c5 w5 hown5 hgr5; have hb5 := Lib.hid (hbw.grown hgr5 hszw (fun k hk => (own_lo hown k hk).1)); have ho5 := Lib.hid (show w5.ownsRow w.heap.size 3 1 (.slice (some ⟨g, 0, none⟩) (n3 + 1) c5) (n3 + 1) (vals (q ++ [turnF x])) by unfold vals; rw [List.map_append]; exact hown5); clear hown5 hgr5)
            go_roundw
            case rel => exact ⟨m, by omega, by go_num, _, n3 + 1, c5, q ++ [turnF x], rfl, hnr2, ho5.out, HQ2.out.symm, hb5.out⟩
            case measure => simp [intOf]
set_option maxHeartbeats 2000000 in
theorem spec_faro_at (A : Option Addr) (n c k : Nat) (kv : Int) (zs : List Int) (w : World) (hn : zs.length = n) (h0 : 1 ≤ n) (h12 : n ≤ 12) (hnc : n ≤ c) (hkv : (kv = 0 ∧ k = 0) ∨ (kv = 1 ∧ k = 1)) (hss : IntsAt w w.heap.size .i64 A zs) :
    Calls Tryz.prog 64 #[.slice A n c, .int .i64 kv] w (IsIL w.heap.size (faroL zs k) w) := by
  obtain ⟨i0, hi, hz0, hz1, hz2⟩ := info_parts infoInt
  obtain ⟨b, o, rfl⟩ := ints_addr hss (by omega)
  obtain ⟨h, hh⟩ : ∃ h : Nat, h = n / 2 := ⟨_, rfl⟩
  have hhn : h < n := by omega
  have hhc : h ≤ c := by omega
  have hch : ¬ c = h := by omega
  have hq2 : (n : Int) / 2 = (h : Int) := by omega
  have HN := Lib.hid hn
  have HU := Lib.hid (show (zs.take h).length = h by rw [List.length_take, hn]; omega)
  have HV := Lib.hid (show (zs.drop h).length = n - h by rw [List.length_drop, hn])
  obtain ⟨R, hR⟩ : ∃ R, R = faroL zs k := ⟨_, rfl⟩
  have HI0 := Lib.hid (show sfaroL k (h + (n - h) + 1) (zs.take h) (zs.drop h) [] = R by rw [hR, ← sfaro_eq hn h12 (by omega), hh]; congr 1; omega)
  rw [← hR]
  have HS1 := Lib.hid (show IntsAt w w.heap.size .i64 (some ⟨b, o, none⟩) (zs.take h) from ints_take2 h hss)
  have HS2 := Lib.hid (show IntsAt w w.heap.size .i64 (some ⟨b, o + h, none⟩) (zs.drop h) from ints_drop hss)
  have h3 : n - h ≤ c - h := by omega
  have h4 : 0 + h + (n - h) ≤ 12 := by omega
  have HB0 := fun o => Lib.hid ((Below.refl w.heap.size w).alloc (Nat.le_refl _) o)
  clear hn hss hh hR
  rcases hkv with ⟨rfl, hk0⟩ | ⟨rfl, hk0⟩
  all_goals
    have HK := Lib.hid hk0
    clear hk0
    go_enter Tryz.func64, Tryz.ntmps64
    go_wp2
    go_loopw [5, 6, 7] (fun s5 s6 s7 wr => ∃ (n1 n2 n3 c1 c2 c3 : Nat) (A1 A2 A3 : Option Addr) (u v q : List Int), s5 = .slice A1 n1 c1 ∧ s6 = .slice A2 n2 c2 ∧ s7 = .slice A3 n3 c3 ∧ Hid (u.length = n1) ∧ Hid (v.length = n2) ∧ n1 ≤ c1 ∧ n2 ≤ c2 ∧
      Hid (IntsAt w w.heap.size .i64 A1 u) ∧ Hid (IntsAt w w.heap.size .i64 A2 v) ∧ Hid (∃ b o, A1 = some ⟨b, o, none⟩) ∧ Hid (∃ b o, A2 = some ⟨b, o, none⟩) ∧ n3 + n1 + n2 ≤ 12 ∧ wr.ownsRow w.heap.size 3 1 (.slice A3 n3 c3) n3 (vals q) ∧ Hid (sfaroL k (n1 + n2 + 1) u v q = R) ∧ Below w.heap.size w wr) (fun s5 s6 _ _ => lenV s5 + lenV s6)
    case atStart => exact ⟨h, n - h, 0, c, c - h, 0, _, _, _, _, _, [], rfl, rfl, rfl, HU, HV, hhc, h3, HS1, HS2, ⟨b, o, rfl⟩, ⟨b, o + h, rfl⟩, h4, World.ownsRow_lit w #[] 0 (Nat.le_refl _) (Nat.zero_le _) rfl, HI0, (HB0 _).out⟩
    case round =>
      obtain ⟨n1, n2, n3, c1, c2, c3, A1, A2, A3, u, v, q, rfl, rfl, rfl, HLU, HLV, hnc1, hnc2, HA1, HA2, HB1, HB2, h12t, hown, HI, hbw⟩ := hrel
      clear HS1 HS2 HI0 HU HV h3 h4 HB0 hch hq2
      have hszw := hbw.size
      have hl3 := Lib.hid (row_len hown)
      by_cases hn1 : n1 = 0
      · subst hn1
        have hu : u = [] := List.eq_nil_of_length_eq_zero HLU.out
        by_cases hn2 : n2 = 0
        · subst hn2
          have hv : v = [] := List.eq_nil_of_length_eq_zero HLV.out
          have HF := Lib.hid (show q = R by
            have h := HI.out
            rw [hu, hv] at h
            exact h)
          rw [HF.out] at hown
          have he5 := Lib.hid (row_end hown hbw)
          clear hown HI hu hv
          go_wp2
          go_ret
          exact he5.out
        · obtain ⟨m1, rfl⟩ : ∃ m1, n2 = m1 + 1 := ⟨n2 - 1, by omega⟩
          obtain ⟨b1, o1, e1⟩ := HB2.out
          subst e1
          obtain ⟨x, u', e2⟩ : ∃ x u', v = x :: u' := by
            cases v with
            | nil => have := HLV.out; simp at this
            | cons x u' => exact ⟨x, u', rfl⟩
          subst e2
          have hc : wr.cell? ⟨b1, o1, none⟩ = some (.int .i64 x) := by
            obtain ⟨b2, o2, e, hlt, hcc⟩ := (HA2.out.below hbw) 0 (by simp)
            simp only [Option.some.injEq, Addr.mk.injEq, and_true] at e
            rw [e.1, e.2]; exact hcc
          have HLU2 := Lib.hid (show u'.length = m1 by have := HLV.out; simpa using this)
          have HT : Hid (IntsAt w w.heap.size .i64 (some ⟨b1, o1 + 1, none⟩) u') := by
            have h := ints_drop (k := 1) HA2.out
            exact h
          have HT0 : m1 = 0 → Hid (IntsAt w w.heap.size .i64 (some ⟨b1, o1, none⟩) u') := fun h => ints_none _ _ _ (by rw [HLU2.out, h])
          have hn3s : n3 ≤ 4294967296 := by omega
          have hpos : (0 : Int) < (m1 : Int) + 1 := by omega
          have hpos0 : 0 < m1 + 1 := by omega
          have HI2 := Lib.hid (show sfaroL k (0 + m1 + 1) u u' (q ++ [x]) = R by
            have h := HI.out
            rw [hu] at h ⊢
            rw [show 0 + (m1 + 1) + 1 = (0 + m1 + 1) + 1 by omega] at h
            exact h)
          clear HI HA2 HB2 HLV hn2 hu
          by_cases hc1 : c2 = 1
          · obtain rfl : m1 = 0 := by omega
            subst hc1
            go_wp2_with (at_builtin; refine app_more rfl (.tmp 50) (.tmp 54) 22 rfl w.heap.size 3 i0 (.int .i64 0) 8 Tryz.underlying22 hi hz0 hz1 hz2 (by decide) rfl A3 c3 n3 (vals q) rfl hown (.int .i64 x) rfl _ rfl rfl hn3s hszw ?_; intro g c5 w5 hown5 hgr5; have hb5 := Lib.hid (hbw.grown hgr5 hszw (fun k hk => (own_lo hown k hk).1)); have ho5 := Lib.hid (show w5.ownsRow w.heap.size 3 1 (.slice (some ⟨g, 0, none⟩) (n3 + 1) c5) (n3 + 1) (vals (q ++ [x])) by unfold vals; rw [List.map_append]; exact hown5); clear hown5 hgr5)
            go_roundw
            case rel => exact ⟨0, 0, n3 + 1, c1, _, c5, A1, _, _, u, u', q ++ [x], rfl, rfl, rfl, HLU, HLU2, hnc1, Nat.zero_le _, HA1, HT0 (by first | trivial | rfl), HB1, (by first | trivial | exact ⟨_, _, rfl⟩), by omega, ho5.out, HI2, hb5.out⟩
            case measure => simp [lenV]
          · have hc0 : ¬ (c2 : Int) = 1 := by omega
            have hcm : m1 ≤ c2 - 1 := by omega
            go_wp2_with (at_builtin; refine app_more rfl (.tmp 50) (.tmp 54) 22 rfl w.heap.size 3 i0 (.int .i64 0) 8 Tryz.underlying22 hi hz0 hz1 hz2 (by decide) rfl A3 c3 n3 (vals q) rfl hown (.int .i64 x) rfl _ rfl rfl hn3s hszw ?_; intro g c5 w5 hown5 hgr5; have hb5 := Lib.hid (hbw.grown hgr5 hszw (fun k hk => (own_lo hown k hk).1)); have ho5 := Lib.hid (show w5.ownsRow w.heap.size 3 1 (.slice (some ⟨g, 0, none⟩) (n3 + 1) c5) (n3 + 1) (vals (q ++ [x])) by unfold vals; rw [List.map_append]; exact hown5); clear hown5 hgr5)
            go_roundw
            case rel => exact ⟨0, m1, n3 + 1, c1, _, c5, A1, _, _, u, u', q ++ [x], rfl, rfl, rfl, HLU, HLU2, hnc1, hcm, HA1, HT, HB1, (by first | trivial | exact ⟨_, _, rfl⟩), by omega, ho5.out, HI2, hb5.out⟩
            case measure => simp [lenV]
      · by_cases hn2 : n2 = 0
        · subst hn2
          have hv : v = [] := List.eq_nil_of_length_eq_zero HLV.out
          obtain ⟨m1, rfl⟩ : ∃ m1, n1 = m1 + 1 := ⟨n1 - 1, by omega⟩
          obtain ⟨b1, o1, e1⟩ := HB1.out
          subst e1
          obtain ⟨x, u', e2⟩ : ∃ x u', u = x :: u' := by
            cases u with
            | nil => have := HLU.out; simp at this
            | cons x u' => exact ⟨x, u', rfl⟩
          subst e2
          have hc : wr.cell? ⟨b1, o1, none⟩ = some (.int .i64 x) := by
            obtain ⟨b2, o2, e, hlt, hcc⟩ := (HA1.out.below hbw) 0 (by simp)
            simp only [Option.some.injEq, Addr.mk.injEq, and_true] at e
            rw [e.1, e.2]; exact hcc
          have HLU2 := Lib.hid (show u'.length = m1 by have := HLU.out; simpa using this)
          have HT : Hid (IntsAt w w.heap.size .i64 (some ⟨b1, o1 + 1, none⟩) u') := by
            have h := ints_drop (k := 1) HA1.out
            exact h
          have HT0 : m1 = 0 → Hid (IntsAt w w.heap.size .i64 (some ⟨b1, o1, none⟩) u') := fun h => ints_none _ _ _ (by rw [HLU2.out, h])
          have hn3s : n3 ≤ 4294967296 := by omega
          have hpos : (0 : Int) < (m1 : Int) + 1 := by omega
          have hpos0 : 0 < m1 + 1 := by omega
          have HI2 := Lib.hid (show sfaroL k (m1 + 0 + 1) u' v (q ++ [x]) = R by
            have h := HI.out
            rw [hv] at h ⊢
            rw [show m1 + 1 + 0 + 1 = (m1 + 0 + 1) + 1 by omega] at h
            exact h)
          clear HI HA1 HB1 HLU hn1 hv
          by_cases hc1 : c1 = 1
          · obtain rfl : m1 = 0 := by omega
            subst hc1
            go_wp2_with (at_builtin; refine app_more rfl (.tmp 42) (.tmp 46) 22 rfl w.heap.size 3 i0 (.int .i64 0) 8 Tryz.underlying22 hi hz0 hz1 hz2 (by decide) rfl A3 c3 n3 (vals q) rfl hown (.int .i64 x) rfl _ rfl rfl hn3s hszw ?_; intro g c5 w5 hown5 hgr5; have hb5 := Lib.hid (hbw.grown hgr5 hszw (fun k hk => (own_lo hown k hk).1)); have ho5 := Lib.hid (show w5.ownsRow w.heap.size 3 1 (.slice (some ⟨g, 0, none⟩) (n3 + 1) c5) (n3 + 1) (vals (q ++ [x])) by unfold vals; rw [List.map_append]; exact hown5); clear hown5 hgr5)
            go_roundw
            case rel => exact ⟨0, 0, n3 + 1, _, c2, c5, _, A2, _, u', v, q ++ [x], rfl, rfl, rfl, HLU2, HLV, Nat.zero_le _, hnc2, HT0 (by first | trivial | rfl), HA2, (by first | trivial | exact ⟨_, _, rfl⟩), HB2, by omega, ho5.out, HI2, hb5.out⟩
            case measure => simp [lenV]
          · have hc0 : ¬ (c1 : Int) = 1 := by omega
            have hcm : m1 ≤ c1 - 1 := by omega
            go_wp2_with (at_builtin; refine app_more rfl (.tmp 42) (.tmp 46) 22 rfl w.heap.size 3 i0 (.int .i64 0) 8 Tryz.underlying22 hi hz0 hz1 hz2 (by decide) rfl A3 c3 n3 (vals q) rfl hown (.int .i64 x) rfl _ rfl rfl hn3s hszw ?_; intro g c5 w5 hown5 hgr5; have hb5 := Lib.hid (hbw.grown hgr5 hszw (fun k hk => (own_lo hown k hk).1)); have ho5 := Lib.hid (show w5.ownsRow w.heap.size 3 1 (.slice (some ⟨g, 0, none⟩) (n3 + 1) c5) (n3 + 1) (vals (q ++ [x])) by unfold vals; rw [List.map_append]; exact hown5); clear hown5 hgr5)
            go_roundw
            case rel => exact ⟨m1, 0, n3 + 1, _, c2, c5, _, A2, _, u', v, q ++ [x], rfl, rfl, rfl, HLU2, HLV, hcm, hnc2, HT, HA2, (by first | trivial | exact ⟨_, _, rfl⟩), HB2, by omega, ho5.out, HI2, hb5.out⟩
            case measure => simp [lenV]
        · obtain ⟨m2, hm2⟩ : ∃ m2, n2 = m2 + 1 := ⟨n2 - 1, by omega⟩
          obtain ⟨m3, hm3⟩ : ∃ m3, n1 = m3 + 1 := ⟨n1 - 1, by omega⟩
          have hb0 : ((n2 : Int) == 0) = false := beq_eq_false_iff_ne.2 (by omega)
          have hp1 : (0 : Int) < (n1 : Int) := by omega
          have hp2 : (0 : Int) < (n2 : Int) := by omega
          have hp3 : 0 < n1 := by omega
          have hp4 : 0 < n2 := by omega
          have hp5 : ¬ n2 = 0 := by omega
          by_cases hpar : n3 % 2 = k
          · first
              | have hA : (((n3 : Int) % 2) == 0) = true := by have := HK.out; rw [beq_iff_eq]; omega
              | have hA : (((n3 : Int) % 2) == 1) = true := by have := HK.out; rw [beq_iff_eq]; omega
            obtain ⟨y, v', ev⟩ : ∃ y v', v = y :: v' := by
              cases v with
              | nil => have := HLV.out; simp at this; omega
              | cons y v' => exact ⟨y, v', rfl⟩
            clear hm3
            obtain ⟨m1, rfl⟩ : ∃ m1, n1 = m1 + 1 := ⟨n1 - 1, by omega⟩
            obtain ⟨b1, o1, e1⟩ := HB1.out
            subst e1
            obtain ⟨x, u', e2⟩ : ∃ x u', u = x :: u' := by
              cases u with
              | nil => have := HLU.out; simp at this
              | cons x u' => exact ⟨x, u', rfl⟩
            subst e2
            have hc : wr.cell? ⟨b1, o1, none⟩ = some (.int .i64 x) := by
              obtain ⟨b2, o2, e, hlt, hcc⟩ := (HA1.out.below hbw) 0 (by simp)
              simp only [Option.some.injEq, Addr.mk.injEq, and_true] at e
              rw [e.1, e.2]; exact hcc
            have HLU2 := Lib.hid (show u'.length = m1 by have := HLU.out; simpa using this)
            have HT : Hid (IntsAt w w.heap.size .i64 (some ⟨b1, o1 + 1, none⟩) u') := by
              have h := ints_drop (k := 1) HA1.out
              exact h
            have HT0 : m1 = 0 → Hid (IntsAt w w.heap.size .i64 (some ⟨b1, o1, none⟩) u') := fun h => ints_none _ _ _ (by rw [HLU2.out, h])
            have hn3s : n3 ≤ 4294967296 := by omega
            have hpos : (0 : Int) < (m1 : Int) + 1 := by omega
            have hpos0 : 0 < m1 + 1 := by omega
            have HI2 := Lib.hid (show sfaroL k (m1 + n2 + 1) u' v (q ++ [x]) = R by
              have h := HI.out
              rw [show m1 + 1 + n2 + 1 = (m1 + n2 + 1) + 1 by omega, ev, sfaroL, hl3.out, if_pos hpar, ← ev] at h
              exact h)
            clear HI HA1 HB1 HLU hn1 hpar ev hm2 hp1 hp3
            by_cases hc1 : c1 = 1
            · obtain rfl : m1 = 0 := by omega
              subst hc1
              go_wp2_with (at_builtin; refine app_more rfl (.tmp 42) (.tmp 46) 22 rfl w.heap.size 3 i0 (.int .i64 0) 8 Tryz.underlying22 hi hz0 hz1 hz2 (by decide) rfl A3 c3 n3 (vals q) rfl hown (.int .i64 x) rfl _ rfl rfl hn3s hszw ?_; intro g c5 w5 hown5 hgr5; have hb5 := Lib.hid (hbw.grown hgr5 hszw (fun k hk => (own_lo hown k hk).1)); have ho5 := Lib.hid (show w5.ownsRow w.heap.size 3 1 (.slice (some ⟨g, 0, none⟩) (n3 + 1) c5) (n3 + 1) (vals (q ++ [x])) by unfold vals; rw [List.map_append]; exact hown5); clear hown5 hgr5)
              go_roundw
              case rel => exact ⟨0, n2, n3 + 1, _, c2, c5, _, A2, _, u', v, q ++ [x], rfl, rfl, rfl, HLU2, HLV, Nat.zero_le _, hnc2, HT0 (by first | trivial | rfl), HA2, (by first | trivial | exact ⟨_, _, rfl⟩), HB2, by omega, ho5.out, HI2, hb5.out⟩
              case measure => simp [lenV]
            · have hc0 : ¬ (c1 : Int) = 1 := by omega
              have hcm : m1 ≤ c1 - 1 := by omega
              go_wp2_with (at_builtin; refine app_more rfl (.tmp 42) (.tmp 46) 22 rfl w.heap.size 3 i0 (.int .i64 0) 8 Tryz.underlying22 hi hz0 hz1 hz2 (by decide) rfl A3 c3 n3 (vals q) rfl hown (.int .i64 x) rfl _ rfl rfl hn3s hszw ?_; intro g c5 w5 hown5 hgr5; have hb5 := Lib.hid (hbw.grown hgr5 hszw (fun k hk => (own_lo hown k hk).1)); have ho5 := Lib.hid (show w5.ownsRow w.heap.size 3 1 (.slice (some ⟨g, 0, none⟩) (n3 + 1) c5) (n3 + 1) (vals (q ++ [x])) by unfold vals; rw [List.map_append]; exact hown5); clear hown5 hgr5)
              go_roundw
              case rel => exact ⟨m1, n2, n3 + 1, _, c2, c5, _, A2, _, u', v, q ++ [x], rfl, rfl, rfl, HLU2, HLV, hcm, hnc2, HT, HA2, (by first | trivial | exact ⟨_, _, rfl⟩), HB2, by omega, ho5.out, HI2, hb5.out⟩
              case measure => simp [lenV]
          · first
              | have hA : (((n3 : Int) % 2) == 0) = false := by have := HK.out; rw [beq_eq_false_iff_ne]; omega
              | have hA : (((n3 : Int) % 2) == 1) = false := by have := HK.out; rw [beq_eq_false_iff_ne]; omega
            obtain ⟨y, v', ev⟩ : ∃ y v', u = y :: v' := by
              cases u with
              | nil => have := HLU.out; simp at this; omega
              | cons y v' => exact ⟨y, v', rfl⟩
            clear hm2
            obtain ⟨m1, rfl⟩ : ∃ m1, n2 = m1 + 1 := ⟨n2 - 1, by omega⟩
            obtain ⟨b1, o1, e1⟩ := HB2.out
            subst e1
            obtain ⟨x, u', e2⟩ : ∃ x u', v = x :: u' := by
              cases v with
              | nil => have := HLV.out; simp at this
              | cons x u' => exact ⟨x, u', rfl⟩
            subst e2
            have hc : wr.cell? ⟨b1, o1, none⟩ = some (.int .i64 x) := by
              obtain ⟨b2, o2, e, hlt, hcc⟩ := (HA2.out.below hbw) 0 (by simp)
              simp only [Option.some.injEq, Addr.mk.injEq, and_true] at e
              rw [e.1, e.2]; exact hcc
            have HLU2 := Lib.hid (show u'.length = m1 by have := HLV.out; simpa using this)
            have HT : Hid (IntsAt w w.heap.size .i64 (some ⟨b1, o1 + 1, none⟩) u') := by
              have h := ints_drop (k := 1) HA2.out
              exact h
            have HT0 : m1 = 0 → Hid (IntsAt w w.heap.size .i64 (some ⟨b1, o1, none⟩) u') := fun h => ints_none _ _ _ (by rw [HLU2.out, h])
            have hn3s : n3 ≤ 4294967296 := by omega
            have hpos : (0 : Int) < (m1 : Int) + 1 := by omega
            have hpos0 : 0 < m1 + 1 := by omega
            have HI2 := Lib.hid (show sfaroL k (n1 + m1 + 1) u u' (q ++ [x]) = R by
              have h := HI.out
              rw [show n1 + (m1 + 1) + 1 = (n1 + m1 + 1) + 1 by omega, ev, sfaroL, hl3.out, if_neg hpar, ← ev] at h
              exact h)
            clear HI HA2 HB2 HLV hn2 hpar ev hm3 hp2 hp4 hp5
            by_cases hc1 : c2 = 1
            · obtain rfl : m1 = 0 := by omega
              subst hc1
              go_wp2_with (at_builtin; refine app_more rfl (.tmp 50) (.tmp 54) 22 rfl w.heap.size 3 i0 (.int .i64 0) 8 Tryz.underlying22 hi hz0 hz1 hz2 (by decide) rfl A3 c3 n3 (vals q) rfl hown (.int .i64 x) rfl _ rfl rfl hn3s hszw ?_; intro g c5 w5 hown5 hgr5; have hb5 := Lib.hid (hbw.grown hgr5 hszw (fun k hk => (own_lo hown k hk).1)); have ho5 := Lib.hid (show w5.ownsRow w.heap.size 3 1 (.slice (some ⟨g, 0, none⟩) (n3 + 1) c5) (n3 + 1) (vals (q ++ [x])) by unfold vals; rw [List.map_append]; exact hown5); clear hown5 hgr5)
              go_roundw
              case rel => exact ⟨n1, 0, n3 + 1, c1, _, c5, A1, _, _, u, u', q ++ [x], rfl, rfl, rfl, HLU, HLU2, hnc1, Nat.zero_le _, HA1, HT0 (by first | trivial | rfl), HB1, (by first | trivial | exact ⟨_, _, rfl⟩), by omega, ho5.out, HI2, hb5.out⟩
              case measure => simp [lenV]
            · have hc0 : ¬ (c2 : Int) = 1 := by omega
              have hcm : m1 ≤ c2 - 1 := by omega
              go_wp2_with (at_builtin; refine app_more rfl (.tmp 50) (.tmp 54) 22 rfl w.heap.size 3 i0 (.int .i64 0) 8 Tryz.underlying22 hi hz0 hz1 hz2 (by decide) rfl A3 c3 n3 (vals q) rfl hown (.int .i64 x) rfl _ rfl rfl hn3s hszw ?_; intro g c5 w5 hown5 hgr5; have hb5 := Lib.hid (hbw.grown hgr5 hszw (fun k hk => (own_lo hown k hk).1)); have ho5 := Lib.hid (show w5.ownsRow w.heap.size 3 1 (.slice (some ⟨g, 0, none⟩) (n3 + 1) c5) (n3 + 1) (vals (q ++ [x])) by unfold vals; rw [List.map_append]; exact hown5); clear hown5 hgr5)
              go_roundw
              case rel => exact ⟨n1, m1, n3 + 1, c1, _, c5, A1, _, _, u, u', q ++ [x], rfl, rfl, rfl, HLU, HLU2, hnc1, hcm, HA1, HT, HB1, (by first | trivial | exact ⟨_, _, rfl⟩), by omega, ho5.out, HI2, hb5.out⟩
              case measure => simp [lenV]
end Go.Proofs.YtibephoepkofnaaGreat.Sv

namespace Go.Proofs.YtibephoepkofnaaGreat.Sv2
open Go.RowKit Fr Own Pk Ins Pfn Rws Lb Cat Mvp Mv1 Mv2 Mv3 Mv4 Sv

set_option maxHeartbeats 1000000 in
theorem spec_monge_at (A : Option Addr) (n c k : Nat) (kv : Int) (zs : List Int) (w : World) (hn : zs.length = n) (h12 : n ≤ 12) (hkv : (kv = 0 ∧ k = 0) ∨ (kv = 1 ∧ k = 1)) (hss : IntsAt w w.heap.size .i64 A zs) :
    Calls Tryz.prog 65 #[.slice A n c, .int .i64 kv] w (IsIL w.heap.size (mongeL k 0 zs []) w) := by
  obtain ⟨i0, hi, hz0, hz1, hz2⟩ := info_parts infoInt
  have HN := Lib.hid hn
  obtain ⟨R, hR⟩ : ∃ R, R = mongeL k 0 zs [] := ⟨_, rfl⟩
  have HI0 := Lib.hid (show mongeL k 0 (zs.drop 0) [] = R by rw [List.drop_zero, hR])
  rw [← hR]
  have HB0 := fun o => Lib.hid ((Below.refl w.heap.size w).alloc (Nat.le_refl _) o)
  clear hn hR
  rcases hkv with ⟨rfl, hk0⟩ | ⟨rfl, hk0⟩
  all_goals
    have HK := Lib.hid hk0
    clear hk0
    go_enter Tryz.func65, Tryz.ntmps65
    go_wp2
    go_loopw [5, 6, 7, 11] (fun s5 s6 s7 i wr => ∃ j : Nat, j ≤ n ∧ i = .int .i64 (j : Int) ∧ ∃ (A3 : Option Addr) (c3 : Nat) (q : List Int), s5 = .slice A3 j c3 ∧ wr.ownsRow w.heap.size 3 1 (.slice A3 j c3) j (vals q) ∧ Hid (mongeL k j (zs.drop j) q = R) ∧ Below w.heap.size w wr) (fun _ _ _ i _ => n - (intOf i).toNat)
    case atStart => exact ⟨0, Nat.zero_le _, rfl, _, 0, [], rfl, World.ownsRow_lit w #[] 0 (Nat.le_refl _) (Nat.zero_le _) rfl, HI0, (HB0 _).out⟩
    case round =>
      obtain ⟨j, hj, rfl, A3, c3, q, rfl, hown, HI, hbw⟩ := hrel
      have hszw := hbw.size
      by_cases hlt : j < n
      · obtain ⟨b, o, rfl, hbb, hc⟩ := (hss.below hbw) j (by rw [HN.out]; exact hlt)
        have hd := drop_one (zs := zs) (j := j) (by rw [HN.out]; exact hlt)
        generalize zs.getD j 0 = x at hc hd
        have HQL := Lib.hid (row_len hown)
        rw [hd, mongeL] at HI
        have hjs : j ≤ 4294967296 := by omega
        clear HI0 hd HB0
        by_cases hjk : j = 0 ∨ j % 2 = k
        · have HI2 : Hid (mongeL k (j + 1) (zs.drop (j + 1)) (q ++ [x]) = R) := by
            have h := HI.out
            by_cases hk2 : j % 2 = k
            · rw [if_pos hk2] at h; exact h
            · have hj0 : j = 0 := by omega
              rw [if_neg hk2] at h
              have hq : q = [] := List.eq_nil_of_length_eq_zero (by rw [HQL.out, hj0])
              rw [hq] at h ⊢
              exact h
          by_cases hj0 : j = 0
          · have hjb : ((j : Int) == 0) = true := beq_iff_eq.2 (by omega)
            clear HI hjk hj0
            go_wp2_with (at_builtin; refine app_more rfl (.tmp 24) (.tmp 26) 22 rfl w.heap.size 3 i0 (.int .i64 0) 8 Tryz.underlying22 hi hz0 hz1 hz2 (by decide) rfl A3 c3 j (vals q) rfl hown (.int .i64 x) rfl _ rfl rfl hjs hszw ?_; intro g c5 w5 hown5 hgr5; have hb5 := Lib.hid (hbw.grown hgr5 hszw (fun k hk => (own_lo hown k hk).1)); have ho5 := Lib.hid (show w5.ownsRow w.heap.size 3 1 (.slice (some ⟨g, 0, none⟩) (j + 1) c5) (j + 1) (vals (q ++ [x])) by unfold vals; rw [List.map_append]; exact hown5); clear hown5 hgr5)
            go_roundw
            case rel => exact ⟨j + 1, by omega, by go_num, _, c5, q ++ [x], rfl, ho5.out, HI2, hb5.out⟩
            case measure => simp [intOf]; omega
          · have hk2 : j % 2 = k := by omega
            have hjb : ((j : Int) == 0) = false := beq_eq_false_iff_ne.2 (by omega)
            first
              | have hA : (((j : Int) % 2) == 0) = true := by have := HK.out; rw [beq_iff_eq]; omega
              | have hA : (((j : Int) % 2) == 1) = true := by have := HK.out; rw [beq_iff_eq]; omega
            clear HI hjk hk2
            go_wp2_with (at_builtin; refine app_more rfl (.tmp 24) (.tmp 26) 22 rfl w.heap.size 3 i0 (.int .i64 0) 8 Tryz.underlying22 hi hz0 hz1 hz2 (by decide) rfl A3 c3 j (vals q) rfl hown (.int .i64 x) rfl _ rfl rfl hjs hszw ?_; intro g c5 w5 hown5 hgr5; have hb5 := Lib.hid (hbw.grown hgr5 hszw (fun k hk => (own_lo hown k hk).1)); have ho5 := Lib.hid (show w5.ownsRow w.heap.size 3 1 (.slice (some ⟨g, 0, none⟩) (j + 1) c5) (j + 1) (vals (q ++ [x])) by unfold vals; rw [List.map_append]; exact hown5); clear hown5 hgr5)
            go_roundw
            case rel => exact ⟨j + 1, by omega, by go_num, _, c5, q ++ [x], rfl, ho5.out, HI2, hb5.out⟩
            case measure => simp [intOf]; omega
        · have hj0 : ¬ j = 0 := fun h => hjk (Or.inl h)
          have hk2 : ¬ j % 2 = k := fun h => hjk (Or.inr h)
          have HI2 := Lib.hid HI.out
          rw [if_neg hk2] at HI2
          have hjb : ((j : Int) == 0) = false := beq_eq_false_iff_ne.2 (by omega)
          first
            | have hA : (((j : Int) % 2) == 0) = false := by have := HK.out; rw [beq_eq_false_iff_ne]; omega
            | have hA : (((j : Int) % 2) == 1) = false := by have := HK.out; rw [beq_eq_false_iff_ne]; omega
          have hnil := row_nil hown
          have hspot := row_spot hown
          have HLIT := Lib.hid (World.ownsRow_lit (base := wr.heap.size) (e := 3) (size := 1) wr #[.int .i64 x] 1 (Nat.le_refl _) (by decide) rfl)
          have HQA := Lib.hid (ints_of (hown.alloc (.cells #[.int .i64 x] 3)))
          have HBA := Lib.hid (hbw.alloc hszw (.cells #[.int .i64 x] 3))
          have hsa : wr.heap.size ≤ (wr.alloc (.cells #[.int .i64 x] 3)).heap.size := by simp
          have hj1 : 1 + j = j + 1 := Nat.add_comm 1 j
          clear HI hjk hk2 hown hbw
          go_wp2_with (at_builtin; refine app_any rfl (.tmp 29) (.tmp 30) 22 rfl wr.heap.size 3 i0 8 Tryz.underlying22 hi hz0 hz1 hz2 (by decide) _ 1 1 [x] rfl HLIT.out A3 j c3 q rfl HQL.out hnil _ HQA.out (by decide) hjs hsa hspot ?_; intro A5 c5 w5 hown5 hgr5; have HB5 := Lib.hid (HBA.out.grown hgr5 HBA.out.size (fun b h => by have := (own_lo HLIT.out b h).1; omega)); have HO5 := Lib.hid (show w5.ownsRow w.heap.size 3 1 (.slice A5 (j + 1) c5) (j + 1) (vals (x :: q)) by rw [← hj1]; exact own_mono hown5 hszw); rw [hj1]; clear hown5 hgr5)
          go_roundw
          case rel => exact ⟨j + 1, by omega, by go_num, A5, c5, x :: q, rfl, HO5.out, HI2, HB5.out⟩
          case measure => simp [intOf]; omega
      · have hjn : j = n := by omega
        subst hjn
        have HE := Lib.hid (show q = R by
          have h := HI.out
          rw [List.drop_eq_nil_of_le (by rw [HN.out]; exact Nat.le_refl _)] at h
          exact h)
        rw [HE.out] at hown
        have he5 := Lib.hid (row_end hown hbw)
        clear hown HI
        go_wp2
        go_ret
        exact he5.out
/-- append of a list at a step of a region -/
theorem wp_app_any {P : Program} {w : World} {o : Oper} {a : Act} {K : Act → World → Prop} {Q : Exit → Act → World → Prop} (s x : Operand) (t : TypeId)
    (ho : o.op = .call { callee := .builtin .append, args := #[s, x], argTypes := #[t, t] })
    (B : Nat) (e : TypeId) (i : TypeInfo) (bytes : Nat) (ht : P.underlying t = some (.slice e)) (hi : P.info? e = some i) (hz : i.zero = some (.int .i64 0))
    (hsize : i.size = 1) (hby : i.bytes = bytes) (hby2 : bytes ≤ 32) (A : Option Addr) (c : Nat) (n : Nat) (xs : List Int) (hs : a.eval s = .slice A n c) (hown : w.ownsRow B e 1 (.slice A n c) n (vals xs))
    (A2 : Option Addr) (m c2 : Nat) (zs : List Int) (hx : a.eval x = .slice A2 m c2) (hm : zs.length = m) (hnil : A2 = none → c2 = 0) (B2 : Nat) (hat : IntsAt w B2 .i64 A2 zs) (hn : n ≤ 4294967296) (hm2 : m ≤ 4294967296) (hB : B ≤ w.heap.size)
    (hspot : ∀ a, A2 = some a → a.spot = none)
    (h : ∀ A' c' w', w'.ownsRow B e 1 (.slice A' (n + m) c') (n + m) (vals (xs ++ zs)) → w.grownBy w' (A.map (·.block)) → K (a.put o.dst (.slice A' (n + m) c')) w') :
    o.wp P a w K Q := by
  cases A2 with
  | none =>
    have h0 : m = 0 := by
      rcases Nat.eq_zero_or_pos m with h | h
      · exact h
      · obtain ⟨b, o, e, _⟩ := hat 0 (by omega)
        cases e
    have hz : zs = [] := List.eq_nil_of_length_eq_zero (by omega)
    have hc := hnil rfl
    subst hz h0 hc
    have hrun := run_append_owned_none (P := P) (w := w) B t o.type e i 1 ht hi _ n (vals xs) hown
    unfold Oper.wp
    simp [execOp, ho, resolve, invoke, builtin, hs, hx, hrun, Result.andThen]
    exact h A c w (by rw [List.append_nil]; exact hown) (World.grownBy.refl w _)
  | some ad =>
    obtain ⟨b, f, sp⟩ := ad
    have hsp := hspot _ rfl
    simp only at hsp
    subst hsp
    subst hm
    refine wp_append_own _ s x t ho B e i (.int .i64 0) 1 bytes ht hi hz hsize hby rfl (by decide) _ n (vals xs) hs hown ⟨b, f, none⟩ zs.length c2 (vals zs) hx (by simp [vals]) ?_ (vals_one zs) (by unfold maxLen; omega) ?_ hB ?_
    · intro j u hu
      obtain ⟨hj, e⟩ := List.getElem?_eq_some_iff.1 hu
      have hj' : j < zs.length := by rw [vals_len] at hj; exact hj
      obtain ⟨b', o', hA, hlt, hc⟩ := hat j hj'
      simp only [Option.some.injEq, Addr.mk.injEq, and_true] at hA
      obtain ⟨rfl, rfl⟩ := hA
      show w.cell? (Addr.add ⟨b, f, none⟩ j) = some u
      rw [Go.WideShapes.add_plain, hc, ← hu, vals_get hj']
    · have : (n + zs.length) * bytes ≤ (4294967296 + 4294967296) * 32 := Nat.mul_le_mul (by omega) hby2
      omega
    · intro v' w' h2 h3 _
      obtain ⟨A', c', rfl⟩ := own_slice h2
      have hg : w.grownBy w' ((some (⟨b, f, none⟩ : Addr)).map (·.block)) ∨ True := Or.inr trivial
      refine h A' c' w' (by unfold vals at h2 ⊢; rw [List.map_append]; exact h2) ?_
      cases A with
      | none => exact h3
      | some a2 => exact h3
theorem step_app_any {P : Program} {w : World} {ops : Array Oper} {o : Oper} {a : Act} {K : Act → World → Prop} {Q : Exit → Act → World → Prop} {E : Prop} (hgd : o.guard = none) (s x : Operand) (t : TypeId)
    (ho : o.op = .call { callee := .builtin .append, args := #[s, x], argTypes := #[t, t] })
    (B : Nat) (e : TypeId) (i : TypeInfo) (bytes : Nat) (ht : P.underlying t = some (.slice e)) (hi : P.info? e = some i) (hz : i.zero = some (.int .i64 0))
    (hsize : i.size = 1) (hby : i.bytes = bytes) (hby2 : bytes ≤ 32) (A : Option Addr) (c : Nat) (n : Nat) (xs : List Int) (hs : a.eval s = .slice A n c) (hown : w.ownsRow B e 1 (.slice A n c) n (vals xs))
    (A2 : Option Addr) (m c2 : Nat) (zs : List Int) (hx : a.eval x = .slice A2 m c2) (hm : zs.length = m) (hnil : A2 = none → c2 = 0) (B2 : Nat) (hat : IntsAt w B2 .i64 A2 zs) (hn : n ≤ 4294967296) (hm2 : m ≤ 4294967296) (hB : B ≤ w.heap.size)
    (hspot : ∀ a, A2 = some a → a.spot = none)
    (h : ∀ A' c' w', w'.ownsRow B e 1 (.slice A' (n + m) c') (n + m) (vals (xs ++ zs)) → w.grownBy w' (A.map (·.block)) → K (a.put o.dst (.slice A' (n + m) c')) w') :
    if Region.wanted o (yielded ops a.tmps) = true then Oper.wp P o a w K Q else E := by
  have hw : Region.wanted o (yielded ops a.tmps) = true := by simp [Region.wanted, hgd]
  rw [if_pos hw]
  exact wp_app_any s x t ho B e i bytes ht hi hz hsize hby hby2 A c n xs hs hown A2 m c2 zs hx hm hnil B2 hat hn hm2 hB hspot h
theorem step_app_r {P : Program} {w : World} {ops : Array Oper} {o : Oper} {a : Act} {K : Act → World → Prop} {Q : Exit → Act → World → Prop} {E : Prop} (hgd : o.guard = none) (s x : Operand) (t : TypeId)
    (ho : o.op = .call { callee := .builtin .append, args := #[s, x], argTypes := #[t, t] })
    (B : Nat) (e : TypeId) (i : TypeInfo) (ht : P.underlying t = some (.slice e)) (hi : P.info? e = some i) (hz : i.zero = some (.int .i64 0))
    (hsize : i.size = 1) (hby : i.bytes = 8) (A : Option Addr) (c : Nat) (n : Nat) (xs : List Int) (hs : a.eval s = .slice A n c) (hown : w.ownsRow B e 1 (.slice A n c) n (vals xs))
    (A2 : Option Addr) (m c2 : Nat) (zs : List Int) (hx : a.eval x = .slice A2 m c2) (hm : zs.length = m) (hnil : A2 = none → c2 = 0) (hat : IntsAt w w.heap.size .i64 A2 zs) (hn : n ≤ 1048576) (hm2 : m ≤ 1048576) (hB : B ≤ w.heap.size)
    (hspot : ∀ a, A2 = some a → a.spot = none) (r : Nat) (hr : n + m = r)
    (h : ∀ A' c' w', w'.ownsRow B e 1 (.slice A' r c') r (vals (xs ++ zs)) → w.grownBy w' (A.map (·.block)) → K (a.put o.dst (.slice A' r c')) w') :
    if Region.wanted o (yielded ops a.tmps) = true then Oper.wp P o a w K Q else E := by
  subst hr
  exact step_app_any hgd s x t ho B e i 8 ht hi hz hsize hby (by decide) A c n xs hs hown A2 m c2 zs hx hm hnil _ hat (by omega) (by omega) hB hspot h
end Go.Proofs.YtibephoepkofnaaGreat.Sv2

namespace Go.Proofs.YtibephoepkofnaaGreat.Sv3
open Go.RowKit Fr Own Pk Ins Pfn Rws Lb Cat Mvp Mv1 Mv2 Mv3 Mv4 Sv Sv2

set_option maxHeartbeats 1000000 in
theorem spec_milk (A : Option Addr) (n c : Nat) (zs : List Int) (w : World) (hn : zs.length = n) (h0 : 1 ≤ n) (h12 : n ≤ 12) (hnc : n ≤ c) (hss : IntsAt w w.heap.size .i64 A zs) :
    Calls Tryz.prog 66 #[.slice A n c] w (IsIL w.heap.size (milkL (n + 1) zs []) w) := by
  obtain ⟨i0, hi, hz0, hz1, hz2⟩ := info_parts infoInt
  obtain ⟨b, o, rfl⟩ := ints_addr hss (by omega)
  have HN := Lib.hid hn
  have HS := Lib.hid hss
  obtain ⟨R, hR⟩ : ∃ R, R = milkL (n + 1) zs [] := ⟨_, rfl⟩
  have HI0 := Lib.hid (show ∃ f, zs.length < f ∧ milkL f zs [] = R from ⟨n + 1, by omega, hR.symm⟩)
  have HB0 := fun o => Lib.hid ((Below.refl w.heap.size w).alloc (Nat.le_refl _) o)
  rw [← hR]
  clear hn hR hss
  go_enter Tryz.func66, Tryz.ntmps66
  go_wp2
  go_loopw [0, 3] (fun s0 s3 wr => ∃ (n1 n3 c1 c3 : Nat) (A1 A3 : Option Addr) (u q : List Int), s0 = .slice A1 n1 c1 ∧ s3 = .slice A3 n3 c3 ∧ Hid (u.length = n1) ∧ n1 ≤ c1 ∧
    Hid (IntsAt w w.heap.size .i64 A1 u) ∧ Hid (∃ b o, A1 = some ⟨b, o, none⟩) ∧ n1 + n3 ≤ 12 ∧ wr.ownsRow w.heap.size 3 1 (.slice A3 n3 c3) n3 (vals q) ∧ Hid (∃ f, u.length < f ∧ milkL f u q = R) ∧ Below w.heap.size w wr) (fun s0 _ _ => lenV s0)
  case atStart => exact ⟨n, 0, c, 0, _, _, zs, [], rfl, rfl, HN, hnc, HS, ⟨b, o, rfl⟩, by omega, World.ownsRow_lit w #[] 0 (Nat.le_refl _) (Nat.zero_le _) rfl, HI0, (HB0 _).out⟩
  case round =>
    obtain ⟨n1, n3, c1, c3, A1, A3, u, q, rfl, rfl, HLU, hnc1, HA1, HB1, h12s, hown, HI, hbw⟩ := hrel
    clear HS HI0 HB0
    have hszw := hbw.size
    have hnil := row_nil hown
    have hspot := row_spot hown
    have hql := Lib.hid (row_len hown)
    obtain ⟨b1, o1, e1⟩ := HB1.out
    subst e1
    by_cases hn1 : n1 ≤ 1
    · have HE := Lib.hid (show u ++ q = R by
        obtain ⟨f, hf, e⟩ := HI.out
        rw [milk_end f u q (by rw [HLU.out]; exact hn1) hf] at e
        exact e)
      have hcond : decide ((1 : Int) < (n1 : Int)) = false := decide_eq_false (by omega)
      have HLIT := Lib.hid (World.ownsRow_lit (base := wr.heap.size) (e := 3) (size := 1) wr #[] 0 (Nat.le_refl _) (Nat.zero_le _) rfl)
      have HBA := Lib.hid (hbw.alloc hszw (.cells #[] 3))
      have HAT := Lib.hid ((HA1.out.below HBA.out).more HBA.out.size)
      have HQA := Lib.hid (hown.alloc (.cells #[] 3))
      have HQB := Lib.hid (own_lo hown)
      have hsa : wr.heap.size ≤ (wr.alloc (.cells #[] 3)).heap.size := by simp
      have h1s : n1 ≤ 4294967296 := by omega
      have h3s : n3 ≤ 4294967296 := by omega
      clear hown HI hbw hn1
      go_wp2_with (first
        | (at_builtin; refine app_any rfl (.tmp 25) (.tmp 26) 22 rfl wr.heap.size 3 i0 8 Tryz.underlying22 hi hz0 hz1 hz2 (by decide) _ 0 0 [] rfl HLIT.out _ n1 c1 u rfl HLU.out (fun h => by cases h) _ HAT.out (by decide) h1s hsa spot_some ?_; intro A5 c5 w5 hown5 hgr5; rw [Nat.zero_add, List.nil_append] at hown5; rw [Nat.zero_add]; have hq5 := ints_of (own_gr HQA.out hgr5 (fun k hk e => by have h1 := (HQB.out k hk).2; have h2 := (own_lo HLIT.out k e).1; omega)); have hb5 := HBA.out.grown hgr5 HBA.out.size (fun b h => by have := (own_lo HLIT.out b h).1; omega); have hs5 := hgr5.size; clear hgr5)
        | (at_builtin; refine app_any rfl (.tmp 27) (.tmp 28) 22 rfl wr.heap.size 3 i0 8 Tryz.underlying22 hi hz0 hz1 hz2 (by decide) A5 c5 n1 u rfl hown5 A3 n3 c3 q rfl hql.out hnil _ hq5 h1s h3s (Nat.le_trans hsa hs5) hspot ?_; intro A6 c6 w6 hown6 hgr6; have he6 := Lib.hid (show IsIL w.heap.size R w (.returned (.slice A6 (n1 + n3) c6)) w6 by rw [← HE.out]; exact row_end (own_mono hown6 hszw) (hb5.grown hgr6 hb5.size (fun b h => by have := (own_lo hown5 b h).1; omega))); clear hown6 hgr6 hown5 hb5 hq5))
      go_ret
      exact he6.out
    · obtain ⟨bt, rfl⟩ : ∃ bt, n1 = bt + 1 := ⟨n1 - 1, by omega⟩
      have hbt : 1 ≤ bt := by omega
      obtain ⟨x, v, e2⟩ : ∃ x v, u = x :: v := by
        cases u with
        | nil => have := HLU.out; simp at this
        | cons x v => exact ⟨x, v, rfl⟩
      subst e2
      have HLV := Lib.hid (show v.length = bt by have := HLU.out; simpa using this)
      have HI2 := Lib.hid (milk_step hbt HLV.out HI.out)
      have hat := HA1.out.below hbw
      have hc1 : wr.cell? ⟨b1, o1, none⟩ = some (.int .i64 x) := by
        obtain ⟨b2, o2, e, hlt, hcc⟩ := hat 0 (by simp)
        simp only [Option.some.injEq, Addr.mk.injEq, and_true] at e
        rw [e.1, e.2]; exact hcc
      have hc2 : wr.cell? ⟨b1, o1 + bt, none⟩ = some (.int .i64 ((x :: v).getD bt 0)) := by
        obtain ⟨b2, o2, e, hlt, hcc⟩ := hat bt (by simp [HLV.out])
        simp only [Option.some.injEq, Addr.mk.injEq, and_true] at e
        rw [e.1, e.2]; exact hcc
      have HA2 : Hid (IntsAt w w.heap.size .i64 (some ⟨b1, o1 + 1, none⟩) (v.take (bt - 1))) := by
        have h := ints_take2 (bt - 1) (ints_drop (k := 1) HA1.out)
        exact h
      have HLT := Lib.hid (show (v.take (bt - 1)).length = bt - 1 by rw [List.length_take, HLV.out]; omega)
      generalize (x :: v).getD bt 0 = y at hc2 HI2
      have hcond : (1 : Int) < (bt : Int) + 1 := by omega
      have hcc1 : ¬ c1 = 1 := by omega
      have hcc2 : ¬ (c1 : Int) = 1 := by omega
      have hbc : bt ≤ c1 := by omega
      have hbi : (1 : Int) ≤ (bt : Int) := by omega
      have hwr : IntKind.i64.wrap ((bt : Int) + 1 - 1) = (bt : Int) := by rw [IntWalk.i64_in _ (by omega)]; omega
      have hwr2 : IntKind.i64.wrap (bt : Int) = (bt : Int) := IntWalk.i64_in _ (by omega)
      have hbb : (bt : Int) < (bt : Int) + 1 := by omega
      have hn3s : n3 ≤ 4294967296 := by omega
      have hn32 : 2 + n3 = n3 + 2 := Nat.add_comm 2 n3
      have HLIT := Lib.hid (World.ownsRow_lit (base := wr.heap.size) (e := 3) (size := 1) wr #[.int .i64 x, .int .i64 y] 2 (Nat.le_refl _) (by decide) rfl)
      have HBA := Lib.hid (hbw.alloc hszw (.cells #[.int .i64 x, .int .i64 y] 3))
      have HQA := Lib.hid (ints_of (hown.alloc (.cells #[.int .i64 x, .int .i64 y] 3)))
      have hsa : wr.heap.size ≤ (wr.alloc (.cells #[.int .i64 x, .int .i64 y] 3)).heap.size := by simp
      clear HI HA1 HB1 HLU hown hbw hat hn1
      go_wp2
      have HLD : Hid ((wr.alloc (.cells #[.int .i64 x, .int .i64 y] 3)).drew.ownsRow wr.heap.size 3 1 (.slice (some ⟨wr.heap.size, 0, none⟩) 2 2) 2 (vals [x, y])) := HLIT.out
      have HQD : Hid (IntsAt (wr.alloc (.cells #[.int .i64 x, .int .i64 y] 3)).drew (wr.alloc (.cells #[.int .i64 x, .int .i64 y] 3)).drew.heap.size .i64 A3 q) := HQA.out
      have HSD : Hid (wr.heap.size ≤ (wr.alloc (.cells #[.int .i64 x, .int .i64 y] 3)).drew.heap.size) := hsa
      have h2s : 2 ≤ 1048576 := by decide
      have hn3t : n3 ≤ 1048576 := by omega
      go_region_law (refine step_app_r rfl (.tmp 17) (.tmp 18) 22 rfl wr.heap.size 3 i0 Tryz.underlying22 hi hz0 hz1 hz2 (some ⟨wr.heap.size, 0, none⟩) 2 2 [x, y] rfl HLD.out A3 n3 c3 q rfl hql.out hnil HQD.out h2s hn3t HSD.out hspot (n3 + 2) hn32 ?_; intro A5 c5 w5 hown5 hgr5)
      all_goals
        have HB5 := Lib.hid (HBA.out.drew.grown hgr5 HBA.out.drew.size (fun b h => Nat.le_trans hszw (own_lo HLIT.out b h).1))
        have HO5 := Lib.hid (own_mono hown5 hszw)
        clear hown5 hgr5
        go_wp2
        exact ⟨⟨bt - 1, n3 + 2, c1 - 1, c5, _, A5, v.take (bt - 1), [x, y] ++ q, rfl, rfl, HLT, by omega, HA2, ⟨_, _, rfl⟩, by omega, HO5.out, HI2, HB5.out⟩, by simp [lenV]; omega⟩
set_option maxHeartbeats 1000000 in
theorem spec_duck_at (A : Option Addr) (n c k : Nat) (kv : Int) (zs : List Int) (w : World) (hn : zs.length = n) (h0 : 1 ≤ n) (h12 : n ≤ 12) (hkv : (kv = 0 ∧ k = 0) ∨ (kv = 1 ∧ k = 1)) (hss : IntsAt w w.heap.size .i64 A zs) :
    Calls Tryz.prog 67 #[.slice A n c, .int .i64 kv] w (IsIL w.heap.size (duckL (2 * n + 2) zs [] k) w) := by
  obtain ⟨i0, hi, hz0, hz1, hz2⟩ := info_parts infoInt
  obtain ⟨b, o, rfl⟩ := ints_addr hss (by omega)
  have HN := Lib.hid hn
  obtain ⟨R, hR⟩ : ∃ R, R = duckL (2 * n + 2) zs [] k := ⟨_, rfl⟩
  have HI0 := Lib.hid (show ∃ f, duM n k < f ∧ duckL f zs [] k = R from ⟨2 * n + 2, by unfold duM; split <;> omega, hR.symm⟩)
  rw [← hR]
  have HL0 := Lib.hid (World.ownsRow_lit (base := w.heap.size) (e := 3) (size := 1) w #[] 0 (Nat.le_refl _) (Nat.zero_le _) rfl)
  have hba := (Below.refl w.heap.size w).alloc (Nat.le_refl _) (.cells #[] 3)
  have HBA0 := Lib.hid hba
  have HAT0 := Lib.hid (ints_on hss hba)
  have hns : n ≤ 4294967296 := by omega
  clear hn hR hss hba
  rcases hkv with ⟨rfl, hk0⟩ | ⟨rfl, hk0⟩
  all_goals
    have HK := Lib.hid hk0
    clear hk0
    go_enter Tryz.func67, Tryz.ntmps67
    go_wp2_with (at_builtin; refine app_any rfl (.tmp 9) (.tmp 10) 22 rfl w.heap.size 3 i0 8 Tryz.underlying22 hi hz0 hz1 hz2 (by decide) _ 0 0 [] rfl HL0.out _ n c zs rfl HN.out (fun h => by cases h) _ HAT0.out (by decide) hns HBA0.out.size spot_some ?_; intro A1 c1 w1 hown1 hgr1; rw [Nat.zero_add, List.nil_append] at hown1; rw [Nat.zero_add]; have hb1 := HBA0.out.grown hgr1 HBA0.out.size (fun b h => (own_lo HL0.out b h).1); clear hgr1)
    obtain ⟨g, rfl⟩ := own_shape hown1 (by omega)
    have HQ0 := Lib.hid (q_of_own hown1)
    have HB0 := fun o => Lib.hid (hb1.alloc hb1.size o)
    have HQ1 := fun o => Lib.hid (q_kept HQ0.out (grown_new w1 o none) (fun e => by cases e))
    have hlt0 := Lib.hid (q_lt HQ0.out)
    have HLT := Lib.hid (World.ownsRow_lit (base := w.heap.size) (e := 3) (size := 1) w1 #[] 0 hb1.size (Nat.zero_le _) rfl)
    clear hown1 hb1 HL0 HBA0 HAT0
    go_wp2
    go_loopw [5, 6, 7, 8] (fun s5 s6 s7 s8 wr => ∃ (g off n1 c1 n3 c3 s : Nat) (A3 : Option Addr) (u q : List Int), s5 = .slice (some ⟨g, off, none⟩) n1 c1 ∧ s6 = .slice A3 n3 c3 ∧ s7 = .int .i64 (s : Int) ∧ s + 2 * n1 + (1 - s % 2) ≤ 30 ∧ Hid (QRow wr w.heap.size g off n1 c1 u) ∧ 1 ≤ n1 ∧ n1 ≤ c1 ∧ n1 + n3 ≤ 12 ∧
      Hid (wr.ownsRow w.heap.size 3 1 (.slice A3 n3 c3) n3 (vals q)) ∧ Hid (∀ k, A3.map (·.block) = some k → k ≠ g) ∧ Hid (∃ f, duM n1 s < f ∧ duckL f u q s = R) ∧ Below w.heap.size w wr) (fun s5 _ s7 _ _ => 2 * lenV s5 + (1 - (intOf s7 % 2).toNat))
    case atStart => exact ⟨g, 0, n, c1, 0, 0, k, _, zs, [], rfl, rfl, by rw [HK.out]; rfl, by have := HK.out; omega, (HQ1 _).out, h0, HQ0.out.2.1, by omega, HLT.out, (fun k h => by have h1 := hlt0.out.2; simp only [Option.map_some, Option.some.injEq] at h; omega), HI0, (HB0 _).out⟩
    case round =>
      obtain ⟨g, off, n1, c1, n3, c3, s, A3, u, q, rfl, rfl, rfl, hsb, HQ, hn1, hnc1, h12s, HO, HNE, HI, hbw⟩ := hrel
      clear HI0 HQ0 HB0 HQ1 HLT hlt0
      have hszw := hbw.size
      have hql := Lib.hid (q_lt HQ.out)
      have hnil := row_nil HO.out
      have hspot := row_spot HO.out
      have hol := Lib.hid (row_len HO.out)
      by_cases h1 : n1 = 1
      · subst h1
        obtain ⟨x, eu⟩ : ∃ x, u = [x] := by
          have h := HQ.out.1
          match u, h with
          | [x], _ => exact ⟨x, rfl⟩
        have HE := Lib.hid (show [x] ++ q = R by
          obtain ⟨f, hf, e⟩ := HI.out
          rw [duck_end f u q s (by rw [HQ.out.1]; exact Nat.le_refl _), eu] at e
          exact e)
        have hc : wr.cell? ⟨g, off, none⟩ = some (.int .i64 x) := by have h := q_cell HQ.out 0 (by omega); rw [eu] at h; exact h
        have HLIT := Lib.hid (World.ownsRow_lit (base := wr.heap.size) (e := 3) (size := 1) wr #[.int .i64 x] 1 (Nat.le_refl _) (by decide) rfl)
        have HQA := Lib.hid (ints_of (HO.out.alloc (.cells #[.int .i64 x] 3)))
        have HBA := Lib.hid (hbw.alloc hszw (.cells #[.int .i64 x] 3))
        have hsa : wr.heap.size ≤ (wr.alloc (.cells #[.int .i64 x] 3)).heap.size := by simp
        have h3s : n3 ≤ 4294967296 := by omega
        clear HO HI HQ HNE hbw eu
        go_wp2_with (at_builtin; refine app_any rfl (.tmp 38) (.tmp 39) 22 rfl wr.heap.size 3 i0 8 Tryz.underlying22 hi hz0 hz1 hz2 (by decide) _ 1 1 [x] rfl HLIT.out A3 n3 c3 q rfl hol.out hnil _ HQA.out (by decide) h3s hsa hspot ?_; intro A5 c5 w5 hown5 hgr5; rw [HE.out] at hown5; have he5 := Lib.hid (row_end (own_mono hown5 hszw) (HBA.out.grown hgr5 HBA.out.size (fun b h => Nat.le_trans hszw (own_lo HLIT.out b h).1))); have hcm := Nat.add_comm 1 n3; rw [hcm] at he5 ⊢; clear hown5 hgr5)
        go_ret
        exact he5.out
      · obtain ⟨m, rfl⟩ : ∃ m, n1 = m + 1 := ⟨n1 - 1, by omega⟩
        have hm : 1 ≤ m := by omega
        obtain ⟨x, v, e2⟩ : ∃ x v, u = x :: v := by
          cases u with
          | nil => have := HQ.out.1; simp at this
          | cons x v => exact ⟨x, v, rfl⟩
        subst e2
        have HLV := Lib.hid (show v.length = m by have := HQ.out.1; simpa using this)
        have hc : wr.cell? ⟨g, off, none⟩ = some (.int .i64 x) := q_cell HQ.out 0 (by omega)
        have HQP := Lib.hid (q_pop HQ.out)
        have hcond : (1 : Int) < (m : Int) + 1 := by omega
        have hcc1 : ¬ c1 = 1 := by omega
        have hcc2 : ¬ (c1 : Int) = 1 := by omega
        have hcm : m ≤ c1 - 1 := by omega
        have hm0 : 0 < m := by omega
        clear h1 hn1
        by_cases hs : s % 2 = 1
        · have hA : (((s : Int) % 2) == 1) = true := by rw [beq_iff_eq]; omega
          have HI2 := Lib.hid (duck_deal HLV.out hm hs HI.out)
          have hsb2 : s + 1 + 2 * m + (1 - (s + 1) % 2) ≤ 30 := by omega
          have HLIT := Lib.hid (World.ownsRow_lit (base := wr.heap.size) (e := 3) (size := 1) wr #[.int .i64 x] 1 (Nat.le_refl _) (by decide) rfl)
          have HQA := Lib.hid (ints_of (HO.out.alloc (.cells #[.int .i64 x] 3)))
          have HBA := Lib.hid (hbw.alloc hszw (.cells #[.int .i64 x] 3))
          have HQK := Lib.hid (q_kept HQP.out (grown_new wr (.cells #[.int .i64 x] 3) none) (fun e => by cases e))
          have hsa : wr.heap.size ≤ (wr.alloc (.cells #[.int .i64 x] 3)).heap.size := by simp
          have h3s : n3 ≤ 4294967296 := by omega
          have hmeas : 1 - ((s : Int) % 2).toNat = 0 ∧ ((s : Int) + 1) % 2 = 0 := by omega
          clear HI HO hbw HQ HQP
          go_wp2_with (at_builtin; refine app_any rfl (.tmp 28) (.tmp 29) 22 rfl wr.heap.size 3 i0 8 Tryz.underlying22 hi hz0 hz1 hz2 (by decide) _ 1 1 [x] rfl HLIT.out A3 n3 c3 q rfl hol.out hnil _ HQA.out (by decide) h3s hsa hspot ?_; intro A5 c5 w5 hown5 hgr5; have hcc := Nat.add_comm 1 n3; rw [hcc] at hown5 ⊢; have HQ5 := Lib.hid (q_kept HQK.out hgr5 (fun e => by have h1 := (own_lo HLIT.out g e).1; have h2 := hql.out.2; omega)); have HN5 := Lib.hid (show ∀ k, A5.map (·.block) = some k → k ≠ g from fun k hk e => by have h1 := (own_lo hown5 k hk).1; have h2 := hql.out.2; omega); have HO5 := Lib.hid (own_mono hown5 hszw); have HB5 := Lib.hid (HBA.out.grown hgr5 HBA.out.size (fun b h => Nat.le_trans hszw (own_lo HLIT.out b h).1)); clear hown5 hgr5)
          go_roundw
          case rel => exact ⟨g, off + 1, m, c1 - 1, n3 + 1, c5, s + 1, A5, v, [x] ++ q, rfl, rfl, by go_num, hsb2, HQ5, hm, hcm, by omega, HO5, HN5, HI2, HB5.out⟩
          case measure => simp [lenV, intOf]; omega
        · have hA : (((s : Int) % 2) == 1) = false := by rw [beq_eq_false_iff_ne]; omega
          have HI2 := Lib.hid (duck_keep HLV.out hm hs HI.out)
          have hsb2 : s + 1 + 2 * (m + 1) + (1 - (s + 1) % 2) ≤ 30 := by omega
          have hms : m ≤ 1048576 := by omega
          clear HI
          go_wp2_with (at_builtin; refine app_queue rfl (.tmp 31) (.tmp 33) 22 rfl w.heap.size i0 Tryz.underlying22 hi hz0 hz1 hz2 g (off + 1) m (c1 - 1) v rfl HQP.out x _ rfl rfl hms hszw ?_; intro g5 off5 c5 w5 hq5 hg5 hd5; have HQ5 := Lib.hid hq5; have HO5 := Lib.hid (own_gr HO.out hg5 (fun k hk e => by simp only [Option.some.injEq] at e; exact HNE.out k hk e.symm)); have HB5 := Lib.hid (hbw.grown hg5 hszw (fun k hk => by simp only [Option.some.injEq] at hk; have := hql.out.1; omega)); have HN5 := Lib.hid (show ∀ k, A3.map (·.block) = some k → k ≠ g5 by intro k hk e; rcases hd5 with h | h; exact HNE.out k hk (e.trans h); have := (own_lo HO.out k hk).2; omega); clear hq5 hg5 hd5)
          go_roundw
          case rel => exact ⟨g5, off5, m + 1, c5, n3, c3, s + 1, A3, v ++ [x], q, rfl, rfl, by go_num, hsb2, HQ5, by omega, HQ5.out.2.1, by omega, HO5, HN5, HI2, HB5.out⟩
          case measure => simp [lenV, intOf]; omega
end Go.Proofs.YtibephoepkofnaaGreat.Sv3
