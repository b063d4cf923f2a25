/- slices.Concat of lists of integers: the lists one after another, in memory of the call's own. -/
import Derived.Test.YtibephoepkofnaaLb
set_option linter.unusedVariables false
set_option maxRecDepth 20000
namespace Go.Proofs.Ytibephoepkofnaa.Cat
open Go.RowKit Fr Own Ins Pfn Rws Lb

/-- the first k lists, one after another -/
def cat (zs : Nat → List Int) : Nat → List Int
  | 0 => []
  | k + 1 => cat zs k ++ zs k
def tot (n : Nat → Nat) : Nat → Nat
  | 0 => 0
  | k + 1 => tot n k + n k
theorem cat_len (zs : Nat → List Int) (n : Nat → Nat) (m : Nat) (h : ∀ k, k < m → (zs k).length = n k) : ∀ k, k ≤ m → (cat zs k).length = tot n k
  | 0, _ => rfl
  | k + 1, hk => by rw [cat, tot, List.length_append, cat_len zs n m h k (by omega), h k (by omega)]
theorem tot_le (n : Nat → Nat) (m : Nat) (h : ∀ k, k < m → n k ≤ 4096) : ∀ k, k ≤ m → tot n k ≤ 4096 * k
  | 0, _ => Nat.zero_le _
  | k + 1, hk => by have h1 := tot_le n m h k (by omega); have h2 := h k (by omega); rw [tot]; omega

theorem app_any {P : Program} {w : World} {ops : Array Oper} {rest : List Oper} {o : Oper} {a : Act} {Q : Exit → Act → World → Prop} (hgd : o.guard = none) (s x : Operand) (t : TypeId)
    (ho : o.op = .call { callee := .builtin .append, args := #[s, x], argTypes := #[t, t] })
    (B : Nat) (e : TypeId) (i : TypeInfo) (bytes : Nat) (ht : P.underlying t = some (.slice e)) (hi : P.info? e = some i) (hz : i.zero = some (.int .i64 0))
    (hsize : i.size = 1) (hby : i.bytes = bytes) (hby2 : bytes ≤ 32) (A : Option Addr) (c : Nat) (n : Nat) (xs : List Int) (hs : a.eval s = .slice A n c) (hown : w.ownsRow B e 1 (.slice A n c) n (vals xs))
    (A2 : Option Addr) (m c2 : Nat) (zs : List Int) (hx : a.eval x = .slice A2 m c2) (hm : zs.length = m) (hnil : A2 = none → c2 = 0) (B2 : Nat) (hat : IntsAt w B2 .i64 A2 zs) (hn : n ≤ 4294967296) (hm2 : m ≤ 4294967296) (hB : B ≤ w.heap.size)
    (hspot : ∀ a, A2 = some a → a.spot = none)
    (h : ∀ A' c' w', w'.ownsRow B e 1 (.slice A' (n + m) c') (n + m) (vals (xs ++ zs)) → w.grownBy w' (A.map (·.block)) → wpList P ops Q rest (a.put o.dst (.slice A' (n + m) c')) w') :
    wpList P ops Q (o :: rest) a w := by
  cases A2 with
  | none =>
    have h0 : m = 0 := by
      rcases Nat.eq_zero_or_pos m with h | h
      · exact h
      · obtain ⟨b, o, e, _⟩ := hat 0 (by omega)
        cases e
    have hz : zs = [] := List.eq_nil_of_length_eq_zero (by omega)
    have hc := hnil rfl
    subst hz h0 hc
    refine wpList_append_own_none hgd s x t ho B e i 1 ht hi _ n (vals xs) hs hown hx ?_
    have h2 := h A c w (by rw [List.append_nil]; exact hown) (World.grownBy.refl w _)
    exact h2
  | some ad =>
    obtain ⟨b, f, sp⟩ := ad
    have hsp := hspot _ rfl
    simp only at hsp
    subst hsp
    refine app_list hgd s x t ho B e i bytes ht hi hz hsize hby hby2 A c n (vals xs) hs hown b f m c2 zs hx hm B2 hat hn hm2 hB ?_
    intro A' c' w' h1 h2
    exact h A' c' w' (by unfold vals; rw [List.map_append]; exact h1) h2

def GrownNil (w : World) (e : Ending) (w' : World) : Prop := ∃ A c, e = .returned (.slice A 0 c) ∧ w'.ownsRow w.heap.size 3 1 (.slice A 0 c) 0 (vals []) ∧ Below w.heap.size w w'
theorem grow_nil (n : Nat) (w : World) (hn : n ≤ 1048576) : Calls Try.prog 107 #[.slice none 0 0, .int .i64 (n : Int)] w (GrownNil w) := by
  by_cases h0 : n = 0
  · subst h0
    refine (Try.slices_Grow_room none 0 0 0 w (Nat.le_refl _) (by omega) (by omega) (Nat.le_refl _)).mono ?_
    rintro e w' ⟨rfl, rfl⟩
    exact ⟨none, 0, rfl, World.ownsRow_nil _ _ _ _, Below.refl _ _⟩
  · obtain ⟨i0, hi, hz0, hz1, hz2⟩ := info_parts infoInt
    refine (Try.slices_Grow_grow i0 (.int .i64 0) hi hz0 (by rw [hz1]; decide) none 0 0 n [] w (Nat.le_refl _) (by omega) (by rw [hz2]; omega) (by omega) (by simp) (fun _ => rfl) (fun a h => by cases h)).mono ?_
    rintro e w' ⟨rfl, rfl⟩
    have hg1 := grownCap_ge w (0 + n) 0 3
    have hg2 := grownCap_le_maxLen w (0 + n) 0 3 (by unfold maxLen; omega)
    generalize hK : grownCap w (0 + n) 0 3 = K at *
    have h := own_new w.drew w.heap.size 3 (([] : List Value).toArray ++ Builtin.zeroCells (Value.int .i64 0).cells (0 + n - 0) ++ Builtin.zeroCells (Value.int .i64 0).cells (K - (0 + n))) 0 K (Nat.le_refl _) (by rw [Array.size_append, Array.size_append, zeros_size, zeros_size]; simp; omega) (Nat.zero_le _) hg2
    refine ⟨_, _, rfl, ?_, ((Below.refl w.heap.size w).drew).alloc (Nat.le_refl _) _⟩
    rw [List.take_zero] at h
    exact h

set_option maxHeartbeats 1000000 in
theorem concat_any (g m cap : Nat) (A : Nat → Option Addr) (n c : Nat → Nat) (zs : Nat → List Int) (w : World) (hm : m ≤ 3) (hg : ∀ k, k < m → w.cell? ⟨g, k, none⟩ = some (.slice (A k) (n k) (c k))) (hgw : g < w.heap.size)
    (hn : ∀ k, k < m → (zs k).length = n k) (hn2 : ∀ k, k < m → n k ≤ 4096) (hnil : ∀ k, k < m → A k = none → c k = 0) (hspot : ∀ k, k < m → ∀ a, A k = some a → a.spot = none) (hat : ∀ k, k < m → IntsAt w w.heap.size .i64 (A k) (zs k)) :
    Calls Try.prog 101 #[.slice (some ⟨g, 0, none⟩) m cap] w (IsIL w.heap.size (cat zs m) w) := by
  obtain ⟨i0, hi, hz0, hz1, hz2⟩ := info_parts infoInt
  have HT := Lib.hid (tot_le n m hn2)
  have HL := Lib.hid (cat_len zs n m hn)
  go_enter Try.func101, Try.ntmps101
  go_wp2
  go_loop [3, 5, 11] (fun q x i => ∃ k : Nat, k ≤ m ∧ i = .int .i64 k ∧ ∃ z : Nat, Hid (z = tot n k) ∧ z ≤ 12288 ∧ q = .int .i64 (z : Int)) (fun _ _ i => m - (intOf i).toNat)
  case atStart => exact ⟨0, Nat.zero_le _, rfl, 0, rfl, Nat.zero_le _, rfl⟩
  case round =>
    obtain ⟨k, hk, rfl, z, HZ, hz, rfl⟩ := hrel
    by_cases hlt : k < m
    · have hc := hg k hlt
      have h2 := hn2 k hlt
      have HZ2 := Lib.hid (show z + n k = tot n (k + 1) by rw [tot, HZ.out])
      have h3 : z + n k ≤ 12288 := by have := HT.out (k + 1) (by omega); rw [HZ2.out]; omega
      generalize A k = A0 at hc
      generalize n k = n0 at hc HZ2 h2 h3
      generalize c k = c0 at hc
      have hneg : decide ((z : Int) + (n0 : Int) < 0) = false := decide_eq_false (by omega)
      clear hg hn hn2 hnil hspot hat
      go_wp2
      go_round
      case rel => exact ⟨k + 1, by omega, by go_num, z + n0, HZ2, h3, by go_num⟩
      case measure => simp [intOf]; omega
    · have hkm : k = m := by omega
      subst hkm
      have hzs : z ≤ 1048576 := by omega
      go_wp2_with fail
      refine (grow_nil z _ hzs).mono ?_
      rintro e w1 ⟨A1, c1, rfl, hown, hb⟩
      have HO := Lib.hid hown
      have HB := Lib.hid hb
      clear hown hb hlt
      go_wp2
      go_loopw [6, 8, 27] (fun v x i wr => ∃ j : Nat, j ≤ k ∧ i = .int .i64 (j : Int) ∧ (∃ A2 N2 c2, v = .slice A2 N2 c2 ∧ Hid (N2 = tot n j) ∧ wr.ownsRow w.heap.size 3 1 (.slice A2 N2 c2) N2 (vals (cat zs j))) ∧ Below w.heap.size w wr) (fun _ _ i _ => k - (intOf i).toNat)
      case atStart => exact ⟨0, Nat.zero_le _, rfl, ⟨A1, 0, c1, rfl, rfl, HO.out⟩, HB.out⟩
      case round =>
        obtain ⟨j, hj, rfl, ⟨A2, N2, c2, rfl, HN2, hownj⟩, hbj⟩ := hrel
        clear HO HB
        have hszj := hbj.size
        by_cases hlj : j < k
        · have hc : wr.cell? ⟨g, j, none⟩ = some (.slice (A j) (n j) (c j)) := (hbj.cell (p := ⟨g, j, none⟩) hgw).trans (hg j hlj)
          have hatj := (hat j hlj).below hbj
          have h1 := hn j hlj
          have h2 := hn2 j hlj
          have h3 := hnil j hlj
          have h4 := hspot j hlj
          have HN3 := Lib.hid (show N2 + n j = tot n (j + 1) by rw [tot, HN2.out])
          have h5 : N2 ≤ 12288 := by have := HT.out j (by omega); rw [HN2.out]; omega
          have HCAT := Lib.hid (show cat zs (j + 1) = cat zs j ++ zs j from rfl)
          generalize A j = A0 at *
          generalize n j = n0 at *
          generalize c j = c0 at *
          generalize zs j = z0 at *
          clear hg hn hn2 hnil hspot hat
          go_wp2_with (at_builtin; refine app_any rfl (.tmp 31) (.tmp 32) 32 rfl w.heap.size 3 i0 8 Try.underlying32 hi hz0 hz1 hz2 (by decide) A2 c2 N2 (cat zs j) rfl hownj A0 n0 c0 z0 rfl h1 h3 _ hatj (by omega) (by omega) hszj h4 ?_; intro A5 c5 w5 hown5 hgr5)
          have hb5 := hbj.grown hgr5 hszj (fun k hk => (own_lo hownj k hk).1)
          go_roundw
          case rel => exact ⟨j + 1, by omega, by go_num, ⟨A5, _, c5, rfl, HN3, by rw [HCAT.out]; exact hown5⟩, hb5⟩
          case measure => simp [intOf]; omega
        · have hjk : j = k := by omega
          subst hjk
          have HO := Lib.hid hownj
          clear hownj
          go_wp2
          go_ret
          exact ⟨A2, c2, by rw [HL.out j (Nat.le_refl _), HN2.out]; rfl, by rw [HL.out j (Nat.le_refl _), ← HN2.out]; exact HO.out, hbj⟩
end Go.Proofs.Ytibephoepkofnaa.Cat
