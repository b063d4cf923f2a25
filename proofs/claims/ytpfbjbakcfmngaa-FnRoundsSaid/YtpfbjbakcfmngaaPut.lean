/- Piles in memory: a row of structs of a slice and a place; a card put on top. -/
import Derived.Test.YtpfbjbakcfmngaaInp
import Derived.Test.YtpfbjbakcfmngaaPlk
import Derived.Test.YtpfbjbakcfmngaaNewp
set_option linter.unusedVariables false
set_option maxRecDepth 20000
namespace Go.Proofs.Ytpfbjbakcfmngaa.Put
open Go.RowKit Go.Lib Fr _root_.Go.Proofs.Ytpfbjbakcfmngaa.Own Pk Ins Pfn Rws Lb Inp

def Lies2 (xs : List Value) (rs : List RD) (k : Nat) : Prop := ∀ j, j < k → xs[j * 2]? = some (rs.getD j rd0).v ∧ xs[j * 2 + 1]? = some (.int .i64 0)
structure PRow (W : World) (lo D m : Nat) (rs : List RD) : Prop where
  own : ∃ xs, W.ownsRow lo 59 2 (.slice (some ⟨D, 0, none⟩) m m) m xs ∧ Lies2 xs rs m
  len : rs.length = m
  rows : ∀ i, i < m → W.ownsRow lo 3 1 (rs.getD i rd0).v (rs.getD i rd0).zs.length (vals (rs.getD i rd0).zs)
  apart : ∀ i j, i < m → j < m → i ≠ j → ∀ b, (rs.getD i rd0).b = some b → (rs.getD j rd0).b ≠ some b
section
variable {W W' : World} {lo D m : Nat} {rs : List RD}
theorem PRow.cell (h : PRow W lo D m rs) (i : Nat) (hi : i < m) : W.cell? ⟨D, i * 2, none⟩ = some (rs.getD i rd0).v ∧ W.cell? ⟨D, i * 2 + 1, none⟩ = some (.int .i64 0) ∧ ∀ j, W.frozen? ⟨D, j, none⟩ = false := by
  obtain ⟨xs, own, lies⟩ := h.own
  exact ⟨by rw [own.cellAt _ (by omega)]; exact (lies i hi).1, by rw [own.cellAt _ (by omega)]; exact (lies i hi).2, fun j => own.frozenAt _⟩
theorem PRow.ne (h : PRow W lo D m rs) (i : Nat) (hi : i < m) : (rs.getD i rd0).b ≠ some D := fun e => by
  obtain ⟨xs, own, _⟩ := h.own
  exact own_diff own (h.rows i hi) (by decide) D rfl e
theorem PRow.below (h : PRow W lo D m rs) (hb : Below W.heap.size W W') : PRow W' lo D m rs := by
  obtain ⟨⟨xs, own, lies⟩, h2, h3, h4⟩ := h
  exact ⟨⟨xs, own_below own hb, lies⟩, h2, fun i hi => own_below (h3 i hi) hb, h4⟩
theorem PRow.block (h : PRow W lo D m rs) : lo ≤ D ∧ D < W.heap.size := by
  obtain ⟨xs, own, _⟩ := h.own
  exact own_lo own D rfl
/-- pile i gets another row -/
theorem PRow.put {W2 : World} {A' : Option Addr} {c' : Nat} {zs : List Int} (h : PRow W lo D m rs) {i : Nat} (hi : i < m) (hg : W.grownBy W2 (rs.getD i rd0).b) (ho : W2.ownsRow lo 3 1 (.slice A' zs.length c') zs.length (vals zs))
    (hp : ∀ k, A'.map (·.block) = some k → (rs.getD i rd0).b = some k ∨ W.heap.size ≤ k) : PRow (W2.setCell ⟨D, i * 2, none⟩ (.slice A' zs.length c')) lo D m (rs.set i ⟨A', c', zs⟩) ∧ W2.grownBy (W2.setCell ⟨D, i * 2, none⟩ (.slice A' zs.length c')) (some D) := by
  have hD := h.block
  have hne := h.ne i hi
  obtain ⟨⟨xs, own, lies⟩, h2, h3, h4⟩ := h
  have own2 : W2.ownsRow lo 59 2 (.slice (some ⟨D, 0, none⟩) m m) m xs := own_gr own hg (fun k hk e => by
    simp only [Option.map_some, Option.some.injEq] at hk
    exact hne (by rw [e, hk]))
  have hst := own2.stored (i * 2) (.slice A' zs.length c')
  have hgs : W2.grownBy (W2.setCell ⟨D, i * 2, none⟩ (.slice A' zs.length c')) (some D) := set_grown W2 _ _
  have hA' : ∀ k, A'.map (·.block) = some k → k ≠ D := fun k hk e => by
    rcases hp k hk with h | h
    · exact hne (by rw [h, e])
    · omega
  refine ⟨⟨⟨_, hst.1, fun j hj => ?_⟩, by rw [List.length_set]; exact h2, fun j hj => ?_, fun j k hj hk hjk b hb => ?_⟩, hgs⟩
  · have hxl : xs.length = m * 2 := own.1
    by_cases e : i = j
    · subst e
      refine ⟨?_, ?_⟩
      · rw [List.getElem?_set_self (by omega)]
        simp [List.getD_eq_getElem?_getD, h2, hi, RD.v]
      · rw [List.getElem?_set_ne (by omega)]
        exact (lies i hi).2
    · rw [List.getElem?_set_ne (by omega), List.getElem?_set_ne (by omega)]
      have : (rs.set i ⟨A', c', zs⟩).getD j rd0 = rs.getD j rd0 := by simp [List.getD_eq_getElem?_getD, List.getElem?_set_ne e]
      rw [this]
      exact lies j hj
  · by_cases e : i = j
    · subst e
      have : (rs.set i ⟨A', c', zs⟩).getD i rd0 = ⟨A', c', zs⟩ := by simp [List.getD_eq_getElem?_getD, h2, hi]
      rw [this]
      exact own_gr ho hgs (fun k hk e => by injection e with e; exact hA' k hk e.symm)
    · have : (rs.set i ⟨A', c', zs⟩).getD j rd0 = rs.getD j rd0 := by simp [List.getD_eq_getElem?_getD, List.getElem?_set_ne e]
      rw [this]
      have hjD := own_diff own (h3 j hj) (by decide) D rfl
      exact own_gr (own_gr (h3 j hj) hg (fun k hk e2 => h4 i j hi hj e k e2 hk)) hgs (fun k hk e2 => by injection e2 with e2; subst e2; exact hjD hk)
  · have gs : ∀ q, (rs.set i ⟨A', c', zs⟩).getD q rd0 = if i = q then ⟨A', c', zs⟩ else rs.getD q rd0 := fun q => by
      by_cases e : i = q
      · subst e
        simp [List.getD_eq_getElem?_getD, h2, hi]
      · simp [List.getD_eq_getElem?_getD, List.getElem?_set_ne e, e]
    rw [gs] at hb ⊢
    split at hb
    · next e =>
      subst e
      rw [if_neg hjk]
      intro hb2
      have hk2 := own_lo (h3 k hk) b hb2
      rcases hp b hb with h | h
      · exact h4 i k hi hk hjk b h hb2
      · omega
    · next e =>
      split
      · next e2 =>
        subst e2
        intro hb2
        have hk2 := own_lo (h3 j hj) b hb
        rcases hp b hb2 with h | h
        · exact h4 i j hi hj e b h hb
        · omega
      · exact h4 j k hj hk hjk b hb
end
def PutOn (lo D o : Nat) (A : Option Addr) (zs : List Int) (w : World) (e : Ending) (w' : World) : Prop :=
  e = .returned (.tuple #[]) ∧ ∃ A' c' w2, w' = w2.setCell ⟨D, o, none⟩ (.slice A' zs.length c') ∧ w2.ownsRow lo 3 1 (.slice A' zs.length c') zs.length (vals zs) ∧ w.grownBy w2 (A.map (·.block)) ∧ ∀ k, A'.map (·.block) = some k → A.map (·.block) = some k ∨ w.heap.size ≤ k
set_option maxHeartbeats 1000000 in
theorem put_any (lo D o : Nat) (A : Option Addr) (n c : Nat) (zs : List Int) (x : Int) (w : World) (hn2 : n ≤ 1048576) (hn : zs.length = n) (hc : w.cell? ⟨D, o, none⟩ = some (.slice A n c)) (hf : w.frozen? ⟨D, o, none⟩ = false) (hown : w.ownsRow lo 3 1 (.slice A n c) n (vals zs)) (hne : A.map (·.block) ≠ some D) (hlo : lo ≤ w.heap.size) (hD : D < w.heap.size) :
    Calls Try.prog 74 #[.pointer (some ⟨D, o, none⟩), .int .i64 x] w (PutOn lo D o A (x :: zs) w) := by
  have hc2 : ∀ ob, (w.alloc ob).cell? ⟨D, o, none⟩ = some (.slice A n c) := fun ob => (((Below.refl w.heap.size w).alloc (Nat.le_refl _) ob).cell (p := ⟨D, o, none⟩) hD).trans hc
  obtain ⟨W1, hW1⟩ : ∃ W1, w.alloc (.cells #[.int .i64 x] 3) = W1 := ⟨_, rfl⟩
  have hs1 : W1.heap.size = w.heap.size + 1 := by rw [← hW1]; simp
  have hh1 : W1.heap[w.heap.size]? = some (.cells #[.int .i64 x] 3 (0, 0)) := by rw [← hW1]; exact heap_alloc_new w _
  have hb1 : Below w.heap.size w W1 := by rw [← hW1]; exact (Below.refl w.heap.size w).alloc (Nat.le_refl _) _
  have hg1 : w.grownBy W1 (A.map (·.block)) := by rw [← hW1]; exact grown_new w _ _
  have HIN := Lib.hid (ins_pile lo A n c w.heap.size 1 zs x W1 hn2 (own_below hown hb1) hh1 (fun k hk e => by have := (own_lo hown k hk).2; omega) (by omega))
  have HC1 : W1.cell? ⟨D, o, none⟩ = some (.slice A n c) := (hb1.cell (p := ⟨D, o, none⟩) hD).trans hc
  have HF1 : W1.frozen? ⟨D, o, none⟩ = false := by rw [← hW1, World.frozen?_alloc_past _ _ _ (by omega)]; exact hf
  have hD1 : D < W1.heap.size := by omega
  have HG1 := Lib.hid hg1
  have HNE := Lib.hid hne
  have HN := Lib.hid (show (x :: zs).length = n + 1 by rw [List.length_cons, hn])
  have HS1 := Lib.hid hs1
  clear hg1 hne hn hb1 hh1 hown hs1
  go_enter Try.func74, Try.ntmps74
  go_wp2_with fail
  refine HIN.out.mono ?_
  rintro e w2 ⟨A', c', rfl, ho2, hg2, hp2⟩
  have hblk : w2.heap[D]? = W1.heap[D]? := hg2.block D hD1 (fun e => HNE.out e.symm)
  have hc3 : w2.cell? ⟨D, o, none⟩ = some (.slice A n c) := by rw [World.cell?_of_block (a := ⟨D, o, none⟩) hblk]; exact HC1
  have hf3 : w2.frozen? ⟨D, o, none⟩ = false := by rw [World.frozen?_of_block (a := ⟨D, o, none⟩) hblk]; exact HF1
  have HO := Lib.hid ho2
  have HG := Lib.hid hg2
  have HP := Lib.hid hp2
  clear ho2 hg2 hp2 hblk
  go_wp2
  refine ⟨rfl, .tuple #[], by simp [results, Try.f74], ?_⟩
  refine ⟨rfl, A', c', w2, by rw [HN.out], by rw [HN.out]; exact HO.out, grown_trans HG1.out HG.out, fun k hk => ?_⟩
  rcases HP.out k hk with h | h
  · exact Or.inl h
  · exact Or.inr (by have := HS1.out; omega)
end Go.Proofs.Ytpfbjbakcfmngaa.Put
