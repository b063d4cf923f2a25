/- slices.Clone, Delete and Insert on a list of lists: what they leave in a row of the call's own. -/
import Derived.Test.YtpfbjbakcfmngaaInw
import Derived.Test.YtpfbjbakcfmngaaAat
import Derived.Maps.AppendAt
import Derived.Shelf.SlGeneric
set_option linter.unusedVariables false
set_option linter.unusedSimpArgs false
set_option maxRecDepth 20000
namespace Go.Proofs.Ytpfbjbakcfmngaa.Glb
open Go.RowKit Go.Lib Fr _root_.Go.Proofs.Ytpfbjbakcfmngaa.Own Pk Ins Pfn Rws Lb Inw

def OwnV (w : World) (B g n c : Nat) (V : List Value) : Prop := w.ownsRow B 25 1 (.slice (some ⟨g, 0, none⟩) n c) n V
/-- a copy of a list of lists -/
def Cloned (n : Nat) (V : List Value) (w : World) (e : Ending) (w' : World) : Prop := ∃ g c, e = .returned (.slice (some ⟨g, 0, none⟩) n c) ∧ OwnV w' w.heap.size g n c V ∧ Below w.heap.size w w'
set_option maxHeartbeats 1000000 in
theorem clone_rows (b o n c : Nat) (V : List Value) (w : World) (hn : V.length = n) (h1 : 1 ≤ n) (h4 : n ≤ 4) (hb : b < w.heap.size) (hc : ∀ j u, V[j]? = some u → w.cell? ⟨b, o + j, none⟩ = some u) (ho : ∀ u ∈ V, u.oneCell' = true) :
    Calls Try.prog 58 #[.slice (some ⟨b, o, none⟩) n c] w (Cloned n V w) := by
  obtain ⟨i1, hj1, hy0, hy1, hy2⟩ := infos_parts
  have HL := Lib.hid (World.ownsRow_lit (base := w.heap.size) (e := 25) (size := 1) w #[] 0 (Nat.le_refl _) (Nat.zero_le _) rfl)
  have hb1 := (Below.refl w.heap.size w).alloc (Nat.le_refl _) (.cells #[] 25)
  have hc1 := Lib.hid fun j u (h : V[j]? = some u) => (show (w.alloc (.cells #[] 25)).cell? (Addr.add ⟨b, o, none⟩ j) = some u from by
    rw [Addr.add_lit]
    exact (hb1.cell (p := ⟨b, o + j, none⟩) hb).trans (hc j u h))
  have HB1 := Lib.hid hb1
  have HN := Lib.hid hn
  have HO := Lib.hid ho
  have hs1 := hb1.size
  have q22 : ∀ (w : World) (a : Option Addr) (n c n' c' : Nat), (binOp .eql 28 (.slice a n c) (.slice none n' c')).run Try.prog w = .ok (.bool a.isNone) w := fun w a n c n' c' => Lib.run_eql_slice_nil w _ _ a n c n' c' Try.underlying28
  clear hc hb1 hn ho
  go_enter Try.func58, Try.ntmps58
  go_wp2_with (at_builtin; refine wpList_append_own_at _ rfl (.tmp 5) (.tmp 6) 28 rfl w.heap.size 25 i1 (.slice none 0 0) 1 24 Try.underlying28 hj1 hy0 hy1 hy2 (by decide) (by decide) _ 0 [] rfl HL.out ⟨b, o, none⟩ n c V rfl (by rw [HN.out, Nat.mul_one]) hc1.out HO.out (by unfold maxLen; omega) (by omega) hs1 ?_; intro v' w5 hown hgr hnil hat)
  have HG := Lib.hid hgr
  obtain ⟨A5, c5, rfl⟩ := own_slice hown
  rw [Nat.zero_add] at hown ⊢
  rcases own_full hown with ⟨_, h0, _⟩ | ⟨g, ys, rfl, _⟩
  · omega
  have HW := Lib.hid hown
  clear hown hgr hnil hat
  go_wp2
  go_ret
  refine ⟨g, c5, rfl, HW.out, ?_⟩
  exact HB1.out.grown HG.out HB1.out.size (fun k hk => by
    have hk2 : some w.heap.size = some k := hk
    injection hk2 with hk2
    omega)
/-- the list without its element i -/
def cutOut {α : Type} (V : List α) (i : Nat) : List α := V.take i ++ V.drop (i + 1)
/-- the list with x at i -/
def putIn {α : Type} (V : List α) (i : Nat) (x : α) : List α := V.take i ++ x :: V.drop i
def Deleted (B g n c : Nat) (V : List Value) (w : World) (e : Ending) (w' : World) : Prop := e = .returned (.slice (some ⟨g, 0, none⟩) n c) ∧ OwnV w' B g n c V ∧ w.grownBy w' (some g)
theorem cut_cells {n i c : Nat} {V ys : List Value} {u : Value} (hV : V.length = n) (hi : i < n) (hy : ys.length = c) (hnc : n ≤ c) (ht : ys.take n = V) : (putAt (putAt ys i (V.drop (i + 1))) (n - 1) [u]).take (n - 1) = cutOut V i := by
  have hd : (V.drop (i + 1)).length = n - (i + 1) := by rw [List.length_drop, hV]
  have h1 : (putAt ys i (V.drop (i + 1))).length = c := by
    rw [putAt_eq _ _ _ (by omega)]
    simp only [List.length_append, List.length_take, List.length_drop]
    omega
  rw [putAt_eq _ _ _ (by rw [h1, List.length_singleton]; omega), List.append_assoc, List.take_append_of_le_length (by rw [List.length_take, h1]; omega), List.take_take, Nat.min_self, putAt_eq _ _ _ (by omega)]
  rw [List.take_append_of_le_length (by rw [List.length_append, List.length_take, hd]; omega), List.take_of_length_le (by rw [List.length_append, List.length_take, hd]; omega)]
  unfold cutOut
  rw [← ht, List.take_take, Nat.min_eq_left (by omega)]
set_option maxHeartbeats 4000000 in
theorem del_rows (B g n c i : Nat) (V : List Value) (w : World) (hi : i < n) (h2 : 2 ≤ n) (hown : OwnV w B g n c V) (ho : ∀ u ∈ V, u.oneCell' = true) :
    Calls Try.prog 57 #[.slice (some ⟨g, 0, none⟩) n c, .int .i64 (i : Int), .int .i64 ((i : Int) + 1)] w (Deleted B g (n - 1) c (cutOut V i) w) := by
  have mixed := iw_mixed
  obtain ⟨i1, hj1, hy0, hy1, hy2⟩ := infos_parts
  have hVl : V.length = n := by have := hown.1; rw [Nat.mul_one] at this; exact this
  rcases own_full hown with ⟨h, _⟩ | ⟨g', ys, hg', hBg, hgw, hnc, hcm, hyl, hyt, hfull, hsh⟩
  · cases h
  have e0 : g' = g := by injection hg' with h; injection h with h; exact h.symm
  subst e0
  have hc63 : c ≤ 9223372036854775807 := by unfold maxLen at hcm; omega
  have hcs : ∀ j v, V[j]? = some v → w.cell? ⟨g', j, none⟩ = some v := by
    intro j v h
    have hj : j < n := by have := (List.getElem?_eq_some_iff.1 h).1; omega
    rw [hown.cellAt j (by omega), h]
  have hsp : ∀ j, j < c → (w.cell? ⟨g', j, none⟩).isSome = true := by
    intro j hj
    rw [hfull.cellAt j (by omega), List.getElem?_eq_getElem (by omega)]
    rfl
  have hfz : ∀ j, w.frozen? ⟨g', j, none⟩ = false := fun j => hfull.frozenAt _
  have hdl : (V.drop (i + 1)).length = n - (i + 1) := by rw [List.length_drop, hVl]
  obtain ⟨A, hA, hsrc⟩ : ∃ A : Addr, (if c = i + 1 then some (⟨g', 0, none⟩ : Addr) else some ⟨g', i + 1, none⟩) = some A ∧ Hid (∀ t u, (V.drop (i + 1))[t]? = some u → w.drew.cell? (A.add t) = some u) := by
    by_cases h : c = i + 1
    · refine ⟨⟨g', 0, none⟩, by simp [h], fun t u hu => ?_⟩
      have h0 : (V.drop (i + 1)).length = 0 := by rw [hdl]; omega
      rw [List.length_eq_zero_iff.1 h0] at hu
      simp at hu
    · refine ⟨⟨g', i + 1, none⟩, by simp [h], fun t u hu => ?_⟩
      rw [Addr.add_lit]
      exact hcs (i + 1 + t) u (by rwa [List.getElem?_drop] at hu)
  have s1 : Hid ((V.drop (i + 1)).length = (n - (i + 1)) * 1) := by rw [Nat.mul_one]; exact hdl
  have s2 : Hid (∀ u ∈ V.drop (i + 1), u.oneCell' = true) := fun u hu => ho u (List.mem_of_mem_drop hu)
  have s3 : Hid (∀ t, t < (V.drop (i + 1)).length → (w.drew.cell? ⟨g', 0 + i * 1 + t, none⟩).isSome = true ∧ w.drew.frozen? ⟨g', 0 + i * 1 + t, none⟩ = false) := by
    intro t ht
    rw [hdl] at ht
    rw [Nat.mul_one, Nat.zero_add]
    exact ⟨hsp (i + t) (by omega), hfz _⟩
  obtain ⟨W1, hW1⟩ : ∃ W1, W1 = w.drew.setCells g' (0 + i * 1) (V.drop (i + 1)) := ⟨_, rfl⟩
  have hf2 : w.drew.ownsRow B 25 1 (.slice (some ⟨g', 0, none⟩) c c) c ys := hfull
  have h3 := own_put (V.drop (i + 1)) w.drew ys i hf2
  have h3' : W1.ownsRow B 25 1 (.slice (some ⟨g', 0, none⟩) c c) c (putAt ys i (V.drop (i + 1))) ∧ w.drew.grownBy W1 (some g') := by
    rw [hW1, Nat.mul_one, Nat.zero_add]
    exact h3
  have hcl : ∀ ty, (Builtin.clear_ #[28] ty #[.slice (some ⟨g', n - 1, none⟩) 1 (c - (n - 1))]).run Try.prog W1 = .ok (.tuple #[]) (W1.setCells g' (n - 1) (List.replicate 1 (.slice none 0 0))) :=
    fun ty => Lib.run_clear_slice W1 28 25 ty _ Try.underlying28 Try.zeroValue25 rfl rfl g' (n - 1) 1 _ (by omega) (fun t ht => by
      rw [h3'.1.cellAt _ (by omega), List.getElem?_eq_getElem (by have := h3'.1.1; omega)]
      rfl) (fun t ht => h3'.1.frozenAt _)
  have HX := Lib.hid h3'
  have h4 := own_put [(.slice none 0 0 : Value)] W1 _ (n - 1) h3'.1
  have HF := Lib.hid h4
  have HC := Lib.hid (cut_cells (u := .slice none 0 0) hVl hi hyl hnc hyt)
  have hW : Hid (W1 = w.drew.setCells g' (0 + i * 1) (V.drop (i + 1))) := hW1
  have hc1 : ¬ (c = n - 1) := by omega
  have hw1 : IntKind.i64.wrap ((i : Int) + 1) = (i : Int) + 1 := by rw [IntKind.wrap_i64]; omega
  have hne1 : ¬ ((i : Int) = (i : Int) + 1) := by omega
  have hni : i + (n - (i + 1)) = n - 1 := by omega
  have hin : i ≤ n := by omega
  have hin1 : i + 1 ≤ n := by omega
  have hic : i ≤ c := by omega
  have hjc : i + 1 ≤ c := by omega
  have hn1 : n - 1 ≤ n := by omega
  have hnn : n - (n - 1) = 1 := by omega
  have htn : ((i : Int) + 1).toNat = i + 1 := by omega
  have hlen1 : i + (n - (i + 1)) ≤ c := by omega
  have q1 : (0 : Int) ≤ (i : Int) + 1 := by omega
  have q2 : (i : Int) + 1 ≤ (n : Int) := by omega
  have q3 : (i : Int) + 1 ≤ (c : Int) := by omega
  have q4 : (i : Int) ≤ (i : Int) + 1 := by omega
  clear hW1 h3 h3' h4 hcs hsp hfz hdl hf2 hown hfull hsh hyt hyl hg' ho hVl
  go_enter Try.func57, Try.ntmps57
  go_wp2_with fail
  go_region_law_o (refine step_append_room rfl (.tmp 22) (.tmp 25) 28 rfl 25 i1 1 Try.underlying28 hj1 hy1 g' 0 i c (by simp [Act.eval, Act.put]) A (n - (i + 1)) (c - (i + 1)) (V.drop (i + 1)) (by simp [Act.eval, Act.put]) s1.out hsrc.out s2.out hlen1 s3.out ?_; rw [← hW.out])
  go_wp2
  go_ret
  exact ⟨rfl, by
    have h := own_cut HF.out.1 (n := n - 1) (by omega)
    rw [HC.out] at h
    exact h, grown_trans (grown_drew w _) (grown_trans HX.out.2 HF.out.2)⟩
theorem put_cells {n i c : Nat} {V ys : List Value} {x : Value} (hV : V.length = n) (hi : i < n) (hy : ys.length = c) (hnc : n + 1 ≤ c) (ht : ys.take n = V) : (putAt (putAt ys (i + 1) (V.drop i)) i [x]).take (n + 1) = putIn V i x := by
  have hd : (V.drop i).length = n - i := by rw [List.length_drop, hV]
  have h1 : (putAt ys (i + 1) (V.drop i)).length = c := by
    rw [putAt_eq _ _ _ (by omega)]
    simp only [List.length_append, List.length_take, List.length_drop]
    omega
  have e1 : (putAt ys (i + 1) (V.drop i)).take i = V.take i := by
    rw [putAt_eq _ _ _ (by omega), List.append_assoc, List.take_append_of_le_length (by rw [List.length_take]; omega), List.take_take, Nat.min_eq_left (by omega), ← ht, List.take_take, Nat.min_eq_left (by omega)]
  have e2 : ((putAt ys (i + 1) (V.drop i)).drop (i + 1)).take (n - i) = V.drop i := by
    rw [putAt_eq _ _ _ (by omega), List.append_assoc, List.drop_append_of_le_length (by rw [List.length_take]; omega), List.drop_eq_nil_of_le (by rw [List.length_take]; omega), List.nil_append, List.take_append_of_le_length (by omega), List.take_of_length_le (by omega)]
  rw [putAt_eq _ _ _ (by rw [h1, List.length_singleton]; omega), e1, List.length_singleton, List.append_assoc, List.take_append, List.take_of_length_le (by rw [List.length_take]; omega), List.length_take, hV, Nat.min_eq_left (by omega)]
  unfold putIn
  congr 1
  rw [List.singleton_append, show n + 1 - i = (n - i) + 1 by omega, List.take_succ_cons, e2]
theorem end_cells {n c : Nat} {V ys : List Value} {x : Value} (hV : V.length = n) (hy : ys.length = c) (hnc : n + 1 ≤ c) (ht : ys.take n = V) : (putAt ys n [x]).take (n + 1) = putIn V n x := by
  rw [putAt_eq _ _ _ (by rw [List.length_singleton]; omega), ht, List.take_append_of_le_length (by rw [List.length_append, List.length_singleton]; omega), List.take_of_length_le (by rw [List.length_append, List.length_singleton]; omega)]
  unfold putIn
  rw [List.take_of_length_le (by omega), List.drop_eq_nil_of_le (by omega)]
/-- one list put in, where there is room -/
theorem ins_rows (B g n c i vb vc : Nat) (V : List Value) (x : Value) (w : World) (hi : i ≤ n) (hroom : n + 1 ≤ c) (hown : OwnV w B g n c V) (ho : ∀ u ∈ V, u.oneCell' = true) (h1x : x.oneCell' = true)
    (hv : w.heap[vb]? = some (.cells #[x] 25 (0, 0))) (hne : vb ≠ g) :
    Calls Try.prog 60 #[.slice (some ⟨g, 0, none⟩) n c, .int .i64 (i : Int), .slice (some ⟨vb, 0, none⟩) 1 vc] w (Deleted B g (n + 1) c (putIn V i x) w) := by
  have hVl : V.length = n := by have := hown.1; rw [Nat.mul_one] at this; exact this
  rcases own_full hown with ⟨h, _⟩ | ⟨g', ys, hg', hBg, hgw, hnc, hcm, hyl, hyt, hfull, hsh⟩
  · cases h
  have e0 : g' = g := by injection hg' with h; injection h with h; exact h.symm
  subst e0
  have hc63 : c ≤ 9223372036854775807 := by unfold maxLen at hcm; omega
  have hcs : ∀ j v, V[j]? = some v → w.cell? ⟨g', j, none⟩ = some v := by
    intro j v h
    have hj : j < n := by have := (List.getElem?_eq_some_iff.1 h).1; omega
    rw [hown.cellAt j (by omega), h]
  have hsp : ∀ j, j < c → (w.cell? ⟨g', j, none⟩).isSome = true := by
    intro j hj
    rw [hfull.cellAt j (by omega), List.getElem?_eq_getElem (by omega)]
    rfl
  have hx : w.cell? ⟨vb, 0, none⟩ = some x := by unfold World.cell?; simp [hv]
  by_cases he : i = n
  · subst he
    refine (iw_end g' i c vb vc x w hroom hc63 hsp (fun j => hfull.frozenAt _) hx h1x).mono ?_
    rintro e w' ⟨rfl, rfl⟩
    have h2 := own_put [x] w ys i hfull
    have h3 := own_cut h2.1 (n := i + 1) (by omega)
    rw [end_cells hVl hyl hroom hyt] at h3
    exact ⟨rfl, h3, h2.2⟩
  · have hsv : w.shape? vb = some (25, 1) := by
      unfold World.shape?
      rw [hv]
      simp
    have hfr : ∀ k, w.frozen? ⟨vb, k, none⟩ = false := by
      intro k
      unfold World.frozen?
      simp [hv]
    refine (iw_shift g' n c i vb vc V x w (by omega) hroom hc63 hne hVl hcs hsp (fun j => hfull.frozenAt _) hx ho h1x _ _ hsv hsh (by omega) hfr).mono ?_
    rintro e w' ⟨rfl, rfl⟩
    have hf2 : w.drew.ownsRow B 25 1 (.slice (some ⟨g', 0, none⟩) c c) c ys := hfull
    have h2 := own_put (V.drop i) w.drew ys (i + 1) hf2
    have h3 := own_put [x] _ _ i h2.1
    have h4 := own_cut h3.1 (n := n + 1) (by omega)
    rw [put_cells hVl (by omega) hyl hroom hyt] at h4
    exact ⟨rfl, h4, grown_trans (grown_drew w _) (grown_trans h2.2 h3.2)⟩
end Go.Proofs.Ytpfbjbakcfmngaa.Glb
