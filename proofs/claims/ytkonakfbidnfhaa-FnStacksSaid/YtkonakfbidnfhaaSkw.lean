/- Windows as keys of a map: arrays of six ints, what a window's key is, and the map that holds windows. -/
import Derived.Test.YtkonakfbidnfhaaMap
import Derived.Test.YtkonakfbidnfhaaLb
import Derived.DeepKeys5
import Derived.WideKeyPair
import Derived.Laws.CopyOwn
set_option linter.unusedVariables false
set_option maxRecDepth 20000
namespace Go.Proofs.Ytkonakfbidnfhaa.Skw
open Go.RowKit Go.Maps Fr _root_.Go.Proofs.Ytkonakfbidnfhaa.Own Pk Ins Pfn Rws Lb Map

def pad6 (l : List Int) : List Int := l.take 6 ++ List.replicate (6 - (l.take 6).length) 0
def cells6 (l : List Int) : Array Value := (vals (pad6 l)).toArray
def enc6 (l : List Int) : Value := .agg (cells6 l)
theorem pad6_len (l : List Int) : (pad6 l).length = 6 := by unfold pad6; simp; omega
theorem cells6_size (l : List Int) : (cells6 l).size = 6 := by unfold cells6; simp [vals_len, pad6_len]
theorem cells6_list (l : List Int) : (cells6 l).toList = vals (pad6 l) := by unfold cells6; rfl
theorem enc6_inj {n : Nat} {a b : List Int} (ha : a.length = n) (hb : b.length = n) (hn : n ≤ 6) (h : enc6 a = enc6 b) : a = b := by
  unfold enc6 at h
  injection h with h
  have h2 := congrArg Array.toList h
  rw [cells6_list, cells6_list] at h2
  have h3 : pad6 a = pad6 b := (List.map_inj_right (fun x y e => by injection e)).1 h2
  unfold pad6 at h3
  rw [List.take_of_length_le (by omega), List.take_of_length_le (by omega), ha, hb] at h3
  exact (List.append_inj h3 (by omega)).1
theorem keyed6 : Keyed Try.prog 75 := Keyed.of_law (deep_law_gate Fr.laidOut (of_decide_eq_true (by kernel_rfl)) (of_decide_eq_true (by kernel_rfl)) (by kernel_rfl) (by kernel_rfl))
theorem kt6 : Try.prog.keyType 75 = true := by kernel_rfl
theorem co6 : Try.prog.cellsOf 75 = 6 := by kernel_rfl
theorem co1 : Try.prog.cellsOf 3 = 1 := by kernel_rfl
theorem ts6 : ∃ m, Try.prog.types.size = m + 1 := ⟨Try.prog.types.size - 1, by kernel_rfl⟩
theorem key6' {a b c d e f : Int} (ha : (Lit.int .i64 a).wf = true) (hb : (Lit.int .i64 b).wf = true) (hc : (Lit.int .i64 c).wf = true) (hd : (Lit.int .i64 d).wf = true) (he : (Lit.int .i64 e).wf = true) (hf : (Lit.int .i64 f).wf = true) :
    keyOf Try.prog 75 (.agg #[.int .i64 a, .int .i64 b, .int .i64 c, .int .i64 d, .int .i64 e, .int .i64 f]) = some (.string (keyBytes [.int .i64 a, .int .i64 b, .int .i64 c, .int .i64 d, .int .i64 e, .int .i64 f])) := by
  obtain ⟨m, hm⟩ := ts6
  unfold keyOf
  simp only [Try.underlying75]
  rw [if_pos (by simp [kt6, Value.formed, Try.underlying75, co6]), hm]
  unfold Program.keyLits
  simp only [Try.underlying75, Value.cells]
  rw [if_pos (by rw [co6]; rfl), show List.range 6 = [0, 1, 2, 3, 4, 5] from rfl]
  simp [co1, Program.keyLits, Try.underlying3, ha, hb, hc, hd, he, hf]
theorem six {L : List Int} (h : L.length = 6) : ∃ a b c d e f, L = [a, b, c, d, e, f] := by
  match L, h with
  | [a, b, c, d, e, f], _ => exact ⟨a, b, c, d, e, f, rfl⟩
theorem key6 {l : List Int} (h : Fits l) : ∃ kl, keyOf Try.prog 75 (enc6 l) = some kl := by
  have hw : ∀ x ∈ pad6 l, (Lit.int .i64 x).wf = true := by
    intro x hx
    unfold pad6 at hx
    rcases List.mem_append.1 hx with hx | hx
    · obtain ⟨i, hi, rfl⟩ := List.mem_iff_getElem.1 (List.mem_of_mem_take hx)
      have := h i hi
      rw [List.getD_eq_getElem?_getD, List.getElem?_eq_getElem hi] at this
      exact wf_hi this.1 this.2
    · rw [List.eq_of_mem_replicate hx]; rfl
  obtain ⟨a, b, c, d, e, f, hL⟩ := six (pad6_len l)
  rw [hL] at hw
  show ∃ kl, keyOf Try.prog 75 (.agg (vals (pad6 l)).toArray) = some kl
  rw [hL]
  exact ⟨_, key6' (hw a (by simp)) (hw b (by simp)) (hw c (by simp)) (hw d (by simp)) (hw e (by simp)) (hw f (by simp))⟩
theorem info6 : (Try.prog.info? 75).map (·.size) = some 6 := by kernel_rfl
theorem infoC (l : List Int) : (Try.prog.info? 75).map (·.size) = some (cells6 l).size := by rw [cells6_size]; exact info6
theorem cells6_one (l : List Int) : (cells6 l).all (·.oneCell') = true := by
  rw [Array.all_eq_true_iff_forall_mem]
  intro v hv
  have : v ∈ (cells6 l).toList := by simpa using hv
  rw [cells6_list] at this
  exact vals_one _ v this
def Z6 : Array Value := #[.int .i64 0, .int .i64 0, .int .i64 0, .int .i64 0, .int .i64 0, .int .i64 0]
theorem two6 (w : World) : ∃ W0, W0 = (w.alloc (.cells #[.int .i64 0, .int .i64 0, .int .i64 0, .int .i64 0, .int .i64 0, .int .i64 0] 75)).alloc (.cells #[.int .i64 0, .int .i64 0, .int .i64 0, .int .i64 0, .int .i64 0, .int .i64 0] 75) ∧
    W0.heap[w.heap.size]? = some (.cells Z6 75 (0, 0)) ∧ W0.heap[w.heap.size + 1]? = some (.cells Z6 75 (0, 0)) ∧ W0.heap.size = w.heap.size + 2 ∧ Below w.heap.size w W0 := by
  have e1 := heap_alloc_new w (.cells Z6 75)
  have s1 : (w.alloc (.cells Z6 75)).heap.size = w.heap.size + 1 := by simp
  have b1 := (Below.refl w.heap.size w).alloc (Nat.le_refl _) (.cells Z6 75)
  have hZ : (Obj.cells #[.int .i64 0, .int .i64 0, .int .i64 0, .int .i64 0, .int .i64 0, .int .i64 0] 75) = .cells Z6 75 := rfl
  rw [hZ]
  generalize w.alloc (.cells Z6 75) = w1 at *
  have e2 := heap_alloc_new w1 (.cells Z6 75)
  have c2 := (Below.refl w1.heap.size w1).alloc (Nat.le_refl _) (.cells Z6 75)
  rw [s1] at e2
  exact ⟨_, rfl, (c2.block w.heap.size (by omega)).trans e1, e2, by simp [s1], b1.alloc (by omega) _⟩
theorem splice_pad6 (l : List Int) : (splice Z6.toList 0 (vals (l.take 6))).toArray = cells6 l := by
  apply Array.ext'
  rw [cells6_list]
  have hz : Z6.toList = List.replicate 6 (.int .i64 0) := rfl
  unfold splice pad6
  rw [hz, List.take_zero, List.nil_append, Nat.zero_add, vals_len, List.drop_replicate]
  simp [vals]
theorem min6 {l : List Int} {n : Nat} (h : l.length = n) : (vals (l.take 6)).length = Nat.min n 6 := by rw [vals_len, List.length_take, h]; exact Nat.min_comm 6 n
theorem from6 {W : World} {A : Option Addr} {l : List Int} {d : Option Addr} {x : Addr} (h : IntsAt W W.heap.size .i64 A l) (hd : d = some x) : 0 < (vals (l.take 6)).length → d = some x ∧ ∃ ad, A = some ad ∧ ∀ j v, (vals (l.take 6))[j]? = some v → W.cell? (ad.add j) = some v := by
  intro hp
  have hp2 : 0 < l.length := by rw [vals_len, List.length_take] at hp; omega
  obtain ⟨b, o, rfl, _, _⟩ := h 0 hp2
  refine ⟨hd, _, rfl, fun j v hj => ?_⟩
  have hj2 : j < (l.take 6).length := by
    have := (List.getElem?_eq_some_iff.1 hj).1
    rwa [vals_len] at this
  have hj3 : j < l.length := by rw [List.length_take] at hj2; omega
  obtain ⟨b2, o2, e2, _, hc⟩ := h j hj3
  simp only [Option.some.injEq, Addr.mk.injEq, and_true] at e2
  obtain ⟨rfl, rfl⟩ := e2
  rw [Go.WideShapes.add_plain, hc]
  rw [vals_get hj2] at hj
  have e3 : (l.take 6).getD j 0 = l.getD j 0 := by
    rw [List.getD_eq_getElem?_getD, List.getD_eq_getElem?_getD, List.getElem?_take]
    rw [List.length_take] at hj2
    rw [if_pos (by omega)]
  rw [e3] at hj
  exact hj
theorem infoIS : (Try.prog.info? 3).map (·.size) = some 1 := by kernel_rfl
/-- a window is copied into a new key -/
theorem copy6 {W : World} {A : Option Addr} {g n c : Nat} {l : List Int} (ty : TypeId) (hl : l.length = n) (h : IntsAt W W.heap.size .i64 A l) (hg : W.heap[g]? = some (.cells Z6 75 (0, 0))) :
    ∃ v w2, (Builtin.copy_ #[23, 23] ty #[.slice (some ⟨g, 0, none⟩) 6 6, .slice A n c]).run Try.prog W = .ok v w2 ∧ w2.heap[g]? = some (.cells (cells6 l) 75 (0, 0)) ∧ Below g W w2 := by
  have hs := splice_pad6 l
  by_cases h0 : (vals (l.take 6)).length = 0
  · have hn : n = 0 := by rw [vals_len, List.length_take, hl] at h0; omega
    subst hn
    have hz : l = [] := List.eq_nil_of_length_eq_zero hl
    subst hz
    exact ⟨_, W, run_copy_none W _ _ _ 3 _ _ _ _ _ _ Try.underlying23 infoIS rfl, hg, Below.refl _ _⟩
  · obtain ⟨_, ad, rfl, hsrc⟩ := from6 (d := some ⟨g, 0, none⟩) h rfl (by omega)
    refine ⟨_, _, run_copy_row Try.prog W _ _ _ 3 g 0 6 6 ad n c Z6 75 (vals (l.take 6)) Try.underlying23 infoIS hg (min6 hl) hsrc (by rw [vals_len, List.length_take]; show _ ≤ 6; omega) (vals_one _), ?_, below_setRow (Below.refl _ _) (Nat.le_refl _) _⟩
    rw [setRow_heap W g _ _ _ _ hg, ← hs]
    rfl
set_option maxHeartbeats 2000000 in
theorem impl_key (A : Option Addr) (n c : Nat) (zs : List Int) (w : World) (hn : zs.length = n) (hn2 : n ≤ 9223372036854775807) (hss : IntsAt w w.heap.size .i64 A zs) :
    Calls Try.prog 63 #[.slice A n c] w fun e w' => e = .returned (.agg (cells6 zs)) ∧ Below w.heap.size w w' := by
  obtain ⟨W0, hW0, b0, b1, hs0, hB0⟩ := two6 w
  obtain ⟨v, w4, hrun, hg4, hb4⟩ := copy6 (c := c) 3 hn ((hss.below hB0).more hB0.size) b1
  have HRUN := Lib.hid hrun
  have HG4 := Lib.hid hg4
  have HG0 := Lib.hid ((hb4.block w.heap.size (by omega)).trans b0)
  have HB4 := Lib.hid (hB0.trans (hb4.mono (by omega)))
  have HG5 := Lib.hid (setRow_heap w4 w.heap.size Z6 (cells6 zs) 75 (0, 0) HG0.out)
  have HB5 := Lib.hid (below_setRow HB4.out (Nat.le_refl _) (cells6 zs))
  have HZ := Lib.hid (show Z6.size = (cells6 zs).size by rw [cells6_size]; rfl)
  clear hn hss b0 b1 hB0 hrun hg4 hb4
  go_enter Try.func63, Try.ntmps63
  go_wp2
  rw [← hW0]
  clear hW0
  rw [HRUN.out]
  go_wp2_with (first | (refine wpList_load_row rfl 75 (.tmp 3) rfl (w.heap.size + 1) rfl 75 (cells6 zs) (0, 0) _ HG4.out Try.underlying75 rfl (infoC zs) ?_) | (refine wpList_store_row rfl 75 (.tmp 2) (.tmp 7) rfl w.heap.size (cells6 zs) rfl rfl 75 Z6 HG0.out (infoC zs) HZ.out (cells6_one zs) ?_) | fail)
  refine bodyPost_ret (results_cell_row rfl _ _ w.heap.size 75 (cells6 zs) (0, 0) _ rfl HG5.out Try.underlying75 rfl (infoC zs)) rfl ?_
  exact ⟨rfl, HB5.out⟩
/-! ### the map that holds windows -/
/-- its entries: each window with the number of those before it -/
def kvW : Nat → List (List Int) → List (Value × Value)
  | _, [] => []
  | i, v :: r => (enc6 v, .int .i64 (i : Int)) :: kvW (i + 1) r
theorem kvW_fst : ∀ (i : Nat) (V : List (List Int)), (kvW i V).map Prod.fst = V.map enc6
  | _, [] => rfl
  | i, v :: r => by rw [kvW, List.map_cons, List.map_cons, kvW_fst (i + 1) r]
theorem kvW_len : ∀ (i : Nat) (V : List (List Int)), (kvW i V).length = V.length
  | _, [] => rfl
  | i, v :: r => by rw [kvW, List.length_cons, List.length_cons, kvW_len (i + 1) r]
theorem kvW_snoc : ∀ (i : Nat) (V : List (List Int)) (q : List Int), kvW i (V ++ [q]) = kvW i V ++ [(enc6 q, .int .i64 ((i + V.length : Nat) : Int))]
  | i, [], q => rfl
  | i, v :: r, q => by
    rw [List.cons_append, kvW, kvW, kvW_snoc (i + 1) r q, List.cons_append, List.length_cons, show i + 1 + r.length = i + (r.length + 1) by omega]
/-- the place of a window, or -1 -/
def fndF (q : List Int) : Nat → List (List Int) → Int
  | _, [] => -1
  | i, v :: r => if v = q then (i : Int) else fndF q (i + 1) r
theorem fnd_in {q : List Int} : ∀ {i : Nat} {V : List (List Int)}, q ∈ V → (enc6 q, .int .i64 (fndF q i V)) ∈ kvW i V ∧ (i : Int) ≤ fndF q i V ∧ fndF q i V < (i + V.length : Nat)
  | i, [], h => by cases h
  | i, v :: r, h => by
    unfold fndF kvW
    by_cases e : v = q
    · rw [if_pos e, e]
      exact ⟨List.mem_cons_self, by omega, by rw [List.length_cons]; omega⟩
    · rw [if_neg e]
      have hr : q ∈ r := by
        rcases List.mem_cons.1 h with h | h
        · exact absurd h.symm e
        · exact h
      obtain ⟨h1, h2, h3⟩ := fnd_in (i := i + 1) hr
      exact ⟨List.mem_cons_of_mem _ h1, by omega, by rw [List.length_cons]; omega⟩
theorem fnd_out {q : List Int} : ∀ {i : Nat} {V : List (List Int)}, q ∉ V → fndF q i V = -1
  | i, [], h => rfl
  | i, v :: r, h => by
    unfold fndF
    rw [if_neg (fun (e : v = q) => h (by rw [e]; exact List.mem_cons_self)), fnd_out (fun h2 => h (List.mem_cons_of_mem _ h2))]
/-- the windows of a map: of one length, different, few -/
def WinsOk (m : Nat) (V : List (List Int)) : Prop := m ≤ 6 ∧ (∀ v ∈ V, v.length = m) ∧ V.Nodup ∧ V.length ≤ 65
theorem wins_nodup {m : Nat} {V : List (List Int)} (h : WinsOk m V) (i : Nat) : ((kvW i V).map Prod.fst).Nodup := by
  rw [kvW_fst]
  exact List.pairwise_map.2 (List.Pairwise.imp_of_mem (fun {a b} ha hb hab e => hab (enc6_inj (h.2.1 a ha) (h.2.1 b hb) h.1 e)) h.2.2.1)
theorem wins_no {m : Nat} {V : List (List Int)} (h : WinsOk m V) {q : List Int} (hq : q.length = m ∨ V = []) (hno : q ∉ V) (i : Nat) : enc6 q ∉ (kvW i V).map Prod.fst := by
  rw [kvW_fst]
  intro hin
  obtain ⟨v, hv, e⟩ := List.mem_map.1 hin
  rcases hq with hq | rfl
  · exact hno (enc6_inj (h.2.1 v hv) hq h.1 e ▸ hv)
  · cases hv
abbrev MapW (W : World) (b : Nat) (V : List (List Int)) : Prop := MapE Try.prog 75 W b (kvW 0 V)
theorem zeroI (W : World) : (zeroValue 3).run Try.prog W = .ok (.int .i64 0) W := by kernel_rfl
set_option maxHeartbeats 2000000 in
theorem impl_find (b m : Nat) (V : List (List Int)) (A : Option Addr) (n c : Nat) (zs : List Int) (w : World) (hV : WinsOk m V) (hM : MapW w b V) (hq : zs.length = m ∨ V = []) (hn : zs.length = n) (hn2 : n ≤ 9223372036854775807) (hz : Fits zs) (hss : IntsAt w w.heap.size .i64 A zs) :
    Calls Try.prog 44 #[.map (some b), .slice A n c] w fun e w' => e = .returned (.int .i64 (fndF zs 0 V)) ∧ Below w.heap.size w w' := by
  obtain ⟨kl, hkey⟩ := key6 hz
  have HSS := Lib.hid hss
  have HN := Lib.hid hn
  have HM := Lib.hid hM
  have HND := Lib.hid (wins_nodup hV 0)
  obtain ⟨R, hR⟩ : ∃ R, R = fndF zs 0 V := ⟨_, rfl⟩
  rw [← hR]
  by_cases hin : zs ∈ V
  · obtain ⟨h1, h2, h3⟩ := fnd_in (i := 0) hin
    rw [← hR] at h1 h2 h3
    have HIN := Lib.hid h1
    have hb : R ≤ 65 := by have := hV.2.2.2; omega
    clear hss hn hM hR hin h1 h3 hV hq
    go_enter Try.func44, Try.ntmps44
    go_wp2_with fail
    refine (impl_key A n c zs w HN.out hn2 HSS.out).mono ?_
    rintro e w1 ⟨rfl, hb1⟩
    have HM1 := Lib.hid (HM.out.below hb1 HM.out.lt)
    have HB1 := Lib.hid hb1
    clear hb1
    go_wp2_with (at_lookup; refine wpList_hit rfl (.tmp 8) (.tmp 10) 58 true rfl keyed6 Try.underlying58 b _ HM1.out rfl (enc6 zs) _ _ rfl hkey HND.out HIN.out ?_)
    go_ret
    exact ⟨rfl, HB1.out⟩
  · have HNO := Lib.hid (wins_no hV hq hin 0)
    have HR := Lib.hid (show R = -1 by rw [hR]; exact fnd_out hin)
    clear hss hn hM hR hin hV hq
    go_enter Try.func44, Try.ntmps44
    go_wp2_with fail
    refine (impl_key A n c zs w HN.out hn2 HSS.out).mono ?_
    rintro e w1 ⟨rfl, hb1⟩
    have HM1 := Lib.hid (HM.out.below hb1 HM.out.lt)
    have HB1 := Lib.hid hb1
    clear hb1
    go_wp2_with (at_lookup; refine wpList_miss rfl (.tmp 8) (.tmp 10) 58 true rfl keyed6 Try.underlying58 b _ HM1.out rfl (zeroI _) (enc6 zs) _ rfl hkey HNO.out ?_)
    go_ret
    exact ⟨congrArg (fun z => Ending.returned (.int .i64 z)) HR.out.symm, HB1.out⟩
set_option maxHeartbeats 2000000 in
theorem impl_add (b m : Nat) (V : List (List Int)) (A : Option Addr) (n c : Nat) (zs : List Int) (w : World) (hV : WinsOk m V) (hM : MapW w b V) (hq : zs.length = m) (hn : zs.length = n) (hn2 : n ≤ 9223372036854775807) (hz : Fits zs) (hss : IntsAt w w.heap.size .i64 A zs) :
    Calls Try.prog 62 #[.map (some b), .slice A n c] w fun e w' => e = .returned (.bool (decide (zs ∉ V))) ∧ MapW w' b (if zs ∈ V then V else V ++ [zs]) ∧ w.grownBy w' (some b) := by
  obtain ⟨kl, hkey⟩ := key6 hz
  have HSS := Lib.hid hss
  have HN := Lib.hid hn
  have HM := Lib.hid hM
  have HF := Lib.hid (fun (W : World) hM hss => impl_find b m V A n c zs W hV hM (Or.inl hq) hn hn2 hz hss)
  by_cases hin : zs ∈ V
  · obtain ⟨h1, h2, h3⟩ := fnd_in (i := 0) hin
    rw [if_pos hin, decide_eq_false (fun h => h hin)]
    have hb : fndF zs 0 V ≤ 65 := by have := hV.2.2.2; omega
    have h2' : 0 ≤ fndF zs 0 V := by omega
    generalize fndF zs 0 V = R at *
    clear hss hn hM hin h1 h2 h3 hV hq
    go_enter Try.func62, Try.ntmps62
    go_wp2_with fail
    refine (HF.out w HM.out HSS.out).mono ?_
    rintro e w1 ⟨rfl, hb1⟩
    have HM1 := Lib.hid (HM.out.below hb1 HM.out.lt)
    have HG := Lib.hid (show w.grownBy w1 (some b) from ⟨hb1.os, hb1.tape, hb1.output, hb1.size, fun k hk _ => hb1.block k hk⟩)
    clear hb1
    go_wp2
    go_ret
    exact ⟨rfl, HM1.out, HG.out⟩
  · rw [if_neg hin, decide_eq_true hin]
    have HNO := Lib.hid (wins_no hV (Or.inl hq) hin 0)
    have hout := fnd_out (i := 0) hin
    have HKL := Lib.hid (kvW_len 0 V)
    have HSN := Lib.hid (kvW_snoc 0 V zs)
    have hvl := hV.2.2.2
    rw [hout] at HF
    generalize hL : V.length = L at *
    clear hss hn hM hin hout hV hq hL
    go_enter Try.func62, Try.ntmps62
    go_wp2_with fail
    refine (HF.out w HM.out HSS.out).mono ?_
    rintro e w1 ⟨rfl, hb1⟩
    have HM1 := Lib.hid (HM.out.below hb1 HM.out.lt)
    have HS1 := Lib.hid ((HSS.out.below hb1).more hb1.size)
    have HB1 := Lib.hid hb1
    clear hb1
    go_wp2_with fail
    refine (impl_key A n c zs w1 HN.out hn2 HS1.out).mono ?_
    rintro e w2 ⟨rfl, hb2⟩
    have HM2 := Lib.hid (HM1.out.below hb2 HM1.out.lt)
    have HB2 := Lib.hid (HB1.out.trans (hb2.mono HB1.out.size))
    have hlen := HM2.out.size Try.underlying58
    rw [HKL.out] at hlen
    clear hb2
    go_wp2_with (at_mapUpdate; refine wpList_put rfl (.tmp 9) (.tmp 11) (.tmp 13) 58 (Or.inl rfl) keyed6 Try.underlying58 b _ HM2.out rfl (enc6 zs) (.int .i64 (L : Int)) _ rfl rfl hkey HNO.out ?_; intro w3 hm3 hg3 hs3)
    have HM3 := Lib.hid (show MapW w3 b (V ++ [zs]) by unfold MapW; rw [HSN.out]; simpa using hm3)
    have HG3 := Lib.hid (show w.grownBy w3 (some b) from (show w.grownBy w2 (some b) from ⟨HB2.out.os, HB2.out.tape, HB2.out.output, HB2.out.size, fun k hk _ => HB2.out.block k hk⟩).trans hg3)
    clear hm3 hg3 hs3 hlen
    go_wp2
    go_ret
    exact ⟨rfl, HM3.out, HG3.out⟩
end Go.Proofs.Ytkonakfbidnfhaa.Skw
