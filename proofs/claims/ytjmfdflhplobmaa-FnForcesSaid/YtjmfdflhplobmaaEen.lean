/- endings of the program: the ends of a tree with the answers that lead there. -/
import Derived.Test.YtjmfdflhplobmaaFrc
import Derived.Test.YtjmfdflhplobmaaCut
import Derived.Deep.RegionHeldLaw
import Derived.Maps.AppendAt
set_option linter.unusedVariables false
set_option maxRecDepth 20000
namespace Go.Proofs.Ytjmfdflhplobmaa.Een
open Go.RowKit Fr _root_.Go.Proofs.Ytjmfdflhplobmaa.Own Pk Ins Pfn Rws Fpl Nod Nob Tcf Trs Tre

/-- an end in memory: where its answers lie, its object -/
structure ED where
  A : Option Addr
  c : Nat
  zs : List Int
  ob : Int
def ed0 : ED := ⟨none, 0, [], 0⟩
def ED.p (e : ED) : List Int × Int := (e.zs, e.ob)
def ED.v (e : ED) : Value := .slice e.A e.zs.length e.c
def Lies2 (xs : List Value) (es : List ED) : Prop := ∀ j, j < es.length → xs[j * 2]? = some (es.getD j ed0).v ∧ xs[j * 2 + 1]? = some (.int .i64 (es.getD j ed0).ob)
/-- a row of ends of the call's own, each with its answers in a row of the call's own -/
def ERow (W : World) (lo : Nat) (A : Option Addr) (n c : Nat) (es : List ED) : Prop :=
  (∃ xs, W.ownsRow lo 63 2 (.slice A n c) n xs ∧ Lies2 xs es) ∧ es.length = n ∧ ∀ j, j < es.length → W.ownsRow lo 3 1 (es.getD j ed0).v (es.getD j ed0).zs.length ((es.getD j ed0).zs.map (Value.int .i64))
theorem eget_app (es : List ED) (r : ED) (j : Nat) (h : j < es.length) : (es ++ [r]).getD j ed0 = es.getD j ed0 := by simp [List.getD_eq_getElem?_getD, List.getElem?_append_left h]
theorem eget_new (es : List ED) (r : ED) : (es ++ [r]).getD es.length ed0 = r := by simp [List.getD_eq_getElem?_getD]
theorem ERow.nil (W : World) (lo : Nat) : ERow W lo none 0 0 [] := ⟨⟨[], World.ownsRow_nil _ _ _ _, fun j hj => absurd hj (Nat.not_lt_zero _)⟩, rfl, fun j hj => absurd hj (Nat.not_lt_zero _)⟩
section
variable {W W' : World} {lo n c : Nat} {A : Option Addr} {es : List ED}
theorem ERow.below (h : ERow W lo A n c es) (hb : Below W.heap.size W W') : ERow W' lo A n c es := by
  obtain ⟨⟨xs, h1, h2⟩, h3, h4⟩ := h
  exact ⟨⟨xs, own_below h1 hb, h2⟩, h3, fun j hj => own_below (h4 j hj) hb⟩
theorem ERow.mono {lo' : Nat} (h : ERow W lo A n c es) (hl : lo' ≤ lo) : ERow W lo' A n c es := by
  obtain ⟨⟨xs, h1, h2⟩, h3, h4⟩ := h
  exact ⟨⟨xs, own_mono h1 hl, h2⟩, h3, fun j hj => own_mono (h4 j hj) hl⟩
theorem ERow.outer (h : ERow W lo A n c es) : ∀ b, A.map (·.block) = some b → lo ≤ b ∧ b < W.heap.size := by
  obtain ⟨⟨xs, h1, h2⟩, _⟩ := h
  exact own_lo h1
/-- an append to another row of ends -/
theorem ERow.keep {B n2 c2 : Nat} {A2 : Option Addr} {ys : List Value} (h : ERow W lo A n c es) (ho : W.ownsRow B 63 2 (.slice A2 n2 c2) n2 ys) (hg : W.grownBy W' (A2.map (·.block))) (hne : ∀ b, A.map (·.block) = some b → A2.map (·.block) ≠ some b) : ERow W' lo A n c es := by
  obtain ⟨⟨xs, h1, h2⟩, h3, h4⟩ := h
  exact ⟨⟨xs, own_gr h1 hg hne, h2⟩, h3, fun j hj => own_gr (h4 j hj) hg (fun k hk e => own_diff ho (h4 j hj) (by decide) k e hk)⟩
/-- one end more -/
theorem ERow.app {g c' : Nat} {xs : List Value} {r : ED} (h : ERow W lo A n c es) (hx : W.ownsRow lo 63 2 (.slice A n c) n xs) (hl : Lies2 xs es) (hr : W.ownsRow lo 3 1 r.v r.zs.length (r.zs.map (Value.int .i64)))
    (ho : W'.ownsRow lo 63 2 (.slice (some ⟨g, 0, none⟩) (n + 1) c') (n + 1) (xs ++ [r.v, .int .i64 r.ob])) (hg : W.grownBy W' (A.map (·.block))) : ERow W' lo (some ⟨g, 0, none⟩) (n + 1) c' (es ++ [r]) := by
  have h3 := h.2.1
  have hxl := hx.1
  have keep : ∀ {q : ED}, W.ownsRow lo 3 1 q.v q.zs.length (q.zs.map (Value.int .i64)) → W'.ownsRow lo 3 1 q.v q.zs.length (q.zs.map (Value.int .i64)) := fun hv => own_gr hv hg (fun k hk e => own_diff hx hv (by decide) k e hk)
  refine ⟨⟨_, ho, fun j hj => ?_⟩, by rw [List.length_append, h3]; rfl, fun j hj => ?_⟩
  · rw [List.length_append, List.length_singleton] at hj
    by_cases e : j = es.length
    · subst e
      rw [eget_new, List.getElem?_append_right (by omega), List.getElem?_append_right (by omega), show es.length * 2 - xs.length = 0 by omega, show es.length * 2 + 1 - xs.length = 1 by omega]
      exact ⟨rfl, rfl⟩
    · rw [eget_app es r j (by omega), List.getElem?_append_left (by omega), List.getElem?_append_left (by omega)]
      exact hl j (by omega)
  · rw [List.length_append, List.length_singleton] at hj
    by_cases e : j = es.length
    · rw [e, eget_new]; exact keep hr
    · rw [eget_app es r j (by omega)]; exact keep (h.2.2 j (by omega))
/-- what lies at place j -/
theorem ERow.cell (h : ERow W lo A n c es) {j : Nat} (hj : j < n) : ∃ g, A = some ⟨g, 0, none⟩ ∧ W.cell? ⟨g, j * 2, none⟩ = some (es.getD j ed0).v ∧ W.cell? ⟨g, j * 2 + 1, none⟩ = some (.int .i64 (es.getD j ed0).ob) := by
  obtain ⟨⟨xs, h1, h2⟩, h3, h4⟩ := h
  obtain ⟨g, rfl⟩ := own3_shape h1 (by omega)
  obtain ⟨e0, e1⟩ := h2 j (by omega)
  have hlen := h1.1
  exact ⟨g, rfl, by rw [h1.cellAt _ (by omega)]; exact e0, by rw [h1.cellAt _ (by omega)]; exact e1⟩
end
theorem step_app_2 {P : Program} {w : World} {ops : Array Oper} {o : Oper} {a : Act} {K : Act → World → Prop} {Q : Exit → Act → World → Prop} {E : Prop} (hgd : o.guard = none) (s x : Operand) (t : TypeId)
    (ho : o.op = .call { callee := .builtin .append, args := #[s, x], argTypes := #[t, t] })
    (B : Nat) (e : TypeId) (i : TypeInfo) (z : Value) (size bytes : Nat) (ht : P.underlying t = some (.slice e)) (hi : P.info? e = some i) (hz : i.zero = some z)
    (hsize : i.size = size) (hby : i.bytes = bytes) (hby2 : bytes ≤ 64) (hzs : z.cells.size = size) (hs0 : 0 < size) (A : Option Addr) (c : Nat) (n : Nat) (xs : List Value) (hs : a.eval s = .slice A n c) (hown : w.ownsRow B e size (.slice A n c) n xs)
    (g0 : Nat) (ys : List Value) (hys : ys.length = size) (hy : ∀ u ∈ ys, u.oneCell' = true) (hx : a.eval x = .slice (some ⟨g0, 0, none⟩) 1 1) (hc : ∀ j u, ys[j]? = some u → w.cell? ((⟨g0, 0, none⟩ : Addr).add j) = some u) (hn : n ≤ 1048576) (hB : B ≤ w.heap.size)
    (h : ∀ g c' w', w'.ownsRow B e size (.slice (some ⟨g, 0, none⟩) (n + 1) c') (n + 1) (xs ++ ys) → w.grownBy w' (A.map (·.block)) → (A.map (·.block) = some g ∨ w.heap.size ≤ g) → K (a.put o.dst (.slice (some ⟨g, 0, none⟩) (n + 1) c')) w') :
    if Region.wanted o (yielded ops a.tmps) = true then Oper.wp P o a w K Q else E := by
  have hw : Region.wanted o (yielded ops a.tmps) = true := by simp [Region.wanted, hgd]
  rw [if_pos hw]
  obtain ⟨v', w', hrun, h2, h3, _, h4⟩ := run_append_own_at (P := P) w B t o.type e i z size bytes ht hi hz hsize hby hzs hs0 (.slice A n c) n xs hown ⟨g0, 0, none⟩ 1 1 ys (by rw [hys]; omega) hc hy (by unfold maxLen; omega) (by
    have : (n + 1) * bytes ≤ (1048576 + 1) * 64 := Nat.mul_le_mul (by omega) hby2
    omega) hB
  unfold Oper.wp
  simp [execOp, ho, resolve, invoke, builtin, hs, hx, hrun, Result.andThen, Oper.upon]
  rcases h2.2 with ⟨_, h0⟩ | ⟨g, cap, cur, hv, _⟩
  · omega
  · subst hv
    refine h g cap w' h2 (by cases A <;> exact h3) ?_
    rcases h4 with h4 | h4
    · left
      cases A with
      | none => simp [Value.ownBlock] at h4
      | some a2 => simp only [Value.ownBlock, Option.some.injEq] at h4; simp [h4]
    · right
      simp only [Value.ownBlock, Option.some.injEq] at h4
      omega
theorem infoEnd : (Try.prog.info? 63).map (fun i => (i.zero, i.size, i.bytes)) = some (some (.agg #[.slice none 0 0, .int .i64 0]), 2, 32) := by kernel_rfl
theorem end_parts : ∃ i, Try.prog.info? 63 = some i ∧ i.zero = some (.agg #[.slice none 0 0, .int .i64 0]) ∧ i.size = 2 ∧ i.bytes = 32 := by
  have h := infoEnd
  cases hi : Try.prog.info? 63 with
  | none => rw [hi] at h; cases h
  | some i =>
    rw [hi] at h
    simp only [Option.map_some, Option.some.injEq, Prod.mk.injEq] at h
    exact ⟨i, rfl, h.1, h.2.1, h.2.2⟩
theorem cellE {W : World} {p : Nat} {x y : Value} {e : TypeId} (h : W.heap[p]? = some (.cells #[x, y] e (0, 0))) : W.cell? ⟨p, 0, none⟩ = some x ∧ W.cell? ⟨p, 1, none⟩ = some y := by
  unfold World.cell?
  rw [h]
  exact ⟨rfl, rfl⟩
/-- a call hands back ends in memory of its own, and writes nothing old -/
def IsEnds (B : Nat) (ps : List (List Int × Int)) (w : World) (e : Ending) (w' : World) : Prop :=
  ∃ A c es, e = .returned (.slice A ps.length c) ∧ es.map ED.p = ps ∧ ERow w' B A ps.length c es ∧ Below B w w'
theorem below_a (V : World) (o : Obj) : Below V.heap.size V (V.alloc o).drew := (box_below V o).drew
theorem below_aa (V : World) (o o2 : Obj) : Below V.heap.size V ((V.alloc o).alloc o2).drew := ((box_below V o).alloc (by simp) o2).drew
theorem ends_nil (w : World) : Calls Try.prog 48 #[.pointer none] w (IsEnds w.heap.size [] w) := by
  go_enter Try.func48, Try.ntmps48
  go_wp2
  go_ret
  exact ⟨none, 0, [], rfl, rfl, ERow.nil _ _, Below.refl _ _⟩
set_option maxHeartbeats 4000000 in
theorem ends_any {L : List NV} (hok : OkF L) (tp : Nat → Nat) (lo : Nat) : ∀ (f i : Nat) (w : World), i < L.length → L.length ≤ i + f → (∀ k, k < L.length → TreeAt w lo L tp k) →
    Calls Try.prog 48 #[.pointer (some ⟨tp i, 0, none⟩)] w (IsEnds w.heap.size (endF L f i) w) := by
  intro f
  induction f with
  | zero => intro i w h1 h2; omega
  | succ f ih =>
    intro i w hi hf htr
    have HOK := Lib.hid hok
    have HIH := Lib.hid ih
    have HTR := Lib.hid htr
    obtain ⟨A2, c2, h1, h2, h3⟩ := htr i hi
    obtain ⟨k0, k1, k2⟩ := cell3 h1
    clear ih htr hok
    by_cases hl : nx L i = []
    · have HE := Lib.hid (endF_leaf (L := L) (i := i) f hl)
      rw [hl] at k2
      have hlen : ([] : List Int).length = 0 := rfl
      rw [hlen] at k2
      have hr := World.ownsRow_lit (base := w.heap.size) (e := 63) (size := 2) w #[.slice none 0 0, .int .i64 (fi L i)] 1 (Nat.le_refl _) (by decide) rfl
      have HR := Lib.hid (show ERow (w.alloc (.cells #[.slice none 0 0, .int .i64 (fi L i)] 63)) w.heap.size (some ⟨w.heap.size, 0, none⟩) 1 1 [⟨none, 0, [], fi L i⟩] from
        ⟨⟨_, hr, fun j hj => by
          obtain rfl : j = 0 := by simp at hj; exact hj
          exact ⟨rfl, rfl⟩⟩, rfl, fun j hj => by
          obtain rfl : j = 0 := by simp at hj; exact hj
          exact World.ownsRow_nil _ _ _ _⟩)
      have HB := Lib.hid (box_below w (.cells #[.slice none 0 0, .int .i64 (fi L i)] 63))
      clear hr h1 h3
      go_enter Try.func48, Try.ntmps48
      go_wp2
      go_ret
      rw [HE.out]
      exact ⟨some ⟨w.heap.size, 0, none⟩, 1, _, rfl, rfl, HR.out, HB.out⟩
    · have HE := Lib.hid (endF_node (L := L) (i := i) f hl)
      have HFEW := Lib.hid (fun t (ht : t ≤ (nx L i).length) => endT_few HOK.out (f := f) hi (by omega) hl ht)
      have HCH := Lib.hid (fun t (ht : t < (nx L i).length) => HOK.out.child hi ht)
      have HST := Lib.hid (fun t => endT_step L f i t)
      have HCF := Lib.hid (fun q (hq : q < L.length) (hq2 : L.length ≤ q + f) => end_few HOK.out hq hq2)
      have hsm := HOK.out.small
      have hl0 : (nx L i).length ≠ 0 := fun h => hl (List.length_eq_zero_iff.1 h)
      have hl40 : (nx L i).length ≤ 40 := by
        have h1 := HFEW.out _ (Nat.le_refl _)
        refine Nat.le_trans ?_ h1
        unfold endT
        rw [List.length_flatMap]
        have : ∀ l : List Nat, (∀ t ∈ l, t < (nx L i).length) → l.length ≤ (l.map fun t => ((endF L f ((nx L i).getD t 0).toNat).map fun e => ((t : Int) :: e.1, e.2)).length).sum := by
          intro l
          induction l with
          | nil => intro _; exact Nat.le_refl _
          | cons t l ihl =>
            intro h
            obtain ⟨q, hq, hq1, hq2⟩ := HCH.out t (h t List.mem_cons_self)
            have hne := end_some HOK.out f q hq2 (by omega)
            have := ihl fun t' ht' => h t' (List.mem_cons_of_mem _ ht')
            have h3 := List.length_pos_iff.2 hne
            simp only [List.map_cons, List.sum_cons, List.length_cons, List.length_map, hq, Int.toNat_natCast]
            simp only [List.length_map] at this
            omega
        have h2 := this (List.range (nx L i).length) (fun t ht => List.mem_range.1 ht)
        rwa [List.length_range] at h2
      obtain ⟨m, hm⟩ : ∃ m, m = (nx L i).length := ⟨_, rfl⟩
      have HM := Lib.hid hm
      rw [← hm] at k2 h3 hl0 hl40
      have HKID := Lib.hid h3
      obtain ⟨g2, rfl⟩ := own_shape h3 (by omega)
      have hg2 := (h3.lt g2 rfl).2
      obtain ⟨i0, hi0, hz0, hz1, hz2⟩ := end_parts
      have hm0' : ((m : Int) == 0) = false := by simpa using hl0
      clear h1 h3 hm hl
      go_enter Try.func48, Try.ntmps48
      go_wp2
      go_loopw [3, 27] (fun s q wr => ∃ (t N : Nat) (A3 : Option Addr) (c3 : Nat) (es : List ED), t ≤ m ∧ N ≤ 40 ∧ q = .int .i64 t ∧ s = .slice A3 N c3 ∧ Hid (ERow wr w.heap.size A3 N c3 es) ∧ Hid (es.map ED.p = endT L f i t) ∧ Hid (Below w.heap.size w wr)) (fun _ q _ => m - (intOf q).toNat)
      case atStart => exact ⟨0, 0, none, 0, [], Nat.zero_le _, Nat.zero_le _, rfl, rfl, Lib.hid (ERow.nil _ _), Lib.hid rfl, Lib.hid (Below.refl _ _)⟩
      case round =>
        obtain ⟨t, N, A3, c3, es, ht, hN, rfl, rfl, HR, HV, HB⟩ := hrel
        by_cases hlt : t < m
        · obtain ⟨q, hq, hq1, hq2⟩ := HCH.out t (by rw [← HM.out]; exact hlt)
          have hck : wr.cell? ⟨g2, t, none⟩ = some (.pointer (some ⟨tp q, 0, none⟩)) := by
            refine (HB.out.cell (p := ⟨g2, t, none⟩) hg2).trans ?_
            have hy : t < (nx L i).length := by rw [← HM.out]; exact hlt
            rw [HKID.out.cellAt t (by omega)]
            unfold kidsV
            rw [List.getElem?_map, List.getElem?_eq_getElem hy]
            have : (nx L i)[t] = (q : Int) := by
              rw [← hq, List.getD_eq_getElem?_getD, List.getElem?_eq_getElem hy]; rfl
            rw [this]
            simp
          have hgn : w.grownBy wr none := ⟨HB.out.os, HB.out.tape, HB.out.output, HB.out.size, fun k hk _ => HB.out.block k hk⟩
          have HCALL := Lib.hid (HIH.out q wr hq2 (by omega) (fun k hk => (HTR.out k hk).grown hgn (fun k hk => by cases hk)))
          have HSTQ := Lib.hid (show endT L f i (t + 1) = endT L f i t ++ (endF L f q).map fun e => ((t : Int) :: e.1, e.2) by rw [HST.out, hq, Int.toNat_natCast])
          have HCL := Lib.hid (HCF.out q hq2 (by omega))
          have HQL := Lib.hid (show ∀ e ∈ endF L f q, e.1.length ≤ 40 from fun e he => by
            rw [end_fuel HOK.out f (L.length - q) q hq2 (by omega) (by omega)] at he
            have := end_len L _ q e he
            omega)
          have HTF := Lib.hid (HFEW.out (t + 1) (by rw [← HM.out]; omega))
          obtain ⟨ps, hps⟩ : ∃ ps, ps = endF L f q := ⟨_, rfl⟩
          rw [← hps] at HCALL HSTQ HCL HQL
          clear hgn hq hps
          go_wp2_with fail
          refine HCALL.out.mono ?_
          rintro e w5 ⟨A5, c5, e5, rfl, hp5, hr5, hb5⟩
          have hM40 := HCL.out
          obtain ⟨M, hM⟩ : ∃ M, M = ps.length := ⟨_, rfl⟩
          rw [← hM] at hr5 hM40 ⊢
          have HMP := Lib.hid hM
          have HP5 := Lib.hid hp5
          have HR0 := Lib.hid (HR.out.below hb5)
          have HR5 := Lib.hid hr5
          have HB5 := Lib.hid (HB.out.trans (hb5.mono HB.out.size))
          have hs1 := HB.out.size
          have hs5 := hb5.size
          obtain ⟨s1, hs1e⟩ : ∃ s1, s1 = wr.heap.size := ⟨_, rfl⟩
          have HO3 := Lib.hid (show ∀ b, A3.map (·.block) = some b → b < s1 ∨ w5.heap.size ≤ b from fun b hb => Or.inl (by rw [hs1e]; exact (HR.out.outer b hb).2))
          have HO5 := Lib.hid (show ∀ b, A5.map (·.block) = some b → s1 ≤ b ∧ b < w5.heap.size by rw [hs1e]; exact hr5.outer)
          rw [← hs1e] at hs1 hs5 HR5
          obtain ⟨s2, hs2e⟩ : ∃ s2, s2 = w5.heap.size := ⟨_, rfl⟩
          rw [← hs2e] at hs5 HO3 HO5
          have HS2 := Lib.hid (show s2 ≤ w5.heap.size by omega)
          clear hp5 hr5 hb5 hM HR HB hs1e hs2e hck HCALL
          go_wp2
          go_loopw [3, 35] (fun s q wx => ∃ (k N : Nat) (A3 : Option Addr) (c3 : Nat) (es : List ED), k ≤ M ∧ N ≤ 40 ∧ q = .int .i64 k ∧ s = .slice A3 N c3 ∧ Hid (ERow wx w.heap.size A3 N c3 es) ∧ Hid (es.map ED.p = endT L f i t ++ (ps.take k).map fun e => ((t : Int) :: e.1, e.2)) ∧ Hid (Below w.heap.size w wx) ∧ Hid (ERow wx s1 A5 M c5 e5) ∧
            Hid (∀ b, A3.map (·.block) = some b → b < s1 ∨ s2 ≤ b) ∧ Hid (s2 ≤ wx.heap.size)) (fun _ q _ => M - (intOf q).toNat)
          case atStart => exact ⟨0, N, A3, c3, es, Nat.zero_le _, hN, rfl, rfl, HR0, Lib.hid (by rw [HV.out]; simp), HB5, HR5, HO3, HS2⟩
          case round =>
            obtain ⟨k, N, A3, c3, es, hk, hN, rfl, rfl, HR, HV, HB, HR5, HO3, HS2⟩ := hrel
            clear HR0
            by_cases hlk : k < M
            · obtain ⟨g5, rfl, hc0, hc1⟩ := HR5.out.cell hlk
              have hown5 := HR5.out.2.2 k (by rw [HR5.out.2.1]; exact hlk)
              have hkp : k < ps.length := by rw [← HMP.out]; exact hlk
              have hpk : ps.take (k + 1) = ps.take k ++ [((e5.getD k ed0).zs, (e5.getD k ed0).ob)] := by
                rw [List.take_succ_eq_append_getElem hkp]
                congr 2
                have e : (e5.map ED.p)[k]? = some ps[k] := by rw [HP5.out]; exact List.getElem?_eq_getElem hkp
                have hke : k < e5.length := by rw [HR5.out.2.1]; exact hlk
                rw [List.getElem?_map, List.getElem?_eq_getElem hke] at e
                simp only [Option.map_some, Option.some.injEq] at e
                rw [← e, List.getD_eq_getElem?_getD, List.getElem?_eq_getElem hke]
                rfl
              have hpm : ((e5.getD k ed0).zs, (e5.getD k ed0).ob) ∈ ps := by
                have : ((e5.getD k ed0).zs, (e5.getD k ed0).ob) ∈ ps.take (k + 1) := by rw [hpk]; exact List.mem_append_right _ (List.mem_singleton.2 rfl)
                exact List.mem_of_mem_take this
              have hzl := HQL.out _ hpm
              unfold ED.v at hc0 hown5
              simp only at hzl
              generalize (e5.getD k ed0).A = Ak at *
              generalize (e5.getD k ed0).c = ck at *
              generalize (e5.getD k ed0).zs = zs at *
              generalize (e5.getD k ed0).ob = ob at *
              have hAk : (Ak = none → ck = 0) ∧ ∀ a, Ak = some a → a.spot = none := by
                rcases hown5.2 with ⟨hv, _⟩ | ⟨g, cap, cur, hv, _⟩
                · simp only [Value.slice.injEq] at hv
                  obtain ⟨rfl, _, rfl⟩ := hv
                  exact ⟨fun _ => rfl, (fun a h => by cases h)⟩
                · simp only [Value.slice.injEq] at hv
                  obtain ⟨rfl, _, rfl⟩ := hv
                  exact ⟨(fun h => by cases h), fun a h => by simp only [Option.some.injEq] at h; rw [← h]⟩
              obtain ⟨V, hV⟩ : ∃ V, wr.alloc (.cells #[.slice Ak zs.length ck, .int .i64 ob] 63) = V := ⟨_, rfl⟩
              have hbV : Below wr.heap.size wr V := by rw [← hV]; exact box_below _ _
              obtain ⟨v0, v1⟩ := cellE (heap_alloc_new wr (.cells #[.slice Ak zs.length ck, .int .i64 ob] 63))
              rw [hV] at v0 v1
              have hsV : wr.heap.size < V.heap.size := by rw [← hV]; simp
              have HKS := Lib.hid (fun (W : World) (h : Below V.heap.size V W) => (show W.cell? ⟨wr.heap.size, 0, none⟩ = some (.slice Ak zs.length ck) ∧ W.cell? ⟨wr.heap.size, 1, none⟩ = some (.int .i64 ob) from
                ⟨(h.cell (p := ⟨wr.heap.size, 0, none⟩) hsV).trans v0, (h.cell (p := ⟨wr.heap.size, 1, none⟩) hsV).trans v1⟩))
              obtain ⟨x0, x1, x2, x3⟩ := two_at V #[.int .i64 (t : Int)] #[.slice (some ⟨V.heap.size, 0, none⟩) 1 1, .slice Ak zs.length ck] 3 26
              have HCON := Lib.hid (fun (X : World) (hX : X.heap = ((V.alloc (.cells #[.int .i64 (t : Int)] 3)).alloc (.cells #[.slice (some ⟨V.heap.size, 0, none⟩) 1 1, .slice Ak zs.length ck] 26)).heap) (hXb : Below V.heap.size V X) =>
                Cut.concat_two (V.heap.size + 1) 2 (some ⟨V.heap.size, 0, none⟩) Ak 1 zs.length 1 ck [(t : Int)] zs X (by rw [hX]; exact x1) rfl rfl (by omega) (by omega) (fun h => by cases h) hAk.1 (fun a h => by simp only [Option.some.injEq] at h; rw [← h]) hAk.2
                  (by
                    intro j hj
                    obtain rfl : j = 0 := by simp at hj; exact hj
                    refine ⟨V.heap.size, 0, rfl, by rw [hX, x3]; omega, ?_⟩
                    unfold World.cell?
                    rw [hX, x0]
                    rfl)
                  (((ints_of (own_below hown5 hbV)).below hXb).more hXb.size))
              have HOW := Lib.hid HR.out
              have HBV := Lib.hid hbV
              obtain ⟨xs, hx, hlie⟩ := HR.out.1
              have HXS := Lib.hid hx
              have HLIE := Lib.hid hlie
              have hA3 : ∀ b, A3.map (·.block) = some b → b < wr.heap.size := fun b hb => (HR.out.outer b hb).2
              have HA3 := Lib.hid hA3
              have HPK := Lib.hid hpk
              have HSW := Lib.hid HB.out.size
              have HK0 := Lib.hid (HKS.out V.drew (Below.refl _ V).drew)
              clear hA3 hx hlie hbV hown5 hAk x0 x1 x2 x3 hpk hpm
              have HLZ1 := Lib.hid (show ([(t : Int)] ++ zs).length = zs.length + 1 by simp)
              obtain ⟨lz, hlz⟩ : ∃ lz, lz = zs.length := ⟨_, rfl⟩
              rw [← hlz] at HLZ1 HCON HKS HK0 v0 hV hc0 hzl
              have HLZ := Lib.hid hlz
              clear hlz
              go_upto_region 12 with fail
              have hne3 : ∀ b, A3.map (·.block) = some b → b ≠ wr.heap.size := fun b hb => Nat.ne_of_lt (HA3.out b hb)
              go_region_held_law (fun w' => w'.cell? ⟨wr.heap.size, 0, none⟩ = some (.slice Ak lz ck) ∧ w'.cell? ⟨wr.heap.size, 1, none⟩ = some (.int .i64 ob)) ((first | exact HK0.out | exact HKS.out _ hb1.out | exact HKS.out _ hb6.out | exact HKS.out _ (below_a V _) | exact HKS.out _ (below_aa V _ _) | exact hk7.out)) ((first
                | (go_simp; go_at_call 72; refine (HCON.out ((V.alloc (.cells #[.int .i64 (t : Int)] 3)).alloc (.cells #[.slice (some ⟨V.heap.size, 0, none⟩) 1 1, .slice Ak lz ck] 26)).drew rfl (below_aa V _ _)).mono ?_; rintro e w6 ⟨Ac, cc, rfl, hoc, hbc⟩; rw [HLZ1.out] at hoc; rw [HLZ1.out]; have hb1 := Lib.hid ((below_aa V _ _).trans (hbc.mono (below_aa V _ _).size)); have hb6 := Lib.hid (hb1.out.alloc hb1.out.size (.cells #[.slice Ac (lz + 1) cc, .int .i64 ob] 63)); have HX6 := Lib.hid (own_below (own_below HXS.out HBV.out) hb1.out); have HOC := Lib.hid hoc; dsimp only)
                | (refine step_app_2 rfl (.tmp 39) (.tmp 49) 58 rfl w.heap.size 63 i0 _ 2 32 Try.underlying58 hi0 hz0 hz1 hz2 (by omega) rfl (by omega) A3 c3 N xs rfl (HX6.out.alloc _) w6.heap.size [.slice Ac (lz + 1) cc, .int .i64 ob] rfl (by simp [Value.oneCell']) rfl (fun j u hj => Wid.wide_cell w6 #[.slice Ac (lz + 1) cc, .int .i64 ob] 63 j u hj) (by omega) (Nat.le_trans (Nat.le_trans HSW.out (Nat.le_of_lt hsV)) hb6.out.size) ?_; intro g c' w7 ho7 hg7 hat7; have hk7 := Lib.hid (show w7.cell? ⟨wr.heap.size, 0, none⟩ = some (.slice Ak lz ck) ∧ w7.cell? ⟨wr.heap.size, 1, none⟩ = some (.int .i64 ob) from ⟨hg7.cell (HKS.out _ hb6.out).1 (fun e => hne3 _ e.symm rfl), hg7.cell (HKS.out _ hb6.out).2 (fun e => hne3 _ e.symm rfl)⟩))))
              have hba := box_below w6 (.cells #[.slice Ac (lz + 1) cc, .int .i64 ob] 63)
              have hra := ((HOW.out.below HBV.out).below hb1.out).below hba
              have hlz1 : ((t : Int) :: zs).length = lz + 1 := by rw [List.length_cons, HLZ.out]
              have hrr : (w6.alloc (.cells #[.slice Ac (lz + 1) cc, .int .i64 ob] 63)).ownsRow w.heap.size 3 1 (⟨Ac, cc, (t : Int) :: zs, ob⟩ : ED).v ((t : Int) :: zs).length (((t : Int) :: zs).map (Value.int .i64)) := by
                unfold ED.v
                rw [hlz1]
                exact own_mono (HOC.out.alloc _) (by
                  have h1 := HSW.out
                  have h2 := (below_aa V (.cells #[.int .i64 (t : Int)] 3) (.cells #[.slice (some ⟨V.heap.size, 0, none⟩) 1 1, .slice Ak lz ck] 26)).size
                  omega)
              have ho7' : w7.ownsRow w.heap.size 63 2 (.slice (some ⟨g, 0, none⟩) (N + 1) c') (N + 1) (xs ++ [(⟨Ac, cc, (t : Int) :: zs, ob⟩ : ED).v, .int .i64 ob]) := by
                unfold ED.v
                rw [hlz1]
                exact ho7
              have h7 := ERow.app (r := ⟨Ac, cc, (t : Int) :: zs, ob⟩) hra (HX6.out.alloc _) HLIE.out hrr ho7' hg7
              have hsz1 := hb1.out.size
              have hsz2 := hba.size
              have hsz7 := hg7.size
              have hsw := HSW.out
              have hs2 := HS2.out
              have h5 := (((HR5.out.below HBV.out).below hb1.out).below hba).keep (HX6.out.alloc _) hg7 (fun b hb e => by
                have h1 := HO5.out b hb
                have h2 := HO3.out b e
                omega)
              have hB7 : Below w.heap.size w w7 := (((HB.out.trans (HBV.out.mono hsw)).trans (hb1.out.mono (by omega))).trans (hba.mono (by omega))).grown hg7 (by omega) (fun b hb => (HOW.out.outer b hb).1)
              have hO7 : ∀ b, (some (⟨g, 0, none⟩ : Addr)).map (·.block) = some b → b < s1 ∨ s2 ≤ b := fun b hb => by
                simp only [Option.map_some, Option.some.injEq] at hb
                subst hb
                rcases hat7 with h | h
                · exact HO3.out g h
                · right; omega
              have hV7 : (es ++ [(⟨Ac, cc, (t : Int) :: zs, ob⟩ : ED)]).map ED.p = endT L f i t ++ (ps.take (k + 1)).map fun e => ((t : Int) :: e.1, e.2) := by
                rw [List.map_append, HV.out, HPK.out, List.map_append, List.append_assoc]
                rfl
              have hN7 : N + 1 ≤ 40 := by
                have h1 := HTF.out
                rw [HSTQ.out, List.length_append, List.length_map] at h1
                have h2 := congrArg List.length hV7
                rw [List.length_map, List.length_append, List.length_append, List.length_map, List.length_take, HOW.out.2.1] at h2
                have h3 := HMP.out
                simp only [List.length_singleton] at h2
                omega
              have H7 := Lib.hid h7
              have H5 := Lib.hid h5
              have HB7 := Lib.hid hB7
              have HO7 := Lib.hid hO7
              have HV7 := Lib.hid hV7
              have HS7 := Lib.hid (show s2 ≤ w7.heap.size by omega)
              clear h7 h5 hB7 hO7 hV7 ho7 ho7' hg7 hat7 hrr hlz1 hra hba HX6 HOC hb1 hb6 hk7 hsz1 hsz2 hsz7
              go_wp2
              go_roundw
              case rel => exact ⟨k + 1, N + 1, _, _, _, by omega, hN7, by go_num, rfl, H7, HV7, HB7, H5, HO7, HS7⟩
              case measure => simp [intOf]; omega
            · have hkM : k = M := by omega
              have HV2 := Lib.hid (show es.map ED.p = endT L f i (t + 1) by
                rw [HV.out, HSTQ.out, List.take_of_length_le (by rw [← HMP.out]; omega)])
              clear hkM HV
              go_wp2
              go_roundw
              case rel => exact ⟨t + 1, N, A3, c3, es, by omega, hN, by go_num, rfl, HR, HV2, HB⟩
              case measure => simp [intOf]; omega
        · have htm : t = m := by omega
          have HV2 := Lib.hid (show es.map ED.p = endF L (f + 1) i by rw [HV.out, HE.out, htm, HM.out])
          have HNL := Lib.hid (show (endF L (f + 1) i).length = N by rw [← HV2.out, List.length_map]; exact HR.out.2.1)
          clear htm HV
          go_wp2
          go_ret
          exact ⟨A3, c3, es, by rw [HNL.out]; rfl, HV2.out, by rw [HNL.out]; exact HR.out, HB.out⟩
end Go.Proofs.Ytjmfdflhplobmaa.Een
