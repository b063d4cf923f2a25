/- Tricks: a struct of a packet, steps and three ints. As an argument of a law; what the laws' helpers do with one. -/
import Derived.Test.YtibephoepkofnaaTst
import Derived.Test.YtibephoepkofnaaScn
set_option linter.unusedVariables false
set_option maxRecDepth 20000
namespace Go.Proofs.Ytibephoepkofnaa.Trk
open Go.Deep Go.RowKit Go.Joins Fr _root_.Go.Proofs.Ytibephoepkofnaa.Own Pk Ins Rws Tst

/-- a trick as a value -/
abbrev trV (A : Option Addr) (n c : Nat) (S : Option Addr) (m d : Nat) (x a b : Int) : Value := .agg #[.slice A n c, .slice S m d, .int .i64 x, .int .i64 a, .int .i64 b]
section
open Go.ChangeShapes Go.WideShapes
variable {H : Type} {enc : TypeId × Value → H} {P : Program}
/-- a list of ints that a slice reads -/
theorem trod_ints {W : World} {t e : TypeId} {fuel : Nat} {cs : List Value} {x : DataW H × List MemPlace} (ht : P.underlying t = some (.slice e)) (he : P.underlying e = some (.int .i64)) (hc : P.cellsOf e = 1)
    (h : DataW.trod enc P W 0 (fun _ => true) true fuel t cs = some x) (hlt : ∀ y ∈ x.2, y.block < W.heap.size) :
    ∃ (A : Option Addr) (n c : Nat) (zs : List Int), cs = [.slice A n c] ∧ zs.length = n ∧ n ≤ maxLen ∧ (∀ z ∈ zs, (Lit.int .i64 z).wf = true) ∧ IntsAt W W.heap.size .i64 A zs := by
  rcases open_ints ht he hc h with ⟨hcs, hx⟩ | ⟨a, len, cap, zs, hcs, _, hl, hm2, hz, hx, hcell, hws⟩
  · exact ⟨none, 0, 0, [], hcs, rfl, Nat.zero_le _, (fun s h => by cases h), IntsAt.none_ _ _ _ _⟩
  · simp only [if_true] at hz
    refine ⟨some a, len, cap, zs.take len, hcs, by rw [List.length_take]; omega, by omega, fun s h => hws s (List.mem_of_mem_take h), ?_⟩
    intro j hj
    have hj2 : j < len := by rw [List.length_take] at hj; omega
    obtain ⟨b, off, spot⟩ := a
    have hspot : spot = none := by simpa [Addr.add] using World.cell?_spot (hcell 0 (by omega))
    subst hspot
    have hbW : b < W.heap.size := hlt (.cell b off) (by rw [hx]; exact MemPlace.mem_row.2 ⟨0, by omega, by simp⟩)
    refine ⟨b, off, rfl, hbW, ?_⟩
    rw [← add_plain, hcell j (by omega)]
    simp [List.getD_eq_getElem?_getD, hj2]
/-- an argument that is a trick -/
theorem view_trick {W : World} {base : Nat} {t e u : TypeId} {f0 f1 f2 f3 f4 g0 g1 g2 h0 h1 : Field} {v : Value} {d : DataW H} {ps : List MemPlace} (hs : P.underlying t = some (.struct #[f0, f1, f2, f3, f4])) (hone : oneCellFields P #[f0, f1, f2, f3, f4] = true) (hC : P.cellsOf t = 5)
    (k0 : P.underlying f0.type = some (.slice e)) (he : P.underlying e = some (.int .i64)) (hc : P.cellsOf e = 1) (k1 : P.underlying f1.type = some (.slice u)) (T : StepTy P u g0 g1 g2 h0 h1)
    (k2 : P.underlying f2.type = some (.int .i64)) (k3 : P.underlying f3.type = some (.int .i64)) (k4 : P.underlying f4.type = some (.int .i64))
    (hval : Value.okWide P W .any base t v) (hd : DataW.Trod enc P W 0 (fun _ => true) true t v d ps) (hlt : ∀ x ∈ ps, x.block < W.heap.size) :
    ∃ (A : Option Addr) (n c : Nat) (zs : List Int) (S : Option Addr) (m d : Nat) (ss : List SR) (x a b : Int), v = trV A n c S m d x a b ∧ zs.length = n ∧ n ≤ maxLen ∧ (∀ z ∈ zs, (Lit.int .i64 z).wf = true) ∧ IntsAt W W.heap.size .i64 A zs ∧
      ss.length = m ∧ m ≤ maxLen ∧ WfS ss ∧ StepsAt W W.heap.size S ss ∧ (Lit.int .i64 x).wf = true ∧ (Lit.int .i64 a).wf = true ∧ (Lit.int .i64 b).wf = true := by
  obtain ⟨cs, rfl, hsz⟩ := okWide_struct hs hval
  obtain ⟨fuel, hf⟩ := hd
  obtain ⟨xs, q, _, hx, _, hxl, hfl⟩ := DataW.trod_struct hs hf
  have hcl : cs.toList.length = 5 := by rw [Array.length_toList, hsz, hC]
  obtain ⟨o0, w0⟩ := hone_of hone 0 f0 rfl
  obtain ⟨o1, w1⟩ := hone_of hone 1 f1 rfl
  obtain ⟨o2, w2⟩ := hone_of hone 2 f2 rfl
  obtain ⟨o3, w3⟩ := hone_of hone 3 f3 rfl
  obtain ⟨o4, w4⟩ := hone_of hone 4 f4 rfl
  obtain ⟨l, hl⟩ : ∃ l, l = cs.toList := ⟨_, rfl⟩
  have hcs : cs = l.toArray := by rw [hl]
  have hvl : Value.cells (.agg cs) = l.toArray := hcs
  have hx2 : ps = xs.flatMap (·.2) := by simp only [Prod.mk.injEq] at hx; exact hx.2
  rw [← hl] at hcl
  subst hcs
  obtain ⟨v0, v1, v2, v3, v4, rfl⟩ : ∃ v0 v1 v2 v3 v4, l = [v0, v1, v2, v3, v4] := by
    match l, hcl with
    | [v0, v1, v2, v3, v4], _ => exact ⟨v0, v1, v2, v3, v4, rfl⟩
  obtain ⟨y0, y1, y2, y3, y4, rfl⟩ : ∃ y0 y1 y2 y3 y4, xs = [y0, y1, y2, y3, y4] := by
    match xs, hxl with
    | [y0, y1, y2, y3, y4], _ => exact ⟨y0, y1, y2, y3, y4, rfl⟩
  have e0 := hfl 0 f0 rfl
  have e1 := hfl 1 f1 rfl
  have e2 := hfl 2 f2 rfl
  have e3 := hfl 3 f3 rfl
  have e4 := hfl 4 f4 rfl
  rw [o0, w0] at e0
  rw [o1, w1] at e1
  rw [o2, w2] at e2
  rw [o3, w3] at e3
  rw [o4, w4] at e4
  have e0' : DataW.trod enc P W 0 (fun _ => true) true q f0.type [v0] = some y0 := e0
  have e1' : DataW.trod enc P W 0 (fun _ => true) true q f1.type [v1] = some y1 := e1
  have e2' : DataW.trod enc P W 0 (fun _ => true) true q f2.type [v2] = some y2 := e2
  have e3' : DataW.trod enc P W 0 (fun _ => true) true q f3.type [v3] = some y3 := e3
  have e4' : DataW.trod enc P W 0 (fun _ => true) true q f4.type [v4] = some y4 := e4
  obtain ⟨A, n, c, zs, r0, a1, a2, a3, a4⟩ := trod_ints k0 he hc e0' (fun z hz => hlt z (by rw [hx2]; simp [hz]))
  obtain ⟨S, m, dd, ss, r1, b1, b2, b3, b4⟩ := trod_steps k1 T e1' (fun z hz => hlt z (by rw [hx2]; simp [hz]))
  obtain ⟨i2, r2, _, c2⟩ := DataW.trod_int k2 e2'
  obtain ⟨i3, r3, _, c3⟩ := DataW.trod_int k3 e3'
  obtain ⟨i4, r4, _, c4⟩ := DataW.trod_int k4 e4'
  simp only [List.cons.injEq, and_true] at r0 r1 r2 r3 r4
  subst r0 r1 r2 r3 r4
  exact ⟨A, n, c, zs, S, m, dd, ss, i2, i3, i4, rfl, a1, a2, a3, a4, b1, b2, b3, b4, c2, c3, c4⟩
end

theorem load_trick {W : World} {g : Nat} {v0 v1 v2 v3 v4 : Value} {e : TypeId} (h : W.heap[g]? = some (.cells #[v0, v1, v2, v3, v4] e (0, 0))) : (loadVar 40 ⟨g, 0, none⟩).run Try.prog W = .ok (.agg #[v0, v1, v2, v3, v4]) W :=
  run_loadVar_mid (P := Try.prog) W g 0 40 [v0, v1, v2, v3, v4] _ (range_at h) Try.underlying40 rfl (by kernel_rfl)
/-- a call hands back a trick whose lists lie in rows of its own, and writes nothing old -/
def IsTr (B : Nat) (zs : List Int) (ss : List SR) (x a b : Int) (w : World) (e : Ending) (w' : World) : Prop :=
  ∃ g h, e = .returned (trV (some ⟨g, 0, none⟩) zs.length zs.length (some ⟨h, 0, none⟩) ss.length ss.length x a b) ∧ w'.ownsRow B 3 1 (.slice (some ⟨g, 0, none⟩) zs.length zs.length) zs.length (zs.map (Value.int .i64)) ∧
    SRow w' B w'.heap.size (some ⟨h, 0, none⟩) ss.length ss.length ss ∧ g ≠ h ∧ Below B w w'
theorem srow_lower {W : World} {B B' hi : Nat} {A : Option Addr} {n c : Nat} {ss : List SR} (h : SRow W B hi A n c ss) (hB : B' ≤ B) : SRow W B' hi A n c ss := by
  obtain ⟨⟨xs, h1, h2⟩, r⟩ := h
  exact ⟨⟨xs, own_mono h1 hB, h2⟩, r⟩
theorem srow_wi {W W' : World} {B0 B1 lo2 hi2 : Nat} {A : Option Addr} {n c : Nat} {ss : List SR} (h : SRow W B0 B1 A n c ss) (hw : Wi lo2 hi2 W W') (hd : B1 ≤ lo2 ∨ hi2 ≤ B0) : SRow W' B0 B1 A n c ss := by
  have hlo := h.lo
  have hhi := h.hi
  obtain ⟨⟨xs, h1, h2⟩, h3, h4, h5⟩ := h
  refine ⟨⟨xs, own_wi h1 hw fun k hk => ?_, h2⟩, h3, h4, Nat.le_trans h5 hw.size⟩
  have k1 := hlo k hk
  have k2 := hhi k hk
  omega
set_option maxHeartbeats 2000000 in
theorem to_trick (A : Option Addr) (n c : Nat) (zs : List Int) (S : Option Addr) (m d : Nat) (ss : List SR) (x a b : Int) (w : World) (hn : zs.length = n) (hn2 : n ≤ 1048576) (hss : IntsAt w w.heap.size .i64 A zs)
    (hm : ss.length = m) (hm2 : m ≤ 1048576) (hst : StepsAt w w.heap.size S ss) :
    Calls Try.prog 13 #[trV A n c S m d x a b] w (IsTr w.heap.size zs ss x a b w) := by
  subst hn hm
  obtain ⟨hs0, hb0, a0, a1, a2⟩ := three_at w #[.slice A zs.length c, .slice S ss.length d, .int .i64 x, .int .i64 a, .int .i64 b] #[.slice none 0 0, .slice none 0 0, .int .i64 0, .int .i64 0, .int .i64 0] #[.slice none 0 0, .slice none 0 0, .int .i64 0, .int .i64 0, .int .i64 0] 35 40 40
  have HS0 := Lib.hid hs0
  have HB0 := Lib.hid hb0
  have A0 := Lib.hid a0
  have A1 := Lib.hid a1
  have A2 := Lib.hid a2
  clear hs0 hb0 a0 a1 a2
  have t0 := (cell_at A0.out 0).trans rfl
  obtain ⟨n, hn⟩ : ∃ n, n = zs.length := ⟨_, rfl⟩
  obtain ⟨m, hm⟩ : ∃ m, m = ss.length := ⟨_, rfl⟩
  have HN := Lib.hid hn
  have HM := Lib.hid hm
  unfold IsTr
  rw [← hn, ← hm]
  rw [← hn, ← hm] at HS0 HB0 A0 A1 A2 t0
  rw [← hn] at hn2
  rw [← hm] at hm2
  clear hn hm
  go_enter Try.func13, Try.ntmps13
  go_wp2_with fail
  refine (Ins.to_any A n c zs _ HN.out.symm hn2 ((hss.below HB0.out).more HB0.out.size)).mono ?_
  rintro e w3 ⟨g, rfl, hgg, hown, hb⟩
  have hsz := hb.size
  rw [HS0.out] at hgg hb hown hsz
  have c0 := (hb.block w.heap.size (by omega)).trans A0.out
  have c1 := (hb.block (w.heap.size + 1) (by omega)).trans A1.out
  have c2 := (hb.block (w.heap.size + 1 + 1) (by omega)).trans A2.out
  have p2 := put1 (j := 0) (.slice (some ⟨g, 0, none⟩) n n) c2
  have p0 := put_other (g := w.heap.size + 1 + 1) (j := 0) (.slice (some ⟨g, 0, none⟩) n n) c0 (by omega)
  have p1 := put_other (g := w.heap.size + 1 + 1) (j := 0) (.slice (some ⟨g, 0, none⟩) n n) c1 (by omega)
  have u1 := (cell_at c0 1).trans rfl
  have u2 := (cell_at p0 1).trans rfl
  have x0 := (cell_at c2 0).trans rfl
  have y0 := frz c2 0
  obtain ⟨W4, hW4⟩ : ∃ W, W = w3.setCell ⟨w.heap.size + 1 + 1, 0, none⟩ (.slice (some ⟨g, 0, none⟩) n n) := ⟨_, rfl⟩
  have gr4 : w3.grownBy W4 (some (w.heap.size + 1 + 1)) := by rw [hW4]; exact set_grown _ _ _ _
  rw [← hW4] at p0 p1 p2
  have ho4 := own_gr hown gr4 (fun k hk e => by simp only [Option.map_some, Option.some.injEq] at hk e; omega)
  have hb4 : Below w.heap.size w W4 := (HB0.out.trans (hb.mono (by omega))).grown gr4 (by omega) (fun k hk => by simp only [Option.some.injEq] at hk; omega)
  have HW4 := Lib.hid hW4
  have HO4 := Lib.hid ho4
  have HB4 := Lib.hid hb4
  have P0 := Lib.hid p0
  have P1 := Lib.hid p1
  have P2 := Lib.hid p2
  have hs4 : W4.heap.size = w3.heap.size := by rw [hW4]; simp
  clear hb hown c0 c1 c2 p0 p1 p2 ho4 hb4 gr4 hW4 t0
  go_wp2_with fail
  rw [← HW4.out]
  refine (to_steps S m d ss W4 HM.out.symm hm2 ((hst.below HB4.out).more HB4.out.size)).mono ?_
  rintro e w5 ⟨h, rfl, hr, hb⟩
  have hsz5 := hb.size
  have hgl : g < w3.heap.size := by have := (own_lo HO4.out g rfl).2; omega
  have hgh : g ≠ h := fun e => by have h1 := hr.lo h rfl; have h2 := (own_lo HO4.out g rfl).2; omega
  have c0 := (hb.block w.heap.size (by omega)).trans P0.out
  have c1 := (hb.block (w.heap.size + 1) (by omega)).trans P1.out
  have c2 := (hb.block (w.heap.size + 1 + 1) (by omega)).trans P2.out
  have u3 := (cell_at c0 2).trans rfl
  have u4 := (cell_at c0 3).trans rfl
  have u5 := (cell_at c0 4).trans rfl
  have v0 := (cell_at c1 0).trans rfl
  have f0 := frz c1 0
  have v1 := (cell_at c1 1).trans rfl
  have f1 := frz c1 1
  have v2 := (cell_at c1 2).trans rfl
  have f2 := frz c1 2
  have v3 := (cell_at c1 3).trans rfl
  have f3 := frz c1 3
  have v4 := (cell_at c1 4).trans rfl
  have f4 := frz c1 4
  have z0 := (cell_at c2 0).trans rfl
  have q0 := frz c2 0
  have z1 := (cell_at c2 1).trans rfl
  have q1 := frz c2 1
  have z2 := (cell_at c2 2).trans rfl
  have q2 := frz c2 2
  have z3 := (cell_at c2 3).trans rfl
  have q3 := frz c2 3
  have z4 := (cell_at c2 4).trans rfl
  have q4 := frz c2 4
  have gr2 := (((set_grown w5 (w.heap.size + 1 + 1) 1 (.slice (some ⟨h, 0, none⟩) m m)).trans (set_grown _ (w.heap.size + 1 + 1) 2 (.int .i64 x))).trans (set_grown _ (w.heap.size + 1 + 1) 3 (.int .i64 a))).trans (set_grown _ (w.heap.size + 1 + 1) 4 (.int .i64 b))
  have ho5 := own_gr (own_below HO4.out hb) gr2 (fun k hk e => by simp only [Option.map_some, Option.some.injEq] at hk e; omega)
  have hr5 := hr.grown gr2 (fun k hk => Or.inl (by simp only [Option.some.injEq] at hk; omega))
  have hb5 := (HB4.out.trans (hb.mono HB4.out.size)).grown gr2 (by have := HB4.out.size; omega) (fun k hk => by simp only [Option.some.injEq] at hk; omega)
  obtain ⟨W6, hW6⟩ : ∃ W, W = (((w5.setCell ⟨w.heap.size + 1 + 1, 1, none⟩ (.slice (some ⟨h, 0, none⟩) m m)).setCell ⟨w.heap.size + 1 + 1, 2, none⟩ (.int .i64 x)).setCell ⟨w.heap.size + 1 + 1, 3, none⟩ (.int .i64 a)).setCell ⟨w.heap.size + 1 + 1, 4, none⟩ (.int .i64 b) := ⟨_, rfl⟩
  have d1 := put_other (g := w.heap.size + 1 + 1) (j := 4) (.int .i64 b) (put_other (g := w.heap.size + 1 + 1) (j := 3) (.int .i64 a) (put_other (g := w.heap.size + 1 + 1) (j := 2) (.int .i64 x) (put_other (g := w.heap.size + 1 + 1) (j := 1) (.slice (some ⟨h, 0, none⟩) m m) c1 (by omega)) (by omega)) (by omega)) (by omega)
  rw [← hW6] at gr2 ho5 hr5 hb5 d1
  have gr1 := ((((set_grown W6 (w.heap.size + 1) 0 (.slice (some ⟨g, 0, none⟩) n n)).trans (set_grown _ (w.heap.size + 1) 1 (.slice (some ⟨h, 0, none⟩) m m))).trans (set_grown _ (w.heap.size + 1) 2 (.int .i64 x))).trans (set_grown _ (w.heap.size + 1) 3 (.int .i64 a))).trans (set_grown _ (w.heap.size + 1) 4 (.int .i64 b))
  have HO6 := Lib.hid (own_mono (base' := w.heap.size) (own_gr ho5 gr1 (fun k hk e => by simp only [Option.map_some, Option.some.injEq] at hk e; omega)) (by omega))
  have hr6 := hr5.grown gr1 (fun k hk => Or.inl (by simp only [Option.some.injEq] at hk; omega))
  have HB6 := Lib.hid (hb5.grown gr1 hb5.size (fun k hk => by simp only [Option.some.injEq] at hk; omega))
  have HR6 := Lib.hid (srow_lower (hr6.higher (Nat.le_trans gr2.size gr1.size) (Nat.le_refl _)) HB4.out.size)
  have HF := Lib.hid (put1 (j := 4) (.int .i64 b) (put1 (j := 3) (.int .i64 a) (put1 (j := 2) (.int .i64 x) (put1 (j := 1) (.slice (some ⟨h, 0, none⟩) m m) (put1 (j := 0) (.slice (some ⟨g, 0, none⟩) n n) d1)))))
  have HW6 := Lib.hid hW6
  clear hb hr c0 c1 c2 gr2 ho5 hr5 hb5 d1 gr1 hr6 hW6 hsz hsz5 u1 u2 x0 y0 hgg hgl
  go_wp2
  (try simp only [Exit.inBlock, Exit.then])
  rw [← HW6.out]
  refine bodyPost_ret (results_cell rfl _ rfl (load_trick HF.out)) rfl ?_
  exact ⟨g, h, rfl, HO6.out, HR6.out, hgh, HB6.out⟩
set_option maxHeartbeats 1000000 in
theorem sz_trick (A : Option Addr) (n c : Nat) (S : Option Addr) (m d : Nat) (x a b left : Int) (w : World) (hn : n ≤ 9223372036854775807) (hm : m ≤ 9223372036854775807) (h0 : 0 ≤ left) (h1 : left ≤ 1048576) :
    Calls Try.prog 11 #[trV A n c S m d x a b, .int .i64 left] w fun e w' => e = .returned (.int .i64 (if (n : Int) + m ≤ left then left - n - m else -1)) ∧ Below w.heap.size w w' := by
  have HB := Lib.hid (box_below w (.cells #[.slice A n c, .slice S m d, .int .i64 x, .int .i64 a, .int .i64 b] 35))
  have c0 := heap_alloc_new w (.cells #[.slice A n c, .slice S m d, .int .i64 x, .int .i64 a, .int .i64 b] 35)
  have u1 := (cell_at c0 1).trans rfl
  clear c0
  by_cases h : (n : Int) ≤ left
  · have h3 : decide (left - (n : Int) < 0) = false := decide_eq_false (by omega)
    by_cases h2 : (n : Int) + m ≤ left
    · rw [if_pos h2]
      have h2' : (m : Int) ≤ left - n := by omega
      have h4 : decide (left - (n : Int) - (m : Int) < 0) = false := decide_eq_false (by omega)
      go_enter Try.func11, Try.ntmps11
      go_wp2_with fail
      refine (Scn.sz_ints A n c left _ hn h0 h1).mono ?_
      rintro e w' ⟨rfl, rfl⟩
      rw [if_pos h]
      go_wp2_with fail
      refine (sz_steps S m d (left - n) _ hm (by omega) (by omega)).mono ?_
      rintro e w' ⟨rfl, rfl⟩
      rw [if_pos h2']
      go_wp2
      go_ret
      exact ⟨rfl, HB.out⟩
    · rw [if_neg h2]
      have h2' : ¬ (m : Int) ≤ left - n := by omega
      go_enter Try.func11, Try.ntmps11
      go_wp2_with fail
      refine (Scn.sz_ints A n c left _ hn h0 h1).mono ?_
      rintro e w' ⟨rfl, rfl⟩
      rw [if_pos h]
      go_wp2_with fail
      refine (sz_steps S m d (left - n) _ hm (by omega) (by omega)).mono ?_
      rintro e w' ⟨rfl, rfl⟩
      rw [if_neg (show ¬ (m : Int) ≤ left - n by omega)]
      go_wp2
      go_ret
      exact ⟨rfl, HB.out⟩
  · rw [if_neg (show ¬ (n : Int) + m ≤ left by omega)]
    go_enter Try.func11, Try.ntmps11
    go_wp2_with fail
    refine (Scn.sz_ints A n c left _ hn h0 h1).mono ?_
    rintro e w' ⟨rfl, rfl⟩
    rw [if_neg (show ¬ (n : Int) ≤ left by omega)]
    go_wp2
    go_ret
    exact ⟨rfl, HB.out⟩
set_option maxHeartbeats 1000000 in
theorem eq_trick (A A2 : Option Addr) (n c c2 : Nat) (zs : List Int) (S S2 : Option Addr) (m d d2 : Nat) (ss : List SR) (x a b : Int) (w : World) (hn : zs.length = n) (hn2 : n ≤ 2097152) (h1 : IntsAt w w.heap.size .i64 A zs) (h2 : IntsAt w w.heap.size .i64 A2 zs)
    (hm : ss.length = m) (hm2 : m ≤ 2097152) (k1 : StepsAt w w.heap.size S ss) (k2 : StepsAt w w.heap.size S2 ss) :
    Calls Try.prog 15 #[trV A n c S m d x a b, trV A2 n c2 S2 m d2 x a b] w fun e w' => e = .returned (.bool true) ∧ Below w.heap.size w w' := by
  have HN := Lib.hid hn
  have HM := Lib.hid hm
  obtain ⟨hs0, hb0, a0, a1⟩ := two_at w #[.slice A n c, .slice S m d, .int .i64 x, .int .i64 a, .int .i64 b] #[.slice A2 n c2, .slice S2 m d2, .int .i64 x, .int .i64 a, .int .i64 b] 40 40
  have HS0 := Lib.hid hs0
  have HB0 := Lib.hid hb0
  have A0 := Lib.hid a0
  have A1 := Lib.hid a1
  have H1 := Lib.hid ((h1.below hb0).more hb0.size)
  have H2 := Lib.hid ((h2.below hb0).more hb0.size)
  have K1 := Lib.hid ((k1.below hb0).more hb0.size)
  have K2 := Lib.hid ((k2.below hb0).more hb0.size)
  have hxx : (x != x) = false := by simp
  have haa : (a != a) = false := by simp
  have hbb : (b != b) = false := by simp
  have u0 := (cell_at a0 0).trans rfl
  have v0 := (cell_at a1 0).trans rfl
  clear hn hm h1 h2 k1 k2 hs0 hb0 a0 a1
  go_enter Try.func15, Try.ntmps15
  go_wp2_with fail
  refine (Ins.eq_same A A2 n c c2 zs _ HN.out (by omega) H1.out H2.out).mono ?_
  rintro e w3 ⟨rfl, hb⟩
  have HB3 := Lib.hid (HB0.out.trans (hb.mono HB0.out.size))
  have K3 := Lib.hid ((K1.out.below hb).more hb.size)
  have K4 := Lib.hid ((K2.out.below hb).more hb.size)
  have hsz := hb.size
  rw [HS0.out] at hb hsz
  have C0 := Lib.hid ((hb.block w.heap.size (by omega)).trans A0.out)
  have C1 := Lib.hid ((hb.block (w.heap.size + 1) (by omega)).trans A1.out)
  have u1 := (cell_at C0.out 1).trans rfl
  have v1 := (cell_at C1.out 1).trans rfl
  clear hb u0 v0 H1 H2 K1 K2
  go_wp2_with fail
  refine (eq_steps S S2 m d d2 ss w3 HM.out hm2 K3.out K4.out).mono ?_
  rintro e w4 ⟨rfl, hb⟩
  have HB4 := Lib.hid (HB3.out.trans (hb.mono HB3.out.size))
  have c0 := (hb.block w.heap.size (by omega)).trans C0.out
  have c1 := (hb.block (w.heap.size + 1) (by omega)).trans C1.out
  have y2 := (cell_at c0 2).trans rfl
  have y3 := (cell_at c0 3).trans rfl
  have y4 := (cell_at c0 4).trans rfl
  have z2 := (cell_at c1 2).trans rfl
  have z3 := (cell_at c1 3).trans rfl
  have z4 := (cell_at c1 4).trans rfl
  clear hb c0 c1 u1 v1 K3 K4 hsz
  go_wp2
  go_ret
  exact ⟨rfl, HB4.out⟩
set_option maxHeartbeats 1000000 in
theorem mark_trick (lo hi : Nat) (A : Option Addr) (n c : Nat) (S : Option Addr) (m d : Nat) (x a b k : Int) (xs ys : List Value) (w : World) (hk0 : 0 ≤ k) (hkn : k + n + 4 * m ≤ 1073741824) (ho : w.ownsRow lo 3 1 (.slice A n c) n xs) (hr : w.ownsRow lo 29 4 (.slice S m d) m ys)
    (hA : ∀ q, A.map (·.block) = some q → q < hi) (hS : ∀ q, S.map (·.block) = some q → q < hi) (hne : ∀ q, A.map (·.block) = some q → S.map (·.block) ≠ some q) :
    Calls Try.prog 19 #[trV A n c S m d x a b, .int .i64 k] w fun e w' => e = .returned (.int .i64 (k + (n : Int) + 4 * (m : Int))) ∧ Wi lo hi w w' := by
  have hbx := box_below w (.cells #[.slice A n c, .slice S m d, .int .i64 x, .int .i64 a, .int .i64 b] 40)
  have hgx := World.grownBy_alloc w (.cells #[.slice A n c, .slice S m d, .int .i64 x, .int .i64 a, .int .i64 b] 40) none
  have c0 := heap_alloc_new w (.cells #[.slice A n c, .slice S m d, .int .i64 x, .int .i64 a, .int .i64 b] 40)
  have u0 := (cell_at c0 0).trans rfl
  have HO := Lib.hid (own_below ho hbx)
  have HR := Lib.hid (own_below hr hbx)
  have HLO := Lib.hid (own_lo ho)
  have HLR := Lib.hid (own_lo hr)
  have HW := Lib.hid ((Wi.refl lo hi w).grown hgx (fun q hq => by cases hq))
  have HC := Lib.hid c0
  clear ho hr hbx hgx c0
  go_enter Try.func19, Try.ntmps19
  go_wp2_with fail
  refine (Ins.mark_any lo k n A c xs _ hk0 (by omega) HO.out).mono ?_
  rintro e w3 ⟨rfl, ho3, hg3⟩
  have HW3 := Lib.hid (HW.out.grown hg3 (fun q hq => ⟨(HLO.out q hq).1, hA q hq⟩))
  have HR3 := Lib.hid (own_gr HR.out hg3 (fun q hq e => hne q e hq))
  have c1 := (hg3.block w.heap.size (by simp) (fun e => by have := (HLO.out _ e.symm).2; omega)).trans HC.out
  have u1 := (cell_at c1 1).trans rfl
  clear ho3 hg3 c1 HO HR u0
  go_wp2_with fail
  refine (mark_steps lo (k + n) m S d ys w3 (by omega) (by omega) HR3.out).mono ?_
  rintro e w4 ⟨rfl, hg4⟩
  have HW4 := Lib.hid (HW3.out.grown hg4 (fun q hq => ⟨(HLR.out q hq).1, hS q hq⟩))
  clear hg4 HR3 u1
  go_wp2
  go_ret
  exact ⟨rfl, HW4.out⟩
end Go.Proofs.Ytibephoepkofnaa.Trk
