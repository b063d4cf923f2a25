/- Lists of scenes that a call owns: an outer row of two cells a scene, and a list of its own in each. Comparison and marks. -/
import Derived.Test.YtibephoepkofnaaGreatRws
import Derived.Test.YtibephoepkofnaaGreatTrk
import Derived.Deep.RegionHeld3
import Derived.Deep.CutRange
set_option linter.unusedVariables false
set_option maxRecDepth 20000
namespace Go.Proofs.YtibephoepkofnaaGreat.Scs
open Go.RowKit Fr _root_.Go.Proofs.YtibephoepkofnaaGreat.Own Pk Ins Rws

/-- a scene as it lies: its list and the noted card -/
structure SD where
  r : RD
  n : Int
def sd0 : SD := ⟨rd0, 0⟩
def SD.cs (s : SD) : List Value := [s.r.v, .int .i64 s.n]
def SD.sc (s : SD) : List Int × Int := (s.r.zs, s.n)
theorem flat_len : ∀ ds : List SD, (ds.flatMap SD.cs).length = ds.length * 2
  | [] => rfl
  | d :: ds => by rw [List.flatMap_cons, List.length_append, flat_len ds, List.length_cons]; simp [SD.cs]; omega
theorem flat_get : ∀ (ds : List SD) (j : Nat), j < ds.length → (ds.flatMap SD.cs)[j * 2]? = some (ds.getD j sd0).r.v ∧ (ds.flatMap SD.cs)[j * 2 + 1]? = some (.int .i64 (ds.getD j sd0).n)
  | [], j, h => absurd h (Nat.not_lt_zero _)
  | d :: ds, 0, _ => by rw [List.flatMap_cons]; exact ⟨rfl, rfl⟩
  | d :: ds, j + 1, h => by
    have ih := flat_get ds j (by simpa using h)
    have e : (d :: ds).flatMap SD.cs = d.r.v :: .int .i64 d.n :: ds.flatMap SD.cs := by rw [List.flatMap_cons]; rfl
    rw [e, show (j + 1) * 2 = j * 2 + 1 + 1 by omega, List.getElem?_cons_succ, List.getElem?_cons_succ, List.getElem?_cons_succ, List.getElem?_cons_succ]
    exact ih
theorem flat_set : ∀ (ds : List SD) (j : Nat) (x : Int), j < ds.length → (ds.flatMap SD.cs).set (j * 2 + 1) (.int .i64 x) = (ds.set j ⟨(ds.getD j sd0).r, x⟩).flatMap SD.cs
  | [], j, x, h => absurd h (Nat.not_lt_zero _)
  | d :: ds, 0, x, _ => rfl
  | d :: ds, j + 1, x, h => by
    have ih := flat_set ds j x (by simpa using h)
    have e : ∀ (d : SD) (ds : List SD), (d :: ds).flatMap SD.cs = d.r.v :: .int .i64 d.n :: ds.flatMap SD.cs := fun d ds => by rw [List.flatMap_cons]; rfl
    rw [e, show (j + 1) * 2 + 1 = j * 2 + 1 + 1 + 1 by omega, List.set_cons_succ, List.set_cons_succ, ih, List.set_cons_succ, e]
    rfl
/-- a list of scenes of the call's own -/
def ScRow (W : World) (lo hi : Nat) (A : Option Addr) (n c : Nat) (ds : List SD) : Prop :=
  W.ownsRow lo 32 2 (.slice A n c) n (ds.flatMap SD.cs) ∧
  (∀ i, i < ds.length → Row W lo hi (ds.getD i sd0).r.A (ds.getD i sd0).r.zs.length (ds.getD i sd0).r.c (ds.getD i sd0).r.zs) ∧
  (∀ i j, i < ds.length → j < ds.length → i ≠ j → ∀ b, (ds.getD i sd0).r.b = some b → (ds.getD j sd0).r.b ≠ some b) ∧
  (∀ a, A = some a → a.block < hi) ∧ hi ≤ W.heap.size
section
variable {W W' : World} {lo hi : Nat} {A : Option Addr} {n c : Nat} {ds : List SD}
theorem ScRow.len (h : ScRow W lo hi A n c ds) : ds.length = n := by have := h.1.1; rw [flat_len] at this; omega
theorem ScRow.outlo (h : ScRow W lo hi A n c ds) : ∀ k, A.map (·.block) = some k → lo ≤ k := by
  intro k hk
  cases A with
  | none => cases hk
  | some a =>
    simp only [Option.map_some, Option.some.injEq] at hk
    subst hk
    exact (h.1.lt a.block rfl).1
theorem ScRow.outhi (h : ScRow W lo hi A n c ds) : ∀ k, A.map (·.block) = some k → k < hi := by
  intro k hk
  cases A with
  | none => cases hk
  | some a =>
    simp only [Option.map_some, Option.some.injEq] at hk
    subst hk
    exact h.2.2.2.1 a rfl
theorem ScRow.below (h : ScRow W lo hi A n c ds) (hb : Below W.heap.size W W') : ScRow W' lo hi A n c ds :=
  ⟨own_below h.1 hb, fun i hi => (h.2.1 i hi).below hb, h.2.2.1, h.2.2.2.1, Nat.le_trans h.2.2.2.2 hb.size⟩
theorem ScRow.grown {row : Option Nat} (h : ScRow W lo hi A n c ds) (hg : W.grownBy W' row) (hr : ∀ k, row = some k → k < lo ∨ hi ≤ k) : ScRow W' lo hi A n c ds := by
  refine ⟨h.1.kept hg ?_, fun i hi => (h.2.1 i hi).grown hg hr, h.2.2.1, h.2.2.2.1, Nat.le_trans h.2.2.2.2 hg.size⟩
  cases A with
  | none => exact Or.inl rfl
  | some a =>
    refine Or.inr fun e => ?_
    have h1 := h.outlo a.block rfl
    have h2 := h.outhi a.block rfl
    have := hr a.block e.symm
    omega
theorem ScRow.wi {lo2 hi2 : Nat} (h : ScRow W lo hi A n c ds) (hw : Wi lo2 hi2 W W') (hd : hi ≤ lo2 ∨ hi2 ≤ lo) : ScRow W' lo hi A n c ds := by
  refine ⟨own_wi h.1 hw fun k hk => ?_, fun i hi => row_wi (h.2.1 i hi) hw hd, h.2.2.1, h.2.2.2.1, Nat.le_trans h.2.2.2.2 hw.size⟩
  have h1 := h.outlo k hk
  have h2 := h.outhi k hk
  omega
theorem own2_shape {w : World} {B : Nat} {e : TypeId} {xs : List Value} (h : w.ownsRow B e 2 (.slice A n c) n xs) (hn : 0 < n) : ∃ g, A = some ⟨g, 0, none⟩ := by
  rcases h.2 with ⟨_, h0⟩ | ⟨g, cap, cur, hv, _⟩
  · omega
  · simp only [Value.slice.injEq] at hv
    exact ⟨g, hv.1⟩
theorem ScRow.cell (h : ScRow W lo hi A n c ds) (j : Nat) (hj : j < n) : ∃ g, A = some ⟨g, 0, none⟩ ∧ W.cell? ⟨g, j * 2, none⟩ = some (ds.getD j sd0).r.v ∧ W.cell? ⟨g, j * 2 + 1, none⟩ = some (.int .i64 (ds.getD j sd0).n) ∧ W.frozen? ⟨g, j * 2 + 1, none⟩ = false := by
  have hl := h.len
  obtain ⟨g, rfl⟩ := own2_shape h.1 (by omega)
  have hfl := flat_len ds
  obtain ⟨e0, e1⟩ := flat_get ds j (by omega)
  exact ⟨g, rfl, (h.1.cellAt _ (by omega)).trans e0, (h.1.cellAt _ (by omega)).trans e1, h.1.frozenAt _⟩
end
/-- a call hands back a list of scenes of its own -/
def IsScs (B : Nat) (cs : List (List Int × Int)) (w : World) (e : Ending) (w' : World) : Prop :=
  ∃ A c ds, e = .returned (.slice A cs.length c) ∧ ds.map SD.sc = cs ∧ ScRow w' B w'.heap.size A cs.length c ds ∧ Below B w w'
theorem getD_set_eq {ds : List SD} {j : Nat} {d : SD} (h : j < ds.length) : (ds.set j d).getD j sd0 = d := by
  rw [List.getD_eq_getElem?_getD, List.getElem?_set_self h]; rfl
theorem getD_set_ne {ds : List SD} {i j : Nat} {d : SD} (h : i ≠ j) : (ds.set j d).getD i sd0 = ds.getD i sd0 := by
  rw [List.getD_eq_getElem?_getD, List.getElem?_set_ne (Ne.symm h), ← List.getD_eq_getElem?_getD]
theorem flat_set2 (ds : List SD) (j : Nat) (d : SD) (h : j < ds.length) (hv : d.r.v = (ds.getD j sd0).r.v) : (ds.flatMap SD.cs).set (j * 2 + 1) (.int .i64 d.n) = (ds.set j d).flatMap SD.cs := by
  rw [flat_set ds j d.n h, List.flatMap_def, List.flatMap_def, List.map_set, List.map_set]
  congr 2
  unfold SD.cs
  rw [hv]
/-- one scene is written anew: its list in place, then the noted card -/
theorem ScRow.put {W W1 : World} {lo hi : Nat} {n c g j : Nat} {ds : List SD} {d : SD} (h : ScRow W lo hi (some ⟨g, 0, none⟩) n c ds) (hj : j < n) (hv : d.r.v = (ds.getD j sd0).r.v) (hl : d.r.zs.length = (ds.getD j sd0).r.zs.length)
    (ho : W1.ownsRow lo 3 1 (.slice d.r.A d.r.zs.length d.r.c) d.r.zs.length (d.r.zs.map (Value.int .i64))) (hg : W.grownBy W1 (ds.getD j sd0).r.b) :
    ScRow (W1.setCell ⟨g, j * 2 + 1, none⟩ (.int .i64 d.n)) lo hi (some ⟨g, 0, none⟩) n c (ds.set j d) ∧ W1.grownBy (W1.setCell ⟨g, j * 2 + 1, none⟩ (.int .i64 d.n)) (some g) := by
  have hlen := h.len
  have hA : d.r.A = (ds.getD j sd0).r.A := by
    have := hv
    simp only [RD.v, Value.slice.injEq] at this
    exact this.1
  have hrow := h.2.1 j (by omega)
  have o1 := h.1.kept hg (Or.inr fun e => own_diff h.1 hrow.1 (by decide) g rfl e.symm)
  have st := o1.stored (j * 2 + 1) (.int .i64 d.n)
  rw [flat_set2 ds j d (by omega) hv] at st
  refine ⟨⟨st.1, ?_, ?_, h.2.2.2.1, Nat.le_trans (Nat.le_trans h.2.2.2.2 hg.size) st.2.size⟩, st.2⟩
  · intro i hi
    rw [List.length_set] at hi
    by_cases e : i = j
    · subst e
      rw [getD_set_eq hi]
      refine ⟨own_gr ho st.2 (fun k hk e => ?_), fun a ha => hrow.2.1 a (by rw [← hA]; exact ha), Nat.le_trans (Nat.le_trans hrow.2.2 hg.size) st.2.size⟩
      simp only [Option.some.injEq] at e
      exact own_diff o1 ho (by decide) k (by simp only [Option.map_some, Option.some.injEq]; omega) hk
    · rw [getD_set_ne e]
      have hr := h.2.1 i hi
      have hap := h.2.2.1 i j hi (by omega) e
      have k1 := hr.1.kept hg (by
        cases hB : (ds.getD i sd0).r.A with
        | none => exact Or.inl rfl
        | some a => exact Or.inr fun e2 => hap a.block (by unfold RD.b; rw [hB]; rfl) e2.symm)
      refine ⟨own_gr k1 st.2 (fun k hk e => ?_), hr.2.1, Nat.le_trans (Nat.le_trans hr.2.2 hg.size) st.2.size⟩
      simp only [Option.some.injEq] at e
      exact own_diff o1 k1 (by decide) k (by simp only [Option.map_some, Option.some.injEq]; omega) hk
  · intro i i' hi hi' hne b hb
    rw [List.length_set] at hi hi'
    have hbb : ∀ i, i < ds.length → ((ds.set j d).getD i sd0).r.b = (ds.getD i sd0).r.b := fun i hi => by
      by_cases e : i = j
      · subst e; rw [getD_set_eq hi]; unfold RD.b; rw [hA]
      · rw [getD_set_ne e]
    rw [hbb i hi] at hb
    rw [hbb i' hi']
    exact h.2.2.1 i i' hi hi' hne b hb
/-! ### marks -/
def stot (ds : List SD) : Nat → Nat
  | 0 => 0
  | j + 1 => stot ds j + (ds.getD j sd0).r.zs.length + 1
theorem stot_mono (ds : List SD) (i j : Nat) (h : i ≤ j) : stot ds i ≤ stot ds j := by
  induction j with
  | zero => rw [Nat.le_zero.1 h]; exact Nat.le_refl _
  | succ j ih =>
    by_cases e : i = j + 1
    · rw [e]; exact Nat.le_refl _
    · have := ih (by omega); simp only [stot]; omega
def mks (k : Int) (d : SD) : SD := ⟨mk1 k d.r, k + (d.r.zs.length : Nat)⟩
/-- the first j scenes are marked, from k on -/
def mkSc (k : Int) (ds : List SD) : Nat → List SD
  | 0 => ds
  | j + 1 => (mkSc k ds j).set j (mks (k + (stot ds j : Nat)) (ds.getD j sd0))
theorem mkSc_len (k : Int) (ds : List SD) : ∀ j, (mkSc k ds j).length = ds.length
  | 0 => rfl
  | j + 1 => by rw [mkSc, List.length_set, mkSc_len k ds j]
theorem mkSc_old (k : Int) (ds : List SD) : ∀ (j i : Nat), j ≤ i → (mkSc k ds j).getD i sd0 = ds.getD i sd0
  | 0, _, _ => rfl
  | j + 1, i, h => by rw [mkSc, getD_set_ne (by omega), mkSc_old k ds j i (by omega)]
theorem mkSc_new (k : Int) (ds : List SD) : ∀ (j i : Nat), i < ds.length → i < j → (mkSc k ds j).getD i sd0 = mks (k + (stot ds i : Nat)) (ds.getD i sd0)
  | 0, _, _, h => absurd h (Nat.not_lt_zero _)
  | j + 1, i, h, hj => by
    rw [mkSc]
    by_cases e : i = j
    · subst e; rw [getD_set_eq (by rw [mkSc_len]; exact h)]
    · rw [getD_set_ne e, mkSc_new k ds j i h (by omega)]
theorem map_sc {ds es : List SD} (h : ds.map SD.sc = es.map SD.sc) (k : Nat) : (ds.getD k sd0).sc = (es.getD k sd0).sc := by
  have e := congrArg (fun l => l[k]?) h
  simp only [List.getElem?_map] at e
  simp only [List.getD_eq_getElem?_getD]
  cases h1 : ds[k]? with
  | none => rw [h1] at e; cases h2 : es[k]? with
    | none => rfl
    | some s => rw [h2] at e; cases e
  | some r => rw [h1] at e; cases h2 : es[k]? with
    | none => rw [h2] at e; cases e
    | some s => rw [h2] at e; simpa using e
set_option maxHeartbeats 2000000 in
theorem eq_scenes (lo1 hi1 lo2 hi2 : Nat) (A1 A2 : Option Addr) (n c1 c2 : Nat) (ds es : List SD) (w : World) (h1 : ScRow w lo1 hi1 A1 n c1 ds) (h2 : ScRow w lo2 hi2 A2 n c2 es) (he : ds.map SD.sc = es.map SD.sc) (hn : n ≤ 2097152) (hs : ∀ i, i < n → (ds.getD i sd0).r.zs.length ≤ 2097152) :
    Calls Tryz.prog 10 #[.slice A1 n c1, .slice A2 n c2] w fun e w' => e = .returned (.bool true) ∧ Below w.heap.size w w' := by
  have HZ := Lib.hid (map_sc he)
  have H1 := Lib.hid h1
  have H2 := Lib.hid h2
  have HS := Lib.hid hs
  clear he h1 h2 hs
  go_enter Tryz.func10, Tryz.ntmps10
  go_wp2
  go_loopw [5] (fun i wr => ∃ k : Nat, k ≤ n ∧ i = .int .i64 k ∧ Below w.heap.size w wr) (fun i _ => n - (intOf i).toNat)
  case atStart => exact ⟨0, Nat.zero_le _, rfl, Below.refl _ _⟩
  case round =>
    obtain ⟨k, hk, rfl, hb⟩ := hrel
    by_cases hlt : k < n
    · have G1 := H1.out.below hb
      have G2 := H2.out.below hb
      obtain ⟨g1, rfl, p0, p1, _⟩ := G1.cell k hlt
      obtain ⟨g2, rfl, q0, q1, _⟩ := G2.cell k hlt
      have r1 := (G1.2.1 k (by rw [G1.len]; exact hlt)).at_
      have r2 := (G2.2.1 k (by rw [G2.len]; exact hlt)).at_
      have hb1 : g1 < wr.heap.size := (G1.1.lt g1 rfl).2
      have hb2 : g2 < wr.heap.size := (G2.1.lt g2 rfl).2
      have hz := HZ.out k
      have hsk := HS.out k hlt
      simp only [RD.v] at p0 q0
      generalize ds.getD k sd0 = D at *
      generalize es.getD k sd0 = E at *
      obtain ⟨⟨B1, d1, zs⟩, m⟩ := D
      obtain ⟨⟨B2, d2, z2⟩, m2⟩ := E
      simp only [SD.sc, Prod.mk.injEq] at hz p0 p1 q0 q1 r1 r2 hsk
      obtain ⟨rfl, rfl⟩ := hz
      have hk0 : (0 : Int) ≤ (k : Int) := by omega
      have hk1 : (k : Int) < (n : Int) := by omega
      have HL := Lib.hid (show zs.length ≤ 2097152 from hsk)
      have HE := Lib.hid (Scn.eq_scene B1 B2 zs.length d1 d2 zs m (wr.drew) rfl (by omega) (r1.below (Below.refl _ _).drew) (r2.below (Below.refl _ _).drew))
      have HB1 := Lib.hid (hb.drew)
      clear G1 G2 r1 r2 hsk
      generalize zs.length = l at *
      go_wp2_with fail
      go_cut [26] from 17 to 26 (fun s wx => s = .bool false ∧ Below w.heap.size w wx)
      case first =>
        go_region_held3 (fun w' => w'.cell? ⟨g1, k * 2, none⟩ = some (.slice B1 l d1) ∧ w'.cell? ⟨g1, k * 2 + 1, none⟩ = some (.int .i64 m) ∧ w'.cell? ⟨g2, k * 2, none⟩ = some (.slice B2 l d2) ∧ w'.cell? ⟨g2, k * 2 + 1, none⟩ = some (.int .i64 m)) ((first | exact ⟨p0, p1, q0, q1⟩ | exact hSS5)) ((go_at_call 11; refine HE.out.mono ?_; rintro e w5 ⟨rfl, hb5⟩; have hSS5 : w5.cell? ⟨g1, k * 2, none⟩ = some (.slice B1 l d1) ∧ w5.cell? ⟨g1, k * 2 + 1, none⟩ = some (.int .i64 m) ∧ w5.cell? ⟨g2, k * 2, none⟩ = some (.slice B2 l d2) ∧ w5.cell? ⟨g2, k * 2 + 1, none⟩ = some (.int .i64 m) := ⟨(hb5.cell (p := ⟨g1, _, none⟩) hb1).trans p0, (hb5.cell (p := ⟨g1, _, none⟩) hb1).trans p1, (hb5.cell (p := ⟨g2, _, none⟩) hb2).trans q0, (hb5.cell (p := ⟨g2, _, none⟩) hb2).trans q1⟩; have HB5 := Lib.hid (HB1.out.trans (hb5.mono HB1.out.size)); clear hb5))
        all_goals (go_wp2_with fail; go_meet; exact ⟨rfl, HB5.out⟩)
      case rest =>
      obtain ⟨rfl, hbc⟩ := hcut
      go_wp2
      go_roundw
      case rel => exact ⟨k + 1, by omega, by go_num, hbc⟩
      case measure => simp [intOf]; omega
    · go_wp2
      go_ret
      exact ⟨rfl, hb⟩
set_option maxHeartbeats 2000000 in
theorem mark_scenes (lo hi : Nat) (A : Option Addr) (n c : Nat) (ds : List SD) (k : Int) (w : World) (hk0 : 0 ≤ k) (hkn : k + (stot ds n : Nat) ≤ 1073741824) (hn : n ≤ 4194304) (h : ScRow w lo hi A n c ds) :
    Calls Tryz.prog 13 #[.slice A n c, .int .i64 k] w fun e w' => e = .returned (.int .i64 (k + (stot ds n : Nat))) ∧ ScRow w' lo hi A n c (mkSc k ds n) ∧ Wi lo hi w w' := by
  have HL := Lib.hid h.len
  have H0 : ScRow w lo hi A n c (mkSc k ds 0) := h
  have HM := Lib.hid (stot_mono ds)
  clear h
  go_enter Tryz.func13, Tryz.ntmps13
  go_wp2
  go_loopw [1, 5] (fun q i wr => ∃ j : Nat, j ≤ n ∧ i = .int .i64 j ∧ q = .int .i64 (k + (stot ds j : Nat)) ∧ ScRow wr lo hi A n c (mkSc k ds j) ∧ Wi lo hi w wr) (fun _ i _ => n - (intOf i).toNat)
  case atStart => exact ⟨0, Nat.zero_le _, rfl, by simp [stot], H0, Wi.refl _ _ _⟩
  case round =>
    obtain ⟨j, hj, rfl, rfl, hrow, hwi⟩ := hrel
    clear H0
    by_cases hlt : j < n
    · have hjl : j < ds.length := by rw [HL.out]; exact hlt
      obtain ⟨g, rfl, hc, hc1, hf⟩ := hrow.cell j hlt
      have hgl := hrow.outlo g rfl
      have hgh := hrow.outhi g rfl
      have hgw : g < wr.heap.size := Nat.lt_of_lt_of_le hgh hrow.2.2.2.2
      have hin := hrow.2.1 j (by rw [mkSc_len]; exact hjl)
      rw [mkSc_old k ds j j (Nat.le_refl _)] at hin hc hc1
      have hO := hrow.1
      have hstep := fun W1 => @ScRow.put wr W1 lo hi n c g j (mkSc k ds j) (mks (k + (stot ds j : Nat)) (ds.getD j sd0)) hrow hlt (by rw [mkSc_old k ds j j (Nat.le_refl _)]; exact mk1_v _ _) (by rw [mkSc_old k ds j j (Nat.le_refl _)]; exact imarks_length _ _)
      rw [mkSc_old k ds j j (Nat.le_refl _), show (mkSc k ds j).set j (mks (k + (stot ds j : Nat)) (ds.getD j sd0)) = mkSc k ds (j + 1) from rfl] at hstep
      have htot : stot ds (j + 1) = stot ds j + (ds.getD j sd0).r.zs.length + 1 := rfl
      have hmono := HM.out (j + 1) n (by omega)
      simp only [RD.v, RD.b, mks, mk1, imarks_length] at hc hstep
      have hown := hin.own
      have hlo := hin.lo
      have hhi := hin.hi
      generalize (ds.getD j sd0).n = y at *
      generalize (ds.getD j sd0).r.A = A1 at hc hstep hown hlo hhi
      generalize (ds.getD j sd0).r.c = c1 at hc hstep hown
      generalize (ds.getD j sd0).r.zs = zs at hc hstep hown htot
      obtain ⟨m, hm⟩ : ∃ m, m = zs.length := ⟨_, rfl⟩
      rw [← hm] at hc hstep hown htot
      generalize hT : stot ds j = T at *
      generalize hT2 : stot ds (j + 1) = T2 at *
      have HMK := Lib.hid (mark_any lo (k + (T : Int)) m A1 c1 _ wr (by omega) (by omega) hown)
      have HST := Lib.hid hstep
      have HW := Lib.hid hwi
      have HD := Lib.hid (own_diff hO hown (by decide))
      have HO1 := Lib.hid hO
      have HT2 := Lib.hid hT2
      have HT := Lib.hid hT
      clear hstep hwi hrow hin hown hm hT hT2 hO
      go_wp2_with fail
      refine HMK.out.mono ?_
      rintro e w1 ⟨rfl, ho, hgr⟩
      have hnew := HST.out w1 ho hgr
      have hwi2 := (HW.out.grown hgr (fun b hb => ⟨hlo b hb, hhi b hb⟩)).grown hnew.2 (fun b hb => by simp only [Option.some.injEq] at hb; omega)
      have HN := Lib.hid hnew.1
      have HW2 := Lib.hid hwi2
      have hblk := hgr.block g hgw (fun e => HD.out g rfl e.symm)
      have e1 := (World.cell?_of_block (a := ⟨g, j * 2 + 1, none⟩) hblk).trans hc1
      have f1 := (HO1.out.kept hgr (Or.inr fun e => HD.out g rfl e.symm)).frozenAt (j * 2 + 1)
      clear hnew hwi2 ho hgr hc hc1 hf hblk
      go_wp2
      go_roundw
      case rel => exact ⟨j + 1, by omega, by go_num, by rw [HT2.out]; go_num, HN.out, HW2.out⟩
      case measure => simp [intOf]; omega
    · have hjn : j = n := by omega
      subst hjn
      have HR := Lib.hid hrow
      have HW := Lib.hid hwi
      clear hrow hwi
      go_wp2
      go_ret
      exact ⟨rfl, HR.out, HW.out⟩
set_option maxHeartbeats 2000000 in
theorem held_scenes (lo hi : Nat) (A : Option Addr) (n c : Nat) (ds : List SD) (k : Int) (w : World) (hk0 : 0 ≤ k) (hkn : k + (stot ds n : Nat) ≤ 1073741824) (hn : n ≤ 4194304) (h : ScRow w lo hi A n c (mkSc k ds n)) :
    Calls Tryz.prog 14 #[.slice A n c, .int .i64 k] w fun e w' => e = .returned (.int .i64 (k + (stot ds n : Nat))) ∧ w = w' := by
  have HL := Lib.hid (show ds.length = n by rw [← h.len, mkSc_len])
  have HM := Lib.hid (stot_mono ds)
  have HR := Lib.hid h
  clear h
  go_enter Tryz.func14, Tryz.ntmps14
  go_wp2
  go_loop [1, 5] (fun q i => ∃ j : Nat, j ≤ n ∧ i = .int .i64 j ∧ q = .int .i64 (k + (stot ds j : Nat))) (fun _ i => n - (intOf i).toNat)
  case atStart => exact ⟨0, Nat.zero_le _, rfl, by simp [stot]⟩
  case round =>
    obtain ⟨j, hj, rfl, rfl⟩ := hrel
    by_cases hlt : j < n
    · have hjl : j < ds.length := by rw [HL.out]; exact hlt
      obtain ⟨g, rfl, hc, hc1, _⟩ := HR.out.cell j hlt
      have hin := (HR.out.2.1 j (by rw [mkSc_len]; exact hjl)).at_
      rw [mkSc_new k ds n j hjl hlt] at hc hc1 hin
      have htot : stot ds (j + 1) = stot ds j + (ds.getD j sd0).r.zs.length + 1 := rfl
      have hmono := HM.out (j + 1) n (by omega)
      simp only [RD.v, mks, mk1, imarks_length] at hc hin hc1
      generalize (ds.getD j sd0).r.A = A1 at hc hin
      generalize (ds.getD j sd0).r.c = c1 at hc
      generalize (ds.getD j sd0).r.zs.length = m at *
      generalize hT : stot ds j = T at *
      generalize hT2 : stot ds (j + 1) = T2 at *
      have HH := Lib.hid (held_any (k + (T : Int)) m c1 A1 w (by omega) (by omega) hin)
      have hnn : decide (k + (T : Int) + (m : Int) < 0) = false := decide_eq_false (by omega)
      have HT2 := Lib.hid hT2
      have HT := Lib.hid hT
      clear hin hT hT2
      go_wp2_with fail
      refine HH.out.mono ?_
      rintro e w1 ⟨rfl, rfl⟩
      go_wp2
      go_round
      case rel => exact ⟨j + 1, by omega, by go_num, by rw [HT2.out]; go_num⟩
      case measure => simp [intOf]; omega
    · have hjn : j = n := by omega
      subst hjn
      go_wp2
      go_ret
      exact ⟨rfl, rfl⟩
theorem cast {B : Nat} {cs cs' : List (List Int × Int)} {w w' : World} {e : Ending} (h : cs = cs') (hi : IsScs B cs w e w') : IsScs B cs' w e w' := by rw [← h]; exact hi
theorem sc_len {ds : List SD} {cs : List (List Int × Int)} (h : ds.map SD.sc = cs) (hs : ∀ x ∈ cs, x.1.length ≤ 12) (i : Nat) : (ds.getD i sd0).r.zs.length ≤ 12 := by
  by_cases hi : i < ds.length
  · have e : ds.getD i sd0 = ds[i] := by rw [List.getD_eq_getElem?_getD, List.getElem?_eq_getElem hi]; rfl
    rw [e]
    exact hs (ds[i].sc) (by rw [← h]; exact List.mem_map_of_mem (List.getElem_mem hi))
  · rw [List.getD_eq_getElem?_getD, List.getElem?_eq_none (by omega)]
    simp [sd0, rd0]
theorem stot_le {ds : List SD} (h : ∀ i, (ds.getD i sd0).r.zs.length ≤ 12) : ∀ j, stot ds j ≤ j * 13
  | 0 => Nat.le_refl _
  | j + 1 => by
    have h1 := stot_le h j
    have h2 := h j
    simp only [stot]
    omega
end Go.Proofs.YtibephoepkofnaaGreat.Scs
