/- Scenes that follow by a step, of the model (l16Next, NextScenes). Scenes that follow by a step, of the program (NextScenes). Written by mktnp.py. -/
import Derived.Test.YtibephoepkofnaaGreatTsq
import Derived.Test.YtibephoepkofnaaGreatScs
import Derived.Test.YtibephoepkofnaaGreatSo6
import Derived.Test.YtibephoepkofnaaGreatPa
import Derived.Test.YtibephoepkofnaaGreatWid
import Derived.Deep.RegionHeldLaw
import Derived.Maps.AppendAt
import Derived.Test.YtibephoepkofnaaGreatTip
import Derived.Test.YtibephoepkofnaaGreatRcx
set_option linter.unusedVariables false
set_option maxRecDepth 20000
namespace Go.Proofs.YtibephoepkofnaaGreat.Tnx
open Go.RowKit Fr _root_.Go.Proofs.YtibephoepkofnaaGreat.Own Pk Pl Ins Rws Cat Pok Arr Srt Mvp Mv1 Mv2 Mv3 Mv4 Sv Sv2 Sv3 Do Pf Tst Tfp Tso Tsp Tsq Scs

/-- the scenes that follow by a valid step -/
def nextF (c : SC) (s : SR) : List SC :=
  if s.k = 1 then [(moveF s.d.toNat s.q.toNat c.1, c.2)] else if s.k = 3 then [(c.1, cardF (c.1.getD s.a.toNat 0))] else (cano (So2.ofM s.a c.1)).map fun p => (p, c.2)
theorem keepc {w : World} {p : Addr} {v : Value} (o : Obj) (h : w.cell? p = some v) : (w.alloc o).cell? p = some v := ((box_below w o).cell (World.block_lt_of_cell? w p h)).trans h
theorem scrow_one {W : World} {B : Nat} {A : Option Addr} {n c : Nat} {zs : List Int} {m : Int} (hB : B ≤ W.heap.size) (h : Row W B W.heap.size A n c zs) (hn : zs.length = n) :
    ScRow (W.alloc (.cells #[.slice A n c, .int .i64 m] 32)) B (W.alloc (.cells #[.slice A n c, .int .i64 m] 32)).heap.size (some ⟨W.heap.size, 0, none⟩) 1 1 [⟨⟨A, c, zs⟩, m⟩] := by
  have hb := box_below W (.cells #[.slice A n c, .int .i64 m] 32)
  subst hn
  refine ⟨World.ownsRow_lit (base := B) (e := 32) (size := 2) W #[.slice A zs.length c, .int .i64 m] 1 hB (by decide) rfl, ?_, ?_, ?_, Nat.le_refl _⟩
  · intro i hi
    have h0 : i = 0 := by simp at hi; exact hi
    subst h0
    have hr := h.below hb
    exact ⟨hr.1, fun a ha => Nat.lt_of_lt_of_le (hr.2.1 a ha) hb.size, Nat.le_refl _⟩
  · intro i j hi hj hne
    have h0 : i = 0 := by simp at hi; exact hi
    have h1 : j = 0 := by simp at hj; exact hj
    omega
  · intro a ha
    cases ha
    simp
theorem step_okM {n : Nat} {zs : List Int} {s : SR} (hn : zs.length = n) (hok : okB zs = true) (hs : stepB (n : Int) s = true) (h1 : ¬ s.k = 1) (h3 : ¬ s.k = 3) : Sof.okM s.a zs = true := by
  obtain ⟨k, d, q, a⟩ := s
  simp only at h1 h3 ⊢
  by_cases h2 : k = 2
  · subst h2
    unfold stepB at hs
    rw [Bool.and_eq_true, if_neg (show ¬ (2 : Int) = 1 by decide), if_pos rfl, Bool.and_eq_true] at hs
    have hc := hs.2.2
    have hr := of_decide_eq_true hs.1
    unfold choiceB at hc
    rw [Bool.and_eq_true, Bool.and_eq_true] at hc
    have e1 := of_decide_eq_true hc.1
    have e2 := of_decide_eq_true hc.2.1
    have e3 := of_decide_eq_true hc.2.2
    unfold Sof.okM
    rw [hok, decide_eq_true (show 1 ≤ zs.length by omega), decide_eq_true e1]
    have f1 : (decide (a ≠ 3) || decide (2 ≤ zs.length)) = true := by
      rcases e2 with e | e
      · rw [decide_eq_true e]; rfl
      · rw [decide_eq_true (show 2 ≤ zs.length by omega), Bool.or_true]
    have f2 : (decide (a ≠ 2) || decide (zs.length ≤ 11)) = true := by
      rcases e3 with e | e
      · rw [decide_eq_true e]; rfl
      · rw [decide_eq_true (show zs.length ≤ 11 by omega), Bool.or_true]
    rw [f1, f2]
    rfl
  · unfold stepB at hs
    simp only at hs
    rw [if_neg h1, if_neg h2, if_neg h3, Bool.and_false] at hs
    cases hs
set_option maxHeartbeats 4000000 in
theorem next_move (A : Option Addr) (n c : Nat) (zs : List Int) (y : Int) (d q a : Int) (w : World) (hn : zs.length = n) (hnc : n ≤ c) (hok : okB zs = true) (hss : IntsAt w w.heap.size .i64 A zs) (hs : stepB (n : Int) ⟨1, d, q, a⟩ = true) :
    Calls Tryz.prog 29 #[Scn.scV A n c y, (SR.mk 1 d q a).v] w (IsScs w.heap.size [(moveF d.toNat q.toNat zs, y)] w) := by
  have hmv : mvB n d q = true := by
    unfold stepB at hs
    rw [Bool.and_eq_true, if_pos rfl, Bool.and_eq_true] at hs
    exact hs.2.1
  have h1 : 1 ≤ n ∧ n ≤ 12 := by
    unfold stepB at hs
    rw [Bool.and_eq_true] at hs
    have := of_decide_eq_true hs.1
    omega
  obtain ⟨hs2, hb0, a0, a1⟩ := two_at w #[.slice A n c, .int .i64 y] #[.int .i64 1, .int .i64 d, .int .i64 q, .int .i64 a] 32 36
  obtain ⟨W0, hW0⟩ : ∃ W0, W0 = (w.alloc (.cells #[.slice A n c, .int .i64 y] 32)).alloc (.cells #[.int .i64 1, .int .i64 d, .int .i64 q, .int .i64 a] 36) := ⟨_, rfl⟩
  rw [← hW0] at hs2 hb0 a0 a1
  have t0 := (cell_at a0 0).trans rfl
  have t1 := (cell_at a0 1).trans rfl
  have s0 := (cell_at a1 0).trans rfl
  have s1 := (cell_at a1 1).trans rfl
  have s2 := (cell_at a1 2).trans rfl
  have HB0 := Lib.hid hb0
  have HS0 := Lib.hid hs2
  have CD := Lib.hid (Pa.do_any A n c d q zs W0.drew ⟨hn, h1.1, h1.2, hnc, ok_fits hok, (((hss.below hb0).more (show w.heap.size ≤ W0.heap.size by omega)).below (Below.refl _ _).drew)⟩ hmv)
  have t0d : W0.drew.cell? ⟨w.heap.size, 0, none⟩ = some (.slice A n c) := t0
  have t1d : W0.drew.cell? ⟨w.heap.size, 1, none⟩ = some (.int .i64 y) := t1
  have s0d : W0.drew.cell? ⟨w.heap.size + 1, 1, none⟩ = some (.int .i64 d) := s1
  have s1d : W0.drew.cell? ⟨w.heap.size + 1, 2, none⟩ = some (.int .i64 q) := s2
  generalize moveF d.toNat q.toNat zs = ms at *
  clear hn hss hs hmv hok a0 a1 hb0 hs2
  go_enter Tryz.func29, Tryz.ntmps29
  go_wp2_with fail
  rw [← hW0]
  clear hW0
  go_wp2_with fail
  go_region_held3 (fun w' => w'.cell? ⟨w.heap.size, 0, none⟩ = some (.slice A n c) ∧ w'.cell? ⟨w.heap.size, 1, none⟩ = some (.int .i64 y) ∧ w'.cell? ⟨w.heap.size + 1, 1, none⟩ = some (.int .i64 d) ∧ w'.cell? ⟨w.heap.size + 1, 2, none⟩ = some (.int .i64 q)) ((first | exact ⟨t0d, t1d, s0d, s1d⟩ | exact hS5 | exact ⟨keepc _ hS5.1, keepc _ hS5.2.1, keepc _ hS5.2.2.1, keepc _ hS5.2.2.2⟩)) ((go_at_call 53; refine CD.out.mono ?_; rintro e w5 ⟨A5, c5, rfl, hown5, hb5⟩; have hb6 : Below W0.heap.size W0 w5 := (Below.refl _ _).drew.trans hb5; have hS5 : w5.cell? ⟨w.heap.size, 0, none⟩ = some (.slice A n c) ∧ w5.cell? ⟨w.heap.size, 1, none⟩ = some (.int .i64 y) ∧ w5.cell? ⟨w.heap.size + 1, 1, none⟩ = some (.int .i64 d) ∧ w5.cell? ⟨w.heap.size + 1, 2, none⟩ = some (.int .i64 q) := ⟨(hb6.cell (p := ⟨w.heap.size, _, none⟩) (by show w.heap.size < _; rw [HS0.out]; omega)).trans t0, (hb6.cell (p := ⟨w.heap.size, _, none⟩) (by show w.heap.size < _; rw [HS0.out]; omega)).trans t1, (hb6.cell (p := ⟨w.heap.size + 1, _, none⟩) (by show w.heap.size + 1 < _; rw [HS0.out]; omega)).trans s1, (hb6.cell (p := ⟨w.heap.size + 1, _, none⟩) (by show w.heap.size + 1 < _; rw [HS0.out]; omega)).trans s2⟩; have HO5 := Lib.hid hown5; have HB6 := Lib.hid hb6; clear hown5 hb5 hb6))
  all_goals
    have hz := HB6.out.size
    have hz0 := HS0.out
    have HR := Lib.hid (scrow_one (m := y) (show w.heap.size ≤ w5.heap.size by omega) (Ins.Row.mk (own_mono (base' := w.heap.size) HO5.out (by show w.heap.size ≤ W0.heap.size; omega))) rfl)
    have HB := Lib.hid (HB0.out.trans ((HB6.out.mono (show w.heap.size ≤ W0.heap.size by omega)).trans ((box_below w5 (.cells #[.slice A5 ms.length c5, .int .i64 y] 32)).mono (by omega))))
    clear hz hz0
    go_wp2
    go_ret
    exact ⟨_, 1, [⟨⟨A5, c5, ms⟩, y⟩], rfl, rfl, HR.out, HB.out⟩
set_option maxHeartbeats 4000000 in
theorem next_note (A : Option Addr) (n c : Nat) (zs : List Int) (y : Int) (d q a : Int) (w : World) (hn : zs.length = n) (hok : okB zs = true) (hz : Fits zs) (hss : IntsAt w w.heap.size .i64 A zs) (hs : stepB (n : Int) ⟨3, d, q, a⟩ = true) :
    Calls Tryz.prog 29 #[Scn.scV A n c y, (SR.mk 3 d q a).v] w (IsScs w.heap.size [(zs, cardF (zs.getD a.toNat 0))] w) := by
  have ha : 0 ≤ a ∧ a < (n : Int) := by
    unfold stepB at hs
    rw [Bool.and_eq_true, if_neg (show ¬ (3 : Int) = 1 by decide), if_neg (show ¬ (3 : Int) = 2 by decide), if_pos rfl, Bool.and_eq_true] at hs
    exact of_decide_eq_true hs.2.2
  have h12 : n ≤ 12 := by rw [← hn]; exact (okB_yes hok).1
  obtain ⟨kk, rfl⟩ : ∃ kk : Nat, a = kk := ⟨a.toNat, by omega⟩
  rw [show ((kk : Int)).toNat = kk from rfl]
  have hkn : kk < n := by omega
  obtain ⟨hs2, hb0, a0, a1⟩ := two_at w #[.slice A n c, .int .i64 y] #[.int .i64 3, .int .i64 d, .int .i64 q, .int .i64 (kk : Int)] 32 36
  obtain ⟨W0, hW0⟩ : ∃ W0, W0 = (w.alloc (.cells #[.slice A n c, .int .i64 y] 32)).alloc (.cells #[.int .i64 3, .int .i64 d, .int .i64 q, .int .i64 (kk : Int)] 36) := ⟨_, rfl⟩
  rw [← hW0] at hs2 hb0 a0 a1
  obtain ⟨i0, hi, hz0, hz1', hz2⟩ := info_parts infoInt
  have hi0 : IntsAt W0 W0.heap.size .i64 A zs := (hss.below hb0).more (by omega)
  obtain ⟨ba, oa, rfl, hba, hx⟩ := hi0 kk (by omega)
  have s0 := (cell_at a1 0).trans rfl
  have SX := Lib.hid (fun (W : World) (hb : Below W0.heap.size W0 W) => (⟨(hb.cell (p := ⟨w.heap.size, _, none⟩) (by show w.heap.size < _; omega)).trans ((cell_at a0 0).trans rfl), (hb.cell (p := ⟨w.heap.size + 1, _, none⟩) (by show w.heap.size + 1 < _; omega)).trans ((cell_at a1 3).trans rfl), (hb.cell (p := ⟨ba, _, none⟩) hba).trans hx⟩ : W.cell? ⟨w.heap.size, 0, none⟩ = some (.slice (some ⟨ba, oa, none⟩) n c) ∧ W.cell? ⟨w.heap.size + 1, 3, none⟩ = some (.int .i64 (kk : Int)) ∧ W.cell? ⟨ba, oa + kk, none⟩ = some (.int .i64 (zs.getD kk 0))))
  have hxf := hz kk (by omega)
  have CC := Lib.hid (fun W : World => Pk.spec_card (zs.getD kk 0) W hxf.1 hxf.2)
  have HI0 := Lib.hid hi0
  generalize zs.getD kk 0 = x at *
  have HB0 := Lib.hid hb0
  have HS0 := Lib.hid hs2
  have HN := Lib.hid hn
  have B0 := Lib.hid ((Below.refl W0.heap.size W0).drew)
  have B1 := Lib.hid (below_new W0 (.cells #[] 3))
  have HL0 := Lib.hid (lit0 W0)
  have hl0s := lit0_size W0 (.cells #[] 3)
  have hz0s : 0 ≤ 1048576 := by decide
  have hr1s : n ≤ 1048576 := by omega
  have hz1 : 0 + n = n := Nat.zero_add _
  clear hss hs hok hz hn a0 a1 hb0 hs2 hi0 hx hba hxf
  go_enter Tryz.func29, Tryz.ntmps29
  go_wp2_with fail
  rw [← hW0]
  clear hW0
  go_wp2_with fail
  go_region_held_law (fun W => W.cell? ⟨w.heap.size, 0, none⟩ = some (.slice (some ⟨ba, oa, none⟩) n c) ∧ W.cell? ⟨w.heap.size + 1, 3, none⟩ = some (.int .i64 (kk : Int)) ∧ W.cell? ⟨ba, oa + kk, none⟩ = some (.int .i64 x)) ((first | exact SX.out _ B0.out | exact SX.out _ B1.out | exact SX.out _ hb5.out | exact SX.out _ (hb5.out.trans ((box_below _ _).mono hb5.out.size)))) ((first
    | (refine step_app_r rfl (.tmp 23) (.tmp 25) 22 rfl W0.heap.size 3 i0 Tryz.underlying22 hi hz0 hz1' hz2 (some ⟨W0.heap.size, 0, none⟩) 0 0 [] rfl HL0.out _ n _ zs rfl HN.out (fun h => by cases h) ((HI0.out.below B1.out).more B1.out.size) hz0s hr1s hl0s spot_some n hz1 ?_; intro A5 c5 w5 hown5 hgr5; have hb5 := Lib.hid (B1.out.grown hgr5 B1.out.size (fun b h => (own_lo HL0.out b h).1)))
    | (go_at_call 49; refine (CC.out _).mono ?_; rintro e w' ⟨rfl, rfl⟩)))
  all_goals
    have hz := hb5.out.size
    have hz0 := HS0.out
    have HR := Lib.hid (scrow_one (m := cardF x) (show w.heap.size ≤ w5.heap.size by omega) (Ins.Row.mk (own_mono (base' := w.heap.size) (by rw [List.nil_append] at hown5; exact hown5) (by omega))) HN.out)
    have HB := Lib.hid (HB0.out.trans ((hb5.out.mono (show w.heap.size ≤ W0.heap.size by omega)).trans ((box_below w5 (.cells #[.slice A5 n c5, .int .i64 (cardF x)] 32)).mono (by omega))))
    clear hz hz0
    go_wp2
    go_ret
    exact ⟨_, 1, [⟨⟨A5, c5, zs⟩, cardF x⟩], rfl, rfl, HR.out, HB.out⟩
theorem infoScene : (Tryz.prog.info? 32).map (fun i => (i.zero, i.size, i.bytes)) = some (some (.agg #[.slice none 0 0, .int .i64 0]), 2, 32) := by kernel_rfl
theorem ss_kept {W W' : World} {lo hi : Nat} {A : Option Addr} {n c : Nat} {rs : List RD} (h : SSRow W lo hi A n c rs) {B : Nat} {Ao : Option Addr} {k co m : Nat} {xs : List Value} (ho : W.ownsRow B 32 2 (.slice Ao k co) m xs) (hg : W.grownBy W' (Ao.map (·.block))) : SSRow W' lo hi A n c rs :=
  ⟨own_gr h.1 hg (fun k hk => own_diff h.1 ho (by decide) k hk), fun i hi => ⟨own_gr (h.2.1 i hi).1 hg (fun k hk => own_diff (h.2.1 i hi).1 ho (by decide) k hk), (h.2.1 i hi).2.1, Nat.le_trans (h.2.1 i hi).2.2 hg.size⟩, h.2.2.1, h.2.2.2.1, Nat.le_trans h.2.2.2.2 hg.size⟩
/-- scenes with one noted card -/
def scs (y : Int) (rs : List RD) : List SD := rs.map fun r => ⟨r, y⟩
theorem scs_get {y : Int} {rs : List RD} {i : Nat} (h : i < rs.length) : (scs y rs).getD i sd0 = ⟨rs.getD i rd0, y⟩ := by
  unfold scs
  rw [List.getD_eq_getElem?_getD, List.getD_eq_getElem?_getD, List.getElem?_map, List.getElem?_eq_getElem h]
  rfl
theorem scs_sc (y : Int) (rs : List RD) : (scs y rs).map SD.sc = (rs.map RD.zs).map fun p => (p, y) := by
  unfold scs
  rw [List.map_map, List.map_map]
  rfl
theorem scs_next {y : Int} {rs : List RD} {k : Nat} (h : k < rs.length) : (scs y (rs.take (k + 1))).flatMap SD.cs = (scs y (rs.take k)).flatMap SD.cs ++ [(rs.getD k rd0).v, .int .i64 y] := by
  unfold scs
  rw [List.take_add_one, List.map_append, List.flatMap_append, List.getElem?_eq_getElem h, List.getD_eq_getElem?_getD, List.getElem?_eq_getElem h]
  rfl
theorem scs_row {W : World} {B lo hi : Nat} {A Ao : Option Addr} {n c k co : Nat} {rs : List RD} {y : Int} (h : SSRow W lo hi A n c rs) (hB : B ≤ lo) (ho : W.ownsRow B 32 2 (.slice Ao n co) n ((scs y rs).flatMap SD.cs)) : ScRow W B W.heap.size Ao n co (scs y rs) := by
  have hl : (scs y rs).length = rs.length := List.length_map _
  refine ⟨ho, fun i hi => ?_, fun i j hi hj => ?_, fun a ha => (own_lo ho a.block (by rw [ha]; rfl)).2, Nat.le_refl _⟩
  · rw [hl] at hi
    rw [scs_get hi]
    have hr := h.2.1 i hi
    exact ⟨own_mono hr.1 hB, fun a ha => Nat.lt_of_lt_of_le (hr.2.1 a ha) hr.2.2, Nat.le_refl _⟩
  · rw [hl] at hi hj
    rw [scs_get hi, scs_get hj]
    exact h.2.2.1 i j hi hj
set_option maxHeartbeats 4000000 in
theorem next_choice (A : Option Addr) (n c : Nat) (zs : List Int) (y : Int) (d q a : Int) (w : World) (hn : zs.length = n) (hnc : n ≤ c) (hok : Sof.okM a zs = true) (hss : IntsAt w w.heap.size .i64 A zs) :
    Calls Tryz.prog 29 #[Scn.scV A n c y, (SR.mk 2 d q a).v] w (IsScs w.heap.size ((cano (So2.ofM a zs)).map fun p => (p, y)) w) := by
  obtain ⟨L, hL⟩ : ∃ L, L = cano (So2.ofM a zs) := ⟨_, rfl⟩
  rw [← hL]
  obtain ⟨i0, hi, hz0, hz1, hz2⟩ := info_parts infoScene
  obtain ⟨hs2, hb0, a0, a1⟩ := two_at w #[.slice A n c, .int .i64 y] #[.int .i64 2, .int .i64 d, .int .i64 q, .int .i64 a] 32 36
  obtain ⟨W0, hW0⟩ : ∃ W0, W0 = (w.alloc (.cells #[.slice A n c, .int .i64 y] 32)).alloc (.cells #[.int .i64 2, .int .i64 d, .int .i64 q, .int .i64 a] 36) := ⟨_, rfl⟩
  rw [← hW0] at hs2 hb0 a0 a1
  have s0 := (cell_at a1 0).trans rfl
  have HB0 := Lib.hid hb0
  have HS0 := Lib.hid hs2
  have HA0 := Lib.hid a0
  have hb1 := box_below W0 (.cells #[] 32)
  have t0 := (cell_at ((hb1.block w.heap.size (by omega)).trans a0) 0).trans rfl
  have s3 := (cell_at ((hb1.block (w.heap.size + 1) (by omega)).trans a1) 3).trans rfl
  have CO := So5.of_any a A n c zs (W0.alloc (.cells #[] 32)) hn hnc ((((hss.below hb0).more (show w.heap.size ≤ W0.heap.size by omega)).below hb1).more hb1.size) hok
  have HL := Lib.hid (So5.ofM_len hok)
  have HCL := Lib.hid (show L.length ≤ 65536 by rw [hL]; have h := So5.roM_len (k := a) (zs := zs); unfold So5.roM at h; rw [if_pos hok] at h; exact h)
  have HW1 := Lib.hid (show (W0.alloc (.cells #[] 32)).ownsRow W0.heap.size 32 2 (.slice (some ⟨w.heap.size + 1 + 1, 0, none⟩) 0 0) 0 [] by
    have h := World.ownsRow_lit (base := W0.heap.size) (e := 32) (size := 2) W0 #[] 0 (Nat.le_refl _) (Nat.zero_le _) rfl
    rw [hs2] at h ⊢
    exact h)
  have HB1 := Lib.hid hb1
  clear hss hok hn a0 a1 hb0 hs2 hb1
  go_enter Tryz.func29, Tryz.ntmps29
  go_wp2_with fail
  rw [← hW0]
  clear hW0
  go_wp2_with fail
  refine CO.mono ?_
  intro e w2 h2
  obtain ⟨A2, c2, rs2, rfl, hl2, hz2', ha2, ho2, hc2, hb2⟩ := So5.of_big h2
  have C3 := Sps.sort_any _ A2 c2 rs2 w2 hl2 ha2 ho2 hc2 (by have := HL.out; omega)
  have HO2 := Lib.hid (own_below HW1.out hb2)
  have HB2 := Lib.hid (HB1.out.trans (hb2.mono HB1.out.size))
  rw [hz2', ← hL] at C3
  clear h2 ha2 ho2 hb2 CO hz2' hl2 HW1 t0 s3 hL
  generalize (So2.ofM a zs).length = m2 at *
  go_wp2_with fail
  refine C3.mono ?_
  rintro e w3 ⟨A3, c3, rs, rfl, hz3, hss3, hb3⟩
  have HZ3 := Lib.hid hz3
  have HSS := Lib.hid hss3
  have HO3 := Lib.hid (own_below HO2.out hb3)
  have HB3 := Lib.hid (HB2.out.trans (hb3.mono HB2.out.size))
  have HLN := Lib.hid hss3.len
  have HLM := Lib.hid (show L.length ≤ 1048576 by have := HCL.out; omega)
  have hw2 := HB2.out.size
  clear hss3 hz3 hb3 C3 HO2
  generalize hm : L.length = m at *
  have HMM := Lib.hid hm
  clear hm
  go_wp2
  go_loopg [5, 7, 44] m (fun g s5 _ s44 wr => ∃ (k : Nat) (Ao : Option Addr) (co : Nat), k ≤ m ∧ g = m - k ∧ s44 = .int .i64 (k : Int) ∧ s5 = .slice Ao k co ∧ Hid (wr.ownsRow W0.heap.size 32 2 (.slice Ao k co) k ((scs y (rs.take k)).flatMap SD.cs)) ∧ Hid (SSRow wr w2.heap.size w3.heap.size A3 m c3 rs) ∧ Hid (Below W0.heap.size W0 wr))
  case atStart => exact ⟨0, _, 0, Nat.zero_le _, rfl, rfl, rfl, HO3, HSS, HB3⟩
  case round =>
    obtain ⟨k, Ao, co, hk, hg, rfl, rfl, HO, HR, HB⟩ := hrel
    have hsz := HB.out.size
    by_cases hlt : k < m
    · obtain ⟨g3, rfl, hc3⟩ := HR.out.cell k hlt
      have HNX := Lib.hid (scs_next (y := y) (rs := rs) (k := k) (by rw [HLN.out]; exact hlt))
      have y1 := (cell_at ((HB.out.block w.heap.size (by rw [HS0.out]; omega)).trans HA0.out) 1).trans rfl
      simp only [RD.v] at hc3 HNX
      generalize (rs.getD k rd0).A = Ak at hc3 HNX
      generalize (rs.getD k rd0).c = ck at hc3 HNX
      generalize (rs.getD k rd0).zs.length = nk at hc3 HNX
      have hkm := HLM.out
      go_wp2_with (at_builtin; refine Wid.app_wide rfl (.tmp 48) (.tmp 53) 30 rfl W0.heap.size 32 i0 _ 2 32 Tryz.underlying30 hi hz0 hz1 hz2 (by decide) rfl (by decide) Ao co k _ rfl HO.out #[.slice Ak nk ck, .int .i64 y] rfl (by intro u hu; simp at hu; rcases hu with rfl | rfl <;> rfl) _ rfl rfl (by omega) hsz ?_; intro g c5 w5 hown5 hgr5; have HO5 := Lib.hid (HNX.out ▸ hown5); have HR5 := Lib.hid (ss_kept HR.out HO.out hgr5); have HB5 := Lib.hid (HB.out.grown hgr5 hsz (fun k hk => (own_lo HO.out k hk).1)); clear hown5 hgr5)
      go_roundg (m - (k + 1))
      case rel => exact ⟨k + 1, _, c5, by omega, rfl, by go_num, rfl, HO5, HR5, HB5⟩
      case measure => omega
    · have hkm : k = m := by omega
      subst hkm
      have HX := Lib.hid (scs_row (y := y) (Ao := Ao) (co := co) (k := k) HR.out (show w.heap.size ≤ w2.heap.size by have := HS0.out; omega) (own_mono (by have h := HO.out; rw [List.take_of_length_le (by rw [HLN.out]; exact Nat.le_refl _)] at h; exact h) (by have := HS0.out; omega)))
      have HBB := Lib.hid (HB0.out.trans (HB.out.mono (by have := HS0.out; omega)))
      have HCX := Lib.hid (show (L.map fun p => (p, y)).length = k by rw [List.length_map, HMM.out])
      have HCM := Lib.hid (show (scs y rs).map SD.sc = L.map fun p => (p, y) by rw [scs_sc, HZ3.out])
      clear HO HR HB
      go_wp2
      go_ret
      exact ⟨Ao, co, scs y rs, by rw [HCX.out]; rfl, HCM.out, by rw [HCX.out]; exact HX.out, HBB.out⟩
/-- the scenes that follow by a valid step, of a valid packet -/
theorem spec_next (A : Option Addr) (n c : Nat) (zs : List Int) (y : Int) (s : SR) (w : World) (hn : zs.length = n) (hnc : n ≤ c) (hok : okB zs = true) (hz : Fits zs) (hss : IntsAt w w.heap.size .i64 A zs) (hs : stepB (n : Int) s = true) :
    Calls Tryz.prog 29 #[Scn.scV A n c y, s.v] w (IsScs w.heap.size (nextF (zs, y) s) w) := by
  obtain ⟨k, d, q, a⟩ := s
  unfold nextF
  by_cases h1 : k = 1
  · subst h1
    exact next_move A n c zs y d q a w hn hnc hok hss hs
  by_cases h3 : k = 3
  · subst h3
    exact next_note A n c zs y d q a w hn hok hz hss hs
  by_cases h2 : k = 2
  · subst h2
    exact next_choice A n c zs y d q a w hn hnc (step_okM hn hok hs (show ¬ (2 : Int) = 1 by decide) (show ¬ (2 : Int) = 3 by decide)) hss
  · unfold stepB at hs
    rw [if_neg h1, if_neg h2, if_neg h3, Bool.and_false] at hs
    cases hs
/-- the scenes that follow by a step -/
def nxF (c : SC) (s : SR) : List SC := if (okB c.1 && decide (-1 ≤ c.2 ∧ c.2 ≤ 11) && stepB c.1.length s) = true then nextF c s else []
theorem isscs_nil {B : Nat} {w w' : World} (h : Below B w w') (hB : B ≤ w'.heap.size) : IsScs B [] w (.returned (.slice none 0 0)) w' :=
  ⟨none, 0, [], rfl, rfl, ⟨World.ownsRow_nil _ _ _ _, (fun i hi => absurd hi (Nat.not_lt_zero _)), (fun i j hi => absurd hi (Nat.not_lt_zero _)), (fun a h => by cases h), Nat.le_refl _⟩, h⟩
theorem isscs_below {B : Nat} {cs : List SC} {w0 w w' : World} {e : Ending} (h : IsScs w.heap.size cs w e w') (hb : Below B w0 w) (hB : B ≤ w.heap.size) : IsScs B cs w0 e w' := by
  obtain ⟨A, c, ds, h1, h2, h3, h4⟩ := h
  exact ⟨A, c, ds, h1, h2, ⟨own_mono h3.1 hB, fun i hi => ⟨own_mono (h3.2.1 i hi).1 hB, (h3.2.1 i hi).2.1, (h3.2.1 i hi).2.2⟩, h3.2.2.1, h3.2.2.2.1, h3.2.2.2.2⟩, hb.trans (h4.mono hB)⟩
set_option maxHeartbeats 4000000 in
theorem spec_nx (A : Option Addr) (n c : Nat) (zs : List Int) (y : Int) (s : SR) (w : World) (hn : zs.length = n) (hnc : n ≤ c) (hn2 : n ≤ 1048576) (hz : Fits zs) (hss : IntsAt w w.heap.size .i64 A zs) :
    Calls Tryz.prog 6 #[Scn.scV A n c y, s.v] w (IsScs w.heap.size (nxF (zs, y) s) w) := by
  obtain ⟨R, hR⟩ : ∃ R, R = nxF (zs, y) s := ⟨_, rfl⟩
  rw [← hR]
  obtain ⟨k, d, q, a⟩ := s
  obtain ⟨hs2, hb0, a0, a1⟩ := two_at w #[.slice A n c, .int .i64 y] #[.int .i64 k, .int .i64 d, .int .i64 q, .int .i64 a] 32 36
  obtain ⟨W0, hW0⟩ : ∃ W0, W0 = (w.alloc (.cells #[.slice A n c, .int .i64 y] 32)).alloc (.cells #[.int .i64 k, .int .i64 d, .int .i64 q, .int .i64 a] 36) := ⟨_, rfl⟩
  rw [← hW0] at hs2 hb0 a0 a1
  have t00 := (cell_at a0 0).trans rfl
  have HB0 := Lib.hid hb0
  have HS0 := Lib.hid hs2
  have HA0 := Lib.hid a0
  have HA1 := Lib.hid a1
  have HI := Lib.hid ((hss.below hb0).more (show w.heap.size ≤ W0.heap.size by omega))
  have CO := spec_ok A n c zs W0 hn (by omega) hz HI.out
  have CS := fun W => spec_step (n : Int) ⟨k, d, q, a⟩ W
  clear hss a0 a1 hb0 hs2
  cases ho : okB zs with
  | false =>
    rw [ho] at CO
    have HS := Lib.hid (show R = [] by rw [hR]; unfold nxF; rw [ho]; simp)
    clear hR ho hn hz CS
    go_enter Tryz.func6, Tryz.ntmps6
    go_wp2_with fail
    rw [← hW0]
    clear hW0
    go_wp2_with fail
    refine CO.mono ?_
    rintro e w1 ⟨rfl, hb1⟩
    have HB1 := Lib.hid hb1
    have t0 := (cell_at ((hb1.block w.heap.size (by rw [HS0.out]; omega)).trans HA0.out) 0).trans rfl
    have t1 := (cell_at ((hb1.block w.heap.size (by rw [HS0.out]; omega)).trans HA0.out) 1).trans rfl
    have b1 := (hb1.block (w.heap.size + 1) (by rw [HS0.out]; omega)).trans HA1.out
    have s0 := (cell_at b1 0).trans rfl
    have s1 := (cell_at b1 1).trans rfl
    have s2 := (cell_at b1 2).trans rfl
    have s3 := (cell_at b1 3).trans rfl
    clear hb1 b1 CO
    clear t00 t0 t1 s0 s1 s2 s3
    have HBB := Lib.hid (HB0.out.trans (HB1.out.mono (by have := HS0.out; omega)))
    go_wp2
    go_ret
    rw [HS.out]
    exact isscs_nil HBB.out HBB.out.size
  | true =>
  rw [ho] at CO
  by_cases hy : -1 ≤ y ∧ y ≤ 11
  · cases hst : stepB (n : Int) ⟨k, d, q, a⟩ with
    | false =>
      rw [hst] at CS
      have HS := Lib.hid (show R = [] by rw [hR]; unfold nxF; rw [ho, decide_eq_true hy]; simp only [hn, hst]; simp)
      clear hR ho hn hz hst
      go_enter Tryz.func6, Tryz.ntmps6
      go_wp2_with fail
      rw [← hW0]
      clear hW0
      go_wp2_with fail
      refine CO.mono ?_
      rintro e w1 ⟨rfl, hb1⟩
      have HB1 := Lib.hid hb1
      have t0 := (cell_at ((hb1.block w.heap.size (by rw [HS0.out]; omega)).trans HA0.out) 0).trans rfl
      have t1 := (cell_at ((hb1.block w.heap.size (by rw [HS0.out]; omega)).trans HA0.out) 1).trans rfl
      have b1 := (hb1.block (w.heap.size + 1) (by rw [HS0.out]; omega)).trans HA1.out
      have s0 := (cell_at b1 0).trans rfl
      have s1 := (cell_at b1 1).trans rfl
      have s2 := (cell_at b1 2).trans rfl
      have s3 := (cell_at b1 3).trans rfl
      clear hb1 b1 CO
      go_wp2_with fail
      refine (in_yes _ _ _ _ hy.1 hy.2).mono ?_
      rintro e w' ⟨rfl, rfl⟩
      go_wp2_with fail
      refine (CS _).mono ?_
      rintro e w2 ⟨rfl, hb2⟩
      have HBB := Lib.hid (HB0.out.trans ((HB1.out.trans (hb2.mono HB1.out.size)).mono (by have := HS0.out; omega)))
      clear t00 t0 t1 s0 s1 s2 s3 hb2
      go_wp2
      go_ret
      rw [HS.out]
      exact isscs_nil HBB.out HBB.out.size
    | true =>
      rw [hst] at CS
      have HS := Lib.hid (show R = nextF (zs, y) ⟨k, d, q, a⟩ by rw [hR]; unfold nxF; rw [ho, decide_eq_true hy]; simp only [hn, hst]; simp)
      have HX := Lib.hid (fun (W : World) (hb : Below W0.heap.size W0 W) => spec_next A n c zs y ⟨k, d, q, a⟩ W hn hnc ho hz ((HI.out.below hb).more hb.size) hst)
      clear hR ho hn hz hst
      go_enter Tryz.func6, Tryz.ntmps6
      go_wp2_with fail
      rw [← hW0]
      clear hW0
      go_wp2_with fail
      refine CO.mono ?_
      rintro e w1 ⟨rfl, hb1⟩
      have HB1 := Lib.hid hb1
      have t0 := (cell_at ((hb1.block w.heap.size (by rw [HS0.out]; omega)).trans HA0.out) 0).trans rfl
      have t1 := (cell_at ((hb1.block w.heap.size (by rw [HS0.out]; omega)).trans HA0.out) 1).trans rfl
      have b1 := (hb1.block (w.heap.size + 1) (by rw [HS0.out]; omega)).trans HA1.out
      have s0 := (cell_at b1 0).trans rfl
      have s1 := (cell_at b1 1).trans rfl
      have s2 := (cell_at b1 2).trans rfl
      have s3 := (cell_at b1 3).trans rfl
      clear hb1 b1 CO
      go_wp2_with fail
      refine (in_yes _ _ _ _ hy.1 hy.2).mono ?_
      rintro e w' ⟨rfl, rfl⟩
      go_wp2_with fail
      refine (CS _).mono ?_
      rintro e w2 ⟨rfl, hb2⟩
      have HB2 := Lib.hid (HB1.out.trans (hb2.mono HB1.out.size))
      have c0 := (HB2.out.block w.heap.size (by rw [HS0.out]; omega)).trans HA0.out
      have c1 := (HB2.out.block (w.heap.size + 1) (by rw [HS0.out]; omega)).trans HA1.out
      clear t00 t0 t1 s0 s1 s2 s3 hb2
      have t0 := (cell_at c0 0).trans rfl
      have t1 := (cell_at c0 1).trans rfl
      have s0 := (cell_at c1 0).trans rfl
      have s1 := (cell_at c1 1).trans rfl
      have s2 := (cell_at c1 2).trans rfl
      have s3 := (cell_at c1 3).trans rfl
      have HBB := Lib.hid (HB0.out.trans (HB2.out.mono (by have := HS0.out; omega)))
      clear c0 c1
      go_wp2_with fail
      refine (HX.out _ HB2.out).mono ?_
      intro e w3 h3
      rw [← HS.out] at h3
      have h4 := isscs_below h3 HBB.out HBB.out.size
      obtain ⟨A4, c4, ds, rfl, h5⟩ := h4
      have H5 := Lib.hid h5
      clear h3 h5 t0 t1 s0 s1 s2 s3
      go_wp2
      go_ret
      exact ⟨A4, c4, ds, rfl, H5.out⟩
  · have HS := Lib.hid (show R = [] by rw [hR]; unfold nxF; rw [decide_eq_false hy]; simp)
    clear hR ho hn hz CS
    go_enter Tryz.func6, Tryz.ntmps6
    go_wp2_with fail
    rw [← hW0]
    clear hW0
    go_wp2_with fail
    refine CO.mono ?_
    rintro e w1 ⟨rfl, hb1⟩
    have HB1 := Lib.hid hb1
    have t0 := (cell_at ((hb1.block w.heap.size (by rw [HS0.out]; omega)).trans HA0.out) 0).trans rfl
    have t1 := (cell_at ((hb1.block w.heap.size (by rw [HS0.out]; omega)).trans HA0.out) 1).trans rfl
    have b1 := (hb1.block (w.heap.size + 1) (by rw [HS0.out]; omega)).trans HA1.out
    have s0 := (cell_at b1 0).trans rfl
    have s1 := (cell_at b1 1).trans rfl
    have s2 := (cell_at b1 2).trans rfl
    have s3 := (cell_at b1 3).trans rfl
    clear hb1 b1 CO
    go_wp2_with fail
    refine (in_no _ _ _ _ hy).mono ?_
    rintro e w' ⟨rfl, rfl⟩
    clear t00 t0 t1 s0 s1 s2 s3
    have HBB := Lib.hid (HB0.out.trans (HB1.out.mono (by have := HS0.out; omega)))
    go_wp2
    go_ret
    rw [HS.out]
    exact isscs_nil HBB.out HBB.out.size
theorem nx_all (c : SC) (s : SR) : (nxF c s).length ≤ 65536 ∧ ∀ x ∈ nxF c s, x.1.length ≤ 12 := by
  unfold nxF
  split
  · next h =>
    rw [Bool.and_eq_true, Bool.and_eq_true] at h
    have h12 := (okB_yes h.1.1).1
    unfold nextF
    by_cases h1 : s.k = 1
    · rw [if_pos h1]
      refine ⟨by simp, fun x hx => ?_⟩
      rw [List.mem_singleton] at hx
      subst hx
      have hm : mvB c.1.length s.d s.q = true := by
        have h2 := h.2
        unfold stepB at h2
        rw [Bool.and_eq_true, if_pos h1, Bool.and_eq_true] at h2
        exact h2.2.1
      have hp := mvB_parts hm
      have hl := move_len (kd := s.d.toNat) (k := s.q.toNat) (zs := c.1) (by have h6 := hp.2.2.2.2.2; simpa using h6) (by omega) h12
      show (moveF s.d.toNat s.q.toNat c.1).length ≤ 12
      omega
    by_cases h3 : s.k = 3
    · rw [if_neg h1, if_pos h3]
      refine ⟨by simp, fun x hx => ?_⟩
      rw [List.mem_singleton] at hx
      subst hx
      exact h12
    · rw [if_neg h1, if_neg h3]
      have hok := step_okM rfl h.1.1 h.2 h1 h3
      have e : cano (So2.ofM s.a c.1) = So5.roM s.a c.1 := by unfold So5.roM; rw [if_pos hok]
      rw [e]
      refine ⟨by rw [List.length_map]; exact So5.roM_len, fun x hx => ?_⟩
      obtain ⟨p, hp, rfl⟩ := List.mem_map.1 hx
      exact So5.roM_short hp
  · exact ⟨by simp, fun x hx => by cases hx⟩
theorem nx_few (c : SC) (s : SR) : (nxF c s).length ≤ 65536 := (nx_all c s).1
theorem nx_short (c : SC) (s : SR) : ∀ x ∈ nxF c s, x.1.length ≤ 12 := (nx_all c s).2
end Go.Proofs.YtibephoepkofnaaGreat.Tnx

namespace Go.Proofs.YtibephoepkofnaaGreat.Tnp
open Go.RowKit Fr _root_.Go.Proofs.YtibephoepkofnaaGreat.Own Pk Pl Ins Rws Cat Pok Arr Srt Sst Mvp Pf Tst Tfp Tso Tsp Tsq Scs Tnx

section
variable {W W' : World} {lo hi : Nat} {A : Option Addr} {n c : Nat} {ds : List SD}
theorem sc_snoc {b0 : Nat} {A1 A' : Option Addr} {c1 c' : Nat} {zs : List Int} {y : Int} (h : ScRow W lo b0 A n c ds) (hlo : lo ≤ b0) (hin : W.ownsRow b0 3 1 (.slice A1 zs.length c1) zs.length (zs.map (Value.int .i64)))
    (ho : W'.ownsRow lo 32 2 (.slice A' (n + 1) c') (n + 1) (ds.flatMap SD.cs ++ [.slice A1 zs.length c1, .int .i64 y])) (hg : W.grownBy W' (A.map (·.block))) : ScRow W' lo W'.heap.size A' (n + 1) c' (ds ++ [(⟨⟨A1, c1, zs⟩, y⟩ : SD)]) := by
  have hl := h.len
  have hold : ∀ i, i < ds.length → (ds ++ [(⟨⟨A1, c1, zs⟩, y⟩ : SD)]).getD i sd0 = ds.getD i sd0 := by
    intro i hi
    simp only [List.getD_eq_getElem?_getD]
    rw [List.getElem?_append_left hi]
  have hnew : (ds ++ [(⟨⟨A1, c1, zs⟩, y⟩ : SD)]).getD ds.length sd0 = ⟨⟨A1, c1, zs⟩, y⟩ := by
    simp [List.getD_eq_getElem?_getD]
  have hin' : ∀ k, A1.map (·.block) = some k → b0 ≤ k ∧ k < W.heap.size := fun k hk => own_lo hin k hk
  have hlt : ∀ i, i < ds.length → ∀ b, (ds.getD i sd0).r.b = some b → b < b0 := fun i hi b hb => (h.2.1 i hi).hi b hb
  refine ⟨?_, ?_, ?_, ?_, Nat.le_refl _⟩
  · rw [List.flatMap_append]; exact ho
  · intro i hi
    rw [List.length_append] at hi
    by_cases e : i < ds.length
    · rw [hold i e]
      have hr := h.2.1 i e
      exact ⟨own_gr hr.1 hg fun k hk e2 => own_diff hr.1 h.1 (by decide) k hk e2, fun a ha => by have h5 := hr.2.1 a ha; have h6 := hr.2.2; have h7 := hg.size; omega, Nat.le_refl _⟩
    · have ei : i = ds.length := by simp at hi; omega
      subst ei
      rw [hnew]
      refine ⟨own_mono (own_gr hin hg fun k hk e2 => own_diff hin h.1 (by decide) k hk e2) hlo, fun a ha => ?_, Nat.le_refl _⟩
      have h5 := hin' a.block (by rw [show A1 = some a from ha]; rfl)
      have h7 := hg.size
      omega
  · intro i j hi hj hne b hb
    rw [List.length_append] at hi hj
    simp only [List.length_cons, List.length_nil] at hi hj
    by_cases ei : i < ds.length
    · rw [hold i ei] at hb
      by_cases ej : j < ds.length
      · rw [hold j ej]; exact h.2.2.1 i j ei ej hne b hb
      · have e : j = ds.length := by omega
        subst e
        rw [hnew]
        intro e2
        have h1 := hlt i ei b hb
        have h2 := (hin' b e2).1
        omega
    · have e : i = ds.length := by omega
      subst e
      rw [hnew] at hb
      rw [hold j (by omega)]
      intro e2
      have h1 := hlt j (by omega) b e2
      have h2 := (hin' b hb).1
      omega
  · intro a ha
    exact (ho.lt a.block (by subst ha; rfl)).2
end
theorem sc_nil (W : World) (B : Nat) (y : Int) (h : B ≤ W.heap.size) : ScRow W B W.heap.size none 0 0 (scs y []) :=
  ⟨World.ownsRow_nil _ _ _ _, (fun i hi => absurd hi (Nat.not_lt_zero _)), (fun i j hi => absurd hi (Nat.not_lt_zero _)), (fun a h => by cases h), Nat.le_refl _⟩
theorem sc_mono {W : World} {lo lo' hi : Nat} {A : Option Addr} {n c : Nat} {ds : List SD} (h : ScRow W lo hi A n c ds) (hB : lo' ≤ lo) : ScRow W lo' hi A n c ds :=
  ⟨own_mono h.1 hB, fun i hi => ⟨own_mono (h.2.1 i hi).1 hB, (h.2.1 i hi).2.1, (h.2.1 i hi).2.2⟩, h.2.2.1, h.2.2.2.1, h.2.2.2.2⟩
theorem scs_app (y : Int) (qs : List RD) (r : RD) : scs y (qs ++ [r]) = scs y qs ++ [(⟨r, y⟩ : SD)] := by unfold scs; rw [List.map_append]; rfl
theorem take_zs {rs : List RD} {k : Nat} (h : k < rs.length) : (rs.map RD.zs).take (k + 1) = (rs.map RD.zs).take k ++ [(rs.getD k rd0).zs] := by
  rw [List.take_add_one, List.getElem?_map, List.getElem?_eq_getElem h, List.getD_eq_getElem?_getD, List.getElem?_eq_getElem h]
  rfl
theorem one_get (r : RD) {j : Nat} (h : j < 1) : [r].getD j rd0 = r := by
  obtain rfl : j = 0 := by omega
  rfl
theorem one_at {W : World} {g : Nat} {B : Nat} {r : RD} (hg : g < B) (hc : W.cell? ⟨g, 0, none⟩ = some r.v) (hi : IntsAt W B .i64 r.A r.zs) : SSAt W B (some ⟨g, 0, none⟩) [r] := by
  intro j hj
  have hj1 : j < 1 := by simpa using hj
  refine ⟨g, 0, rfl, hg, ?_, ?_⟩
  · obtain rfl : j = 0 := by omega
    exact hc
  · rw [one_get _ hj1]
    exact hi
set_option maxHeartbeats 4000000 in
theorem impl_nx (A : Option Addr) (n c : Nat) (zs : List Int) (y : Int) (s : SR) (w : World) (hn : zs.length = n) (hnc : n ≤ c) (hn2 : n ≤ 1048576) (hz : Fits zs) (hss : IntsAt w w.heap.size .i64 A zs) :
    Calls Tryz.prog 9 #[Scn.scV A n c y, s.v] w (IsScs w.heap.size (nxF (zs, y) s) w) := by
  obtain ⟨R, hR⟩ : ∃ R, R = nxF (zs, y) s := ⟨_, rfl⟩
  rw [← hR]
  obtain ⟨k, d, q, a⟩ := s
  obtain ⟨hs2, hb0, a0, a1⟩ := two_at w #[.slice A n c, .int .i64 y] #[.int .i64 k, .int .i64 d, .int .i64 q, .int .i64 a] 32 36
  obtain ⟨W0, hW0⟩ : ∃ W0, W0 = (w.alloc (.cells #[.slice A n c, .int .i64 y] 32)).alloc (.cells #[.int .i64 k, .int .i64 d, .int .i64 q, .int .i64 a] 36) := ⟨_, rfl⟩
  rw [← hW0] at hs2 hb0 a0 a1
  have t00 := (cell_at a0 0).trans rfl
  have HB0 := Lib.hid hb0
  have HS0 := Lib.hid hs2
  have HA0 := Lib.hid a0
  have HA1 := Lib.hid a1
  have HI := Lib.hid ((hss.below hb0).more (show w.heap.size ≤ W0.heap.size by omega))
  have CO := impl_ok A n c zs W0 hn (by omega) hz HI.out
  have CS := fun W => Tia.impl_step (n : Int) ⟨k, d, q, a⟩ W
  clear hss a0 a1 hb0 hs2
  cases ho : okB zs with
  | false =>
    rw [ho] at CO
    have HS := Lib.hid (show R = [] by rw [hR]; unfold nxF; rw [ho]; simp)
    clear hR ho hn hz CS
    go_enter Tryz.func9, Tryz.ntmps9
    go_wp2_with fail
    rw [← hW0]
    clear hW0
    go_wp2_with fail
    refine CO.mono ?_
    rintro e w1 ⟨rfl, hb1⟩
    have HB1 := Lib.hid hb1
    have b0 := (hb1.block w.heap.size (by rw [HS0.out]; omega)).trans HA0.out
    have t0 := (cell_at b0 0).trans rfl
    have t1 := (cell_at b0 1).trans rfl
    have b1 := (hb1.block (w.heap.size + 1) (by rw [HS0.out]; omega)).trans HA1.out
    have s0 := (cell_at b1 0).trans rfl
    have s1 := (cell_at b1 1).trans rfl
    have s2 := (cell_at b1 2).trans rfl
    have s3 := (cell_at b1 3).trans rfl
    clear hb1 b0 b1 CO t00
    have HBB := Lib.hid (HB0.out.trans (HB1.out.mono (by have := HS0.out; omega)))
    clear t0 t1 s0 s1 s2 s3
    go_wp2
    go_ret
    rw [HS.out]
    exact isscs_nil HBB.out HBB.out.size
  | true =>
  rw [ho] at CO
  by_cases hy : -1 ≤ y ∧ y ≤ 11
  · have g1 : decide (y < -1) = false := decide_eq_false (by omega)
    have g2 : decide (12 ≤ y) = false := decide_eq_false (by omega)
    cases hst : stepB (n : Int) ⟨k, d, q, a⟩ with
    | false =>
      rw [hst] at CS
      have HS := Lib.hid (show R = [] by rw [hR]; unfold nxF; rw [ho, decide_eq_true hy]; simp only [hn, hst]; simp)
      clear hR ho hn hz hst hy
      go_enter Tryz.func9, Tryz.ntmps9
      go_wp2_with fail
      rw [← hW0]
      clear hW0
      go_wp2_with fail
      refine CO.mono ?_
      rintro e w1 ⟨rfl, hb1⟩
      have HB1 := Lib.hid hb1
      have b0 := (hb1.block w.heap.size (by rw [HS0.out]; omega)).trans HA0.out
      have t0 := (cell_at b0 0).trans rfl
      have t1 := (cell_at b0 1).trans rfl
      have b1 := (hb1.block (w.heap.size + 1) (by rw [HS0.out]; omega)).trans HA1.out
      have s0 := (cell_at b1 0).trans rfl
      have s1 := (cell_at b1 1).trans rfl
      have s2 := (cell_at b1 2).trans rfl
      have s3 := (cell_at b1 3).trans rfl
      clear hb1 b0 b1 CO t00
      go_wp2_with fail
      refine (CS _).mono ?_
      rintro e w2 ⟨rfl, hb2⟩
      have HBB := Lib.hid (HB0.out.trans ((HB1.out.trans (hb2.mono HB1.out.size)).mono (by have := HS0.out; omega)))
      clear t0 t1 s0 s1 s2 s3 hb2
      go_wp2
      go_ret
      rw [HS.out]
      exact isscs_nil HBB.out HBB.out.size
    | true =>
      rw [hst] at CS
      have HS := Lib.hid (show R = nextF (zs, y) ⟨k, d, q, a⟩ by rw [hR]; unfold nxF; rw [ho, decide_eq_true hy]; simp only [hn, hst]; simp)
      obtain ⟨i0, hi, hz0, hz1, hz2⟩ := info_parts infoScene
      have HOK := Lib.hid ho
      have HST := Lib.hid hst
      have HN := Lib.hid hn
      have HZ0 := Lib.hid hz
      clear hR ho hn hz hst hy
      go_enter Tryz.func9, Tryz.ntmps9
      go_wp2_with fail
      rw [← hW0]
      clear hW0
      go_wp2_with fail
      refine CO.mono ?_
      rintro e w1 ⟨rfl, hb1⟩
      have HB1 := Lib.hid hb1
      have b0 := (hb1.block w.heap.size (by rw [HS0.out]; omega)).trans HA0.out
      have t0 := (cell_at b0 0).trans rfl
      have t1 := (cell_at b0 1).trans rfl
      have b1 := (hb1.block (w.heap.size + 1) (by rw [HS0.out]; omega)).trans HA1.out
      have s0 := (cell_at b1 0).trans rfl
      have s1 := (cell_at b1 1).trans rfl
      have s2 := (cell_at b1 2).trans rfl
      have s3 := (cell_at b1 3).trans rfl
      clear hb1 b0 b1 CO t00
      go_wp2_with fail
      refine (CS _).mono ?_
      rintro e w2 ⟨rfl, hb2⟩
      have HB2 := Lib.hid (HB1.out.trans (hb2.mono HB1.out.size))
      clear t0 t1 s0 s1 s2 s3 hb2
      have b0 := (HB2.out.block w.heap.size (by rw [HS0.out]; omega)).trans HA0.out
      have b1 := (HB2.out.block (w.heap.size + 1) (by rw [HS0.out]; omega)).trans HA1.out
      have t0 := (cell_at b0 0).trans rfl
      have t1 := (cell_at b0 1).trans rfl
      have t1b := (cell_at (((box_below w2 (.cells #[.slice A n c] 22)).block w.heap.size (by have h1 := HB2.out.size; have h2 := HS0.out; omega)).trans b0) 1).trans rfl
      have t0b := (cell_at (((box_below w2 (.cells #[.slice A n c] 22)).block w.heap.size (by have h1 := HB2.out.size; have h2 := HS0.out; omega)).trans b0) 0).trans rfl
      clear b0 b1
      obtain ⟨W3, hW3⟩ : ∃ W3, W3 = (w2.alloc (.cells #[.slice A n c] 22)).drew := ⟨_, rfl⟩
      have hb3 : Below w2.heap.size w2 W3 := by rw [hW3]; exact (box_below _ _).drew
      have hs3 : W3.heap.size = w2.heap.size + 1 := by rw [hW3]; simp
      have h3 : W3.heap[w2.heap.size]? = some (.cells #[.slice A n c] 22 (0, 0)) := by rw [hW3]; exact heap_alloc_new _ _
      have HB3 := Lib.hid (HB2.out.trans (hb3.mono HB2.out.size))
      have H3 := Lib.hid h3
      have HS3 := Lib.hid hs3
      clear hb3 hs3 h3
      have t0 := (cell_at ((HB3.out.block w.heap.size (by rw [HS0.out]; omega)).trans HA0.out) 0).trans rfl
      have b1 := (HB3.out.block (w.heap.size + 1) (by rw [HS0.out]; omega)).trans HA1.out
      have s0 := (cell_at b1 0).trans rfl
      have s1 := (cell_at b1 1).trans rfl
      have s2 := (cell_at b1 2).trans rfl
      have s3 := (cell_at b1 3).trans rfl
      clear b1
      go_wp2_with fail
      go_region
      rw [← hW3]
      clear hW3 t1b t0b
      go_wp2_with fail
      refine (Tia.act_any ⟨k, d, q, a⟩ _).mono ?_
      rintro e w4 ⟨⟨v, b, rfl, ha⟩, hb4⟩
      have HB4 := Lib.hid (HB3.out.trans (hb4.mono HB3.out.size))
      have H4 := Lib.hid ((hb4.block w2.heap.size (by rw [HS3.out]; omega)).trans H3.out)
      have hs4 : w2.heap.size < w4.heap.size := by have h := hb4.size; have h2 := HS3.out; omega
      have HS4 := Lib.hid hs4
      clear hb4 t0 s0 s1 s2 s3 hs4
      cases ha with
      | move h =>
        obtain ⟨hk2, hk3⟩ := h
        simp only at hk2 hk3
        subst hk2 hk3
        have hmv : mvB (n : Int) d q = true := by
          have h := HST.out
          unfold stepB at h
          rw [Bool.and_eq_true, if_pos rfl, Bool.and_eq_true] at h
          exact h.2.1
        have hpb : perfB zs d q = true := by unfold perfB; rw [HOK.out, HN.out, hmv]; rfl
        obtain ⟨W5, hW5⟩ : ∃ W5, W5 = w4.alloc (.cells #[.int .i64 d, .int .i64 q] 69) := ⟨_, rfl⟩
        have hb5 : Below w4.heap.size w4 W5 := by rw [hW5]; exact box_below _ _
        have hh5 : W5.heap[w4.heap.size]? = some (.cells #[.int .i64 d, .int .i64 q] 69 (0, 0)) := by rw [hW5]; exact heap_alloc_new _ _
        have hc5 := (cell_at hh5 0).trans rfl
        have hd5 := (cell_at hh5 1).trans rfl
        have HB5 := Lib.hid (HB4.out.trans (hb5.mono HB4.out.size))
        have t0 := (cell_at ((HB5.out.block w.heap.size (by rw [HS0.out]; omega)).trans HA0.out) 0).trans rfl
        have as1 := Tia.as_moving_moving d q w4
        have CP := impl_perform A n c d q zs W5 HN.out hnc (by omega) HZ0.out ((HI.out.below HB5.out).more HB5.out.size)
        rw [hpb, perfF_yes hpb] at CP
        have hml : (moveF d.toNat q.toNat zs).length = n := by rw [← perfF_yes hpb, perf_len hpb, HN.out]
        have h12 : n ≤ 12 := by rw [← HN.out]; exact (okB_yes HOK.out).1
        have HRS := Lib.hid (show R = [(moveF d.toNat q.toNat zs, y)] by rw [HS.out]; rfl)
        have HBW5 := Lib.hid (HB0.out.trans (HB5.out.mono (by have := HS0.out; omega)))
        have H5 := Lib.hid ((hb5.block w2.heap.size HS4.out).trans H4.out)
        have HS5 := Lib.hid (Nat.lt_of_lt_of_le HS4.out hb5.size)
        generalize moveF d.toNat q.toNat zs = ms at *
        have HML := Lib.hid hml
        clear hml
        clear hb5 hmv hpb hh5
        rw [hW5] at t0 hc5 hd5
        go_wp2_with fail
        rw [← hW5]
        clear hW5
        refine CP.mono ?_
        rintro e w6 ⟨A6, c6, rfl, hown6, hb6⟩
        have h6 := (hb6.block w2.heap.size HS5.out).trans H5.out
        have p6 := (cell_at h6 0).trans rfl
        have f6 := frz h6 0
        obtain ⟨W1, hW1⟩ : ∃ W1, W1 = w6.setCell ⟨w2.heap.size, 0, none⟩ (.slice A6 ms.length c6) := ⟨_, rfl⟩
        have hg1 : w6.grownBy W1 (some w2.heap.size) := by rw [hW1]; exact set_grown _ _ _ _
        have h1 := put1 (j := 0) (.slice A6 ms.length c6) h6
        rw [← hW1] at h1
        have hown1 := own_gr hown6 hg1 (fun j hj e => by have h1 := (own_lo hown6 j hj).1; injection e with e; have h2 := HS5.out; omega)
        have HBW := Lib.hid ((HBW5.out.trans (hb6.mono HBW5.out.size)).grown hg1 (Nat.le_trans HBW5.out.size hb6.size) (fun k hk => by injection hk with hk; have h1 := HB2.out.size; have h2 := HS0.out; omega))
        have hw1 : w2.heap.size < W1.heap.size := by have h1 := hg1.size; have h2 := hb6.size; have h3 := HS5.out; omega
        have HSS := Lib.hid (one_at (r := ⟨A6, c6, ms⟩) hw1 ((cell_at h1 0).trans rfl) (Ins.Row.at_ (Ins.Row.mk hown1)))
        have HLN := Lib.hid (show [(⟨A6, c6, ms⟩ : RD)].length = 1 from rfl)
        have HSH := Lib.hid (show ∀ j, j < 1 → ([(⟨A6, c6, ms⟩ : RD)].getD j rd0).zs.length ≤ 1048576 from fun j hj => by rw [one_get _ hj]; show ms.length ≤ 1048576; have := HML.out; omega)
        have HRS := Lib.hid (show R = ([(⟨A6, c6, ms⟩ : RD)].map RD.zs).map fun p => (p, y) from HRS.out)
        clear hown6 hb6 h6 hg1 h1 hown1 hw1 CP t0 hc5 hd5 as1
        obtain ⟨rs, hrs⟩ : ∃ rs, rs = [(⟨A6, c6, ms⟩ : RD)] := ⟨_, rfl⟩
        rw [← hrs] at HSS HLN HSH HRS
        clear hrs
        have HNIL := Lib.hid (sc_nil W1 W1.heap.size y (Nat.le_refl _))
        go_wp2
        rw [← hW1]
        clear hW1 p6 f6
        go_loopg [12, 14, 84] 1 (fun g s12 _ s84 wr => ∃ (k : Nat) (Ao : Option Addr) (co : Nat) (qs : List RD), k ≤ 1 ∧ g = 1 - k ∧ s84 = .int .i64 (k : Int) ∧ s12 = .slice Ao k co ∧ Hid (ScRow wr W1.heap.size wr.heap.size Ao k co (scs y qs)) ∧ Hid (qs.map RD.zs = (rs.map RD.zs).take k) ∧ Hid (Below W1.heap.size W1 wr))
        case atStart => exact ⟨0, none, 0, [], Nat.zero_le _, rfl, rfl, rfl, HNIL, Lib.hid rfl, Lib.hid (Below.refl _ _)⟩
        case round =>
          obtain ⟨k, Ao, co, qs, hk, hg, rfl, rfl, HO, HZ, HB⟩ := hrel
          have hsz := HB.out.size
          by_cases hlt : k < 1
          · obtain ⟨b3, o3, hA3, hb3, hc3, hi3⟩ := (HSS.out.below HB.out) k (by rw [HLN.out]; exact hlt)
            cases hA3
            have HTK := Lib.hid (take_zs (rs := rs) (k := k) (by rw [HLN.out]; exact hlt))
            have HCK := Lib.hid (Lb.clone_any (rs.getD k rd0).A _ (rs.getD k rd0).c (rs.getD k rd0).zs wr rfl (HSH.out k hlt) (hi3.more hsz))
            simp only [RD.v] at hc3
            generalize (rs.getD k rd0).A = Ak at *
            generalize (rs.getD k rd0).c = ck at *
            generalize (rs.getD k rd0).zs = zk at *
            (try rw [Nat.zero_add] at hc3)
            clear hi3
            go_wp2_with fail
            refine HCK.out.mono ?_
            rintro e w5 ⟨A5, c5, rfl, hown5, hb5⟩
            have HSC := Lib.hid (HO.out.below hb5)
            have HO5 := Lib.hid hown5
            have HB5 := Lib.hid (HB.out.trans (hb5.mono hsz))
            have hs5 := HB5.out.size
            have hss5 := hb5.size
            clear hown5 hb5 hc3
            go_wp2_with (at_builtin; refine Wid.app_wide rfl (.tmp 88) (.tmp 93) 30 rfl W1.heap.size 32 i0 _ 2 32 Tryz.underlying30 hi hz0 hz1 hz2 (by decide) rfl (by decide) Ao co k _ rfl HSC.out.1 #[.slice A5 zk.length c5, .int .i64 y] rfl (by intro u hu; simp at hu; rcases hu with rfl | rfl <;> rfl) _ rfl rfl (by omega) (by omega) ?_; intro g6 c6 w6 hown6 hgr6; have HO6 := Lib.hid (scs_app y qs ⟨A5, c5, zk⟩ ▸ sc_snoc (HSC.out) hsz HO5.out hown6 hgr6); have HB6 := Lib.hid (HB5.out.grown hgr6 hs5 (fun k hk => (own_lo HSC.out.1 k hk).1)); clear hown6 hgr6)
            have HZ6 := Lib.hid (show (qs ++ [(⟨A5, c5, zk⟩ : RD)]).map RD.zs = (rs.map RD.zs).take (k + 1) by rw [HTK.out, List.map_append, HZ.out]; rfl)
            clear hs5 hss5
            go_roundg (1 - (k + 1))
            case rel => exact ⟨k + 1, _, c6, qs ++ [(⟨A5, c5, zk⟩ : RD)], by omega, rfl, by go_num, rfl, HO6, HZ6, HB6⟩
            case measure => omega
          · have hkm : k = 1 := by omega
            subst hkm
            have HX := Lib.hid (sc_mono HO.out (show w.heap.size ≤ W1.heap.size from HBW.out.size))
            have HBF := Lib.hid (HBW.out.trans (HB.out.mono HBW.out.size))
            have HCM := Lib.hid (show (scs y qs).map SD.sc = R by rw [HRS.out, scs_sc, HZ.out, List.take_of_length_le (by rw [List.length_map, HLN.out]; exact Nat.le_refl _)])
            have HCL := Lib.hid (show R.length = 1 by rw [← HCM.out, List.length_map]; have h := HO.out.len; exact h)
            clear HO HB
            go_wp2
            go_ret
            exact ⟨Ao, co, scs y qs, by rw [HCL.out]; rfl, HCM.out, by rw [HCL.out]; exact HX.out, HBF.out⟩
      | note h =>
        obtain ⟨hk2, rfl, rfl⟩ := h
        simp only at hk2
        subst hk2
        have ha : 0 ≤ a ∧ a < (n : Int) := by
          have h := HST.out
          unfold stepB at h
          rw [Bool.and_eq_true, if_neg (show ¬ (3 : Int) = 1 by decide), if_neg (show ¬ (3 : Int) = 2 by decide), if_pos rfl, Bool.and_eq_true] at h
          exact of_decide_eq_true h.2.2
        obtain ⟨kk, rfl⟩ : ∃ kk : Nat, a = kk := ⟨a.toNat, by omega⟩
        have hkn : kk < n := by omega
        obtain ⟨W1, hW1⟩ : ∃ W1, W1 = w4.alloc (.cells #[.int .i64 (kk : Int)] 77) := ⟨_, rfl⟩
        have hb5 : Below w4.heap.size w4 W1 := by rw [hW1]; exact box_below _ _
        have hc5 := (cell_at (show W1.heap[w4.heap.size]? = some (.cells #[.int .i64 (kk : Int)] 77 (0, 0)) by rw [hW1]; exact heap_alloc_new _ _) 0).trans rfl
        have HB5 := Lib.hid (HB4.out.trans (hb5.mono HB4.out.size))
        have t0 := (cell_at ((HB5.out.block w.heap.size (by rw [HS0.out]; omega)).trans HA0.out) 0).trans rfl
        have as1 := Tia.as_moving_noting (kk : Int) w4
        have as2 := Tia.as_choosing_noting (kk : Int) w4
        have as3 := Tia.as_noting_noting (kk : Int) w4
        have hi1 := (HI.out.below HB5.out).more HB5.out.size
        have hxf := HZ0.out kk (by have := HN.out; omega)
        have h12 : n ≤ 12 := by rw [← HN.out]; exact (okB_yes HOK.out).1
        have CC := fun W : World => Pk.impl_card (zs.getD kk 0) W hxf.1 hxf.2
        have HBW := Lib.hid (HB0.out.trans (HB5.out.mono (by have := HS0.out; omega)))
        have hw1 : w2.heap.size < W1.heap.size := by have h1 := hb5.size; have h3 := HS4.out; omega
        have HSS := Lib.hid (one_at (r := ⟨A, c, zs⟩) hw1 ((cell_at ((hb5.block w2.heap.size HS4.out).trans H4.out) 0).trans (by rw [← HN.out]; rfl)) hi1)
        have HLN := Lib.hid (show [(⟨A, c, zs⟩ : RD)].length = 1 from rfl)
        have HSH := Lib.hid (show ∀ j, j < 1 → ([(⟨A, c, zs⟩ : RD)].getD j rd0).zs.length ≤ 1048576 from fun j hj => by rw [one_get _ hj]; show zs.length ≤ 1048576; have := HN.out; omega)
        have HRS := Lib.hid (show R = ([(⟨A, c, zs⟩ : RD)].map RD.zs).map fun p => (p, cardF (zs.getD kk 0)) by rw [HS.out]; rfl)
        obtain ⟨ba, oa, rfl, hba, hx⟩ := hi1 kk (by have := HN.out; omega)
        obtain ⟨rs, hrs⟩ : ∃ rs, rs = [(⟨some ⟨ba, oa, none⟩, c, zs⟩ : RD)] := ⟨_, rfl⟩
        rw [← hrs] at HSS HLN HSH HRS
        generalize cardF (zs.getD kk 0) = r at *
        generalize zs.getD kk 0 = v at *
        clear hb5 hrs ha hxf hi1 hba
        rw [hW1] at t0 hc5 hx
        go_wp2_with fail
        rw [← hW1]
        refine (CC _).mono ?_
        rintro e w' ⟨rfl, rfl⟩
        clear hW1 t0 hc5 hx as1 as2 as3 CC
        have HNIL := Lib.hid (sc_nil W1 W1.heap.size r (Nat.le_refl _))
        go_wp2
        go_loopg [12, 14, 84] 1 (fun g s12 _ s84 wr => ∃ (k : Nat) (Ao : Option Addr) (co : Nat) (qs : List RD), k ≤ 1 ∧ g = 1 - k ∧ s84 = .int .i64 (k : Int) ∧ s12 = .slice Ao k co ∧ Hid (ScRow wr W1.heap.size wr.heap.size Ao k co (scs r qs)) ∧ Hid (qs.map RD.zs = (rs.map RD.zs).take k) ∧ Hid (Below W1.heap.size W1 wr))
        case atStart => exact ⟨0, none, 0, [], Nat.zero_le _, rfl, rfl, rfl, HNIL, Lib.hid rfl, Lib.hid (Below.refl _ _)⟩
        case round =>
          obtain ⟨k, Ao, co, qs, hk, hg, rfl, rfl, HO, HZ, HB⟩ := hrel
          have hsz := HB.out.size
          by_cases hlt : k < 1
          · obtain ⟨b3, o3, hA3, hb3, hc3, hi3⟩ := (HSS.out.below HB.out) k (by rw [HLN.out]; exact hlt)
            cases hA3
            have HTK := Lib.hid (take_zs (rs := rs) (k := k) (by rw [HLN.out]; exact hlt))
            have HCK := Lib.hid (Lb.clone_any (rs.getD k rd0).A _ (rs.getD k rd0).c (rs.getD k rd0).zs wr rfl (HSH.out k hlt) (hi3.more hsz))
            simp only [RD.v] at hc3
            generalize (rs.getD k rd0).A = Ak at *
            generalize (rs.getD k rd0).c = ck at *
            generalize (rs.getD k rd0).zs = zk at *
            (try rw [Nat.zero_add] at hc3)
            clear hi3
            go_wp2_with fail
            refine HCK.out.mono ?_
            rintro e w5 ⟨A5, c5, rfl, hown5, hb5⟩
            have HSC := Lib.hid (HO.out.below hb5)
            have HO5 := Lib.hid hown5
            have HB5 := Lib.hid (HB.out.trans (hb5.mono hsz))
            have hs5 := HB5.out.size
            have hss5 := hb5.size
            clear hown5 hb5 hc3
            go_wp2_with (at_builtin; refine Wid.app_wide rfl (.tmp 88) (.tmp 93) 30 rfl W1.heap.size 32 i0 _ 2 32 Tryz.underlying30 hi hz0 hz1 hz2 (by decide) rfl (by decide) Ao co k _ rfl HSC.out.1 #[.slice A5 zk.length c5, .int .i64 r] rfl (by intro u hu; simp at hu; rcases hu with rfl | rfl <;> rfl) _ rfl rfl (by omega) (by omega) ?_; intro g6 c6 w6 hown6 hgr6; have HO6 := Lib.hid (scs_app r qs ⟨A5, c5, zk⟩ ▸ sc_snoc (HSC.out) hsz HO5.out hown6 hgr6); have HB6 := Lib.hid (HB5.out.grown hgr6 hs5 (fun k hk => (own_lo HSC.out.1 k hk).1)); clear hown6 hgr6)
            have HZ6 := Lib.hid (show (qs ++ [(⟨A5, c5, zk⟩ : RD)]).map RD.zs = (rs.map RD.zs).take (k + 1) by rw [HTK.out, List.map_append, HZ.out]; rfl)
            clear hs5 hss5
            go_roundg (1 - (k + 1))
            case rel => exact ⟨k + 1, _, c6, qs ++ [(⟨A5, c5, zk⟩ : RD)], by omega, rfl, by go_num, rfl, HO6, HZ6, HB6⟩
            case measure => omega
          · have hkm : k = 1 := by omega
            subst hkm
            have HX := Lib.hid (sc_mono HO.out (show w.heap.size ≤ W1.heap.size from HBW.out.size))
            have HBF := Lib.hid (HBW.out.trans (HB.out.mono HBW.out.size))
            have HCM := Lib.hid (show (scs r qs).map SD.sc = R by rw [HRS.out, scs_sc, HZ.out, List.take_of_length_le (by rw [List.length_map, HLN.out]; exact Nat.le_refl _)])
            have HCL := Lib.hid (show R.length = 1 by rw [← HCM.out, List.length_map]; have h := HO.out.len; exact h)
            clear HO HB
            go_wp2
            go_ret
            exact ⟨Ao, co, scs r qs, by rw [HCL.out]; rfl, HCM.out, by rw [HCL.out]; exact HX.out, HBF.out⟩
      | choice h =>
        obtain ⟨hk2, rfl, rfl⟩ := h
        simp only at hk2
        subst hk2
        have HCO := Lib.hid (step_okM HN.out HOK.out HST.out (show ¬ (2 : Int) = 1 by decide) (show ¬ (2 : Int) = 3 by decide))
        obtain ⟨W5, hW5⟩ : ∃ W5, W5 = w4.alloc (.cells #[.int .i64 a] 73) := ⟨_, rfl⟩
        have hb5 : Below w4.heap.size w4 W5 := by rw [hW5]; exact box_below _ _
        have hc5 := (cell_at (show W5.heap[w4.heap.size]? = some (.cells #[.int .i64 a] 73 (0, 0)) by rw [hW5]; exact heap_alloc_new _ _) 0).trans rfl
        have HB5 := Lib.hid (HB4.out.trans (hb5.mono HB4.out.size))
        have t0 := (cell_at ((HB5.out.block w.heap.size (by rw [HS0.out]; omega)).trans HA0.out) 0).trans rfl
        have as1 := Tia.as_moving_choosing a w4
        have as2 := Tia.as_choosing_choosing a w4
        have CR := Ro.impl_ro A n c zs a W5 HN.out HZ0.out hn2 ((HI.out.below HB5.out).more HB5.out.size)
        have HBW5 := Lib.hid (HB0.out.trans (HB5.out.mono (by have := HS0.out; omega)))
        clear hb5
        rw [hW5] at t0 hc5
        go_wp2_with fail
        rw [← hW5]
        clear hW5
        refine CR.mono ?_
        rintro e W1 ⟨A2, c2, rs, rfl, hz2, hss2, hb6⟩
        have HLN := Lib.hid hss2.len
        have HSS := Lib.hid (at_of hss2)
        have HBW := Lib.hid (HBW5.out.trans (hb6.mono HBW5.out.size))
        have hzz : rs.map RD.zs = cano (So2.ofM a zs) := by rw [hz2, ← Rcn.roM_raR]; unfold So5.roM; rw [if_pos HCO.out]
        have HSH := Lib.hid (show ∀ j, j < (Raf.raR a [zs]).length → (rs.getD j rd0).zs.length ≤ 1048576 from fun j hj => by
          have hm : (rs.getD j rd0).zs ∈ Raf.raR a [zs] := by
            rw [← hz2]
            have hl := hss2.len
            rw [List.getD_eq_getElem?_getD, List.getElem?_eq_getElem (by omega)]
            exact List.mem_map.2 ⟨_, List.getElem_mem _, rfl⟩
          rw [← Rcn.roM_raR] at hm
          have := So5.roM_short hm
          omega)
        have HRS := Lib.hid (show R = (rs.map RD.zs).map fun p => (p, y) by rw [HS.out, hzz]; rfl)
        have HMM := Lib.hid (show (Raf.raR a [zs]).length ≤ 1048576 by rw [← Rcn.roM_raR]; have := So5.roM_len (k := a) (zs := zs); omega)
        generalize (Raf.raR a [zs]).length = m at *
        have hmm := HMM.out
        clear hz2 hss2 hb6 CR t0 as1 as2 hzz hc5
        have HNIL := Lib.hid (sc_nil W1 W1.heap.size y (Nat.le_refl _))
        go_wp2
        go_loopg [12, 14, 84] m (fun g s12 _ s84 wr => ∃ (k : Nat) (Ao : Option Addr) (co : Nat) (qs : List RD), k ≤ m ∧ g = m - k ∧ s84 = .int .i64 (k : Int) ∧ s12 = .slice Ao k co ∧ Hid (ScRow wr W1.heap.size wr.heap.size Ao k co (scs y qs)) ∧ Hid (qs.map RD.zs = (rs.map RD.zs).take k) ∧ Hid (Below W1.heap.size W1 wr))
        case atStart => exact ⟨0, none, 0, [], Nat.zero_le _, rfl, rfl, rfl, HNIL, Lib.hid rfl, Lib.hid (Below.refl _ _)⟩
        case round =>
          obtain ⟨k, Ao, co, qs, hk, hg, rfl, rfl, HO, HZ, HB⟩ := hrel
          have hsz := HB.out.size
          by_cases hlt : k < m
          · obtain ⟨b3, o3, hA3, hb3, hc3, hi3⟩ := (HSS.out.below HB.out) k (by rw [HLN.out]; exact hlt)
            cases hA3
            have HTK := Lib.hid (take_zs (rs := rs) (k := k) (by rw [HLN.out]; exact hlt))
            have HCK := Lib.hid (Lb.clone_any (rs.getD k rd0).A _ (rs.getD k rd0).c (rs.getD k rd0).zs wr rfl (HSH.out k hlt) (hi3.more hsz))
            simp only [RD.v] at hc3
            generalize (rs.getD k rd0).A = Ak at *
            generalize (rs.getD k rd0).c = ck at *
            generalize (rs.getD k rd0).zs = zk at *
            (try rw [Nat.zero_add] at hc3)
            clear hi3
            go_wp2_with fail
            refine HCK.out.mono ?_
            rintro e w5 ⟨A5, c5, rfl, hown5, hb5⟩
            have HSC := Lib.hid (HO.out.below hb5)
            have HO5 := Lib.hid hown5
            have HB5 := Lib.hid (HB.out.trans (hb5.mono hsz))
            have hs5 := HB5.out.size
            have hss5 := hb5.size
            clear hown5 hb5 hc3
            go_wp2_with (at_builtin; refine Wid.app_wide rfl (.tmp 88) (.tmp 93) 30 rfl W1.heap.size 32 i0 _ 2 32 Tryz.underlying30 hi hz0 hz1 hz2 (by decide) rfl (by decide) Ao co k _ rfl HSC.out.1 #[.slice A5 zk.length c5, .int .i64 y] rfl (by intro u hu; simp at hu; rcases hu with rfl | rfl <;> rfl) _ rfl rfl (by omega) (by omega) ?_; intro g6 c6 w6 hown6 hgr6; have HO6 := Lib.hid (scs_app y qs ⟨A5, c5, zk⟩ ▸ sc_snoc (HSC.out) hsz HO5.out hown6 hgr6); have HB6 := Lib.hid (HB5.out.grown hgr6 hs5 (fun k hk => (own_lo HSC.out.1 k hk).1)); clear hown6 hgr6)
            have HZ6 := Lib.hid (show (qs ++ [(⟨A5, c5, zk⟩ : RD)]).map RD.zs = (rs.map RD.zs).take (k + 1) by rw [HTK.out, List.map_append, HZ.out]; rfl)
            clear hs5 hss5
            go_roundg (m - (k + 1))
            case rel => exact ⟨k + 1, _, c6, qs ++ [(⟨A5, c5, zk⟩ : RD)], by omega, rfl, by go_num, rfl, HO6, HZ6, HB6⟩
            case measure => omega
          · have hkm : k = m := by omega
            subst hkm
            have HX := Lib.hid (sc_mono HO.out (show w.heap.size ≤ W1.heap.size from HBW.out.size))
            have HBF := Lib.hid (HBW.out.trans (HB.out.mono HBW.out.size))
            have HCM := Lib.hid (show (scs y qs).map SD.sc = R by rw [HRS.out, scs_sc, HZ.out, List.take_of_length_le (by rw [List.length_map, HLN.out]; exact Nat.le_refl _)])
            have HCL := Lib.hid (show R.length = k by rw [← HCM.out, List.length_map]; have h := HO.out.len; exact h)
            clear HO HB
            go_wp2
            go_ret
            exact ⟨Ao, co, scs y qs, by rw [HCL.out]; rfl, HCM.out, by rw [HCL.out]; exact HX.out, HBF.out⟩
      | none h1 h2 h3 => exact absurd HST.out (by rw [Tia.step_none h1 h2 h3]; decide)
  · have HS := Lib.hid (show R = [] by rw [hR]; unfold nxF; rw [decide_eq_false hy]; simp)
    by_cases h1 : y < -1
    · have g1 : decide (y < -1) = true := decide_eq_true h1
      clear hR ho hn hz CS hy h1
      go_enter Tryz.func9, Tryz.ntmps9
      go_wp2_with fail
      rw [← hW0]
      clear hW0
      go_wp2_with fail
      refine CO.mono ?_
      rintro e w1 ⟨rfl, hb1⟩
      have HB1 := Lib.hid hb1
      have b0 := (hb1.block w.heap.size (by rw [HS0.out]; omega)).trans HA0.out
      have t0 := (cell_at b0 0).trans rfl
      have t1 := (cell_at b0 1).trans rfl
      have b1 := (hb1.block (w.heap.size + 1) (by rw [HS0.out]; omega)).trans HA1.out
      have s0 := (cell_at b1 0).trans rfl
      have s1 := (cell_at b1 1).trans rfl
      have s2 := (cell_at b1 2).trans rfl
      have s3 := (cell_at b1 3).trans rfl
      clear hb1 b0 b1 CO t00
      have HBB := Lib.hid (HB0.out.trans (HB1.out.mono (by have := HS0.out; omega)))
      go_wp2
      go_ret
      rw [HS.out]
      exact isscs_nil HBB.out HBB.out.size
    · have g1 : decide (y < -1) = false := decide_eq_false h1
      have g2 : decide (12 ≤ y) = true := decide_eq_true (by omega)
      clear hR ho hn hz CS hy h1
      go_enter Tryz.func9, Tryz.ntmps9
      go_wp2_with fail
      rw [← hW0]
      clear hW0
      go_wp2_with fail
      refine CO.mono ?_
      rintro e w1 ⟨rfl, hb1⟩
      have HB1 := Lib.hid hb1
      have b0 := (hb1.block w.heap.size (by rw [HS0.out]; omega)).trans HA0.out
      have t0 := (cell_at b0 0).trans rfl
      have t1 := (cell_at b0 1).trans rfl
      have b1 := (hb1.block (w.heap.size + 1) (by rw [HS0.out]; omega)).trans HA1.out
      have s0 := (cell_at b1 0).trans rfl
      have s1 := (cell_at b1 1).trans rfl
      have s2 := (cell_at b1 2).trans rfl
      have s3 := (cell_at b1 3).trans rfl
      clear hb1 b0 b1 CO t00
      have HBB := Lib.hid (HB0.out.trans (HB1.out.mono (by have := HS0.out; omega)))
      go_wp2
      go_ret
      rw [HS.out]
      exact isscs_nil HBB.out HBB.out.size
end Go.Proofs.YtibephoepkofnaaGreat.Tnp
