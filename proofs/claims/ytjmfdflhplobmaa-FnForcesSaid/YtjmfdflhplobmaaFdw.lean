/- The walk of l13Draw, and MakeForce. -/
import Derived.Test.YtjmfdflhplobmaaFdr
set_option linter.unusedVariables false
set_option maxRecDepth 20000
namespace Go.Proofs.Ytjmfdflhplobmaa.Fdw
open Go.RowKit Fr _root_.Go.Proofs.Ytjmfdflhplobmaa.Own Pk Ins Pfn Rws Fpl Nod Nob Pfo Cur Fdr

theorem cell3e {W : World} {p : Nat} {x y z : Value} {e : TypeId} (h : W.heap[p]? = some (.cells #[x, y, z] e (0, 0))) : W.cell? ⟨p, 0, none⟩ = some x := by
  unfold World.cell?
  rw [h]; rfl
theorem nrow_only {W W' : World} {lo n c cu : Nat} {A : Option Addr} {rs : List NR} (h : NRow W lo W.heap.size A n c rs) (ho : Only cu W W') (hc : cu < lo) : NRow W' lo W'.heap.size A n c rs := by
  have h1 := h.grown (Mkp.only_grown ho) (fun k hk => by simp only [Option.some.injEq] at hk; omega)
  rw [ho.size]
  exact h1
theorem nrow_top {W : World} {lo hi n c : Nat} {A : Option Addr} {rs : List NR} (h : NRow W lo hi A n c rs) : NRow W lo W.heap.size A n c rs := ⟨h.1.high h.1.2.2.2.2 (Nat.le_refl _), h.2⟩
theorem nrow_down {W W' : World} {lo n c : Nat} {A : Option Addr} {rs : List NR} (h : NRow W lo W.heap.size A n c rs) (hb : Below W.heap.size W W') : NRow W' lo W'.heap.size A n c rs := nrow_top (h.below hb)
theorem nrow_low {W : World} {lo lo2 hi n c : Nat} {A : Option Addr} {rs : List NR} (h : NRow W lo hi A n c rs) (hl : lo2 ≤ lo) : NRow W lo2 hi A n c rs := by
  obtain ⟨⟨⟨xs, h1, h2⟩, h3, h4, h5, h6⟩, h7⟩ := h
  exact ⟨⟨⟨xs, own_mono h1 hl, h2⟩, fun i hi => ⟨own_mono (h3 i hi).1 hl, (h3 i hi).2⟩, h4, h5, h6⟩, h7⟩
def Zer (L : List NV) : Prop := ∀ j, j < L.length → fi L j = 0
theorem zer_first : Zer ([(⟨ByteArray.empty, none, 0, [], 0⟩ : NR)].map NR.nv) := fun j hj => by
  obtain rfl : j = 0 := by simp at hj; exact hj
  rfl
/-- one store into a node, with all that the walk asks of it -/
theorem put_step {W : World} {lo N c3 g : Nat} {ss : List NR} {k : Nat} (h : NRow W lo W.heap.size (some ⟨g, 0, none⟩) N c3 ss) (hk : k < N) (hg : GoodL (ss.map NR.nv)) (d : Nat) (hd : d < 3) (r : NR) (hA : r.A = (ss.getD k nr0).A) (hc : r.c = (ss.getD k nr0).c) (hz : r.zs = (ss.getD k nr0).zs)
    (ho : ∀ e, e < 3 → e ≠ d → comp r e = comp (ss.getD k nr0) e) (hf : 0 ≤ r.fin ∧ r.fin ≤ 2) (h0 : r.zs ≠ [] → r.fin = 0) :
    NRow (W.setCell ⟨g, k * 3 + d, none⟩ (comp r d)) lo (W.setCell ⟨g, k * 3 + d, none⟩ (comp r d)).heap.size (some ⟨g, 0, none⟩) N c3 (ss.set k r) ∧ GoodL ((ss.set k r).map NR.nv) ∧ W.grownBy (W.setCell ⟨g, k * 3 + d, none⟩ (comp r d)) (some g) ∧
    W.frozen? ⟨g, k * 3 + d, none⟩ = false ∧ W.cell? ⟨g, k * 3 + d, none⟩ = some (comp (ss.getD k nr0) d) ∧ (W.setCell ⟨g, k * 3 + d, none⟩ (comp r d)).cell? ⟨g, k * 3 + 1, none⟩ = some r.sv ∧ (ss.set k r).getD k nr0 = r := by
  obtain ⟨p1, p2⟩ := nrow_cell h hk hd r hA hc hz ho
  have hn := h.2
  have hget : (ss.set k r).getD k nr0 = r := by rw [rget_set ss k r k (by omega), if_pos rfl]
  obtain ⟨xs, own, lies⟩ := h.1.1
  have hxl := own.1
  have hc0 := (own.cellAt (k * 3 + d) (by omega)).trans (lies_at lies (j := k) (d := d) (by omega) hd)
  obtain ⟨xs2, own2, lies2⟩ := p1.1.1
  have hc1 := (own2.cellAt (k * 3 + 1) (by have := own2.1; omega)).trans (lies_at lies2 (j := k) (d := 1) (by rw [List.length_set]; omega) (by omega))
  rw [hget] at hc1
  refine ⟨p1, ?_, p2, own.frozenAt _, hc0, hc1, hget⟩
  rw [List.map_set]
  refine hg.set_ (by rw [List.length_map]; omega) ?_ hf fun hne => ?_
  · show r.zs = _
    rw [hz]
    exact (nv_at (L := ss.map NR.nv) rfl k).1
  · refine h0 ?_
    rw [hz, (nv_at (L := ss.map NR.nv) rfl k).1]
    exact hne
theorem fin_at {ss : List NR} (h : GoodL (ss.map NR.nv)) {k : Nat} (hk : k < ss.length) : (0 ≤ (ss.getD k nr0).fin ∧ (ss.getD k nr0).fin ≤ 2) ∧ ((ss.getD k nr0).zs ≠ [] → (ss.getD k nr0).fin = 0) := by
  obtain ⟨e1, e2⟩ := nv_at (L := ss.map NR.nv) rfl k
  rw [e1, e2]
  exact h.fin k (by rw [List.length_map]; exact hk)
theorem comp_say (r : NR) (s : ByteArray) : ∀ e, e < 3 → e ≠ 0 → comp ⟨s, r.A, r.c, r.zs, r.fin⟩ e = comp r e := by
  intro e he hne
  have : e = 1 ∨ e = 2 := by omega
  rcases this with h | h <;> subst h <;> rfl
theorem comp_fin (r : NR) (y : Int) : ∀ e, e < 3 → e ≠ 2 → comp ⟨r.say, r.A, r.c, r.zs, y⟩ e = comp r e := by
  intro e he hne
  have : e = 0 ∨ e = 1 := by omega
  rcases this with h | h <;> subst h <;> rfl
def ssL : List ByteArray := [⟨#[97]⟩, ⟨#[98]⟩]
theorem two_cells (W : World) : ∀ j, j < 2 → (W.alloc (.cells #[.string ⟨#[97]⟩, .string ⟨#[98]⟩] 9)).cell? ⟨W.heap.size, j, none⟩ = some (.string (ssL.getD j ByteArray.empty)) := by
  intro j hj
  have : j = 0 ∨ j = 1 := by omega
  unfold World.cell?
  rw [heap_alloc_new]
  rcases this with e | e <;> subst e <;> rfl
def ForceDrawn (c : Nat) (A : Option Addr) (n cap : Nat) (w : World) (e : Ending) (w' : World) : Prop :=
  ∃ A2 N c2 rs, e = .returned (.slice A2 N c2) ∧ NRow w' w.heap.size w'.heap.size A2 N c2 rs ∧ GoodL (rs.map NR.nv) ∧ w.grownBy w' (some c)
set_option maxHeartbeats 4000000 in
theorem draw_any (B c : Nat) (A : Option Addr) (n cap : Nat) (w : World) (hn : n ≤ 1048576) (hB : B ≤ c) (hcur : IsCur w c A n cap) (hbytes : BytesAt w B A n) :
    Calls Try.prog 43 #[.pointer (some ⟨c, 0, none⟩)] w (ForceDrawn c A n cap w) := by
  have hcw := hcur.lt
  obtain ⟨i0, hi, hz0, hz1, hz2⟩ := node_parts
  obtain ⟨j0, ji, jz0, jz1, jz2⟩ := info_parts infoInt
  have HR0 := Lib.hid (first_zero w)
  have hbx := box_below w (.cells #[.string ByteArray.empty, .slice none 0 0, .int .i64 0] 37)
  have HC0 := Lib.hid (hcur.below hbx hcw)
  have HG0 := Lib.hid (show w.grownBy (w.alloc (.cells #[.string ByteArray.empty, .slice none 0 0, .int .i64 0] 37)) (some c) from ⟨hbx.os, hbx.tape, hbx.output, hbx.size, fun k hk _ => hbx.block k hk⟩)
  have HBY := Lib.hid hbytes
  have HBG := Lib.hid (fun (W : World) (hg : w.grownBy W (some c)) => (show BytesAt W B A n from hbytes.below ((Below.refl B w).grown hg (by omega) (fun k hk => by simp only [Option.some.injEq] at hk; omega))))
  clear hbytes hbx hcur
  go_enter Try.func43, Try.ntmps43
  go_wp2_with fail
  refine (below_any B c A n cap 7 _ (by omega) (by omega) hn hB HC0.out (HBG.out _ HG0.out)).mono ?_
  rintro e w1 ⟨x, rfl, hx0, hx1, hc1, ho1⟩
  have HR1 := Lib.hid (nrow_only HR0.out ho1 hcw)
  have HC1 := Lib.hid hc1
  have HG1 := Lib.hid (show w.grownBy w1 (some c) from World.grownBy.trans HG0.out (Mkp.only_grown ho1))
  obtain ⟨k0, rfl⟩ : ∃ k0 : Nat, x = k0 := ⟨x.toNat, by omega⟩
  clear HR0 HC0 HG0 hc1 ho1
  go_wp2
  go_loopw [3, 4] (fun s q wr => ∃ (k N : Nat) (A3 : Option Addr) (c3 : Nat) (rs : List NR), N + k ≤ 7 ∧ 1 ≤ N ∧ q = .int .i64 k ∧ s = .slice A3 N c3 ∧ Hid (NRow wr w.heap.size wr.heap.size A3 N c3 rs) ∧ Hid (GoodL (rs.map NR.nv)) ∧ Hid (Zer (rs.map NR.nv)) ∧ Hid (IsCur wr c A n cap) ∧ Hid (w.grownBy wr (some c))) (fun _ q _ => (intOf q).toNat)
  case atStart => exact ⟨k0, 1, _, 1, _, by omega, Nat.le_refl _, rfl, rfl, HR1, Lib.hid good_first, Lib.hid zer_first, HC1, HG1⟩
  case round =>
    obtain ⟨k, N, A3, c3, rs, hk, hN, rfl, rfl, HR, HGD, HZ, HC, HG⟩ := hrel
    clear HR1 HC1 HG1
    cases k with
    | succ k =>
      have hk0' : decide ((0 : Int) < ((k + 1 : Nat) : Int)) = true := decide_eq_true (by omega)
      go_wp2_with fail
      refine (below_any B c A n cap (N : Int) _ (by omega) (by omega) hn hB HC.out (HBG.out _ HG.out)).mono ?_
      rintro e w2 ⟨y, rfl, hy0, hy1, hc2, ho2⟩
      obtain ⟨i, rfl⟩ : ∃ i : Nat, y = i := ⟨y.toNat, by omega⟩
      have hiN : i < N := by omega
      have HR2 := Lib.hid (nrow_only HR.out ho2 hcw)
      have HG2 := Lib.hid (show w.grownBy w2 (some c) from World.grownBy.trans HG.out (Mkp.only_grown ho2))
      have HC2 := Lib.hid hc2
      obtain ⟨xs, own, lies⟩ := HR2.out.1.1
      obtain ⟨g, rfl⟩ := own3_shape own (by omega)
      have hrl := HR2.out.2
      have hxl := own.1
      have hcell := (own.cellAt (i * 3 + 1) (by omega)).trans (lies_at lies (j := i) (d := 1) (by omega) (by omega))
      change w2.cell? ⟨g, i * 3 + 1, none⟩ = some (rs.getD i nr0).sv at hcell
      have hrow := (HR2.out.1.2.1 i (by omega)).1
      have HLT := Lib.hid ((own.lt g rfl))
      have hLl : (rs.map NR.nv).length = N := by rw [List.length_map]; exact hrl
      have HPUSH := Lib.hid (fun (g2 c2 : Nat) (W2 : World) => nrow_push (W2 := W2) HR2.out hiN (g2 := g2) (c2 := c2) (x := (N : Int)))
      have HGROW := Lib.hid (GoodL.grow HGD.out HZ.out (by rw [hLl]; omega) (i := i) (by rw [hLl]; exact hiN) (rs.getD i nr0).say)
      rw [hLl] at HGROW
      obtain ⟨r, hr⟩ : ∃ r, r = rs.getD i nr0 := ⟨_, rfl⟩
      have hnxr : nx (rs.map NR.nv) i = r.zs := by
        rw [hr]; exact (nv_at (L := rs.map NR.nv) rfl i).1.symm
      have hfir : r.fin = 0 := by
        rw [hr, (nv_at (L := rs.map NR.nv) rfl i).2]
        exact HZ.out i (by rw [hLl]; exact hiN)
      rw [← hr] at hcell hrow HPUSH HGROW
      rw [hnxr] at HGROW
      have HFI := Lib.hid hfir
      have HRW := Lib.hid hrow
      have hrlen : r.zs.length ≤ 7 := by
        have h1 := nsum_mem (L := rs.map NR.nv) (v := (rs.getD i nr0).nv) (List.mem_map.2 ⟨_, by rw [List.getD_eq_getElem?_getD, List.getElem?_eq_getElem (by omega)]; exact List.getElem_mem _, rfl⟩)
        have h2 := HGD.out.few
        rw [hLl] at h2
        rw [hr]
        have h3 : (rs.getD i nr0).nv.next.length = (rs.getD i nr0).zs.length := rfl
        omega
      unfold NR.sv at hcell HRW
      obtain ⟨m, hm⟩ : ∃ m, m = r.zs.length := ⟨_, rfl⟩
      rw [← hm] at hcell HRW HPUSH hrlen
      have HM := Lib.hid hm
      have hsw := HG2.out.size
      clear hm hr hc2 ho2 own lies hxl hrow hLl hnxr hfir HGD HZ HC HG HR
      go_wp2_with (first | (at_builtin; refine app_at rfl (.tmp 26) (.tmp 29) 26 rfl w.heap.size 3 j0 (.int .i64 0) 8 Try.underlying26 ji jz0 jz1 jz2 (by decide) rfl r.A r.c m _ rfl HRW.out (.int .i64 (N : Int)) rfl _ rfl rfl (by omega) hsw ?_; intro g2 c2 w4 ho4 hg4 hp4; obtain ⟨hpu, hgs, hfr4, hcl4⟩ := HPUSH.out g2 c2 w4 hg4 ho4 hp4; have HPU := Lib.hid hpu; have HGS := Lib.hid hgs; have HG4 := Lib.hid hg4; unfold NR.sv at hcl4; obtain ⟨xs5, own5, lies5⟩ := hpu.1.1; have HOWN5 := Lib.hid own5; have HLIES5 := Lib.hid lies5; have hs5 := (show w.heap.size ≤ (w4.setCell ⟨g, i * 3 + 1, none⟩ (.slice (some ⟨g2, 0, none⟩) (m + 1) c2)).heap.size from Nat.le_trans hsw (Nat.le_trans hg4.size hgs.size)); clear ho4 hpu hgs hg4 hp4 own5 lies5) | (at_builtin; refine Wid.app_wide rfl (.tmp 33) (.tmp 35) 23 rfl w.heap.size 37 i0 _ 3 48 Try.underlying23 hi hz0 hz1 hz2 (by omega) rfl (by omega) (some ⟨g, 0, none⟩) c3 N _ rfl HOWN5.out #[.string ⟨#[]⟩, .slice none 0 0, .int .i64 0] rfl (by simp [Value.oneCell']) _ rfl (by first | rfl | simp) (by omega) hs5 ?_; intro g6 c6 w6 ho6 hg6; have HO6 := Lib.hid ho6; have HG6 := Lib.hid hg6; clear ho6 hg6))
      have HR6 := Lib.hid (NRow.app HPU.out HOWN5.out HLIES5.out HO6.out HG6.out)
      have hrn : ∀ b, r.A.map (·.block) = some b → w.heap.size ≤ b := fun b hb => (own_lo HRW.out b hb).1
      have hgl := HLT.out.1
      have HG7 := Lib.hid (Mkp.keep_more (Mkp.keep_more (Mkp.keep_more HG2.out HG4.out (fun b hb => Or.inl (hrn b hb))) HGS.out (fun b hb => by simp only [Option.some.injEq] at hb; omega)) HG6.out (fun b hb => by simp only [Option.map_some, Option.some.injEq] at hb; omega))
      have HC7 := Lib.hid (Mkp.cur_grown (Mkp.cur_grown (Mkp.cur_grown HC2.out HG4.out (fun e => by have := hrn c e; omega)) HGS.out (fun e => by simp only [Option.some.injEq] at e; omega)) HG6.out (fun e => by simp only [Option.map_some, Option.some.injEq] at e; omega))
      have hmap : (rs.set i ⟨r.say, some ⟨g2, 0, none⟩, c2, r.zs ++ [(N : Int)], r.fin⟩ ++ [(⟨⟨#[]⟩, none, 0, [], 0⟩ : NR)]).map NR.nv = (rs.map NR.nv).set i ⟨r.say, r.zs ++ [(N : Int)], 0⟩ ++ [⟨ByteArray.empty, [], 0⟩] := by
        rw [List.map_append, List.map_set]
        show (rs.map NR.nv).set i ⟨r.say, r.zs ++ [(N : Int)], r.fin⟩ ++ _ = _
        rw [HFI.out]
        rfl
      have HMP := Lib.hid hmap
      clear hmap hrn hgl
      go_roundw
      case rel => exact ⟨k, N + 1, _, _, _, by omega, by omega, by go_num, rfl, HR6, Lib.hid (by rw [HMP.out]; exact HGROW.out.1), Lib.hid (by rw [HMP.out]; exact HGROW.out.2), HC7, HG7⟩
      case measure => simp [intOf]
    | zero =>
      obtain ⟨xs, own, lies⟩ := HR.out.1.1
      obtain ⟨g, rfl⟩ := own3_shape own (by omega)
      have hgl := own.lt g rfl
      clear own lies
      go_wp2_with fail
      refine (below_any B c A n cap 3 _ (by omega) (by omega) hn hB HC.out (HBG.out _ HG.out)).mono ?_
      rintro e w2 ⟨y, rfl, hy0, hy1, hc2, ho2⟩
      have HR2 := Lib.hid (nrow_only HR.out ho2 hcw)
      have HG2 := Lib.hid (show w.grownBy w2 (some c) from World.grownBy.trans HG.out (Mkp.only_grown ho2))
      have HC2 := Lib.hid hc2
      have hgl0 := hgl.1
      clear hc2 ho2 HR HC HG HZ hgl
      go_wp2
      go_loopw [41] (fun q wx => ∃ (k : Nat) (ss : List NR), k ≤ N ∧ q = .int .i64 k ∧ Hid (NRow wx w.heap.size wx.heap.size (some ⟨g, 0, none⟩) N c3 ss) ∧ Hid (GoodL (ss.map NR.nv)) ∧ Hid (IsCur wx c A n cap) ∧ Hid (w.grownBy wx (some c))) (fun q _ => N - (intOf q).toNat)
      case atStart => exact ⟨0, rs, Nat.zero_le _, rfl, HR2, HGD, HC2, HG2⟩
      case round =>
        obtain ⟨k, ss, hkN, rfl, HR, HD, HC, HG⟩ := hrel
        clear HR2 HGD HC2 HG2
        by_cases hlt : k < N
        · have hbx := box_below wr (.cells #[.string ⟨#[97]⟩, .string ⟨#[98]⟩] 9)
          have HRV := Lib.hid (nrow_down HR.out hbx)
          have HCV := Lib.hid (HC.out.below hbx HC.out.lt)
          have HGV := Lib.hid (World.grownBy.trans HG.out (⟨hbx.os, hbx.tape, hbx.output, hbx.size, fun k hk _ => hbx.block k hk⟩ : wr.grownBy (wr.alloc (.cells #[.string ⟨#[97]⟩, .string ⟨#[98]⟩] 9)) (some c)))
          have HTC := Lib.hid (two_cells wr)
          have hcr : wr.heap.size ≠ c := by have := HC.out.lt; omega
          clear hbx
          go_wp2_with fail
          refine (str_any B c wr.heap.size A n cap 2 2 ssL _ (by omega) (by omega) rfl hn hB HCV.out (HBG.out _ HGV.out) hcr HTC.out).mono ?_
          rintro e w3 ⟨s, rfl, _, hc3, ho3⟩
          have hr3 := nrow_only HRV.out ho3 hcw
          have HG3 := Lib.hid (World.grownBy.trans HGV.out (Mkp.only_grown ho3))
          obtain ⟨r, hr⟩ : ∃ r, r = ss.getD k nr0 := ⟨_, rfl⟩
          have hss := hr3.2
          have hfin := fin_at HD.out (k := k) (by omega)
          obtain ⟨p1, p2, p3, p4, p5, p6, p7⟩ := put_step hr3 hlt HD.out 0 (by omega) ⟨s, r.A, r.c, r.zs, r.fin⟩ (by rw [hr]) (by rw [hr]) (by rw [hr]) (by rw [← hr]; exact comp_say r s) (by rw [hr]; exact hfin.1) (by rw [hr]; exact hfin.2)
          rw [← hr] at p5 hfin
          change w3.frozen? ⟨g, k * 3, none⟩ = false at p4
          change w3.cell? ⟨g, k * 3, none⟩ = some (.string r.say) at p5
          change (w3.setCell ⟨g, k * 3, none⟩ (.string s)).cell? ⟨g, k * 3 + 1, none⟩ = some (.slice r.A r.zs.length r.c) at p6
          have HR4 := Lib.hid p1
          have HD4 := Lib.hid p2
          have HG4 := Lib.hid (Mkp.keep_more HG3.out p3 (fun b hb => by simp only [Option.some.injEq] at hb; omega))
          have HC4 := Lib.hid (Mkp.cur_grown hc3 p3 (fun e => by simp only [Option.some.injEq] at e; omega))
          have HP7 := Lib.hid p7
          have HFN := Lib.hid hfin
          clear hr hss hfin p1 p2 p3 p7 hr3 hc3 ho3 HG3
          change Hid (NRow (w3.setCell ⟨g, k * 3, none⟩ (.string s)) w.heap.size (w3.setCell ⟨g, k * 3, none⟩ (.string s)).heap.size (some ⟨g, 0, none⟩) N c3 (ss.set k ⟨s, r.A, r.c, r.zs, r.fin⟩)) at HR4
          change Hid (IsCur (w3.setCell ⟨g, k * 3, none⟩ (.string s)) c A n cap) at HC4
          change Hid (w.grownBy (w3.setCell ⟨g, k * 3, none⟩ (.string s)) (some c)) at HG4
          generalize ss.set k ⟨s, r.A, r.c, r.zs, r.fin⟩ = s4 at *
          obtain ⟨V, hV⟩ : ∃ V, w3.setCell ⟨g, k * 3, none⟩ (.string s) = V := ⟨_, rfl⟩
          rw [hV] at HR4 HC4 HG4 p6
          obtain ⟨m, hm⟩ : ∃ m, m = r.zs.length := ⟨_, rfl⟩
          rw [← hm] at p6
          have HM := Lib.hid hm
          clear hm HR HD HC HG HRV HCV HGV HTC
          by_cases hm0 : m = 0
          · have hm0' : ((m : Int) == 0) = true := by rw [hm0]; rfl
            have hzn : r.zs = [] := List.length_eq_zero_iff.1 (by rw [← HM.out]; exact hm0)
            obtain ⟨p1, p2, p3, p4', p5', p6', p7⟩ := put_step HR4.out hlt HD4.out 2 (by omega) ⟨s, r.A, r.c, r.zs, y⟩ (by rw [HP7.out]) (by rw [HP7.out]) (by rw [HP7.out]) (by rw [HP7.out]; exact comp_fin ⟨s, r.A, r.c, r.zs, r.fin⟩ y) ⟨hy0, by show y ≤ 2; omega⟩ (fun h => absurd hzn h)
            rw [HP7.out] at p5'
            change V.cell? ⟨g, k * 3 + 2, none⟩ = some (.int .i64 r.fin) at p5'
            have HR5 := Lib.hid p1
            have HD5 := Lib.hid p2
            have HG5 := Lib.hid (Mkp.keep_more HG4.out p3 (fun b hb => by simp only [Option.some.injEq] at hb; omega))
            have HC5 := Lib.hid (Mkp.cur_grown HC4.out p3 (fun e => by simp only [Option.some.injEq] at e; omega))
            have HP5 := Lib.hid p7
            have HZN := Lib.hid hzn
            clear p1 p2 p3 p6' p7 hm0 hzn HR4 HD4 HG4 HC4 HP7
            generalize s4.set k ⟨s, r.A, r.c, r.zs, y⟩ = s5 at *
            change Hid (NRow (V.setCell ⟨g, k * 3 + 2, none⟩ (.int .i64 y)) w.heap.size (V.setCell ⟨g, k * 3 + 2, none⟩ (.int .i64 y)).heap.size (some ⟨g, 0, none⟩) N c3 s5) at HR5
            change Hid (IsCur (V.setCell ⟨g, k * 3 + 2, none⟩ (.int .i64 y)) c A n cap) at HC5
            change Hid (w.grownBy (V.setCell ⟨g, k * 3 + 2, none⟩ (.int .i64 y)) (some c)) at HG5
            go_wp2_with fail
            refine (once_any B c A n cap 6 _ (by omega) (by omega) hn hB HC5.out (HBG.out _ HG5.out)).mono ?_
            rintro e w6 ⟨b, rfl, hc6, ho6⟩
            have HR6 := Lib.hid (nrow_only HR5.out ho6 hcw)
            have HG6 := Lib.hid (World.grownBy.trans HG5.out (Mkp.only_grown ho6))
            have HC6 := Lib.hid hc6
            clear hc6 ho6 HR5 HG5 HC5
            cases b with
            | false =>
              go_wp2
              go_roundw
              case rel => exact ⟨k + 1, s5, by omega, by go_num, HR6, HD5, HC6, HG6⟩
              case measure => simp [intOf]; omega
            | true =>
              go_wp2_with fail
              refine (below_any B c A n cap 3 _ (by omega) (by omega) hn hB HC6.out (HBG.out _ HG6.out)).mono ?_
              rintro e w7 ⟨z, rfl, hz0', hz1', hc7, ho7⟩
              have HR7 := Lib.hid (nrow_only HR6.out ho7 hcw)
              have HG7 := Lib.hid (World.grownBy.trans HG6.out (Mkp.only_grown ho7))
              obtain ⟨p1, p2, p3, p4', p5', p6', p7⟩ := put_step HR7.out hlt HD5.out 2 (by omega) ⟨s, r.A, r.c, r.zs, z⟩ (by rw [HP5.out]) (by rw [HP5.out]) (by rw [HP5.out]) (by rw [HP5.out]; exact comp_fin ⟨s, r.A, r.c, r.zs, y⟩ z) ⟨hz0', by show z ≤ 2; omega⟩ (fun h => absurd HZN.out h)
              rw [HP5.out] at p5'
              change w7.cell? ⟨g, k * 3 + 2, none⟩ = some (.int .i64 y) at p5'
              have HR8 := Lib.hid p1
              have HD8 := Lib.hid p2
              have HG8 := Lib.hid (Mkp.keep_more HG7.out p3 (fun b hb => by simp only [Option.some.injEq] at hb; omega))
              have HC8 := Lib.hid (Mkp.cur_grown hc7 p3 (fun e => by simp only [Option.some.injEq] at e; omega))
              clear p1 p2 p3 p6' p7 hc7 ho7 HR6 HG6 HC6 HR7 HG7 HD5 HP5
              generalize s5.set k ⟨s, r.A, r.c, r.zs, z⟩ = s8 at *
              go_wp2
              go_roundw
              case rel => exact ⟨k + 1, s8, by omega, by go_num, HR8, HD8, HC8, HG8⟩
              case measure => simp [intOf]; omega
          · have hm0' : ((m : Int) == 0) = false := by simpa using hm0
            go_wp2
            go_roundw
            case rel => exact ⟨k + 1, s4, by omega, by go_num, HR4, HD4, HC4, HG4⟩
            case measure => simp [intOf]; omega
        · go_wp2
          go_ret
          exact ⟨_, _, _, ss, rfl, HR.out, HD.out, HG.out⟩
def ForceMade (w : World) (e : Ending) (w' : World) : Prop :=
  ∃ A2 N c2 rs, e = .returned (.slice A2 N c2) ∧ NRow w' w.heap.size w'.heap.size A2 N c2 rs ∧ GoodL (rs.map NR.nv) ∧ Below w.heap.size w w'
theorem make_force (A : Option Addr) (n cap : Nat) (w : World) (hn : n ≤ 1048576) (hbytes : BytesAt w w.heap.size A n) :
    Calls Try.prog 13 #[.slice A n cap] w (ForceMade w) := by
  go_enter Try.func13, Try.ntmps13
  go_wp2_with fail
  refine (new_any A n cap _ hn hbytes).mono ?_
  rintro e w1 ⟨c, rfl, hwc, hcur, hb1⟩
  have hby := hbytes.below hb1
  have hsz := hb1.size
  go_wp2_with fail
  refine (draw_any w.heap.size c A n cap _ hn hwc hcur hby).mono ?_
  rintro e w2 ⟨A2, N, c2, rs, rfl, hr, hg, hgr⟩
  have HB := Lib.hid (hb1.grown hgr hsz (fun k hk => by simp only [Option.some.injEq] at hk; omega))
  have HR := Lib.hid (nrow_low hr hsz)
  have HG := Lib.hid hg
  clear hr hg hgr
  go_wp2
  go_ret
  exact ⟨A2, N, c2, rs, rfl, HR.out, HG.out, HB.out⟩
end Go.Proofs.Ytjmfdflhplobmaa.Fdw
