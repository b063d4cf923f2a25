/- treeOf of the program: a valid force as a tree of pointers. -/
import Derived.Test.YtjmfdflhplobmaaTrs
import Derived.Test.YtjmfdflhplobmaaTrn
set_option linter.unusedVariables false
set_option maxRecDepth 20000
namespace Go.Proofs.Ytjmfdflhplobmaa.Tre
open Go.Deep Go.RowKit Go.Shelf Fr _root_.Go.Proofs.Ytjmfdflhplobmaa.Own Pk Ins Rws Rfn Rfw Fpl Nod Nob Tbk Tcf Fok Trs Trn

attribute [local go_sem] Oper.semAt_some

def IsTree (L : List NV) (B : Nat) (w : World) (e : Ending) (w' : World) : Prop :=
  Below B w w' ∧ ((¬ OkF L ∧ e = .returned (.pointer none)) ∨ (OkF L ∧ ∃ tp : Nat → Nat, e = .returned (.pointer (some ⟨tp 0, 0, none⟩)) ∧ ∀ i, i < L.length → TreeAt w' B L tp i))
set_option maxHeartbeats 4000000 in
set_option maxRecDepth 100000 in
theorem tree_any (A : Option Addr) (n c : Nat) (rs : List NR) (L : List NV) (w : World) (hz : rs.map NR.nv = L) (hn : rs.length = n) (hnc : n ≤ c) (hfit : FitN L) (hbig : BigN L) (hat : NodesAt w w.heap.size A rs) :
    Calls Try.prog 47 #[.slice A n c] w (IsTree L w.heap.size w) := by
  refine (callsIn_wide (n := 8)).1 (callsIn_of_wp_marks Try.func47 rfl trivial ?_ rfl)
  simp only [Try.ntmps47, List.size_toArray, List.length_cons, List.length_nil, Nat.reduceAdd, Nat.reduceSub, Array.replicate_succ, Array.replicate_zero, List.push_toArray, List.append_toArray, List.nil_append, List.cons_append]
  refine wpIn_wide.2 ?_
  have hl : L.length = n := by rw [← hz, List.length_map]; exact hn
  have hn2 : n ≤ 1048576 := by unfold BigN at hbig; omega
  have HL := Lib.hid hl
  have HN := Lib.hid hn
  have HZ := Lib.hid (fun j => nv_at hz j)
  have HF := Lib.hid (fit_at hfit)
  have HX := Lib.hid (nx_small hbig)
  have HAT := Lib.hid hat
  clear hl hn hz hfit hbig hat
  have h0 := (Below.refl w.heap.size w).alloc (Nat.le_refl _) (.cells #[.pointer none] 59)
  have hr0 := heap_alloc_new w (.cells #[.pointer none] 59)
  by_cases hn0 : n = 0
  · subst hn0
    have HNO := Lib.hid (show ¬ OkF L from fun ok => by have h1 := ok.pos; rw [HL.out] at h1; omega)
    have HB := Lib.hid (h0.setCell (p := ⟨w.heap.size, 0, none⟩) (Nat.le_refl _) (.pointer none))
    have HR := Lib.hid (heap_setCell_same _ w.heap.size 0 _ _ (.pointer none) hr0)
    go_wp2
    refine leave_marks (B := w.heap.size) [] _ List.nodup_nil (fun E hE => by cases hE) fun W' hg => ?_
    refine ⟨_, results_cell1 rfl _ rfl (load_p (grw_heap hg ?_)), ?_, Or.inl ⟨HNO.out, rfl⟩⟩
    · first | exact HR.out | exact hr0
    · first | exact grw_below hg HB.out | exact grw_below hg h0
  · have hn0' : ((n : Int) == 0) = false := by simpa using hn0
    by_cases hn4 : (40 : Int) < (n : Int)
    · have HNO := Lib.hid (show ¬ OkF L from fun ok => by have h1 := ok.small; rw [HL.out] at h1; omega)
      have HB := Lib.hid (h0.setCell (p := ⟨w.heap.size, 0, none⟩) (Nat.le_refl _) (.pointer none))
      have HR := Lib.hid (heap_setCell_same _ w.heap.size 0 _ _ (.pointer none) hr0)
      go_wp2
      refine leave_marks (B := w.heap.size) [] _ List.nodup_nil (fun E hE => by cases hE) fun W' hg => ?_
      refine ⟨_, results_cell1 rfl _ rfl (load_p (grw_heap hg ?_)), ?_, Or.inl ⟨HNO.out, rfl⟩⟩
      · first | exact HR.out | exact hr0
      · first | exact grw_below hg HB.out | exact grw_below hg h0
    · have hn4' : decide ((40 : Int) < (n : Int)) = false := decide_eq_false hn4
      have hn40 : n ≤ 40 := by omega
      obtain ⟨i0, hi, hz0, hz1, hz2⟩ : ∃ i, Try.prog.info? 59 = some i ∧ i.zero = some (.pointer none) ∧ i.size = 1 ∧ i.bytes = 8 := by
        have h : (Try.prog.info? 59).map (fun i => (i.zero, i.size, i.bytes)) = some (some (.pointer none), 1, 8) := by kernel_rfl
        cases hi : Try.prog.info? 59 with
        | none => rw [hi] at h; cases h
        | some i =>
          rw [hi] at h
          simp only [Option.map_some, Option.some.injEq, Prod.mk.injEq] at h
          exact ⟨i, rfl, h.1, h.2.1, h.2.2⟩
      obtain ⟨W0, hW0⟩ : ∃ W0, w.alloc (.cells #[.pointer none] 59) = W0 := ⟨_, rfl⟩
      have hs0 : w.heap.size < W0.heap.size := by rw [← hW0]; simp
      rw [hW0] at h0 hr0
      obtain ⟨b, o, hA, _⟩ := HAT.out 0 (by rw [HN.out]; omega)
      subst hA
      go_wp2_with (refine wpList_make_full _ rfl (.tmp 18) (.tmp 18) 65 rfl w.heap.size 59 i0 (.pointer none) 1 Try.underlying65 hi hz0 hz1 .i64 .i64 n n n rfl rfl rfl rfl (by rw [hz2]; omega) (by unfold maxLen; omega) (Nat.le_of_lt hs0) ?_)
      intro w1 hown hgrow
      obtain ⟨r1, hr1⟩ : ∃ r1, r1 = W0.heap.size := ⟨_, rfl⟩
      have hown0 : w1.ownsRow w.heap.size 59 1 (.slice (some ⟨r1, 0, none⟩) n n) n (frow n (fun _ => 0) n (low L n)) := by
        have e : (madeCells #[Value.pointer none] n).toList = List.replicate n (.pointer none) := by
          rw [toList_madeCells_one]
        have e2 : frow n (fun _ => 0) n (low L n) = List.replicate n (.pointer none) := by
          refine List.ext_getElem (by simp [frow]) fun i h1 h2 => ?_
          have hi : i < n := by simpa using h2
          simp only [frow, List.getElem_map, List.getElem_range, List.getElem_replicate]
          unfold fP
          rw [if_neg (by omega)]
        rw [e2, ← e, hr1]
        simpa using hown
      have hb1 : Below w.heap.size w w1 := h0.grown hgrow (by omega) (fun k hk => by cases hk)
      have hres1 := (hgrow.block w.heap.size (by omega) (by simp)).trans hr0
      have hr1w := (hown0.lt r1 rfl).2
      rw [← hr1] at hs0 ⊢
      clear hown hgrow hW0 h0 hr0 hr1
      obtain ⟨hest, hsz3⟩ := est_start (c := c) (b := b) (o := o) (L := L) hb1 hres1 hown0
      have hr12 : w.heap.size < w1.heap.size := by have := (Array.getElem?_eq_some_iff.1 hres1).1; exact this
      have HE0 := Lib.hid hest
      have HSZ := Lib.hid hsz3
      clear hest hsz3 hown0 hb1 hres1
      go_wp2_with fail
      refine (back_any (some ⟨b, o, none⟩) n c _).mono ?_
      rintro e w2 ⟨rfl, hw2⟩
      go_wp2_with fail
      rw [hw2] at HE0 HSZ
      clear hw2
      have hbs : (w1.alloc (.cells #[.slice (some ⟨r1, 0, none⟩) n n] 65)).heap.size = w1.heap.size + 1 := by simp
      (try rw [hbs])
      clear hbs
      generalize w1.heap.size = r2 at *
      have HIT := Lib.hid (back_iter (r2 + 1) b o n c w.heap.size rs HN.out (by omega))
      refine wp_rangeU (gf := 77) rfl back_ent HIT.out (fun k hk => by rw [bkVs_len] at hk; rw [bkVs_get hk]; rfl)
        (fun j W => ∃ tp, Est w r1 r2 n c b o L tp (n - j) W ∧ PreHi L (n - j))
        (fun cc W => cc = .ret ∧ LeftW w L r2 W)
        (fun k W h => ⟨h.choose_spec.1.cap, HAT.out.below h.choose_spec.1.low⟩)
        (fun k W W' h hg => by
          obtain ⟨tp, h1, h2⟩ := h
          rw [HSZ.out] at hg
          exact ⟨tp, h1.grw hg (by omega) h1.sz, h2⟩)
        (fun cc W W' h hg => by
          rw [HSZ.out] at hg
          exact ⟨h.1, h.2.grw hg (by omega) (Nat.le_refl _)⟩)
        ⟨_, by rw [Nat.sub_zero]; exact HE0.out, by rw [Nat.sub_zero]; exact ⟨by rw [low_end (by rw [HL.out]; exact Nat.le_refl _)]; exact List.nodup_nil, fun j h1 h2 => by rw [HL.out] at h2; omega⟩⟩
        updT cxN 37 ?assign ?body ?done ?stop
      case assign =>
        intro l k W1 K hk hK
        rw [bkVs_len] at hk
        rw [bkVs_get hk] at hK ⊢
        unfold bkV nodV at hK ⊢
        gi_wp2
        exact hK _ _ ⟨rfl, rfl, rfl, by simp, fun k hk _ => (Below.heap_alloc _ _ _ hk)⟩ (Nat.le_refl _) (heap_alloc_new W1 _)
      case body =>
        intro l k W0 W bn hk hI hg0 hs0 hbn hcx
        obtain ⟨tp, hE0, hP⟩ := hI
        rw [bkVs_len] at hk
        rw [HSZ.out] at hg0 hs0
        rw [HSZ.out]
        rw [bkVs_get hk] at hcx ⊢
        obtain ⟨i, hi'⟩ : ∃ i, i = n - 1 - k := ⟨_, rfl⟩
        unfold bkV cxN nodV updT at *
        rw [← hi'] at hcx ⊢
        rw [show n - k = i + 1 by omega] at hE0 hP
        rw [show n - (k + 1) = i by omega]
        have hE := hE0.grw hg0 (by omega) hE0.sz
        have hin : i < n := by omega
        obtain ⟨z1, z2⟩ := HZ.out i
        rw [z1, z2] at hcx ⊢
        clear hi' hk hg0 hs0 hE0
        replace hcx : W.heap[bn]? = some (.cells #[.string (rs.getD i nr0).say, .slice (rs.getD i nr0).A (nx L i).length (rs.getD i nr0).c, .int .i64 (fi L i)] 37 (0, 0)) := hcx
        have hi4 : IntsAt w w.heap.size .i64 (rs.getD i nr0).A (nx L i) := by
          obtain ⟨_, _, _, _, _, _, _, h⟩ := HAT.out i (by rw [HN.out]; exact hin)
          rwa [z1] at h
        generalize (rs.getD i nr0).A = A1 at *
        generalize (rs.getD i nr0).c = c1 at *
        generalize (rs.getD i nr0).say = s1 at *
        clear z1 z2
        have hil : i < L.length := by rw [HL.out]; exact hin
        have HBAD := Lib.hid (fun h => pre_bad hil h)
        have HDUP := Lib.hid (fun t (ht : t < (nx L i).length) => dup_bad (L := L) (i := i) (t := t) hil ht)
        have hfk := (HF.out i).1
        have hxk := HX.out i
        have HIW := Lib.hid hi4
        have HE := Lib.hid hE
        have HP := Lib.hid hP
        have HCX := Lib.hid hcx
        obtain ⟨m, hm⟩ : ∃ m, m = (nx L i).length := ⟨_, rfl⟩
        obtain ⟨fin, hfin⟩ : ∃ fin, fin = fi L i := ⟨_, rfl⟩
        have HM := Lib.hid hm
        have HFIN := Lib.hid hfin
        rw [← hm] at hxk hcx ⊢
        rw [← hfin] at hcx ⊢
        obtain ⟨t0, t1, t2⟩ := cell3 hcx
        obtain ⟨k0, k1⟩ := box_cell hE.res
        have hdl := fun hno => left_store (L := L) hE.low hE.res hno hE.sz hr12
        have HDL := Lib.hid hdl
        clear hm hfin hcx hE hP hi4 hdl
        by_cases hf0 : fin < 0
        · obtain ⟨d1, d2⟩ := HDL.out (HBAD.out (Or.inr (Or.inl (by rw [← HFIN.out]; exact hf0))))
          have D1 := Lib.hid d1
          have D2 := Lib.hid d2
          clear d1 d2
          gi_wp2
          all_goals first | exact ⟨D2.out, rfl, D1.out⟩ | (rename_i hx _; exact absurd hx (by simp [undef]))
        · have hf0' : decide (fin < 0) = false := decide_eq_false hf0
          by_cases hfm : 0 < fin ∧ 0 < m
          · obtain ⟨hfp, hmp⟩ := hfm
            obtain ⟨d1, d2⟩ := HDL.out (HBAD.out (Or.inr (Or.inr ⟨fun e => by rw [e] at HM; have := HM.out; simp at this; omega, by rw [← HFIN.out]; omega⟩)))
            have D1 := Lib.hid d1
            have D2 := Lib.hid d2
            clear d1 d2
            gi_wp2
            all_goals first | exact ⟨D2.out, rfl, D1.out⟩ | (rename_i hx _; exact absurd hx (by simp [undef]))
          · have HFOK := Lib.hid (show 0 ≤ fi L i ∧ (nx L i ≠ [] → fi L i = 0) from ⟨by rw [← HFIN.out]; omega, fun h => by
              have := List.length_pos_iff.2 h
              rw [← HM.out] at this
              rw [← HFIN.out]
              omega⟩)
            have hst := Ist.start HE.out
            rw [← HFIN.out] at hst
            have HST := Lib.hid hst
            obtain ⟨tb, htb⟩ : ∃ tb, tb = W.heap.size := ⟨_, rfl⟩
            have hbt := box_below W (.cells #[.int .i64 (i : Int), .int .i64 fin, .slice none 0 0] 67)
            have HTB := Lib.hid htb
            obtain ⟨u0, u1, u2⟩ := cell3 ((hbt.block bn (Array.getElem?_eq_some_iff.1 HCX.out).1).trans HCX.out)
            rw [← HM.out] at u1
            rw [← HFIN.out] at u2
            clear hst hbt k0 k1
            gi_upto_region 7 with fail
            go_simp
            gi_cut [37] from 24 (fun s37 wx => s37 = .bool false ∧ W = wx)
            case first =>
              by_cases hfp : 0 < fin
              · have hmz : m = 0 := by omega
                have hmz' : decide ((0 : Int) < (m : Int)) = false := decide_eq_false (by omega)
                have hmz2 : decide (0 < m) = false := decide_eq_false (by omega)
                clear hmz
                gi_wp2
                gi_meet
                exact ⟨rfl, rfl⟩
              · have hfp' : decide (0 < fin) = false := decide_eq_false hfp
                gi_wp2
                gi_meet
                exact ⟨rfl, rfl⟩
            case rest =>
            obtain ⟨rfl, rfl⟩ := hcut
            gi_wp2
            generalize W.alloc _ = WT at *
            rw [← htb] at HST ⊢
            clear t0 t1 t2 u0 u1 u2 htb hfm hf0' hf0
            gi_loopw [46] (fun q wr => ∃ (t : Nat) (A6 : Option Addr) (c6 : Nat), t ≤ m ∧ q = .int .i64 t ∧ Hid (Ist w W r1 n L tp i tb t A6 c6 wr) ∧ Hid (∀ x ∈ (nx L i).take t, (i : Int) < x ∧ x < L.length) ∧ Hid ((nx L i).take t ++ low L (i + 1)).Nodup) (fun q _ => m - (intOf q).toNat)
            case atStart => exact ⟨0, none, 0, Nat.zero_le _, rfl, HST, Lib.hid (fun x hx => by cases hx), Lib.hid HP.out.1⟩
            case round =>
              obtain ⟨t, A6, c6, ht, rfl, HIS, HA, HND⟩ := hrel
              clear HST
              have hg := HIS.out.grown
              have hsz := HE.out.sz
              have hsz2 := hg.size
              have hlo : Below w.heap.size w wr := HE.out.low.grown hg (by omega) (fun k hk => by simp only [Option.some.injEq] at hk; omega)
              have hresr := (hg.block w.heap.size (by omega) (by simp; omega)).trans HE.out.res
              have hboxr := (hg.block r2 (by omega) (by simp; omega)).trans HE.out.box
              have hkf : KeepsFrom (r2 + 2) W wr := KeepsFrom.of_grownBy hg (fun k hk => by simp only [Option.some.injEq] at hk; omega)
              obtain ⟨x0, x1⟩ := box_cell hboxr
              have HDR := Lib.hid (fun hno => left_store (L := L) hlo hresr hno (by omega) hr12)
              have HKF := Lib.hid hkf
              have HLO := Lib.hid hlo
              have HRES := Lib.hid hresr
              clear hg hlo hresr hkf
              by_cases hlt : t < m
              · obtain ⟨b3, o3, rfl, hb3, hc3⟩ := (HIW.out.below HLO.out) t (by rw [← HM.out]; exact hlt)
                obtain ⟨hx1, hx2⟩ := hfk t (by rw [← HM.out]; exact hlt)
                have HTK := Lib.hid (show (nx L i).take (t + 1) = (nx L i).take t ++ [(nx L i).getD t 0] by
                  rw [List.take_succ_eq_append_getElem (by rw [← HM.out]; exact hlt), List.getD_eq_getElem?_getD, List.getElem?_eq_getElem (by rw [← HM.out]; exact hlt)]
                  rfl)
                have HDP := Lib.hid (HDUP.out t (by rw [← HM.out]; exact hlt))
                have HMEM := Lib.hid (show (nx L i).getD t 0 ∈ nx L i by
                  rw [List.getD_eq_getElem?_getD, List.getElem?_eq_getElem (by rw [← HM.out]; exact hlt)]
                  exact List.getElem_mem _)
                generalize (nx L i).getD t 0 = x at *
                by_cases hx0 : x < 0
                · obtain ⟨d1, d2⟩ := HDR.out (HBAD.out (Or.inl ⟨x, HMEM.out, by omega⟩))
                  have D1 := Lib.hid d1
                  have D2 := Lib.hid (HKF.out.trans d2)
                  obtain ⟨k0, k1⟩ := box_cell HRES.out
                  clear d1 d2
                  gi_wp2
                  all_goals first | exact ⟨D2.out, rfl, D1.out⟩ | (rename_i hx _; exact absurd hx (by simp [undef]))
                · have hx0' : decide (x < 0) = false := decide_eq_false hx0
                  obtain ⟨y, rfl⟩ : ∃ y : Nat, x = (y : Int) := ⟨x.toNat, by omega⟩
                  by_cases hyn : y < n
                  · have hyn' : decide ((n : Int) ≤ (y : Int)) = false := decide_eq_false (by omega)
                    have hcell : wr.cell? ⟨r1, y, none⟩ = some (.pointer (fP tp (i + 1) ((nx L i).take t ++ low L (i + 1)) y)) := by
                      have := HIS.out.row
                      rw [this.cellAt y (by omega)]
                      exact frow_get tp _ _ hyn
                    by_cases hp : i + 1 ≤ y ∧ ¬ (y : Int) ∈ (nx L i).take t ++ low L (i + 1)
                    · have hfp : fP tp (i + 1) ((nx L i).take t ++ low L (i + 1)) y = some ⟨tp y, 0, none⟩ := if_pos hp
                      rw [hfp] at hcell
                      obtain ⟨g, c', W5, hrun, ho5, hg5⟩ := app_run (p := some ⟨tp y, 0, none⟩) HIS.out.kid (by omega) (by omega)
                      obtain ⟨i7, t5, r6, g6⟩ := HIS.out.step (by omega) (by rw [HTB.out]; exact Nat.le_refl _) hyn HTK.out ho5 hg5
                      have ktb := (cell3 HIS.out.tre).2.2
                      have ktbA := ((box_below wr (.cells #[.pointer (some ⟨tp y, 0, none⟩)] 59)).cell (p := ⟨tb, 2, none⟩) (Array.getElem?_eq_some_iff.1 HIS.out.tre).1).trans ktb
                      have ktb5 := (cell3 t5).2.2
                      have ftb5 := frz t5 2
                      have kbx6 := (box_cell ((g6.block r2 (by omega) (by simp; omega)).trans HE.out.box)).1
                      have kr6 : (W5.setCell ⟨tb, 2, none⟩ (.slice (some ⟨g, 0, none⟩) (t + 1) c')).cell? ⟨r1, y, none⟩ = some (.pointer (some ⟨tp y, 0, none⟩)) := by
                        rw [r6.cellAt y (by omega), frow_get tp _ _ hyn, hfp]
                      have fr6 := r6.frozenAt y
                      have HI7 := Lib.hid i7
                      have HA7 := Lib.hid (show ∀ x ∈ (nx L i).take (t + 1), (i : Int) < x ∧ x < L.length from fun x hx => by
                        rw [HTK.out] at hx
                        rcases List.mem_append.1 hx with hx | hx
                        · exact HA.out x hx
                        · simp at hx; subst hx; rw [HL.out]; omega)
                      have HN7 := Lib.hid (show ((nx L i).take (t + 1) ++ low L (i + 1)).Nodup by
                        rw [HTK.out, List.append_assoc]
                        have h1 := List.nodup_append.1 HND.out
                        have h2 : ¬ (y : Int) ∈ (nx L i).take t := fun h => hp.2 (List.mem_append_left _ h)
                        have h3 : ¬ (y : Int) ∈ low L (i + 1) := fun h => hp.2 (List.mem_append_right _ h)
                        rw [List.nodup_append]
                        refine ⟨h1.1, ?_, ?_⟩
                        · rw [List.singleton_append, List.nodup_cons]
                          exact ⟨h3, h1.2.1⟩
                        · intro a ha b hb e
                          rcases List.mem_append.1 hb with hb | hb
                          · simp at hb; subst hb; subst e; exact h2 ha
                          · exact h1.2.2 a ha b hb e)
                      clear hp hfp i7 t5 r6 g6 ho5 hg5 HIS HA HND HTK HDP HMEM HDR HRES hboxr
                      gi_upto_region 15 with fail
                      refine region_in (by kernel_rfl) (tame_all ?tame) ?_
                      case tame => repeat' (first | exact tame_none | (refine tame_cons ?_ ?_) | exact tame_move rfl | exact tame_load rfl | exact tame_store rfl | exact tame_field rfl | exact tame_index rfl | exact tame_slice rfl | exact tame_nil rfl | exact tame_app rfl)
                      refine wpAnyIn_take (i := 0) (v := ?_) rfl rfl (by kernel_rfl) (by kernel_rfl) (by kernel_rfl) (fun _ _ _ h => h) ⟨Or.inl ⟨by rfl, ?_⟩, fun _ => rfl⟩ ?_
                      rotate_left
                      · (intro w; go_simp; (try with_reducible rfl))
                      refine wpAnyIn_take (i := 1) (v := ?_) rfl rfl (by kernel_rfl) (by kernel_rfl) (by kernel_rfl) (fun _ _ _ h => h) ⟨Or.inl ⟨by rfl, ?_⟩, fun _ => rfl⟩ ?_
                      rotate_left
                      · (intro w; go_simp; (try with_reducible rfl))
                      refine wpAnyIn_take (i := 2) (v := ?_) rfl rfl (by kernel_rfl) (by kernel_rfl) (by kernel_rfl) (fun _ _ _ h => h) ⟨Or.inl ⟨by rfl, ?_⟩, fun _ => rfl⟩ ?_
                      rotate_left
                      · (intro w; go_simp; (try with_reducible rfl))
                      refine wpAnyIn_take (i := 3) (v := ?_) rfl rfl (by kernel_rfl) (by kernel_rfl) (by kernel_rfl) (fun _ _ _ h => h) ⟨Or.inl ⟨by rfl, ?_⟩, fun _ => rfl⟩ ?_
                      rotate_left
                      · (intro w; go_simp; (try with_reducible rfl))
                      refine wpAnyIn_take (i := 6) (v := ?_) rfl rfl (by kernel_rfl) (by kernel_rfl) (by kernel_rfl) (fun _ _ _ h => h) ⟨Or.inl ⟨by rfl, ?_⟩, fun _ => rfl⟩ ?_
                      rotate_left
                      · (intro w; go_simp; (try with_reducible rfl))
                      refine wpAnyIn_ready (rs := [4, 5]) (by kernel_rfl) (by simp) ?_
                      refine (AllReadyIn.cons rfl (fun K hK => ?_) (AllReadyIn.cons rfl (fun K hK => ?_) AllReadyIn.nil))
                      · go_simp
                        refine hK _ _ ?_
                        clear hK K
                        refine wpAnyIn_ready (rs := [5]) (by kernel_rfl) (by simp) ?_
                        refine (AllReadyIn.cons rfl (fun K hK => ?_) AllReadyIn.nil)
                        go_simp
                        refine hK _ _ ?_
                        clear hK K
                        refine wpAnyIn_take (i := 7) (v := ?_) rfl rfl (by kernel_rfl) (by kernel_rfl) (by kernel_rfl) (fun _ _ _ h => h) ⟨Or.inl ⟨by rfl, ?_⟩, fun _ => rfl⟩ ?_
                        rotate_left
                        · (intro w; go_simp; (try with_reducible rfl))
                        refine wpAnyIn_ready (rs := [8]) (by kernel_rfl) (by simp) ?_
                        refine (AllReadyIn.cons rfl (fun K hK => ?_) AllReadyIn.nil)
                        go_simp
                        refine hK _ _ ?_
                        clear hK K
                        refine wpAnyIn_ready (rs := [9]) (by kernel_rfl) (by simp) ?_
                        refine (AllReadyIn.cons rfl (fun K hK => ?_) AllReadyIn.nil)
                        go_simp
                        refine hK _ _ ?_
                        clear hK K
                        refine wpAnyIn_ready (rs := [10]) (by kernel_rfl) (by simp) ?_
                        refine (AllReadyIn.cons rfl (fun K hK => ?_) AllReadyIn.nil)
                        refine step_run rfl rfl rfl rfl hrun ?_
                        go_simp
                        refine hK _ _ ?_
                        clear hK K
                        refine wpAnyIn_take (i := 11) (v := ?_) rfl rfl (by kernel_rfl) (by kernel_rfl) (by kernel_rfl) (fun _ _ _ h => h) ⟨Or.inl ⟨by rfl, ?_⟩, fun _ => rfl⟩ ?_
                        rotate_left
                        · (intro w; go_simp; (try with_reducible rfl))
                        refine wpAnyIn_take (i := 12) (v := ?_) rfl rfl (by kernel_rfl) (by kernel_rfl) (by kernel_rfl) (fun _ _ _ h => h) ⟨Or.inl ⟨by rfl, ?_⟩, fun _ => rfl⟩ ?_
                        rotate_left
                        · (intro w; go_simp; (try with_reducible rfl))
                        refine wpAnyIn_ready (rs := [13]) (by kernel_rfl) (by simp) ?_
                        refine (AllReadyIn.cons rfl (fun K hK => ?_) AllReadyIn.nil)
                        go_simp
                        refine hK _ _ ?_
                        clear hK K
                        refine wpAnyIn_done (by kernel_rfl) ?_ _
                        gi_wp2
                        go_roundw
                        case rel => exact ⟨t + 1, _, _, by omega, by go_num, HI7, HA7, HN7⟩
                        case measure => simp [intOf]; omega
                      · go_simp
                        refine hK _ _ ?_
                        clear hK K
                        refine wpAnyIn_take (i := 7) (v := ?_) rfl rfl (by kernel_rfl) (by kernel_rfl) (by kernel_rfl) (fun _ _ _ h => h) ⟨Or.inl ⟨by rfl, ?_⟩, fun _ => rfl⟩ ?_
                        rotate_left
                        · (intro w; go_simp; (try with_reducible rfl))
                        refine wpAnyIn_ready (rs := [4, 8]) (by kernel_rfl) (by simp) ?_
                        refine (AllReadyIn.cons rfl (fun K hK => ?_) (AllReadyIn.cons rfl (fun K hK => ?_) AllReadyIn.nil))
                        · go_simp
                          refine hK _ _ ?_
                          clear hK K
                          refine wpAnyIn_ready (rs := [8]) (by kernel_rfl) (by simp) ?_
                          refine (AllReadyIn.cons rfl (fun K hK => ?_) AllReadyIn.nil)
                          go_simp
                          refine hK _ _ ?_
                          clear hK K
                          refine wpAnyIn_ready (rs := [9]) (by kernel_rfl) (by simp) ?_
                          refine (AllReadyIn.cons rfl (fun K hK => ?_) AllReadyIn.nil)
                          go_simp
                          refine hK _ _ ?_
                          clear hK K
                          refine wpAnyIn_ready (rs := [10]) (by kernel_rfl) (by simp) ?_
                          refine (AllReadyIn.cons rfl (fun K hK => ?_) AllReadyIn.nil)
                          refine step_run rfl rfl rfl rfl hrun ?_
                          go_simp
                          refine hK _ _ ?_
                          clear hK K
                          refine wpAnyIn_take (i := 11) (v := ?_) rfl rfl (by kernel_rfl) (by kernel_rfl) (by kernel_rfl) (fun _ _ _ h => h) ⟨Or.inl ⟨by rfl, ?_⟩, fun _ => rfl⟩ ?_
                          rotate_left
                          · (intro w; go_simp; (try with_reducible rfl))
                          refine wpAnyIn_take (i := 12) (v := ?_) rfl rfl (by kernel_rfl) (by kernel_rfl) (by kernel_rfl) (fun _ _ _ h => h) ⟨Or.inl ⟨by rfl, ?_⟩, fun _ => rfl⟩ ?_
                          rotate_left
                          · (intro w; go_simp; (try with_reducible rfl))
                          refine wpAnyIn_ready (rs := [13]) (by kernel_rfl) (by simp) ?_
                          refine (AllReadyIn.cons rfl (fun K hK => ?_) AllReadyIn.nil)
                          go_simp
                          refine hK _ _ ?_
                          clear hK K
                          refine wpAnyIn_done (by kernel_rfl) ?_ _
                          gi_wp2
                          go_roundw
                          case rel => exact ⟨t + 1, _, _, by omega, by go_num, HI7, HA7, HN7⟩
                          case measure => simp [intOf]; omega
                        · go_simp
                          refine hK _ _ ?_
                          clear hK K
                          refine wpAnyIn_ready (rs := [4, 9]) (by kernel_rfl) (by simp) ?_
                          refine (AllReadyIn.cons rfl (fun K hK => ?_) (AllReadyIn.cons rfl (fun K hK => ?_) AllReadyIn.nil))
                          · go_simp
                            refine hK _ _ ?_
                            clear hK K
                            refine wpAnyIn_ready (rs := [9]) (by kernel_rfl) (by simp) ?_
                            refine (AllReadyIn.cons rfl (fun K hK => ?_) AllReadyIn.nil)
                            go_simp
                            refine hK _ _ ?_
                            clear hK K
                            refine wpAnyIn_ready (rs := [10]) (by kernel_rfl) (by simp) ?_
                            refine (AllReadyIn.cons rfl (fun K hK => ?_) AllReadyIn.nil)
                            refine step_run rfl rfl rfl rfl hrun ?_
                            go_simp
                            refine hK _ _ ?_
                            clear hK K
                            refine wpAnyIn_take (i := 11) (v := ?_) rfl rfl (by kernel_rfl) (by kernel_rfl) (by kernel_rfl) (fun _ _ _ h => h) ⟨Or.inl ⟨by rfl, ?_⟩, fun _ => rfl⟩ ?_
                            rotate_left
                            · (intro w; go_simp; (try with_reducible rfl))
                            refine wpAnyIn_take (i := 12) (v := ?_) rfl rfl (by kernel_rfl) (by kernel_rfl) (by kernel_rfl) (fun _ _ _ h => h) ⟨Or.inl ⟨by rfl, ?_⟩, fun _ => rfl⟩ ?_
                            rotate_left
                            · (intro w; go_simp; (try with_reducible rfl))
                            refine wpAnyIn_ready (rs := [13]) (by kernel_rfl) (by simp) ?_
                            refine (AllReadyIn.cons rfl (fun K hK => ?_) AllReadyIn.nil)
                            go_simp
                            refine hK _ _ ?_
                            clear hK K
                            refine wpAnyIn_done (by kernel_rfl) ?_ _
                            gi_wp2
                            go_roundw
                            case rel => exact ⟨t + 1, _, _, by omega, by go_num, HI7, HA7, HN7⟩
                            case measure => simp [intOf]; omega
                          · go_simp
                            refine hK _ _ ?_
                            clear hK K
                            refine wpAnyIn_ready (rs := [4]) (by kernel_rfl) (by simp) ?_
                            refine (AllReadyIn.cons rfl (fun K hK => ?_) AllReadyIn.nil)
                            go_simp
                            refine hK _ _ ?_
                            clear hK K
                            refine wpAnyIn_ready (rs := [10]) (by kernel_rfl) (by simp) ?_
                            refine (AllReadyIn.cons rfl (fun K hK => ?_) AllReadyIn.nil)
                            refine step_run rfl rfl rfl rfl hrun ?_
                            go_simp
                            refine hK _ _ ?_
                            clear hK K
                            refine wpAnyIn_take (i := 11) (v := ?_) rfl rfl (by kernel_rfl) (by kernel_rfl) (by kernel_rfl) (fun _ _ _ h => h) ⟨Or.inl ⟨by rfl, ?_⟩, fun _ => rfl⟩ ?_
                            rotate_left
                            · (intro w; go_simp; (try with_reducible rfl))
                            refine wpAnyIn_take (i := 12) (v := ?_) rfl rfl (by kernel_rfl) (by kernel_rfl) (by kernel_rfl) (fun _ _ _ h => h) ⟨Or.inl ⟨by rfl, ?_⟩, fun _ => rfl⟩ ?_
                            rotate_left
                            · (intro w; go_simp; (try with_reducible rfl))
                            refine wpAnyIn_ready (rs := [13]) (by kernel_rfl) (by simp) ?_
                            refine (AllReadyIn.cons rfl (fun K hK => ?_) AllReadyIn.nil)
                            go_simp
                            refine hK _ _ ?_
                            clear hK K
                            refine wpAnyIn_done (by kernel_rfl) ?_ _
                            gi_wp2
                            go_roundw
                            case rel => exact ⟨t + 1, _, _, by omega, by go_num, HI7, HA7, HN7⟩
                            case measure => simp [intOf]; omega
                    · have hfp : fP tp (i + 1) ((nx L i).take t ++ low L (i + 1)) y = none := if_neg hp
                      rw [hfp] at hcell
                      obtain ⟨d1, d2⟩ := HDR.out (by
                        by_cases h1 : i + 1 ≤ y
                        · exact HDP.out (Classical.byContradiction fun h2 => hp ⟨h1, h2⟩)
                        · exact HBAD.out (Or.inl ⟨(y : Int), HMEM.out, by omega⟩))
                      have D1 := Lib.hid d1
                      have D2 := Lib.hid (HKF.out.trans d2)
                      obtain ⟨k0, k1⟩ := box_cell HRES.out
                      clear d1 d2 hp hfp
                      gi_wp2
                      all_goals first | exact ⟨D2.out, rfl, D1.out⟩ | (rename_i hx _; exact absurd hx (by simp [undef]))
                  · have hyn' : decide ((n : Int) ≤ (y : Int)) = true := decide_eq_true (by omega)
                    obtain ⟨d1, d2⟩ := HDR.out (HBAD.out (Or.inl ⟨(y : Int), HMEM.out, by rw [HL.out]; omega⟩))
                    have D1 := Lib.hid d1
                    have D2 := Lib.hid (HKF.out.trans d2)
                    obtain ⟨k0, k1⟩ := box_cell HRES.out
                    clear d1 d2
                    gi_wp2
                    all_goals first | exact ⟨D2.out, rfl, D1.out⟩ | (rename_i hx _; exact absurd hx (by simp [undef]))
              · have htm : t = m := by omega
                have htk : (nx L i).take t = nx L i := by rw [List.take_of_length_le (by rw [← HM.out]; omega)]
                have hA' := HA.out
                have hN' := HND.out
                rw [htk] at hA' hN'
                obtain ⟨tp', hE', hP'⟩ := HIS.out.fin (by rw [htm]; exact HM.out) HE.out HP.out HL.out hin hA' HFOK.out hN' hs0 hr1w (by rw [HTB.out]; exact Nat.le_refl _)
                have hrw := HIS.out.row
                have hcell : wr.cell? ⟨r1, i, none⟩ = some (.pointer (fP tp (i + 1) ((nx L i).take t ++ low L (i + 1)) i)) := by
                  rw [hrw.cellAt i (by omega)]
                  exact frow_get tp _ _ hin
                have hfz := hrw.frozenAt i
                have HKD := Lib.hid (HKF.out.trans ((KeepsOthers.setCell wr ⟨r1, i, none⟩ (.pointer (some ⟨tb, 0, none⟩))).from (r2 + 2)))
                have HE' := Lib.hid hE'
                have HP' := Lib.hid hP'
                generalize fP tp (i + 1) ((nx L i).take t ++ low L (i + 1)) i = old at hcell
                clear hE' hP' hrw hA' hN' htk htm HIS HA HND
                gi_wp2
                exact ⟨HKD.out, tp', HE'.out, HP'.out⟩
      case done =>
        rintro D W1 hD ⟨tp, hE, hP⟩ hK
        rw [HSZ.out] at hD
        rw [bkVs_len, Nat.sub_self] at hE hP
        have hDW := (Array.getElem?_eq_some_iff.1 hK).1
        have hsz := hE.sz
        obtain ⟨x0, x1⟩ := box_cell hE.box
        obtain ⟨k0, k1⟩ := box_cell hE.res
        have HE := Lib.hid hE
        have HP := Lib.hid hP
        have HKD := Lib.hid (fun v => (show (W1.setCell ⟨w.heap.size, 0, none⟩ v).heap[D]? = some (.deferred (some [])) from (Below.heap_setCell W1 ⟨w.heap.size, 0, none⟩ v D (fun e => by simp only at e; omega)).trans hK))
        have hcells : ∀ j, j < n - 1 → W1.cell? ⟨r1, 1 + j, none⟩ = some (.pointer (fP tp 0 (low L 0) (1 + j))) := fun j hj => by
          have := hE.row
          rw [this.cellAt (1 + j) (by omega)]
          exact frow_get tp _ _ (by omega)
        have HC := Lib.hid (fun (q : Nat) (hq : n - 1 = 0 ∨ q = 1) => contains_any r1 q (n - 1) (n - 1) (fun j => fP tp 0 (low L 0) (1 + j)) W1 (by omega) (fun j hj => by
          rcases hq with hq | rfl
          · omega
          · exact hcells j hj))
        have HCZ := Lib.hid (show W1.cell? ⟨r1, 0, none⟩ = some (.pointer (fP tp 0 (low L 0) 0)) by
          have := hE.row
          rw [this.cellAt 0 (by omega)]
          exact frow_get tp _ _ (by omega))
        clear hE hP hcells
        have hn1 : 1 ≤ n := by omega
        have hn1' : (1 : Int) ≤ (n : Int) := by omega
        have HEND := Lib.hid (fun (h : anyP (fun j => fP tp 0 (low L 0) (1 + j)) (n - 1) = true) => last_bad (tp := tp) HL.out h)
        have HEOK := Lib.hid (fun (h : anyP (fun j => fP tp 0 (low L 0) (1 + j)) (n - 1) = false) => last_ok (tp := tp) HL.out hn1 hn40 HP.out h)
        obtain ⟨q, hq, hqs⟩ : ∃ q : Nat, (n - 1 = 0 ∨ q = 1) ∧ q = (if 1 = n then 0 else 1) := by
          by_cases h : 1 = n
          · exact ⟨0, Or.inl (by omega), by rw [if_pos h]⟩
          · exact ⟨1, Or.inr rfl, by rw [if_neg h]⟩
        have HCC := Lib.hid (HC.out q hq)
        have hn11 : n - 1 ≤ 1048576 := by omega
        cases hany : anyP (fun j => fP tp 0 (low L 0) (1 + j)) (n - 1) with
        | true =>
          have HNO := Lib.hid (HEND.out hany)
          rw [hany] at HCC
          clear hany HEND HEOK HC
          by_cases h1n : n = 1
          · rw [if_pos h1n.symm] at hqs
            subst hqs
            subst h1n
            go_wp2_with fail
            refine HCC.out.mono ?_
            rintro e w' ⟨rfl, rfl⟩
            go_wp2
            refine leave_marks (B := w.heap.size) [D] _ (by simp) (fun E hE => by simp at hE; subst hE; exact ⟨by omega, HKD.out _⟩) fun W' hg => ?_
            refine ⟨_, results_cell1 rfl _ rfl (load_p (grw_heap hg (heap_setCell_same W1 w.heap.size 0 _ _ _ HE.out.res))), ?_, Or.inl ⟨HNO.out, rfl⟩⟩
            exact grw_below hg (HE.out.low.setCell (p := ⟨w.heap.size, 0, none⟩) (Nat.le_refl _) _)
          · rw [if_neg (fun h => h1n h.symm)] at hqs
            subst hqs
            go_wp2_with fail
            refine HCC.out.mono ?_
            rintro e w' ⟨rfl, rfl⟩
            go_wp2
            refine leave_marks (B := w.heap.size) [D] _ (by simp) (fun E hE => by simp at hE; subst hE; exact ⟨by omega, HKD.out _⟩) fun W' hg => ?_
            refine ⟨_, results_cell1 rfl _ rfl (load_p (grw_heap hg (heap_setCell_same W1 w.heap.size 0 _ _ _ HE.out.res))), ?_, Or.inl ⟨HNO.out, rfl⟩⟩
            exact grw_below hg (HE.out.low.setCell (p := ⟨w.heap.size, 0, none⟩) (Nat.le_refl _) _)
        | false =>
          obtain ⟨hok, hf0⟩ := HEOK.out hany
          have HOK := Lib.hid hok
          rw [hany] at HCC
          have hcz := HCZ.out
          rw [hf0] at hcz
          have HFIN := Lib.hid (show ∀ W', Grw w.heap.size (W1.setCell ⟨w.heap.size, 0, none⟩ (.pointer (some ⟨tp 0, 0, none⟩))) W' → ∀ i, i < L.length → TreeAt W' w.heap.size L tp i from fun W' hg i hi => by
            rw [HL.out] at hi
            exact (((HE.out.tree i (Nat.zero_le _) hi).grown (set_gr W1 w.heap.size 0 _) (fun k hk => by simp only [Option.some.injEq] at hk; omega)).mono (by omega)).grw hg)
          clear hany hok hf0 HEND HEOK HC HCZ
          by_cases h1n : n = 1
          · rw [if_pos h1n.symm] at hqs
            subst hqs
            subst h1n
            go_wp2_with fail
            refine HCC.out.mono ?_
            rintro e w' ⟨rfl, rfl⟩
            go_wp2
            refine leave_marks (B := w.heap.size) [D] _ (by simp) (fun E hE => by simp at hE; subst hE; exact ⟨by omega, HKD.out _⟩) fun W' hg => ?_
            refine ⟨_, results_cell1 rfl _ rfl (load_p (grw_heap hg (heap_setCell_same W1 w.heap.size 0 _ _ _ HE.out.res))), ?_, Or.inr ⟨HOK.out, tp, rfl, HFIN.out W' hg⟩⟩
            exact grw_below hg (HE.out.low.setCell (p := ⟨w.heap.size, 0, none⟩) (Nat.le_refl _) _)
          · rw [if_neg (fun h => h1n h.symm)] at hqs
            subst hqs
            go_wp2_with fail
            refine HCC.out.mono ?_
            rintro e w' ⟨rfl, rfl⟩
            go_wp2
            refine leave_marks (B := w.heap.size) [D] _ (by simp) (fun E hE => by simp at hE; subst hE; exact ⟨by omega, HKD.out _⟩) fun W' hg => ?_
            refine ⟨_, results_cell1 rfl _ rfl (load_p (grw_heap hg (heap_setCell_same W1 w.heap.size 0 _ _ _ HE.out.res))), ?_, Or.inr ⟨HOK.out, tp, rfl, HFIN.out W' hg⟩⟩
            exact grw_below hg (HE.out.low.setCell (p := ⟨w.heap.size, 0, none⟩) (Nat.le_refl _) _)
      case stop =>
        rintro D cc W1 hD ⟨rfl, hb, hres, hno, hs, hw⟩ hK
        rw [HSZ.out] at hD
        go_wp2
        refine leave_marks (B := w.heap.size) [D] W1 (by simp) (fun E hE => by simp at hE; subst hE; exact ⟨by omega, hK⟩) fun W' hg => ?_
        refine ⟨_, results_cell1 rfl _ rfl (load_p (grw_heap hg hres)), ?_, Or.inl ⟨hno, rfl⟩⟩
        rcases hg.below with h | h
        · exact hb.trans h
        · have := hb.size; omega
end Go.Proofs.Ytjmfdflhplobmaa.Tre
