/- The program's ResultsAfter. The program's ResultsOf, CountResults and IsResult. -/
import Derived.Test.YtibephoepkofnaaGreatRaf
import Derived.RangeFuncCalls
import Derived.Shelf.RegionOpen
import Derived.Maps.OwnIn
import Derived.TacticsInMore
set_option linter.unusedVariables false
set_option maxRecDepth 20000
namespace Go.Proofs.YtibephoepkofnaaGreat.Ra
open Go.RowKit Go.Maps Fr _root_.Go.Proofs.YtibephoepkofnaaGreat.Own Pk Ins Pfn Rws Sst Lb Mvp Pf Wv Rfn Cat3 Itr Ck Mkr Mst Val Pkn Big Srt Raf

attribute [local go_sem] Oper.semAt_some
set_option maxHeartbeats 4000000 in
set_option maxRecDepth 100000 in
theorem impl_ra (A : Option Addr) (n c : Nat) (ls : List RD) (k : Int) (w : World) (hn : ls.length = n) (hat : SSAt w w.heap.size A ls) (hf : ∀ i, i < n → Fits (ls.getD i rd0).zs) (hz : ∀ i, i < n → (ls.getD i rd0).zs.length ≤ 1048576) (hn2 : n ≤ 1048576) :
    Calls Tryz.prog 59 #[.slice A n c, .int .i64 k] w (IsSSB w.heap.size (raR k (ls.map RD.zs)) (raB k (ls.map RD.zs)) w) := by
  refine (callsIn_wide (n := 8)).1 (callsIn_of_wp_marks Tryz.func59 rfl trivial ?_ rfl)
  simp only [Tryz.ntmps59, List.size_toArray, List.length_cons, List.length_nil, Nat.reduceAdd, Nat.reduceSub, Array.replicate_succ, Array.replicate_zero, List.push_toArray, List.append_toArray, List.nil_append, List.cons_append]
  refine wpIn_wide.2 ?_
  have HN := Lib.hid hn
  have HAT := Lib.hid hat
  have HF := Lib.hid hf
  have HZ := Lib.hid hz
  clear hn hat hf hz
  go_wp2_with fail
  refine (kind_all k _).mono ?_
  rintro e w1 ⟨⟨nm, lst, fv, rfl, ⟨hfc, hfo⟩, hkn⟩, hb1⟩
  have HKN := Lib.hid hkn
  have HB1 := Lib.hid hb1
  clear hkn hb1
  obtain ⟨kb, hkb⟩ : ∃ kb, kb = decide (0 ≤ k ∧ k ≤ 4) := ⟨_, rfl⟩
  rw [← hkb]
  have hfs : ∀ (a : Addr) (W : World), (store a fv).run Tryz.prog W = _ := fun a W => run_store Tryz.prog W a fv _ hfo
  have HKB := Lib.hid hkb
  clear hkb
  go_wp2
  have hE : Env w (w1.alloc (.cells #[.string nm, .int .i64 lst, fv] 112)) w1.heap.size nm lst fv := by
    have hb1 := HB1.out
    have h0 : Below w.heap.size w ((w.alloc (.cells #[.slice none 0 0] 63)).alloc (.cells #[.bool false] 4)) := ((Below.refl _ w).alloc (Nat.le_refl _) _).alloc (by simp) _
    have b4 : Boxed ((w.alloc (.cells #[.slice none 0 0] 63)).alloc (.cells #[.bool false] 4)) w.heap.size 63 (.slice none 0 0) := (Boxed.new w _ _).alloc _
    have b5 : Boxed ((w.alloc (.cells #[.slice none 0 0] 63)).alloc (.cells #[.bool false] 4)) (w.heap.size + 1) 4 (.bool false) := by
      have := Boxed.new (w.alloc (.cells #[.slice none 0 0] 63)) 4 (.bool false)
      rwa [World.size_alloc] at this
    have hs1 := hb1.size
    have hs2 : ((w.alloc (.cells #[.slice none 0 0] 63)).alloc (.cells #[.bool false] 4)).heap.size = w.heap.size + 2 := by simp
    refine ⟨(h0.trans (hb1.mono (by omega))).alloc (by omega) _, ?_, ?_, by omega, heap_alloc_new w1 _⟩
    · exact Boxed.alloc ((hb1.block _ b4.lt).trans b4) _
    · exact Boxed.alloc ((hb1.block _ b5.lt).trans b5) _
  generalize w1.alloc (.cells #[.string nm, .int .i64 lst, fv] 112) = w2 at *
  generalize w1.heap.size = b6 at *
  clear HB1
  go_loopw [9, 21] (fun _ i wr => ∃ j : Nat, j ≤ n ∧ i = .int .i64 (j : Int) ∧ Hid (∀ x, x < j → goodB k (ls.getD x rd0).zs = true) ∧ Hid (Env w wr b6 nm lst fv)) (fun _ i _ => n - (intOf i).toNat)
  case atStart => exact ⟨0, Nat.zero_le _, rfl, fun x hx => absurd hx (Nat.not_lt_zero _), hE⟩
  case round =>
    obtain ⟨j, hj, rfl, HG, HE⟩ := hrel
    by_cases hlt : j < n
    · have hE := HE
      have hsz := hE.below.size
      obtain ⟨b, o, rfl, hbb, hc, hi⟩ := (HAT.out.below hE.below) j (by rw [HN.out]; exact hlt)
      have hzk := HZ.out j hlt
      have hfk := HF.out j hlt
      have HGJ := Lib.hid (show (ls.map RD.zs).getD j [] = (ls.getD j rd0).zs from get_zs (by rw [HN.out]; exact hlt))
      have hjl : j < (ls.map RD.zs).length := by rw [List.length_map, HN.out]; exact hlt
      have HJL := Lib.hid hjl
      generalize hR : ls.getD j rd0 = R at *
      have HR := Lib.hid hR
      clear hR hjl
      obtain ⟨B1, d1, zs⟩ := R
      simp only [RD.v] at hc hi hzk hfk HGJ
      have C1 := Pok.impl_ok B1 zs.length d1 zs wr rfl (by omega) hfk (hi.more hsz)
      clear hi hfk
      have hs4 := hE.c4.cell
      have hf4 := hE.c4.frozen
      have hs5 := hE.c5.cell
      have hf5 := hE.c5.frozen
      cases kb with
      | false =>
        have HBAD := Lib.hid (ra_bad (k := k) HJL.out (by rw [HGJ.out]; unfold goodB; rw [← HKB.out]; rfl))
        clear C1
        go_wp2
        have hst := hE.stored (.slice none 0 0) false
        exact bad_end (ms := []) hst.1 hst.2.1 hst.2.2 ⟨List.nodup_nil, fun D hD => by cases hD⟩ rfl rfl HBAD.out
      | true =>
        go_wp2_with fail
        refine C1.mono ?_
        rintro e w5 ⟨rfl, hb5⟩
        have hE5 := hE.later hb5
        have HE5 := Lib.hid hE5
        have hs4 := hE5.c4.cell
        have hf4 := hE5.c4.frozen
        have hs5 := hE5.c5.cell
        have hf5 := hE5.c5.frozen
        have hc61 : w5.cell? ⟨b6, 1, none⟩ = some (.int .i64 lst) := by simp [World.cell?, hE5.c6]
        have HK := HKB.out.symm
        rw [decide_eq_true_iff] at HK
        have HL := Lib.hid (HKN.out HK).1
        have HK2 := Lib.hid HK
        clear hb5 HK
        cases hok : Pok.okB zs with
        | false =>
          have HBAD := Lib.hid (ra_bad (k := k) HJL.out (by rw [HGJ.out]; unfold goodB; rw [hok, Bool.and_false]; rfl))
          clear hok
          go_wp2
          have hst := HE5.out.stored (.slice none 0 0) false
          exact bad_end (ms := []) hst.1 hst.2.1 hst.2.2 ⟨List.nodup_nil, fun D hD => by cases hD⟩ rfl rfl HBAD.out
        | true =>
          have HOK := Lib.hid hok
          clear hok
          by_cases hln : (zs.length : Int) < lst
          · have HBAD := Lib.hid (ra_bad (k := k) HJL.out (by rw [HGJ.out]; unfold goodB; rw [← HL.out, show decide (lst ≤ (zs.length : Int)) = false from decide_eq_false (by omega), Bool.and_false]))
            go_wp2
            have hst := HE5.out.stored (.slice none 0 0) false
            exact bad_end (ms := []) hst.1 hst.2.1 hst.2.2 ⟨List.nodup_nil, fun D hD => by cases hD⟩ rfl rfl HBAD.out
          · have HGOOD := Lib.hid (show goodB k zs = true by unfold goodB; rw [decide_eq_true HK2.out, HOK.out, ← HL.out, show decide (lst ≤ (zs.length : Int)) = true from decide_eq_true (by omega)]; rfl)
            go_wp2
            go_roundw
            case rel =>
              refine ⟨j + 1, by omega, by go_num, ?_, HE5.out⟩
              intro x hx
              by_cases e : x = j
              · subst e
                rw [HR.out]
                exact HGOOD.out
              · exact HG.out x (by omega)
            case measure => simp [intOf]; omega
    · have hjn : j = n := by omega
      subst hjn
      have hE := HE
      have hnn : ¬ ((j : Int) < (j : Int)) := by omega
      have hmm := @run_makeMap Tryz.prog
      clear hlt
      -- PART TWO
      go_wp2_with fail
      have hb3 : Below wr.heap.size wr ((wr.alloc (.map #[] 0)).alloc (.cells #[.map (some wr.heap.size)] 115)) := ((Below.refl _ wr).alloc (Nat.le_refl _) _).alloc (by simp) _
      have hE3 := hE.later hb3
      have hmade : MS ((wr.alloc (.map #[] 0)).alloc (.cells #[.map (some wr.heap.size)] 115)) w.heap.size wr.heap.size 0 [] := ms_start ((World.ownsMap_made wr Tryz.prog 3 heldR).alloc _)
      have hbox : Boxed ((wr.alloc (.map #[] 0)).alloc (.cells #[.map (some wr.heap.size)] 115)) (wr.heap.size + 1) 115 (.map (some wr.heap.size)) := by
        have := Boxed.new (wr.alloc (.map #[] 0)) 115 (.map (some wr.heap.size))
        rwa [World.size_alloc] at this
      have hb7 : b6 < wr.heap.size := (Array.getElem?_eq_some_iff.1 hE.c6).1
      have hs3 : wr.heap.size + 2 = ((wr.alloc (.map #[] 0)).alloc (.cells #[.map (some wr.heap.size)] 115)).heap.size := by simp
      clear hmm
      generalize (wr.alloc (.map #[] 0)).alloc (.cells #[.map (some wr.heap.size)] 115) = w3 at *
      refine (Sip.isort_any A j c ls w3 HN.out ((HAT.out.below hE3.below).more hE3.below.size) HZ.out hn2).mono ?_
      rintro e w4 ⟨A4, c4, rs4, rfl, hz4, hss4, hb4⟩
      have hE4 := Lib.hid (hE3.later hb4)
      have hbox4 := Lib.hid (show Boxed w4 (wr.heap.size + 1) 115 (.map (some wr.heap.size)) from (hb4.block _ hbox.lt).trans hbox)
      have hms4 := Lib.hid (hmade.grw (B := w3.heap.size) (Grw.of_below hb4) (by omega))
      have HSS := Lib.hid (show SSRow w4 (wr.heap.size + 2) w4.heap.size A4 (cano (ls.map RD.zs)).length c4 rs4 by rw [hs3]; exact hss4)
      have HZ4 := Lib.hid hz4
      have HB67 := Lib.hid hb7
      have hs4 : wr.heap.size + 2 ≤ w4.heap.size := by have := hb4.size; omega
      have HWS := Lib.hid (show w.heap.size + 2 ≤ b6 from hE.lo)
      clear hb3 hE3 hmade hbox hss4 hz4 hb4 hb7 hs3 hE
      generalize hb7 : wr.heap.size = b7 at *
      clear hb7
      obtain ⟨L4, hL4⟩ : ∃ L4, L4 = cano (ls.map RD.zs) := ⟨_, rfl⟩
      rw [← hL4] at HSS HZ4 ⊢
      have HL4 := Lib.hid hL4
      clear hL4
      obtain ⟨N4, hN4⟩ : ∃ N4, N4 = L4.length := ⟨_, rfl⟩
      rw [← hN4] at HSS ⊢
      have HN4 := Lib.hid hN4
      clear hN4 HE
      go_wp2_with fail
      refine wp_loop (fun a W => ∃ (i : Nat) (ms : List Nat) (m : Nat) (rs : List RD) (u12 u45 u46 u47 u48 u49 u50 u51 u60 : Value), a = { tmps := #[.slice A j c, .int .i64 k, undef, undef, .pointer (some ⟨w.heap.size, 0, none⟩), .pointer (some ⟨w.heap.size + 1, 0, none⟩), .pointer (some ⟨b6, 0, none⟩), .bool kb, undef, u9, .pointer (some ⟨b7 + 1, 0, none⟩), undef, u12, undef, Value.tuple #[Value.agg #[Value.string nm, Value.int IntKind.i64 lst, fv], Value.bool kb], .int .i64 k, Value.tuple #[Value.agg #[Value.string nm, Value.int IntKind.i64 lst, fv], Value.bool kb], Value.agg #[Value.string nm, Value.int IntKind.i64 lst, fv], .bool kb, .slice A j c, .int .i64 (j : Int), .int .i64 (j : Int), .bool false, u23, u24, u25, u26, u27, u28, u29, u30, u31, u32, u33, u34, u35, u36, u37, u38, u39, .map (some b7), .slice A j c, .slice A4 N4 c4, .int .i64 (N4 : Int), .int .i64 (i : Int), u45, u46, u47, u48, u49, u50, u51, undef, undef, undef, undef, undef, undef, undef, undef, u60, undef, undef, undef], defers := marks ms } ∧ Hid (i ≤ N4) ∧ Hid (Env w W b6 nm lst fv) ∧ Hid (Boxed W (b7 + 1) 115 (.map (some b7))) ∧ Hid (MS W w.heap.size b7 m rs) ∧ Hid (m ≤ 4096 * i) ∧ Hid (rs.length ≤ 3000) ∧ Hid (∀ z, z ∈ rs.map RD.zs ↔ z ∈ (L4.take i).flatMap (rowsF k)) ∧
        Hid (SSRow W (b7 + 2) w4.heap.size A4 N4 c4 rs4) ∧ Hid (ms.Nodup ∧ ∀ D ∈ ms, w.heap.size ≤ D ∧ W.heap[D]? = some (.deferred (some [])))) (fun a _ => N4 - (intOf (a.tmps.getD 44 undef)).toNat) ?start ?round
      case start =>
        refine ⟨0, [], 0, [], _, _, _, _, _, _, _, _, _, rfl, Nat.zero_le _, hE4, hbox4, hms4, Nat.le_refl _, Nat.zero_le _, ?_, HSS, List.nodup_nil, fun D hD => by cases hD⟩
        intro z
        simp
      case round =>
        rintro a W ⟨i, ms, m, rs, u12, u45, u46, u47, u48, u49, u50, u51, u60, rfl, HI, HEW, HBX, HMS, HM, HLN, HMEM, HSW, HMK⟩
        by_cases hlt : i < N4
        · have hrl : i < rs4.length := by rw [HSW.out.len]; exact hlt
          obtain ⟨g4, rfl, hcr⟩ := HSW.out.cell i hlt
          have hrow := HSW.out.2.1 i hrl
          have hfz := HSW.out.1.frozenAt i
          have hzL : L4.getD i [] = (rs4.getD i rd0).zs := by rw [← HZ4.out]; exact get_zs hrl
          have hzm : (rs4.getD i rd0).zs ∈ L4 := by
            rw [← HZ4.out]
            exact List.mem_map.2 ⟨rs4.getD i rd0, by rw [List.getD_eq_getElem?_getD, List.getElem?_eq_getElem hrl]; exact List.getElem_mem _, rfl⟩
          have hzg : goodB k (rs4.getD i rd0).zs = true := by
            rw [HL4.out] at hzm
            obtain ⟨r, hr, e⟩ := List.mem_map.1 ((cano_mem _ _).1 hzm)
            obtain ⟨x, hx, e2⟩ := List.getElem_of_mem hr
            have := HG.out x (by rw [← HN.out]; exact hx)
            rw [List.getD_eq_getElem?_getD, List.getElem?_eq_getElem hx] at this
            rw [← e, ← e2]
            exact this
          have HTK := Lib.hid (show ∀ z, z ∈ (L4.take (i + 1)).flatMap (rowsF k) ↔ z ∈ (L4.take i).flatMap (rowsF k) ∨ z ∈ rowsF k (rs4.getD i rd0).zs from fun z => by
            rw [← hzL]
            exact take_flat (by rw [← HN4.out]; exact hlt) z)
          have HZM := Lib.hid hzm
          clear hzL hzm
          generalize rs4.getD i rd0 = R at *
          obtain ⟨B1, d1, zs⟩ := R
          simp only [RD.v] at hcr hrow hzg HTK HZM
          have hcap : zs.length ≤ d1 := by
            rcases hrow.1.2 with ⟨hv, h0⟩ | ⟨g, cap, cur, hv, hg, hh, q1, q2, q3, q4⟩
            · omega
            · simp only [Value.slice.injEq] at hv
              omega
          unfold goodB at hzg
          simp only [Bool.and_eq_true, decide_eq_true_eq] at hzg
          have hk4 := HKN.out hzg.1.1
          have hfv := hk4.2
          subst hfv
          have CM := make_any k hzg.1.1 B1 zs.length d1 zs W rfl hcap hzg.2 hzg.1.2 (ints_of hrow.1)
          have HZG := Lib.hid hzg
          have hc62 : W.cell? ⟨b6, 2, none⟩ = some (.func (.func (cFn k)) #[] #[]) := by simp [World.cell?, HEW.out.c6]
          have hce := cf_enters k hzg.1.1
          clear hzg hrow hcap hk4
          generalize hcf : cFn k = cf at *
          go_wp2_with fail
          refine CM.mono ?_
          rintro e w5 ⟨gf, bp, A2, n2, c2, zs2, rfl, hent, hit, hkp, hb5⟩
          have HCM := Lib.hid hcf
          have HHB := Lib.hid hb5
          have HKP := Lib.hid hkp
          clear hcf CM
          have hWL := HMS.out.lt
          have hs5 := hb5.size
          have hwW : w.heap.size ≤ W.heap.size := HEW.out.below.size
          have hbb7 : w.heap.size ≤ b7 := by have := HWS.out; have := HB67.out; omega
          have hg5 : Grw W.heap.size W w5 := Grw.of_below hb5
          have hms5 := HMS.out.grw hg5 hWL
          have hi0 : RI w w5 b6 b7 w5.heap.size nm lst (.func (.func cf) #[] #[]) g4 N4 c4 w4.heap.size rs4 ms ((L4.take i).flatMap (rowsF k) ++ (rowsF k zs).take 0) (m + 0) bp A2 n2 c2 zs2 := by
            refine ⟨HEW.out.grw hg5 hwW, (hb5.block _ HBX.out.lt).trans HBX.out, ⟨rs, hms5, HLN.out, fun z => ?_⟩, ss_grw HSW.out hg5, ⟨HMK.out.1, fun D hD => ?_⟩, hkp⟩
            · rw [HMEM.out z]
              simp
            · obtain ⟨q1, q2⟩ := HMK.out.2 D hD
              have hl := (Array.getElem?_eq_some_iff.1 q2).1
              exact ⟨⟨q1, by omega⟩, (hb5.block D hl).trans q2⟩
          have HI0 := Lib.hid hi0
          have hG : goodB k zs = true := by
            unfold goodB
            rw [HZG.out.1.2, decide_eq_true HZG.out.1.1, decide_eq_true HZG.out.2]
            rfl
          have HRL := Lib.hid (rows_len hG)
          have HRC := Lib.hid (rows_card hG)
          have hlt2 : i < N4 := hlt
          have HS5 := Lib.hid (And.intro hs5 (And.intro hwW (And.intro hbb7 hWL)))
          clear hG hi0 hms5 hg5 hb5 hkp hcr hfz hc62 hrl
          go_wp2_with fail
          refine wp_range (gf := gf) rfl hent hit rfl
            (fun idx W' => RI w W' b6 b7 w5.heap.size nm lst (.func (.func cf) #[] #[]) g4 N4 c4 w4.heap.size rs4 ms ((L4.take i).flatMap (rowsF k) ++ (rowsF k zs).take idx) (m + idx) bp A2 n2 c2 zs2)
            (fun cc W' => cc = .ret ∧ IX w W' w5.heap.size ms ∧ raB k (ls.map RD.zs) = false)
            (fun idx W' h => h.kp) (fun idx W1 W2 h hg => h.grw hg (by omega) (by omega)) (fun cc W1 W2 h hg => ⟨h.1, h.2.1.grw hg (by omega), h.2.2⟩) HI0.out
            (fun v => { tmps := #[.slice A j c, .int .i64 k, undef, undef, .pointer (some ⟨w.heap.size, 0, none⟩), .pointer (some ⟨w.heap.size + 1, 0, none⟩), .pointer (some ⟨b6, 0, none⟩), .bool kb, undef, u9, .pointer (some ⟨b7 + 1, 0, none⟩), undef, .slice B1 zs.length d1, v, Value.tuple #[Value.agg #[Value.string nm, Value.int IntKind.i64 lst, .func (.func cf) #[] #[]], Value.bool kb], .int .i64 k, Value.tuple #[Value.agg #[Value.string nm, Value.int IntKind.i64 lst, .func (.func cf) #[] #[]], Value.bool kb], Value.agg #[Value.string nm, Value.int IntKind.i64 lst, .func (.func cf) #[] #[]], .bool kb, .slice A j c, .int .i64 (j : Int), .int .i64 (j : Int), .bool false, u23, u24, u25, u26, u27, u28, u29, u30, u31, u32, u33, u34, u35, u36, u37, u38, u39, .map (some b7), .slice A j c, .slice (some ⟨g4, 0, none⟩) N4 c4, .int .i64 (N4 : Int), .int .i64 (i : Int), .bool true, .pointer (some ⟨g4, i, none⟩), .slice B1 zs.length d1, .pointer (some ⟨b6, 2, none⟩), .func (.func cf) #[] #[], .slice B1 zs.length d1, .func (.func gf) #[] #[.pointer (some ⟨bp, 0, none⟩)], v, undef, undef, undef, undef, undef, undef, undef, u60, undef, undef, undef], defers := [] }) ?assign ?body ?done ?stop
          case assign =>
            intro l x W1 K hK
            gi_wp2
            exact hK
          case body =>
            rintro l idx W0 W1 A1 c1 hidx hI0 hg0 hs0 hown
            have hI1 := hI0.grw hg0 (by omega) (by omega)
            obtain ⟨rs1, hms0, hrl1, hmem1⟩ := hI0.st
            have hzm : (rowsF k zs).getD idx [] ∈ rowsF k zs := by
              rw [List.getD_eq_getElem?_getD, List.getElem?_eq_getElem hidx]
              exact List.getElem_mem _
            obtain ⟨hcd, h12⟩ := HRC.out _ hzm
            have HT1 := Lib.hid (fun z => snoc_mem ((L4.take i).flatMap (rowsF k)) hidx z)
            have HIN := Lib.hid (show ∀ z, z ∈ (L4.take i).flatMap (rowsF k) ++ (rowsF k zs).take (idx + 1) → z ∈ raF k (ls.map RD.zs) from by
              intro z hz
              unfold raF
              rw [← HL4.out]
              refine (cano_mem _ _).2 ?_
              rw [List.mem_append] at hz
              rcases hz with hz | hz
              · obtain ⟨q, hq, hz⟩ := List.mem_flatMap.1 hz
                exact List.mem_flatMap.2 ⟨q, List.mem_of_mem_take hq, hz⟩
              · exact List.mem_flatMap.2 ⟨zs, HZM.out, List.mem_of_mem_take hz⟩)
            have hidm : m + (idx + 1) ≤ 4096 * 1048576 := by
              have := HM.out
              have := HRL.out
              have : N4 ≤ 1048576 := by
                rw [HN4.out, HL4.out]
                refine Nat.le_trans (cano_size _).1 ?_
                rw [List.length_map, HN.out]
                exact hn2
              omega
            generalize (rowsF k zs).getD idx [] = y at *
            have hms1 := (hms0.grw hg0 (by omega)).grw (B := W1.heap.size) (Grw.of_grown (drew_grown W1)) (hms0.grw hg0 (by omega)).lt
            obtain ⟨D, hD1, hD2⟩ := hms1.own
            obtain ⟨hk1, hk2⟩ := num_small hcd h12 y.length (Nat.le_refl _)
            have hkey : keyOf Tryz.prog 3 (.int .i64 (numF y)) = some (.int .i64 (numF y)) := Pok.key_int (by unfold numF; omega) (by unfold numF; omega)
            obtain ⟨w', hrun, hown', hgr'⟩ := hD1.update (t := 115) Pok.keyed Tryz.underlying115 (by unfold maxLen; omega) hkey (val := .slice A1 y.length c1) rfl
            have hrow1 : Row W1.drew w.heap.size W1.drew.heap.size A1 y.length c1 y := by
              refine ⟨own_mono (show W1.drew.ownsRow W0.heap.size 3 1 (.slice A1 y.length c1) y.length (y.map (Value.int .i64)) from hown) (by omega), fun a ha => ?_, Nat.le_refl _⟩
              subst ha
              exact (own_lo hown a.block rfl).2
            have hms2 := ms_put (r := ⟨A1, c1, y⟩) hms1 hD1 hD2 hkey hown' hgr' hrow1 (by
              intro s hs kk hk hk3
              have h1 := (hms0.row s hs).hi kk hk
              have h2 := (own_lo hown kk hk3).1
              omega) ⟨hcd, h12⟩
            have hmapb : ∃ es cl, W1.drew.heap[b7]? = some (.map es cl) := by
              obtain ⟨es, cl, h, _⟩ := hD1
              exact ⟨es, cl, h⟩
            have hI1d := hI1.grw (B := w5.heap.size) (Grw.of_grown (drew_grown W1)) (by omega) (by omega)
            have NUM := num_any A1 y.length c1 W1.drew.heap.size y W1.drew rfl h12 hcd (ints_of hown)
            have hcb : W1.drew.cell? ⟨b7 + 1, 0, none⟩ = some (.map (some b7)) := hI1.box.cell
            have HCRD := Lib.hid (fun s (hs : s ∈ rs1) => (hms1.card s hs).1)
            obtain ⟨D9, o1, _, o3, _⟩ := hms2.own
            have hlen : ∀ ty, _ := fun ty => o1.len (e := 22) Tryz.underlying115 ty
            obtain ⟨q, hq⟩ : ∃ q, q = (putR rs1 ⟨A1, c1, y⟩).length := ⟨_, rfl⟩
            rw [o3, ← hq] at hlen
            clear o3 o1
            have hws := HWS.out
            have hb67 := HB67.out
            have hb7l : b7 < w5.heap.size := by omega
            have hBX7 := hI1d.box.kept hgr' (by simp)
            have hc7 : w'.cell? ⟨b7 + 1, 0, none⟩ = some (.map (some b7)) := hBX7.cell
            have hB4 := hI1d.env.c4.kept hgr' (by simp; omega)
            have hB5 := hI1d.env.c5.kept hgr' (by simp; omega)
            have hs4 := hB4.cell
            have hf4 := hB4.frozen
            have hs5' := hB5.cell
            have hf5 := hB5.frozen
            have hmm : ∀ z, z ∈ (putR rs1 ⟨A1, c1, y⟩).map RD.zs ↔ z ∈ (L4.take i).flatMap (rowsF k) ++ (rowsF k zs).take (idx + 1) := fun z => by
              rw [put_mem HCRD.out hcd z, hmem1 z, HT1.out z]
            have hkd : KeepsFrom w5.heap.size W1 w' := (KeepsOthers.drew W1).from _ |>.trans (KeepsFrom.of_grownBy hgr' (fun j e => by cases e; exact hb7l))
            have HK1 := Lib.hid (show 3000 < q → KeepsFrom w5.heap.size W1 ((w'.setCell ⟨w.heap.size, 0, none⟩ (.slice none 0 0)).setCell ⟨w.heap.size + 1, 0, none⟩ (.bool false)) ∧ IX w ((w'.setCell ⟨w.heap.size, 0, none⟩ (.slice none 0 0)).setCell ⟨w.heap.size + 1, 0, none⟩ (.bool false)) w5.heap.size ms ∧ raB k (ls.map RD.zs) = false from fun h3 => by
              have hg4 := grownBy_setCell' w' w.heap.size (.slice none 0 0)
              have hg5 := grownBy_setCell' (w'.setCell ⟨w.heap.size, 0, none⟩ (.slice none 0 0)) (w.heap.size + 1) (.bool false)
              refine ⟨(hkd.trans (KeepsFrom.of_grownBy hg4 (fun j e => by cases e; omega))).trans (KeepsFrom.of_grownBy hg5 (fun j e => by cases e; omega)), ⟨?_, ?_, ?_, hI1d.mks.1, ?_⟩, ?_⟩
              · exact ((hI1d.env.below.grown hgr' hI1d.env.below.size (fun kk e => by cases e; exact hbb7)).setCell (p := ⟨w.heap.size, 0, none⟩) (Nat.le_refl _) _).setCell (p := ⟨w.heap.size + 1, 0, none⟩) (Nat.le_succ _) _
              · exact (hB4.set _).kept hg5 (by simp)
              · exact (hB5.kept hg4 (by simp)).set _
              · intro E hE
                obtain ⟨q1, q2⟩ := hI1d.mks.2 E hE
                refine ⟨q1, ?_⟩
                obtain ⟨es, cl, hmb⟩ := hmapb
                have n1 : E ≠ b7 := fun e => by
                  subst e
                  rw [hmb] at q2
                  cases q2
                have s1 := (hgr'.block E (Array.getElem?_eq_some_iff.1 q2).1 (fun e => n1 (by cases e; rfl))).trans q2
                have s2 := (hg4.block E (Array.getElem?_eq_some_iff.1 s1).1 (fun e => by
                  cases e
                  rw [show w'.heap[w.heap.size]? = _ from hB4] at s1
                  cases s1)).trans s1
                exact (hg5.block E (Array.getElem?_eq_some_iff.1 s2).1 (fun e => by
                  cases e
                  rw [show w'.heap[w.heap.size + 1]? = _ from hB5] at s1
                  cases s1)).trans s2
              · exact ra_many hms2.nd (fun z hz => HIN.out z ((hmm z).1 hz)) (by rw [← hq]; exact h3))
            have HK2 := Lib.hid (show ¬ 3000 < q → KeepsFrom w5.heap.size W1 w' ∧ RI w w' b6 b7 w5.heap.size nm lst (.func (.func cf) #[] #[]) g4 N4 c4 w4.heap.size rs4 ms ((L4.take i).flatMap (rowsF k) ++ (rowsF k zs).take (idx + 1)) (m + (idx + 1)) bp A2 n2 c2 zs2 from fun h3 =>
              ⟨hkd, hI1d.put hgr' hbb7 hmapb hms2 (by rw [← hq]; omega) hmm⟩)
            clear hq hBX7 hB4 hB5 hmm hkd hws hb67 hb7l
            clear hI1d hms2 hI1 hI0 hms0 hms1 hD1 hD2 hown' hgr' hrow1 hmapb hmem1 hown hcd h12 hkey hk1 hk2
            gi_upto_region 14 with fail
            gi_region_with_o (refine ⟨trivial, (CallsIn.inRound l (callsIn_wide.2 NUM)).mono ?_⟩; rintro e w9 ⟨rfl, rfl⟩)
            all_goals
              clear hrun NUM
              by_cases hq3 : 3000 < q
              · gi_wp2
                exact ⟨(HK1.out hq3).1, rfl, (HK1.out hq3).2⟩
              · gi_wp2
                exact ⟨(HK2.out hq3).1, (HK2.out hq3).2⟩
          case done =>
            rintro D W1 hD hI1 hK
            have HHI := Lib.hid hI1
            have HHK := Lib.hid hK
            clear hI1 hK hent hit
            have hN4s : N4 ≤ 1048576 := by
              rw [HN4.out, HL4.out]
              refine Nat.le_trans (cano_size _).1 ?_
              rw [List.length_map, HN.out]
              exact hn2
            go_wp2
            have hwr2 : ((i : Int) + 1) = ((i + 1 : Nat) : Int) := rfl
            rw [hwr2]
            refine ⟨⟨i + 1, D :: ms, m + (rowsF k zs).length, ?_⟩, ?_⟩
            · obtain ⟨rs1, q1, q2, q3⟩ := HHI.out.st
              refine ⟨rs1, _, _, _, _, _, _, _, _, _, by rfl, ?_, HHI.out.env, HHI.out.box, q1, ?_, q2, ?_, HHI.out.ss, ?_, ?_⟩
              · exact hlt2
              · have h1 := HM.out
                have h2 := HRL.out
                show m + (rowsF k zs).length ≤ 4096 * (i + 1)
                omega
              · intro z
                rw [q3 z, List.take_length, List.mem_append, HTK.out z]
              · refine List.nodup_cons.2 ⟨fun h => ?_, HHI.out.mks.1⟩
                have := (HHI.out.mks.2 D h).1.2
                omega
              · intro E hE
                rcases List.mem_cons.1 hE with e | e
                · subst e
                  exact ⟨by omega, HHK.out⟩
                · exact ⟨(HHI.out.mks.2 E e).1.1, (HHI.out.mks.2 E e).2⟩
            · show N4 - (intOf (.int .i64 ((i + 1 : Nat) : Int))).toNat < N4 - (intOf (.int .i64 (i : Int))).toNat
              simp only [intOf, Int.toNat_natCast]
              omega
          case stop =>
            rintro D cc W1 hD ⟨rfl, hX, hr⟩ hK
            have HHI := Lib.hid hX
            have HHK := Lib.hid hK
            have HHR := Lib.hid hr
            clear hX hK hr hent hit
            go_wp2
            refine bad_end (ms := D :: ms) HHI.out.below HHI.out.c4 HHI.out.c5 ⟨List.nodup_cons.2 ⟨fun h => ?_, HHI.out.mks.1⟩, fun E hE => ?_⟩ rfl rfl HHR.out
            · have := (HHI.out.mks.2 D h).1.2
              omega
            · rcases List.mem_cons.1 hE with e | e
              · subst e
                exact ⟨by omega, HHK.out⟩
              · exact ⟨(HHI.out.mks.2 E e).1.1, (HHI.out.mks.2 E e).2⟩
        · have hin : i = N4 := by have := HI.out; omega
          have hc7 := HBX.out.cell
          clear hlt
          go_wp2_with fail
          refine (box_values (some b7) W).mono ?_
          rintro e w6 ⟨rfl, hw6⟩
          have hb6 : Below W.heap.size W w6 := by rw [hw6]; exact (Below.refl _ W).alloc (Nat.le_refl _) _
          have hbv : Boxed w6 W.heap.size 115 (.map (some b7)) := by rw [hw6]; exact Boxed.new W _ _
          clear hw6
          have hs6 := hb6.size
          have hwW : w.heap.size ≤ W.heap.size := HEW.out.below.size
          have CS := ms_sorted (HMS.out.grw (Grw.of_below hb6) HMS.out.lt) (Nat.le_trans HLN.out (by decide)) (by omega) hbv.lt hbv.cell
          have HE6 := Lib.hid (HEW.out.later hb6)
          have HK6 := Lib.hid (show ms.Nodup ∧ ∀ D ∈ ms, w.heap.size ≤ D ∧ w6.heap[D]? = some (.deferred (some [])) from ⟨HMK.out.1, fun D hD => ⟨(HMK.out.2 D hD).1, (hb6.block D (Array.getElem?_eq_some_iff.1 (HMK.out.2 D hD).2).1).trans (HMK.out.2 D hD).2⟩⟩)
          clear hb6
          go_wp2_with fail
          refine CS.mono ?_
          rintro e w7 ⟨⟨A7, c7, rs7, rfl, hz7, hss7, _⟩, hb7⟩
          have hE7 := HE6.out.later hb7
          have hsv := hE7.stored (.slice A7 (cano (rs.map RD.zs)).length c7) true
          have hK7 : ms.Nodup ∧ ∀ D ∈ ms, w.heap.size ≤ D ∧ ((w7.setCell ⟨w.heap.size, 0, none⟩ (.slice A7 (cano (rs.map RD.zs)).length c7)).setCell ⟨w.heap.size + 1, 0, none⟩ (.bool true)).heap[D]? = some (.deferred (some [])) := by
            refine ⟨HK6.out.1, fun D hD => ⟨(HK6.out.2 D hD).1, ?_⟩⟩
            have q2 := (hb7.block D (Array.getElem?_eq_some_iff.1 (HK6.out.2 D hD).2).1).trans (HK6.out.2 D hD).2
            have s2 := ((grownBy_setCell' w7 w.heap.size (.slice A7 (cano (rs.map RD.zs)).length c7)).block D (Array.getElem?_eq_some_iff.1 q2).1 (fun e => by
              cases e
              rw [show w7.heap[w.heap.size]? = _ from hE7.c4] at q2
              cases q2)).trans q2
            exact ((grownBy_setCell' _ (w.heap.size + 1) (.bool true)).block D (Array.getElem?_eq_some_iff.1 s2).1 (fun e => by
              cases e
              rw [show w7.heap[w.heap.size + 1]? = _ from hE7.c5] at q2
              cases q2)).trans s2
          have hss8 := ss_set (v := .bool true) (ss_set (v := .slice A7 (cano (rs.map RD.zs)).length c7) hss7 hE7.c4 (by decide) (by decide)) (hE7.c5.kept (grownBy_setCell' w7 w.heap.size (.slice A7 (cano (rs.map RD.zs)).length c7)) (by simp)) (by decide) (by decide)
          have hss9 := hss8.higher (Nat.le_trans (grownBy_setCell' w7 w.heap.size (.slice A7 (cano (rs.map RD.zs)).length c7)).size (grownBy_setCell' _ (w.heap.size + 1) (.bool true)).size) (Nat.le_refl _)
          have hraF : raF k (ls.map RD.zs) = cano (rs.map RD.zs) := by
            unfold raF
            rw [← HL4.out]
            refine (cano_same fun z => ?_).symm
            rw [HMEM.out z, hin, HN4.out, List.take_length]
          have hraB : raB k (ls.map RD.zs) = true := by
            unfold raB
            rw [hraF, decide_eq_true (show (cano (rs.map RD.zs)).length ≤ 3000 from Nat.le_trans (cano_size _).1 (by rw [List.length_map]; exact HLN.out)), Bool.and_true, List.all_eq_true]
            intro x hx
            obtain ⟨r, hr, rfl⟩ := List.mem_map.1 hx
            obtain ⟨y, hy, rfl⟩ := List.getElem_of_mem hr
            have := HG.out y (by rw [← HN.out]; exact hy)
            rw [List.getD_eq_getElem?_getD, List.getElem?_eq_getElem hy] at this
            exact this
          have HFIN := Lib.hid (fun (tmps : Array Value) (e4 : tmps.getD 4 undef = .pointer (some ⟨w.heap.size, 0, none⟩)) (e5 : tmps.getD 5 undef = .pointer (some ⟨w.heap.size + 1, 0, none⟩)) => good_end (n := 8) (tmps := tmps) hsv.1 hsv.2.1 hsv.2.2 hK7 e4 e5 hz7 hss9 hraB hraF)
          have hs4' := hE7.c4.cell
          have hf4' := hE7.c4.frozen
          have hs5' := hE7.c5.cell
          have hf5' := hE7.c5.frozen
          clear hsv hK7 hss8 hss9 hraF hraB hss7 hz7 hE7 hb7
          generalize (cano (rs.map RD.zs)).length = n7 at *
          go_wp2
          exact HFIN.out _ rfl rfl
end Go.Proofs.YtibephoepkofnaaGreat.Ra

namespace Go.Proofs.YtibephoepkofnaaGreat.Ro
open Go.RowKit Fr _root_.Go.Proofs.YtibephoepkofnaaGreat.Own Ins Rws Sst Big Srt Raf Cmp

theorem get_one (r : RD) {j : Nat} (h : j < 1) : [r].getD j rd0 = r := by
  obtain rfl : j = 0 := by omega
  rfl
set_option maxHeartbeats 1000000 in
theorem impl_ro (A : Option Addr) (n c : Nat) (zs : List Int) (k : Int) (w : World) (hn : zs.length = n) (hz : Fits zs) (hn2 : n ≤ 1048576) (hat : IntsAt w w.heap.size .i64 A zs) :
    Calls Tryz.prog 35 #[.slice A n c, .int .i64 k] w (IsSSB w.heap.size (raR k [zs]) (raB k [zs]) w) := by
  subst hn
  have hb1 : Below w.heap.size w (w.alloc (.cells #[.slice A zs.length c] 22)) := (Below.refl _ w).alloc (Nat.le_refl _) _
  have hss : SSAt (w.alloc (.cells #[.slice A zs.length c] 22)) (w.alloc (.cells #[.slice A zs.length c] 22)).heap.size (some ⟨w.heap.size, 0, none⟩) [⟨A, c, zs⟩] := by
    intro j hj
    refine ⟨w.heap.size, 0, rfl, by simp, ?_, ?_⟩
    · obtain rfl : j = 0 := by simpa using hj
      exact (Boxed.new w 22 (.slice A zs.length c)).cell
    · rw [get_one _ (by simpa using hj)]
      exact (hat.below hb1).more hb1.size
  have C := Ra.impl_ra (some ⟨w.heap.size, 0, none⟩) 1 1 [⟨A, c, zs⟩] k _ rfl hss (fun i hi => by rw [get_one _ hi]; exact hz) (fun i hi => by rw [get_one _ hi]; exact hn2) (by decide)
  have hs1 := hb1.size
  have HB1 := Lib.hid hb1
  clear hb1 hss
  go_enter Tryz.func35, Tryz.ntmps35
  go_wp2_with fail
  refine C.mono ?_
  rintro e w2 ⟨A2, c2, rs, rfl, hz2, hss2, hb2⟩
  have HSS := Lib.hid hss2
  have HZ2 := Lib.hid hz2
  have HB2 := Lib.hid (HB1.out.trans (hb2.mono hs1))
  clear hss2 hz2 hb2 C
  go_wp2
  go_ret2
  refine ⟨A2, c2, rs, rfl, HZ2.out, ?_, HB2.out⟩
  have h := HSS.out
  refine ⟨own_mono h.1 hs1, fun i hi => ?_, h.2.2.1, h.2.2.2.1, h.2.2.2.2⟩
  have hr := h.2.1 i hi
  exact ⟨own_mono hr.1 hs1, hr.2.1, hr.2.2⟩
def cntI (k : Int) (zs : List Int) : Int := if raB k [zs] then ((raR k [zs]).length : Int) else -1
theorem rd_mem {rs : List RD} {k : Nat} (h : k < rs.length) : rs.getD k rd0 ∈ rs := by
  rw [List.getD_eq_getElem?_getD, List.getElem?_eq_getElem h]
  exact List.getElem_mem _
theorem raR_sorted (k : Int) (l : List (List Int)) : SortedL (raR k l) := by
  unfold raR
  split
  · exact cano_sorted _
  · exact sorted_nil
def isrB (k : Int) (zs q : List Int) : Bool := decide (q ∈ raR k [zs])
end Go.Proofs.YtibephoepkofnaaGreat.Ro
