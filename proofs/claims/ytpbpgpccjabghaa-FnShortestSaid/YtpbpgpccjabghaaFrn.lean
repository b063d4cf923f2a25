/- FaroRun of the program and of the model. -/
import Derived.Test.YtpbpgpccjabghaaFpm
import Derived.Test.YtpbpgpccjabghaaPal
import Derived.Test.YtpbpgpccjabghaaMr
import Derived.Test.YtpbpgpccjabghaaWid
set_option linter.unusedVariables false
set_option maxRecDepth 20000
namespace Go.Proofs.Ytpbpgpccjabghaa.Frn
open Go.RowKit Fr Own Pk Pok Arr Ins Nwp Pfn Rws Lb Cat Mvp Mv1 Mv2 Mv3 Mv4 Mk Mok2 Pf Sv Sv2 Sv3 Do Pa Fsz Prm Pal Mr Wid Fpm

/-- the list of shuffles as moves -/
def mvs (ks : List Int) : List (Int × Int) := ks.map fun k => (4, k)
theorem mvs_len (ks : List Int) : (mvs ks).length = ks.length := by simp [mvs]
theorem mvs_get {ks : List Int} {j : Nat} (h : j < ks.length) : (mvs ks).getD j (0, 0) = (4, ks.getD j 0) := by
  simp [mvs, List.getD_eq_getElem?_getD, List.getElem?_eq_getElem h]
def frB (zs ks : List Int) : Bool := szB zs.length && allB zs (mvs ks)
def frF (zs ks : List Int) : List Int := if frB zs ks then allF zs (mvs ks) else []
theorem frF_no {zs ks : List Int} (h : frB zs ks = false) : frF zs ks = [] := by unfold frF; rw [h]; rfl
theorem fr_short (zs ks : List Int) : (frF zs ks).length ≤ 1048576 := by
  unfold frF
  split
  · exact all_short zs (mvs ks)
  · exact Nat.zero_le _
theorem fr_sz {zs ks : List Int} (h : szB zs.length = false) : frB zs ks = false := by unfold frB; rw [h]; rfl
theorem fr_is {zs ks : List Int} (h : szB zs.length = true) : frB zs ks = allB zs (mvs ks) ∧ frF zs ks = allF zs (mvs ks) := by
  have h1 : frB zs ks = allB zs (mvs ks) := by unfold frB; rw [h]; rfl
  refine ⟨h1, ?_⟩
  cases h2 : allB zs (mvs ks) with
  | true => unfold frF; rw [h1, h2]; rfl
  | false => rw [frF_no (h1.trans h2), allF_no h2]
theorem fr_long {zs ks : List Int} (h : 20 < ks.length) : frB zs ks = false := by
  unfold frB allB
  rw [decide_eq_false (show ¬ (mvs ks).length ≤ 20 by rw [mvs_len]; omega), Bool.and_false, Bool.false_and, Bool.and_false]

theorem lies_next {xs : List Value} {ks : List Int} {j : Nat} (h : Lies xs (mvs ks) j) (hx : xs.length = j * 2) (hj : j < ks.length) : Lies (xs ++ [.int .i64 4, .int .i64 (ks.getD j 0)]) (mvs ks) (j + 1) := by
  intro i hi
  by_cases e : i = j
  · subst e
    rw [mvs_get hj, List.getElem?_append_right (by omega), List.getElem?_append_right (by omega), hx, Nat.sub_self, show i * 2 + 1 - i * 2 = 1 by omega]
    exact ⟨rfl, rfl⟩
  · have hl : i * 2 + 1 < xs.length := by omega
    rw [List.getElem?_append_left (by omega), List.getElem?_append_left hl]
    exact h i (by omega)
theorem row_pairs {W : World} {lo : Nat} {A : Option Addr} {n c : Nat} {xs : List Value} {ms : List (Int × Int)} (h1 : W.ownsRow lo 39 2 (.slice A n c) n xs) (h2 : Lies xs ms n) (h3 : ms.length = n) : PairsAt W W.heap.size A ms := by
  intro j hj
  obtain ⟨g, hg⟩ := own2_shape h1 (by omega)
  subst hg
  have hc := h1.cells (g := g) rfl
  have hlt := (h1.lt g rfl).2
  obtain ⟨k1, k2⟩ := h2 j (by omega)
  have e1 := hc _ _ k1
  have e2 := hc _ _ k2
  rw [Go.WideShapes.add_plain] at e1 e2
  exact ⟨g, 0, rfl, hlt, e1, by rw [← Nat.add_assoc] at e2; exact e2⟩

set_option maxHeartbeats 1000000 in
theorem impl_fr (A : Option Addr) (n c : Nat) (zs : List Int) (A2 : Option Addr) (m c2 : Nat) (ks : List Int) (w : World) (hn : zs.length = n) (hn2 : n ≤ 9223372036854775807) (hz : Fits zs) (hss : IntsAt w w.heap.size .i64 A zs)
    (hm : ks.length = m) (hm2 : m ≤ 9223372036854775807) (hks : IntsAt w w.heap.size .i64 A2 ks) :
    Calls Try.prog 15 #[.slice A n c, .slice A2 m c2] w (IsILB w.heap.size (frF zs ks) (frB zs ks) w) := by
  obtain ⟨im, him, hmz, hms, hmb⟩ : ∃ i, Try.prog.info? 39 = some i ∧ i.zero = some (.agg #[.int .i64 0, .int .i64 0]) ∧ i.size = 2 ∧ i.bytes = 16 := by
    have h := infoMove
    cases hi : Try.prog.info? 39 with
    | none => rw [hi] at h; cases h
    | some i =>
      rw [hi] at h
      simp only [Option.map_some, Option.some.injEq, Prod.mk.injEq] at h
      exact ⟨i, rfl, h.1, h.2.1, h.2.2⟩
  have hnl : (-9223372036854775808 : Int) ≤ (n : Int) := by omega
  have hnh : (n : Int) ≤ 9223372036854775807 := by omega
  cases hs : szB (n : Int) with
  | false =>
    have hb : frB zs ks = false := fr_sz (by rw [hn]; exact hs)
    rw [frF_no hb, hb]
    have HS := Lib.hid hs
    clear hs hb hn hm hks hss hz
    go_enter Try.func15, Try.ntmps15
    go_wp2_with fail
    refine (impl_sz _ _ hnl hnh).mono ?_
    rintro e w1 ⟨rfl, rfl⟩
    rw [HS.out]
    go_wp2
    go_ret2
    exact nil_ilb _ _
  | true =>
    have HS := Lib.hid hs
    by_cases h20 : m ≤ 20
    · have hc20 : decide ((20 : Int) < (m : Int)) = false := decide_eq_false (by omega)
      obtain ⟨e1, e2⟩ := fr_is (zs := zs) (ks := ks) (by rw [hn]; exact hs)
      rw [e1, e2]
      have HN := Lib.hid hn
      have HM := Lib.hid hm
      have HK := Lib.hid hks
      have HP := Lib.hid hss
      have HZ := Lib.hid hz
      clear hs hn hm hks hss hz e1 e2
      go_enter Try.func15, Try.ntmps15
      go_wp2_with fail
      refine (impl_sz _ _ hnl hnh).mono ?_
      rintro e w1 ⟨rfl, rfl⟩
      rw [HS.out]
      go_wp2
      go_loopw [6, 8, 20] (fun s6 _ i wr => ∃ j : Nat, j ≤ m ∧ i = .int .i64 (j : Int) ∧ ∃ (A4 : Option Addr) (c4 : Nat) (xs : List Value), s6 = .slice A4 j c4 ∧ Hid (wr.ownsRow w.heap.size 39 2 (.slice A4 j c4) j xs) ∧ Hid (Lies xs (mvs ks) j) ∧ Below w.heap.size w wr) (fun _ _ i _ => m - (intOf i).toNat)
      case atStart => exact ⟨0, Nat.zero_le _, rfl, none, 0, [], rfl, World.ownsRow_nil _ _ _ _, (fun j hj => absurd hj (Nat.not_lt_zero _)), Below.refl _ _⟩
      case round =>
        obtain ⟨j, hj, rfl, A4, c4, xs, rfl, HOW, HLI, hbw⟩ := hrel
        have hszw := hbw.size
        by_cases hlt : j < m
        · obtain ⟨b, o, rfl, hbb, hc⟩ := (HK.out.below hbw) j (by rw [HM.out]; exact hlt)
          have HL2 := Lib.hid (lies_next HLI.out HOW.out.1 (by rw [HM.out]; exact hlt))
          generalize ks.getD j 0 = x at *
          have hjs : j ≤ 1048576 := by omega
          have HLO := Lib.hid (fun b h => (HOW.out.lt b h).1)
          clear HLI
          go_wp2_with (at_builtin; refine app_wide rfl (.tmp 24) (.tmp 27) 53 rfl w.heap.size 39 im _ 2 16 Try.underlying53 him hmz hms hmb (by decide) rfl (by decide) A4 c4 j xs rfl HOW.out #[.int .i64 4, .int .i64 x] rfl (by intro u hu; simp at hu; rcases hu with rfl | rfl <;> rfl) _ rfl rfl hjs hszw ?_; intro g c5 w5 hown5 hgr5; have HO5 := Lib.hid hown5; have HB5 := Lib.hid (hbw.grown hgr5 hszw (fun k hk => by cases A4 with | none => cases hk | some a => exact HLO.out k hk)); clear hown5 hgr5)
          go_roundw
          case rel => exact ⟨j + 1, by omega, by go_num, _, c5, _, rfl, HO5.out, HL2.out, HB5.out⟩
          case measure => simp [intOf]; omega
        · have hjm : j = m := by omega
          subst hjm
          have HPA := Lib.hid (row_pairs HOW.out HLI.out (by rw [mvs_len, HM.out]))
          have HSS := Lib.hid (HP.out.below hbw)
          have HML := Lib.hid (show (mvs ks).length = j by rw [mvs_len, HM.out])
          have hat := Lib.hid (show IntsAt wr wr.heap.size .i64 A zs from ints_on HP.out hbw)
          clear HLI HOW hlt
          go_wp2_with fail
          refine (impl_all A n c zs A4 j c4 (mvs ks) _ HN.out hn2 HZ.out hat.out HML.out hm2 HPA.out).mono ?_
          rintro e w2 ⟨A5, c5, rfl, ho, hb⟩
          have HO := Lib.hid (own_mono ho hszw)
          have HB := Lib.hid (hbw.trans (hb.mono hszw))
          clear ho hb
          go_wp2
          go_ret2
          exact ⟨A5, c5, rfl, HO.out, HB.out⟩
    · have hb : frB zs ks = false := fr_long (by omega)
      rw [frF_no hb, hb]
      have hc20 : decide ((20 : Int) < (m : Int)) = true := decide_eq_true (by omega)
      clear hs hb hn hm hks hss hz h20
      go_enter Try.func15, Try.ntmps15
      go_wp2_with fail
      refine (impl_sz _ _ hnl hnh).mono ?_
      rintro e w1 ⟨rfl, rfl⟩
      rw [HS.out]
      go_wp2
      go_ret2
      exact nil_ilb _ _
theorem faro_perf {q : List Int} {x : Int} (hok : okB q = true) (hs : szB q.length = true) : perfB q 4 x = decide (0 ≤ x ∧ x ≤ 1) ∧ (0 ≤ x ∧ x ≤ 1 → perfF q 4 x = faroL q x.toNat) := by
  have h1 : perfB q 4 x = decide (0 ≤ x ∧ x ≤ 1) := by unfold perfB; rw [hok, mv_k hs, Bool.true_and]
  refine ⟨h1, fun h => ?_⟩
  rw [perfF_yes (h1.trans (decide_eq_true h))]
  rfl
theorem faro_len {q : List Int} {k : Nat} (h12 : q.length ≤ 12) (h1 : 1 ≤ q.length) (hk : k ≤ 1) (hok : okB q = true) : (faroL q k).length = q.length ∧ okB (faroL q k) = true := by
  have h4 : kOk 4 k q.length = true := decide_eq_true hk
  exact ⟨move_len h4 h1 h12, move_ok h4 h1 hok⟩

set_option maxHeartbeats 1000000 in
theorem spec_fr (A : Option Addr) (n c : Nat) (zs : List Int) (A2 : Option Addr) (m c2 : Nat) (ks : List Int) (w : World) (hn : zs.length = n) (hn2 : n ≤ 9223372036854775807) (hz : Fits zs) (hss : IntsAt w w.heap.size .i64 A zs)
    (hm : ks.length = m) (hm2 : m ≤ 9223372036854775807) (hks : IntsAt w w.heap.size .i64 A2 ks) (hnil : A = none → c = 0) (hspot : ∀ a, A = some a → a.spot = none) :
    Calls Try.prog 33 #[.slice A n c, .slice A2 m c2] w (IsILB w.heap.size (frF zs ks) (frB zs ks) w) := by
  obtain ⟨i0, hi, hz0, hz1, hz2⟩ := info_parts infoInt
  have HOK := Lib.hid (Pok.spec_ok A n c zs w hn hn2 hz hss)
  have hnl : (-9223372036854775808 : Int) ≤ (n : Int) := by omega
  have hnh : (n : Int) ≤ 9223372036854775807 := by omega
  cases hok : okB zs with
  | false =>
    have hb : frB zs ks = false := by unfold frB allB; rw [hok, Bool.false_and, Bool.false_and, Bool.and_false]
    rw [frF_no hb, hb]
    have HBK := Lib.hid hok
    clear hok hb hn hm hks hss hz
    go_enter Try.func33, Try.ntmps33
    go_wp2_with fail
    refine HOK.out.mono ?_
    rintro e w1 ⟨rfl, hb1⟩
    rw [HBK.out]
    go_wp2
    go_ret2
    exact nil_after hb1
  | true =>
    have HBK := Lib.hid hok
    cases hs : szB (n : Int) with
    | false =>
      have hb : frB zs ks = false := fr_sz (by rw [hn]; exact hs)
      rw [frF_no hb, hb]
      have HS := Lib.hid hs
      clear hs hb hn hm hks hss hz hok
      go_enter Try.func33, Try.ntmps33
      go_wp2_with fail
      refine HOK.out.mono ?_
      rintro e w1 ⟨rfl, hb1⟩
      rw [HBK.out]
      have HB1 := Lib.hid hb1
      clear hb1
      go_wp2_with fail
      refine (spec_sz _ _ hnl hnh).mono ?_
      rintro e w1 ⟨rfl, rfl⟩
      rw [HS.out]
      go_wp2
      go_ret2
      exact nil_after HB1.out
    | true =>
      have HS := Lib.hid hs
      by_cases h20 : m ≤ 20
      · have hc20 : decide ((20 : Int) < (m : Int)) = false := decide_eq_false (by omega)
        obtain ⟨p1, p2, _⟩ := sz_parts hs
        obtain ⟨e1, e2⟩ := fr_is (zs := zs) (ks := ks) (by rw [hn]; exact hs)
        rw [e1, e2]
        have HN := Lib.hid hn
        have HM := Lib.hid hm
        have HK := Lib.hid hks
        have HP := Lib.hid hss
        have HG0 := Lib.hid (show allGo ((mvs ks).drop 0) zs = allGo (mvs ks) zs by rw [List.drop_zero])
        obtain ⟨G, hG⟩ : ∃ G, G = allGo (mvs ks) zs := ⟨_, rfl⟩
        have HALL := Lib.hid (fun q (h : G = some q) => all_at hok (show (mvs ks).length ≤ 20 by rw [mvs_len]; omega) (hG.symm.trans h))
        have HNON := Lib.hid (fun (h : G = none) => all_none (zs := zs) (ms := mvs ks) (hG.symm.trans h))
        rw [← hG] at HG0
        have hn12 : n ≤ 12 := by omega
        have hn1 : 1 ≤ n := by omega
        clear hs hn hm hks hss hz e1 e2 hG hok p1 p2
        go_enter Try.func33, Try.ntmps33
        go_wp2_with fail
        refine HOK.out.mono ?_
        rintro e w1 ⟨rfl, hb1⟩
        rw [HBK.out]
        have HB1 := Lib.hid hb1
        have HS1 := Lib.hid (ints_on HP.out hb1)
        have hsz1 := hb1.size
        clear hb1 HOK
        have HLIT := Lib.hid (World.ownsRow_lit (base := w1.heap.size) (e := 3) (size := 1) w1 #[] 0 (Nat.le_refl _) (by decide) rfl)
        have HQA := Lib.hid (ints_on HS1.out ((Below.refl w1.heap.size w1).alloc (Nat.le_refl _) (.cells #[] 3)))
        have hsa : w1.heap.size ≤ (w1.alloc (.cells #[] 3)).heap.size := by simp
        have HBA := Lib.hid (HB1.out.alloc hsz1 (.cells #[] 3))
        have hj4 : n ≤ 4294967296 := by omega
        have hz0n : 0 + n = n := Nat.zero_add n
        go_wp2_with (first | (refine (spec_sz _ _ hnl hnh).mono ?_; rintro e w1 ⟨rfl, rfl⟩; rw [HS.out]) | (at_builtin; refine app_any rfl (.tmp 23) (.tmp 24) 24 rfl w1.heap.size 3 i0 8 Try.underlying24 hi hz0 hz1 hz2 (by decide) _ 0 0 [] rfl HLIT.out A n c zs rfl HN.out hnil _ HQA.out (by decide) hj4 hsa hspot ?_; intro A5 c5 w5 hown5 hgr5; have HB5 := Lib.hid (HBA.out.grown hgr5 HBA.out.size (fun b h => by have := (own_lo HLIT.out b h).1; omega)); have HO5 := Lib.hid (show w5.ownsRow w.heap.size 3 1 (.slice A5 n c5) n (vals zs) by rw [← hz0n]; exact own_mono hown5 hsz1); rw [hz0n]; clear hown5 hgr5))
        go_loopw [6, 8, 28] (fun s6 _ i wr => ∃ j : Nat, j ≤ m ∧ i = .int .i64 (j : Int) ∧ ∃ (A4 : Option Addr) (c4 : Nat) (q : List Int), s6 = .slice A4 n c4 ∧ Hid (wr.ownsRow w.heap.size 3 1 (.slice A4 n c4) n (vals q)) ∧ Hid (q.length = n) ∧ Hid (okB q = true) ∧ Hid (allGo ((mvs ks).drop j) q = G) ∧ Below w.heap.size w wr) (fun _ _ i _ => m - (intOf i).toNat)
        case atStart => exact ⟨0, Nat.zero_le _, rfl, A5, c5, zs, rfl, HO5.out, HN.out, HBK.out, HG0.out, HB5.out⟩
        case round =>
          obtain ⟨j, hj, rfl, A4, c4, q, rfl, HOW, HL, HQK, HG, hbw⟩ := hrel
          have hszw := hbw.size
          clear HO5 HB5 HG0 HLIT HQA HBA hsa HS1 hsz1 HB1
          by_cases hlt : j < m
          · obtain ⟨b, o, rfl, hbb, hc⟩ := (HK.out.below hbw) j (by rw [HM.out]; exact hlt)
            have hgs := go_step (ms := mvs ks) (j := j) (by rw [mvs_len, HM.out]; exact hlt) q
            rw [mvs_get (by rw [HM.out]; exact hlt), HG.out] at hgs
            dsimp only at hgs
            obtain ⟨hpb, hpf⟩ := faro_perf (q := q) (x := ks.getD j 0) HQK.out (by rw [HL.out]; exact HS.out)
            rw [hpb] at hgs
            generalize ks.getD j 0 = x at *
            have hq12 : q.length ≤ 12 := by rw [HL.out]; exact hn12
            have hq1 : 1 ≤ q.length := by rw [HL.out]; exact hn1
            by_cases hx : 0 ≤ x ∧ x ≤ 1
            · rw [decide_eq_true hx, if_pos rfl, hpf hx] at hgs
              have HGS := Lib.hid hgs.symm
              have HX := Lib.hid hx
              obtain ⟨h5, h6⟩ := faro_len (q := q) (k := x.toNat) hq12 hq1 (by omega) HQK.out
              have HL2 := Lib.hid (h5.trans HL.out)
              have HK2 := Lib.hid h6
              have hkv : (x = 0 ∧ x.toNat = 0) ∨ (x = 1 ∧ x.toNat = 1) := by omega
              have HKV := Lib.hid hkv
              have hnc4 := row_cap HOW.out
              clear hgs hpb hpf hx h5 h6 hkv hq12 hq1 HG
              go_wp2_with fail
              refine (in_yes x 0 1 _ HX.out.1 HX.out.2).mono ?_
              rintro e w' ⟨rfl, rfl⟩
              go_wp2_with fail
              refine (spec_faro_at A4 n c4 x.toNat x q _ HL.out hn1 hn12 hnc4 HKV.out (ints_of HOW.out)).mono ?_
              rintro e w2 ⟨A6, c6, rfl, ho, hb⟩
              rw [HL2.out] at ho
              rw [HL2.out]
              have HO := Lib.hid (own_mono ho hszw)
              have HB := Lib.hid (hbw.trans (hb.mono hszw))
              clear ho hb
              go_wp2
              go_roundw
              case rel => exact ⟨j + 1, by omega, by go_num, A6, c6, _, rfl, HO.out, HL2.out, HK2.out, HGS.out, HB.out⟩
              case measure => simp [intOf]; omega
            · rw [decide_eq_false hx, if_neg Bool.false_ne_true] at hgs
              have hb := HNON.out hgs
              have HX := Lib.hid hx
              rw [hb, allF_no hb]
              clear hgs hpb hpf hx hq12 hq1 HG hb
              go_wp2_with fail
              refine (in_no x 0 1 _ HX.out).mono ?_
              rintro e w' ⟨rfl, rfl⟩
              go_wp2
              go_ret2
              exact nil_after hbw
          · have hjm : j = m := by omega
            subst hjm
            have hgs := HG.out
            rw [List.drop_of_length_le (by rw [mvs_len, HM.out]; exact Nat.le_refl _), allGo] at hgs
            obtain ⟨h5, h6⟩ := HALL.out q hgs.symm
            have H5 := Lib.hid h5
            have H6 := Lib.hid h6
            clear hgs h5 h6 hlt
            go_wp2
            go_ret2
            exact ⟨A4, c4, by rw [H5.out, H6.out, HL.out]; rfl, by rw [H6.out, HL.out]; exact HOW.out, hbw⟩
      · have hb : frB zs ks = false := fr_long (by omega)
        rw [frF_no hb, hb]
        have hc20 : decide ((20 : Int) < (m : Int)) = true := decide_eq_true (by omega)
        clear hs hb hn hm hks hss hz h20 hok
        go_enter Try.func33, Try.ntmps33
        go_wp2_with fail
        refine HOK.out.mono ?_
        rintro e w1 ⟨rfl, hb1⟩
        rw [HBK.out]
        have HB1 := Lib.hid hb1
        clear hb1
        go_wp2_with fail
        refine (spec_sz _ _ hnl hnh).mono ?_
        rintro e w1 ⟨rfl, rfl⟩
        rw [HS.out]
        go_wp2
        go_ret2
        exact nil_after HB1.out
end Go.Proofs.Ytpbpgpccjabghaa.Frn
