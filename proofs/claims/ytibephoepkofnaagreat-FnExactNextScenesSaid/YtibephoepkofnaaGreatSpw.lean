/- How the model interleaves two lists in all ways (l05Weave). -/
import Derived.Test.YtibephoepkofnaaGreatSps
import Derived.Test.YtibephoepkofnaaGreatWv
import Derived.Test.YtibephoepkofnaaGreatDo
import Derived.Deep.CutRange
set_option linter.unusedVariables false
namespace Go.Proofs.YtibephoepkofnaaGreat.Spw
open Go.RowKit Fr Own Ins Pfn Rws Sam Srt Sst Spl Cat Spm Sps Mv1 Sv Sv2 Do Lb Wv

/-- blocks that are no rows of lists stay xs they are -/
structure Kept (W W' : World) : Prop where
  size : W.heap.size ≤ W'.heap.size
  block : ∀ k, k < W.heap.size → (∀ cs fz, W.heap[k]? ≠ some (.cells cs 22 fz)) → W'.heap[k]? = W.heap[k]?
theorem Kept.refl (W : World) : Kept W W := ⟨Nat.le_refl _, fun _ _ _ => rfl⟩
theorem Kept.trans {a b c : World} (h : Kept a b) (k : Kept b c) : Kept a c :=
  ⟨Nat.le_trans h.size k.size, fun i hi hn => (k.block i (Nat.lt_of_lt_of_le hi h.size) (fun cs fz => by rw [h.block i hi hn]; exact hn cs fz)).trans (h.block i hi hn)⟩
theorem Kept.below {W W' : World} (h : Below W.heap.size W W') : Kept W W' := ⟨h.size, fun k hk _ => h.block k hk⟩
theorem Kept.grown {W W' : World} {B n c m : Nat} {A : Option Addr} {xs : List Value} (h : W.ownsRow B 22 1 (.slice A n c) m xs) (hg : W.grownBy W' (A.map (·.block))) : Kept W W' := by
  refine ⟨hg.size, fun k hk hn => hg.block k hk fun e => ?_⟩
  rcases h.2 with ⟨hv, _⟩ | ⟨g, cap, cur, hv, _, hh, _⟩
  · simp only [Value.slice.injEq] at hv; rw [hv.1] at e; cases e
  · simp only [Value.slice.injEq] at hv; rw [hv.1] at e; simp only [Option.map_some, Option.some.injEq] at e; subst e; exact hn _ _ hh
theorem own_kept {W W' : World} {B n c m : Nat} {A : Option Addr} {xs : List Value} (h : W.ownsRow B 3 1 (.slice A n c) m xs) (hk : Kept W W') : W'.ownsRow B 3 1 (.slice A n c) m xs := by
  refine ⟨h.1, ?_⟩
  rcases h.2 with h2 | ⟨g, cap, cur, hv, hg, hh, r⟩
  · exact Or.inl h2
  · refine Or.inr ⟨g, cap, cur, hv, hg, ?_, r⟩
    rw [hk.block g (Array.getElem?_eq_some_iff.1 hh).1 (fun cs fz e => by rw [hh] at e; simp only [Option.some.injEq, Obj.cells.injEq] at e; exact absurd e.2.1 (by decide))]
    exact hh
def WeaveRes (lo no : Nat) (ro : List RD) (L : List (List Int)) (w : World) (e : Ending) (w' : World) : Prop :=
  ∃ A' c' rs', e = .returned (.slice A' (no + L.length) c') ∧ rs'.map RD.zs = ro.map RD.zs ++ L ∧ SSRow w' lo w'.heap.size A' (no + L.length) c' rs' ∧ Below lo w w' ∧ Kept w w'
theorem keep1 {V w' : World} {p : Addr} {v : Value} (h1 : Hid (V.cell? p = some v)) (l1 : Hid (p.block < V.heap.size)) (hb : Hid (Below V.heap.size V w')) : w'.cell? p = some v := (hb.out.cell l1.out).trans h1.out
theorem keepL {V w' : World} {p : Addr} {v : Value} {lo : Nat} (h1 : Hid (V.cell? p = some v)) (l1 : Hid (p.block < lo)) (hb : Hid (Below lo V w')) : w'.cell? p = some v := (hb.out.cell l1.out).trans h1.out
theorem drew_size (w : World) : w.drew.heap.size = w.heap.size := rfl
set_option maxHeartbeats 8000000 in
set_option maxRecDepth 20000 in
theorem weave_any (f : Nat) : ∀ (lo b0 : Nat) (Ao : Option Addr) (no co : Nat) (ro : List RD) (gd nd cd : Nat) (ds : List Int) (Aa : Option Addr) (na ca : Nat) (xs : List Int) (Ab : Option Addr) (nb cb : Nat) (ys : List Int) (w : World),
    xs.length = na → ys.length = nb → ds.length = nd → na + nb = f → SSRow w lo b0 Ao no co ro → lo ≤ b0 → w.ownsRow b0 3 1 (.slice (some ⟨gd, 0, none⟩) nd cd) nd (vals ds) → IntsAt w lo .i64 Aa xs → IntsAt w lo .i64 Ab ys → na ≤ ca → nb ≤ cb → nd + f ≤ 1048576 → no + 2 ^ f ≤ 4194304 →
    Calls Tryz.prog 71 #[.slice Ao no co, .slice (some ⟨gd, 0, none⟩) nd cd, .slice Aa na ca, .slice Ab nb cb] w (WeaveRes lo no ro (weaveF f ds xs ys) w) := by
  induction f with
  | zero =>
    intro lo b0 Ao no co ro gd nd cd ds Aa na ca xs Ab nb cb ys w hna hnb hnd hf hO hlo hD hA hB hca hcb hn1 hn2
    obtain ⟨rfl, rfl⟩ : na = 0 ∧ nb = 0 := by omega
    obtain ⟨i1, hj, hy0, hy1, hy2⟩ := infos_parts
    have hb0 : b0 ≤ w.heap.size := hO.2.2.2.2
    have HO := Lib.hid hO
    have HD := Lib.hid hD
    have HDL := Lib.hid hnd
    clear hO hD hA hB hna hnb hnd
    go_enter Tryz.func71, Tryz.ntmps71
    go_wp2_with (at_builtin; refine app_more rfl (.tmp 17) (.tmp 19) 63 rfl lo 22 i1 (.slice none 0 0) 24 Tryz.underlying63 hj hy0 hy1 hy2 (by decide) rfl _ _ _ _ rfl HO.out.1 (.slice (some ⟨gd, 0, none⟩) nd cd) rfl _ rfl rfl (by omega) (by omega) ?_; intro g6 c6 w6 hown6 hgr6)
    have HSN := Lib.hid (SSRow.snoc (zs := ds) (A1 := some ⟨gd, 0, none⟩) (c1 := cd) HO.out hlo (by rw [HDL.out]; exact HD.out) (by rw [HDL.out]; exact hown6) hgr6)
    have HB6 := Lib.hid ((Below.refl lo w).grown hgr6 (by omega) (fun k hk => HO.out.outlo k hk))
    have HK6 := Lib.hid (Kept.grown HO.out.1 hgr6)
    clear hown6 hgr6
    go_wp2
    go_ret
    exact ⟨_, c6, _, rfl, by rw [List.map_append]; rfl, HSN.out, HB6.out, HK6.out⟩
  | succ f ih =>
    intro lo b0 Ao no co ro gd nd cd ds Aa na ca xs Ab nb cb ys w hna hnb hnd hf hO hlo hD hA hB hca hcb hn1 hn2
    obtain ⟨i0, hi, hz0, hz1', hz2⟩ := info_parts infoInt
    have hb0 : b0 ≤ w.heap.size := hO.2.2.2.2
    have hpow : 2 ^ (f + 1) = 2 ^ f + 2 ^ f := by rw [Nat.pow_succ]; omega
    have HWL := Lib.hid (wl_size f ds xs ys)
    have HO := Lib.hid hO
    have HD := Lib.hid hD
    have HA := Lib.hid hA
    have HB := Lib.hid hB
    have HNA := Lib.hid hna
    have HNB := Lib.hid hnb
    have HND := Lib.hid hnd
    have HIH := Lib.hid ih
    obtain ⟨p2, hp2⟩ : ∃ p, p = 2 ^ f := ⟨_, rfl⟩
    rw [← hp2] at hpow
    rw [hpow] at hn2
    have HP2 := Lib.hid hp2
    obtain ⟨R, hR⟩ : ∃ R, R = weaveF (f + 1) ds xs ys := ⟨_, rfl⟩
    rw [← hR]
    have HRR := Lib.hid (show R = wl f ds xs ys ++ Wv.wr f ds xs ys from hR)
    clear hO hD hA hB hna hnb hnd ih hp2 hpow hR
    have hz0s : 0 ≤ 1048576 := by decide
    have hone : 1 ≤ 1048576 := by decide
    have hnds : nd ≤ 1048576 := by omega
    have hz1 : 0 + nd = nd := Nat.zero_add _
    go_enter Tryz.func71, Tryz.ntmps71
    go_upto_region 1 with fail
    go_cut [16] from 9 (fun c wx => c = .bool false ∧ w = wx)
    case first =>
      rcases Nat.eq_zero_or_pos na with ha0 | ha0
      · subst ha0
        have hnb1 : nb = f + 1 := by omega
        subst hnb1
        go_wp2
        go_meet
        exact ⟨by simp; omega, rfl⟩
      · have hne : ((na : Int) == 0) = false := by rw [beq_eq_false_iff_ne]; omega
        have hne2 : (na == 0) = false := by rw [beq_eq_false_iff_ne]; omega
        go_wp2
        go_meet
        exact ⟨by simp, rfl⟩
    case rest =>
    obtain ⟨rfl, rfl⟩ := hcut
    go_upto_if 23 with (fail)
    go_cut [0] from 9 (fun s0 wx => ∃ (A' : Option Addr) (c' : Nat) (rs' : List RD), s0 = .slice A' (no + (wl f ds xs ys).length) c' ∧ Hid (rs'.map RD.zs = ro.map RD.zs ++ wl f ds xs ys) ∧ Hid (SSRow wx lo wx.heap.size A' (no + (wl f ds xs ys).length) c' rs') ∧ Hid (Below lo w wx) ∧ Hid (Kept w wx))
    case first =>
      rcases Nat.eq_zero_or_pos na with ha0 | ha0
      · subst ha0
        have has : xs = [] := List.length_eq_zero_iff.1 HNA.out
        subst has
        have HE := Lib.hid (show (wl f ds [] ys).length = 0 from rfl)
        have HO2 := Lib.hid (HO.out.higher hb0 (Nat.le_refl _))
        go_wp2
        go_meet
        exact ⟨Ao, co, ro, rfl, Lib.hid (List.append_nil _).symm, HO2, Lib.hid (Below.refl _ _), Lib.hid (Kept.refl _)⟩
      · obtain ⟨x, a', rfl⟩ : ∃ x a', xs = x :: a' := by
          cases xs with
          | nil => exact absurd HNA.out (by simp; omega)
          | cons x a' => exact ⟨x, a', rfl⟩
        obtain ⟨m, rfl⟩ : ∃ m, na = m + 1 := ⟨na - 1, by omega⟩
        obtain ⟨ba, oa, rfl, hlt, hcx⟩ := HA.out 0 (by simp)
        have HCX := Lib.hid (show w.cell? ⟨ba, oa, none⟩ = some (.int .i64 x) from hcx)
        have HLX := Lib.hid (show (⟨ba, oa, none⟩ : Addr).block < w.heap.size from Nat.lt_of_lt_of_le hlt (Nat.le_trans hlo hb0))
        have HLL := Lib.hid (show (⟨ba, oa, none⟩ : Addr).block < lo from hlt)
        have HSV := Lib.hid (ints_of HD.out)
        have HLA := Lib.hid (show a'.length = m by have := HNA.out; simpa using this)
        have HLB := HNB
        have HLD := Lib.hid (show (ds ++ [x]).length = nd + 1 by simp [HND.out])
        have hmf : m + nb = f := by omega
        have HOV := Lib.hid (HO.out.higher hb0 (Nat.le_refl _))
        have hlov : lo ≤ w.heap.size := Nat.le_trans hlo hb0
        have HB2 := HB
        have hcb2 := hcb
        have hnf : nd + 1 + f ≤ 1048576 := by omega
        have hno : no + 2 ^ f ≤ 4194304 := by rw [← HP2.out]; omega
        by_cases hcap : ca = 1
        · subst hcap
          obtain rfl : m = 0 := by omega
          have ha' : a' = [] := List.length_eq_zero_iff.1 HLA.out
          subst ha'
          have hcm : 0 ≤ 0 := Nat.le_refl _
          have HTA := Lib.hid (IntsAt.none_ w lo .i64 (some ⟨ba, oa, none⟩))
          clear hcx hlt HA HO HD hca HNA HNB
          go_wp2
          have HCALL := Lib.hid (fun (w6 : World) (g6 c6 : Nat) (hown6 : w6.ownsRow w.heap.size 3 1 (.slice (some ⟨g6, 0, none⟩) (nd + 1) c6) (nd + 1) (vals ([] ++ ds ++ [x]))) (hb6 : Hid (Below w.heap.size w w6)) => HIH.out lo w.heap.size Ao no co ro g6 (nd + 1) c6 (ds ++ [x]) (some ⟨ba, oa, none⟩) 0 0 [] Ab nb cb ys w6 HLA.out HLB.out HLD.out hmf (HOV.out.under hb6.out) hlov hown6 (HTA.out.below (hb6.out.mono hlov)) (HB2.out.below (hb6.out.mono hlov)) hcm hcb2 hnf hno)
          have K0 := Lib.hid ((Below.refl w.heap.size w).drew)
          have K1 := fun o => Lib.hid (below_new w o)
          have K2 := fun o o2 => belowA (V := w) (W := w.alloc o) ((Below.refl w.heap.size w).alloc (Nat.le_refl _) o) o2
          have HL0a := Lib.hid (lit0 w)
          have HL0b := Lib.hid (lit0b w (.cells #[.int .i64 x] 3))
          have HL0c := Lib.hid (lit0c w (.cells #[.int .i64 x] 3))
          have hneb : Option.map (fun x : Addr => x.block) (some ⟨w.heap.size, 0, none⟩) ≠ some (w.heap.size + 1) := fun e => by simp at e
          have hnec : Option.map (fun x : Addr => x.block) (some ⟨w.heap.size + 1, 0, none⟩) ≠ some w.heap.size := fun e => by simp at e
          go_region_held_law (fun w' => w'.cell? ⟨ba, oa, none⟩ = some (.int .i64 x)) ((first | exact keep1 HCX HLX K0 | exact keep1 HCX HLX (K1 _) | exact keep1 HCX HLX (K2 _ _) | exact keep1 HCX HLX hb6 | exact keep1 HCX HLX (belowB hb5 _) | exact keep1 HCX HLX hb5 | exact keepL HCX HLL hb7)) ((first
            | (refine step_app_f rfl (.tmp 25) (.tmp 26) 22 rfl w.heap.size 3 i0 Tryz.underlying22 hi hz0 hz1' hz2 (some ⟨w.heap.size, 0, none⟩) 0 0 [] rfl HL0a.out gd 0 nd cd ds rfl HND.out (ints_on HSV.out (K1 (.cells #[] 3)).out) hz0s hnds (K1 (.cells #[] 3)).out.size nd hz1 ?_; intro A5 c5 w5 hown5 hgr5 hf5; have hb5 := Lib.hid ((K1 (.cells #[] 3)).out.grown hgr5 (K1 (.cells #[] 3)).out.size (fun b h => (own_lo HL0a.out b h).1)))
            | (refine step_app_f rfl (.tmp 25) (.tmp 26) 22 rfl w.heap.size 3 i0 Tryz.underlying22 hi hz0 hz1' hz2 (some ⟨w.heap.size, 0, none⟩) 0 0 [] rfl HL0b.out gd 0 nd cd ds rfl HND.out (ints_on HSV.out (K2 (.cells #[] 3) (.cells #[.int .i64 x] 3)).out) hz0s hnds (K2 (.cells #[] 3) (.cells #[.int .i64 x] 3)).out.size nd hz1 ?_; intro A5 c5 w5 hown5 hgr5 hf5; have hb5 := Lib.hid ((K2 (.cells #[] 3) (.cells #[.int .i64 x] 3)).out.grown hgr5 (K2 (.cells #[] 3) (.cells #[.int .i64 x] 3)).out.size (fun b h => (own_lo HL0b.out b h).1)); have hlit5 := lit1_kept (lit1b w x) hgr5 hneb; have hnex := ne_b hf5)
            | (refine step_app_f rfl (.tmp 25) (.tmp 26) 22 rfl w.heap.size 3 i0 Tryz.underlying22 hi hz0 hz1' hz2 (some ⟨w.heap.size + 1, 0, none⟩) 0 0 [] rfl HL0c.out gd 0 nd cd ds rfl HND.out (ints_on HSV.out (K2 (.cells #[.int .i64 x] 3) (.cells #[] 3)).out) hz0s hnds (K2 (.cells #[.int .i64 x] 3) (.cells #[] 3)).out.size nd hz1 ?_; intro A5 c5 w5 hown5 hgr5 hf5; have hb5 := Lib.hid ((K2 (.cells #[.int .i64 x] 3) (.cells #[] 3)).out.grown hgr5 (K2 (.cells #[.int .i64 x] 3) (.cells #[] 3)).out.size (fun b h => (own_lo HL0c.out b h).1)); have hlit5 := lit1_kept (lit1c w x) hgr5 hnec; have hnex := ne_c hf5)
            | (refine step_app_r rfl (.tmp 27) (.tmp 31) 22 rfl w.heap.size 3 i0 Tryz.underlying22 hi hz0 hz1' hz2 A5 c5 nd ([] ++ ds) rfl hown5 _ 1 1 [x] rfl rfl (fun h => by cases h) hlit5 hnds hone hb5.out.size spot_some (nd + 1) rfl ?_; intro A6 c6 w6 hown6 hgr6; have hb6 := Lib.hid (hb5.out.grown hgr6 hb5.out.size (fun b h => (own_lo hown5 b h).1)); obtain ⟨g6, hg6⟩ := own_shape hown6 (Nat.succ_pos _); subst hg6)
            | (refine step_app_r rfl (.tmp 27) (.tmp 31) 22 rfl w.heap.size 3 i0 Tryz.underlying22 hi hz0 hz1' hz2 A5 c5 nd ([] ++ ds) rfl (show (w5.alloc (.cells #[.int .i64 x] 3)).ownsRow w.heap.size 3 1 (.slice A5 nd c5) nd (vals ([] ++ ds)) from hown5.alloc _) _ 1 1 [x] rfl rfl (fun h => by cases h) (lit1_atB w5 x) hnds hone (belowB hb5 (.cells #[.int .i64 x] 3)).out.size spot_some (nd + 1) rfl ?_; intro A6 c6 w6 hown6 hgr6; have hb6 := Lib.hid ((belowB hb5 (.cells #[.int .i64 x] 3)).out.grown hgr6 (belowB hb5 (.cells #[.int .i64 x] 3)).out.size (fun b h => (own_lo hown5 b h).1)); obtain ⟨g6, hg6⟩ := own_shape hown6 (Nat.succ_pos _); subst hg6)
            | (go_at_call 71; refine (HCALL.out _ _ _ hown6 hb6).mono ?_; rintro e w7 ⟨A7, c7, r7, rfl, hz7, hr7, hb7', hk7⟩; have hb7 := Lib.hid ((hb6.out.mono hlov).trans hb7'))))
          all_goals
            have HK7 := Lib.hid ((Kept.below hb6.out).trans hk7)
            have HR7 := Lib.hid hr7
            have HZ7 := Lib.hid hz7
            clear HCALL hr7 hz7 hb7' hk7 hown6 hgr6 hown5 hgr5 hb5 hb6 HL0a HL0b HL0c
            go_wp2
            go_meet
            exact ⟨A7, c7, r7, rfl, HZ7, HR7, hb7, HK7⟩
        · have hcap2 : ¬ ((ca : Int) = 1) := by omega
          have hc1 : 1 ≤ ca := by omega
          have hcm : m ≤ ca - 1 := by omega
          have HTA := Lib.hid (show IntsAt w lo .i64 (some ⟨ba, oa + 1, none⟩) a' from ints_drop (k := 1) HA.out)
          clear hcx hlt HA HO HD HNA HNB
          go_wp2
          have HCALL := Lib.hid (fun (w6 : World) (g6 c6 : Nat) (hown6 : w6.ownsRow w.heap.size 3 1 (.slice (some ⟨g6, 0, none⟩) (nd + 1) c6) (nd + 1) (vals ([] ++ ds ++ [x]))) (hb6 : Hid (Below w.heap.size w w6)) => HIH.out lo w.heap.size Ao no co ro g6 (nd + 1) c6 (ds ++ [x]) (some ⟨ba, oa + 1, none⟩) m (ca - 1) a' Ab nb cb ys w6 HLA.out HLB.out HLD.out hmf (HOV.out.under hb6.out) hlov hown6 (HTA.out.below (hb6.out.mono hlov)) (HB2.out.below (hb6.out.mono hlov)) hcm hcb2 hnf hno)
          have K0 := Lib.hid ((Below.refl w.heap.size w).drew)
          have K1 := fun o => Lib.hid (below_new w o)
          have K2 := fun o o2 => belowA (V := w) (W := w.alloc o) ((Below.refl w.heap.size w).alloc (Nat.le_refl _) o) o2
          have HL0a := Lib.hid (lit0 w)
          have HL0b := Lib.hid (lit0b w (.cells #[.int .i64 x] 3))
          have HL0c := Lib.hid (lit0c w (.cells #[.int .i64 x] 3))
          have hneb : Option.map (fun x : Addr => x.block) (some ⟨w.heap.size, 0, none⟩) ≠ some (w.heap.size + 1) := fun e => by simp at e
          have hnec : Option.map (fun x : Addr => x.block) (some ⟨w.heap.size + 1, 0, none⟩) ≠ some w.heap.size := fun e => by simp at e
          go_region_held_law (fun w' => w'.cell? ⟨ba, oa, none⟩ = some (.int .i64 x)) ((first | exact keep1 HCX HLX K0 | exact keep1 HCX HLX (K1 _) | exact keep1 HCX HLX (K2 _ _) | exact keep1 HCX HLX hb6 | exact keep1 HCX HLX (belowB hb5 _) | exact keep1 HCX HLX hb5 | exact keepL HCX HLL hb7)) ((first
            | (refine step_app_f rfl (.tmp 25) (.tmp 26) 22 rfl w.heap.size 3 i0 Tryz.underlying22 hi hz0 hz1' hz2 (some ⟨w.heap.size, 0, none⟩) 0 0 [] rfl HL0a.out gd 0 nd cd ds rfl HND.out (ints_on HSV.out (K1 (.cells #[] 3)).out) hz0s hnds (K1 (.cells #[] 3)).out.size nd hz1 ?_; intro A5 c5 w5 hown5 hgr5 hf5; have hb5 := Lib.hid ((K1 (.cells #[] 3)).out.grown hgr5 (K1 (.cells #[] 3)).out.size (fun b h => (own_lo HL0a.out b h).1)))
            | (refine step_app_f rfl (.tmp 25) (.tmp 26) 22 rfl w.heap.size 3 i0 Tryz.underlying22 hi hz0 hz1' hz2 (some ⟨w.heap.size, 0, none⟩) 0 0 [] rfl HL0b.out gd 0 nd cd ds rfl HND.out (ints_on HSV.out (K2 (.cells #[] 3) (.cells #[.int .i64 x] 3)).out) hz0s hnds (K2 (.cells #[] 3) (.cells #[.int .i64 x] 3)).out.size nd hz1 ?_; intro A5 c5 w5 hown5 hgr5 hf5; have hb5 := Lib.hid ((K2 (.cells #[] 3) (.cells #[.int .i64 x] 3)).out.grown hgr5 (K2 (.cells #[] 3) (.cells #[.int .i64 x] 3)).out.size (fun b h => (own_lo HL0b.out b h).1)); have hlit5 := lit1_kept (lit1b w x) hgr5 hneb; have hnex := ne_b hf5)
            | (refine step_app_f rfl (.tmp 25) (.tmp 26) 22 rfl w.heap.size 3 i0 Tryz.underlying22 hi hz0 hz1' hz2 (some ⟨w.heap.size + 1, 0, none⟩) 0 0 [] rfl HL0c.out gd 0 nd cd ds rfl HND.out (ints_on HSV.out (K2 (.cells #[.int .i64 x] 3) (.cells #[] 3)).out) hz0s hnds (K2 (.cells #[.int .i64 x] 3) (.cells #[] 3)).out.size nd hz1 ?_; intro A5 c5 w5 hown5 hgr5 hf5; have hb5 := Lib.hid ((K2 (.cells #[.int .i64 x] 3) (.cells #[] 3)).out.grown hgr5 (K2 (.cells #[.int .i64 x] 3) (.cells #[] 3)).out.size (fun b h => (own_lo HL0c.out b h).1)); have hlit5 := lit1_kept (lit1c w x) hgr5 hnec; have hnex := ne_c hf5)
            | (refine step_app_r rfl (.tmp 27) (.tmp 31) 22 rfl w.heap.size 3 i0 Tryz.underlying22 hi hz0 hz1' hz2 A5 c5 nd ([] ++ ds) rfl hown5 _ 1 1 [x] rfl rfl (fun h => by cases h) hlit5 hnds hone hb5.out.size spot_some (nd + 1) rfl ?_; intro A6 c6 w6 hown6 hgr6; have hb6 := Lib.hid (hb5.out.grown hgr6 hb5.out.size (fun b h => (own_lo hown5 b h).1)); obtain ⟨g6, hg6⟩ := own_shape hown6 (Nat.succ_pos _); subst hg6)
            | (refine step_app_r rfl (.tmp 27) (.tmp 31) 22 rfl w.heap.size 3 i0 Tryz.underlying22 hi hz0 hz1' hz2 A5 c5 nd ([] ++ ds) rfl (show (w5.alloc (.cells #[.int .i64 x] 3)).ownsRow w.heap.size 3 1 (.slice A5 nd c5) nd (vals ([] ++ ds)) from hown5.alloc _) _ 1 1 [x] rfl rfl (fun h => by cases h) (lit1_atB w5 x) hnds hone (belowB hb5 (.cells #[.int .i64 x] 3)).out.size spot_some (nd + 1) rfl ?_; intro A6 c6 w6 hown6 hgr6; have hb6 := Lib.hid ((belowB hb5 (.cells #[.int .i64 x] 3)).out.grown hgr6 (belowB hb5 (.cells #[.int .i64 x] 3)).out.size (fun b h => (own_lo hown5 b h).1)); obtain ⟨g6, hg6⟩ := own_shape hown6 (Nat.succ_pos _); subst hg6)
            | (go_at_call 71; refine (HCALL.out _ _ _ hown6 hb6).mono ?_; rintro e w7 ⟨A7, c7, r7, rfl, hz7, hr7, hb7', hk7⟩; have hb7 := Lib.hid ((hb6.out.mono hlov).trans hb7'))))
          all_goals
            have HK7 := Lib.hid ((Kept.below hb6.out).trans hk7)
            have HR7 := Lib.hid hr7
            have HZ7 := Lib.hid hz7
            clear HCALL hr7 hz7 hb7' hk7 hown6 hgr6 hown5 hgr5 hb5 hb6 HL0a HL0b HL0c
            go_wp2
            go_meet
            exact ⟨A7, c7, r7, rfl, HZ7, HR7, hb7, HK7⟩
    case rest =>
      obtain ⟨Ap, cp, rp, rfl, HMP, HOP, HBP, HKP⟩ := hcut
      have hlov : lo ≤ wc.heap.size := Nat.le_trans (Nat.le_trans hlo hb0) HBP.out.size
      rcases Nat.eq_zero_or_pos nb with ha0 | ha0
      · subst ha0
        have has : ys = [] := List.length_eq_zero_iff.1 HNB.out
        subst has
        have HE := Lib.hid (show WeaveRes lo no ro R w (.returned (.slice Ap (no + (wl f ds xs []).length) cp)) wc by
          have e : R = wl f ds xs [] := HRR.out.trans (List.append_nil _)
          rw [e]
          exact ⟨Ap, cp, rp, rfl, HMP.out, HOP.out, HBP.out, HKP.out⟩)
        clear HMP HOP
        go_wp2
        go_ret
        exact HE.out
      · obtain ⟨x, a', rfl⟩ : ∃ x a', ys = x :: a' := by
          cases ys with
          | nil => exact absurd HNB.out (by simp; omega)
          | cons x a' => exact ⟨x, a', rfl⟩
        obtain ⟨m, rfl⟩ : ∃ m, nb = m + 1 := ⟨nb - 1, by omega⟩
        obtain ⟨ba, oa, rfl, hlt, hcx⟩ := HB.out 0 (by simp)
        have HCX := Lib.hid (show wc.cell? ⟨ba, oa, none⟩ = some (.int .i64 x) from (HBP.out.cell (p := ⟨ba, oa, none⟩) hlt).trans hcx)
        have HLX := Lib.hid (show (⟨ba, oa, none⟩ : Addr).block < wc.heap.size from Nat.lt_of_lt_of_le hlt hlov)
        have HLL := Lib.hid (show (⟨ba, oa, none⟩ : Addr).block < lo from hlt)
        have HSV := Lib.hid (ints_of (own_kept HD.out HKP.out))
        have HLA := HNA
        have HLB := Lib.hid (show a'.length = m by have := HNB.out; simpa using this)
        have HLD := Lib.hid (show (ds ++ [x]).length = nd + 1 by simp [HND.out])
        have hmf : na + m = f := by omega
        have HOV := HOP
        have HA2 := Lib.hid (HA.out.below HBP.out)
        have hca2 := hca
        have hnf : nd + 1 + f ≤ 1048576 := by omega
        have hno : no + (wl f ds xs (x :: a')).length + 2 ^ f ≤ 4194304 := by have := HWL.out; rw [← HP2.out] at this ⊢; omega
        have HLEN := Lib.hid (show no + (wl f ds xs (x :: a')).length + (weaveF f (ds ++ [x]) xs a').length = no + R.length by
          rw [HRR.out, List.length_append]
          show _ = no + ((wl f ds xs (x :: a')).length + (weaveF f (ds ++ [x]) xs a').length)
          omega)
        have HREQ := Lib.hid (show R = wl f ds xs (x :: a') ++ weaveF f (ds ++ [x]) xs a' from HRR.out)
        generalize wl f ds xs (x :: a') = WL at *
        by_cases hcap : cb = 1
        · subst hcap
          obtain rfl : m = 0 := by omega
          have ha' : a' = [] := List.length_eq_zero_iff.1 HLB.out
          subst ha'
          have hcm : 0 ≤ 0 := Nat.le_refl _
          have HTA := Lib.hid (IntsAt.none_ wc lo .i64 (some ⟨ba, oa, none⟩))
          clear hcx hlt HA HO HD hcb HNA HNB HOP HB HRR HWL
          go_wp2
          have HCALL := Lib.hid (fun (w6 : World) (g6 c6 : Nat) (hown6 : w6.ownsRow wc.heap.size 3 1 (.slice (some ⟨g6, 0, none⟩) (nd + 1) c6) (nd + 1) (vals ([] ++ ds ++ [x]))) (hb6 : Hid (Below wc.heap.size wc w6)) => HIH.out lo wc.heap.size Ap (no + WL.length) cp rp g6 (nd + 1) c6 (ds ++ [x]) Aa na ca xs (some ⟨ba, oa, none⟩) 0 0 [] w6 HLA.out HLB.out HLD.out hmf (HOV.out.under hb6.out) hlov hown6 (HA2.out.below (hb6.out.mono hlov)) (HTA.out.below (hb6.out.mono hlov)) hca2 hcm hnf hno)
          have K0 := Lib.hid ((Below.refl wc.heap.size wc).drew)
          have K1 := fun o => Lib.hid (below_new wc o)
          have K2 := fun o o2 => belowA (V := wc) (W := wc.alloc o) ((Below.refl wc.heap.size wc).alloc (Nat.le_refl _) o) o2
          have HL0a := Lib.hid (lit0 wc)
          have HL0b := Lib.hid (lit0b wc (.cells #[.int .i64 x] 3))
          have HL0c := Lib.hid (lit0c wc (.cells #[.int .i64 x] 3))
          have hneb : Option.map (fun x : Addr => x.block) (some ⟨wc.heap.size, 0, none⟩) ≠ some (wc.heap.size + 1) := fun e => by simp at e
          have hnec : Option.map (fun x : Addr => x.block) (some ⟨wc.heap.size + 1, 0, none⟩) ≠ some wc.heap.size := fun e => by simp at e
          go_region_held_law (fun w' => w'.cell? ⟨ba, oa, none⟩ = some (.int .i64 x)) ((first | exact keep1 HCX HLX K0 | exact keep1 HCX HLX (K1 _) | exact keep1 HCX HLX (K2 _ _) | exact keep1 HCX HLX hb6 | exact keep1 HCX HLX (belowB hb5 _) | exact keep1 HCX HLX hb5 | exact keepL HCX HLL hb7)) ((first
            | (refine step_app_f rfl (.tmp 41) (.tmp 42) 22 rfl wc.heap.size 3 i0 Tryz.underlying22 hi hz0 hz1' hz2 (some ⟨wc.heap.size, 0, none⟩) 0 0 [] rfl HL0a.out gd 0 nd cd ds rfl HND.out (ints_on HSV.out (K1 (.cells #[] 3)).out) hz0s hnds (K1 (.cells #[] 3)).out.size nd hz1 ?_; intro A5 c5 w5 hown5 hgr5 hf5; have hb5 := Lib.hid ((K1 (.cells #[] 3)).out.grown hgr5 (K1 (.cells #[] 3)).out.size (fun b h => (own_lo HL0a.out b h).1)))
            | (refine step_app_f rfl (.tmp 41) (.tmp 42) 22 rfl wc.heap.size 3 i0 Tryz.underlying22 hi hz0 hz1' hz2 (some ⟨wc.heap.size, 0, none⟩) 0 0 [] rfl HL0b.out gd 0 nd cd ds rfl HND.out (ints_on HSV.out (K2 (.cells #[] 3) (.cells #[.int .i64 x] 3)).out) hz0s hnds (K2 (.cells #[] 3) (.cells #[.int .i64 x] 3)).out.size nd hz1 ?_; intro A5 c5 w5 hown5 hgr5 hf5; have hb5 := Lib.hid ((K2 (.cells #[] 3) (.cells #[.int .i64 x] 3)).out.grown hgr5 (K2 (.cells #[] 3) (.cells #[.int .i64 x] 3)).out.size (fun b h => (own_lo HL0b.out b h).1)); have hlit5 := lit1_kept (lit1b wc x) hgr5 hneb; have hnex := ne_b hf5)
            | (refine step_app_f rfl (.tmp 41) (.tmp 42) 22 rfl wc.heap.size 3 i0 Tryz.underlying22 hi hz0 hz1' hz2 (some ⟨wc.heap.size + 1, 0, none⟩) 0 0 [] rfl HL0c.out gd 0 nd cd ds rfl HND.out (ints_on HSV.out (K2 (.cells #[.int .i64 x] 3) (.cells #[] 3)).out) hz0s hnds (K2 (.cells #[.int .i64 x] 3) (.cells #[] 3)).out.size nd hz1 ?_; intro A5 c5 w5 hown5 hgr5 hf5; have hb5 := Lib.hid ((K2 (.cells #[.int .i64 x] 3) (.cells #[] 3)).out.grown hgr5 (K2 (.cells #[.int .i64 x] 3) (.cells #[] 3)).out.size (fun b h => (own_lo HL0c.out b h).1)); have hlit5 := lit1_kept (lit1c wc x) hgr5 hnec; have hnex := ne_c hf5)
            | (refine step_app_r rfl (.tmp 43) (.tmp 47) 22 rfl wc.heap.size 3 i0 Tryz.underlying22 hi hz0 hz1' hz2 A5 c5 nd ([] ++ ds) rfl hown5 _ 1 1 [x] rfl rfl (fun h => by cases h) hlit5 hnds hone hb5.out.size spot_some (nd + 1) rfl ?_; intro A6 c6 w6 hown6 hgr6; have hb6 := Lib.hid (hb5.out.grown hgr6 hb5.out.size (fun b h => (own_lo hown5 b h).1)); obtain ⟨g6, hg6⟩ := own_shape hown6 (Nat.succ_pos _); subst hg6)
            | (refine step_app_r rfl (.tmp 43) (.tmp 47) 22 rfl wc.heap.size 3 i0 Tryz.underlying22 hi hz0 hz1' hz2 A5 c5 nd ([] ++ ds) rfl (show (w5.alloc (.cells #[.int .i64 x] 3)).ownsRow wc.heap.size 3 1 (.slice A5 nd c5) nd (vals ([] ++ ds)) from hown5.alloc _) _ 1 1 [x] rfl rfl (fun h => by cases h) (lit1_atB w5 x) hnds hone (belowB hb5 (.cells #[.int .i64 x] 3)).out.size spot_some (nd + 1) rfl ?_; intro A6 c6 w6 hown6 hgr6; have hb6 := Lib.hid ((belowB hb5 (.cells #[.int .i64 x] 3)).out.grown hgr6 (belowB hb5 (.cells #[.int .i64 x] 3)).out.size (fun b h => (own_lo hown5 b h).1)); obtain ⟨g6, hg6⟩ := own_shape hown6 (Nat.succ_pos _); subst hg6)
            | (go_at_call 71; refine (HCALL.out _ _ _ hown6 hb6).mono ?_; rintro e w7 ⟨A7, c7, r7, rfl, hz7, hr7, hb7', hk7⟩; have hb7 := Lib.hid ((hb6.out.mono hlov).trans hb7'))))
          all_goals
            have HE := Lib.hid (show WeaveRes lo no ro R w (.returned (.slice A7 (no + WL.length + (weaveF f (ds ++ [x]) xs []).length) c7)) w7 from
              ⟨A7, c7, r7, by rw [HLEN.out], by rw [hz7, HMP.out, HREQ.out, List.append_assoc], by rw [← HLEN.out]; exact hr7, HBP.out.trans ((hb6.out.mono hlov).trans hb7'), HKP.out.trans ((Kept.below hb6.out).trans hk7)⟩)
            clear HCALL hr7 hz7 hb7' hk7 hown6 hgr6 hown5 hgr5 hb5 hb6 HL0a HL0b HL0c
            go_wp2
            go_ret
            exact HE.out
        · have hcap2 : ¬ ((cb : Int) = 1) := by omega
          have hc1 : 1 ≤ cb := by omega
          have hcm : m ≤ cb - 1 := by omega
          have HTA := Lib.hid (show IntsAt wc lo .i64 (some ⟨ba, oa + 1, none⟩) a' from ints_drop (k := 1) (HB.out.below HBP.out))
          clear hcx hlt HA HO HD HNA HNB HOP HB HRR HWL
          go_wp2
          have HCALL := Lib.hid (fun (w6 : World) (g6 c6 : Nat) (hown6 : w6.ownsRow wc.heap.size 3 1 (.slice (some ⟨g6, 0, none⟩) (nd + 1) c6) (nd + 1) (vals ([] ++ ds ++ [x]))) (hb6 : Hid (Below wc.heap.size wc w6)) => HIH.out lo wc.heap.size Ap (no + WL.length) cp rp g6 (nd + 1) c6 (ds ++ [x]) Aa na ca xs (some ⟨ba, oa + 1, none⟩) m (cb - 1) a' w6 HLA.out HLB.out HLD.out hmf (HOV.out.under hb6.out) hlov hown6 (HA2.out.below (hb6.out.mono hlov)) (HTA.out.below (hb6.out.mono hlov)) hca2 hcm hnf hno)
          have K0 := Lib.hid ((Below.refl wc.heap.size wc).drew)
          have K1 := fun o => Lib.hid (below_new wc o)
          have K2 := fun o o2 => belowA (V := wc) (W := wc.alloc o) ((Below.refl wc.heap.size wc).alloc (Nat.le_refl _) o) o2
          have HL0a := Lib.hid (lit0 wc)
          have HL0b := Lib.hid (lit0b wc (.cells #[.int .i64 x] 3))
          have HL0c := Lib.hid (lit0c wc (.cells #[.int .i64 x] 3))
          have hneb : Option.map (fun x : Addr => x.block) (some ⟨wc.heap.size, 0, none⟩) ≠ some (wc.heap.size + 1) := fun e => by simp at e
          have hnec : Option.map (fun x : Addr => x.block) (some ⟨wc.heap.size + 1, 0, none⟩) ≠ some wc.heap.size := fun e => by simp at e
          go_region_held_law (fun w' => w'.cell? ⟨ba, oa, none⟩ = some (.int .i64 x)) ((first | exact keep1 HCX HLX K0 | exact keep1 HCX HLX (K1 _) | exact keep1 HCX HLX (K2 _ _) | exact keep1 HCX HLX hb6 | exact keep1 HCX HLX (belowB hb5 _) | exact keep1 HCX HLX hb5 | exact keepL HCX HLL hb7)) ((first
            | (refine step_app_f rfl (.tmp 41) (.tmp 42) 22 rfl wc.heap.size 3 i0 Tryz.underlying22 hi hz0 hz1' hz2 (some ⟨wc.heap.size, 0, none⟩) 0 0 [] rfl HL0a.out gd 0 nd cd ds rfl HND.out (ints_on HSV.out (K1 (.cells #[] 3)).out) hz0s hnds (K1 (.cells #[] 3)).out.size nd hz1 ?_; intro A5 c5 w5 hown5 hgr5 hf5; have hb5 := Lib.hid ((K1 (.cells #[] 3)).out.grown hgr5 (K1 (.cells #[] 3)).out.size (fun b h => (own_lo HL0a.out b h).1)))
            | (refine step_app_f rfl (.tmp 41) (.tmp 42) 22 rfl wc.heap.size 3 i0 Tryz.underlying22 hi hz0 hz1' hz2 (some ⟨wc.heap.size, 0, none⟩) 0 0 [] rfl HL0b.out gd 0 nd cd ds rfl HND.out (ints_on HSV.out (K2 (.cells #[] 3) (.cells #[.int .i64 x] 3)).out) hz0s hnds (K2 (.cells #[] 3) (.cells #[.int .i64 x] 3)).out.size nd hz1 ?_; intro A5 c5 w5 hown5 hgr5 hf5; have hb5 := Lib.hid ((K2 (.cells #[] 3) (.cells #[.int .i64 x] 3)).out.grown hgr5 (K2 (.cells #[] 3) (.cells #[.int .i64 x] 3)).out.size (fun b h => (own_lo HL0b.out b h).1)); have hlit5 := lit1_kept (lit1b wc x) hgr5 hneb; have hnex := ne_b hf5)
            | (refine step_app_f rfl (.tmp 41) (.tmp 42) 22 rfl wc.heap.size 3 i0 Tryz.underlying22 hi hz0 hz1' hz2 (some ⟨wc.heap.size + 1, 0, none⟩) 0 0 [] rfl HL0c.out gd 0 nd cd ds rfl HND.out (ints_on HSV.out (K2 (.cells #[.int .i64 x] 3) (.cells #[] 3)).out) hz0s hnds (K2 (.cells #[.int .i64 x] 3) (.cells #[] 3)).out.size nd hz1 ?_; intro A5 c5 w5 hown5 hgr5 hf5; have hb5 := Lib.hid ((K2 (.cells #[.int .i64 x] 3) (.cells #[] 3)).out.grown hgr5 (K2 (.cells #[.int .i64 x] 3) (.cells #[] 3)).out.size (fun b h => (own_lo HL0c.out b h).1)); have hlit5 := lit1_kept (lit1c wc x) hgr5 hnec; have hnex := ne_c hf5)
            | (refine step_app_r rfl (.tmp 43) (.tmp 47) 22 rfl wc.heap.size 3 i0 Tryz.underlying22 hi hz0 hz1' hz2 A5 c5 nd ([] ++ ds) rfl hown5 _ 1 1 [x] rfl rfl (fun h => by cases h) hlit5 hnds hone hb5.out.size spot_some (nd + 1) rfl ?_; intro A6 c6 w6 hown6 hgr6; have hb6 := Lib.hid (hb5.out.grown hgr6 hb5.out.size (fun b h => (own_lo hown5 b h).1)); obtain ⟨g6, hg6⟩ := own_shape hown6 (Nat.succ_pos _); subst hg6)
            | (refine step_app_r rfl (.tmp 43) (.tmp 47) 22 rfl wc.heap.size 3 i0 Tryz.underlying22 hi hz0 hz1' hz2 A5 c5 nd ([] ++ ds) rfl (show (w5.alloc (.cells #[.int .i64 x] 3)).ownsRow wc.heap.size 3 1 (.slice A5 nd c5) nd (vals ([] ++ ds)) from hown5.alloc _) _ 1 1 [x] rfl rfl (fun h => by cases h) (lit1_atB w5 x) hnds hone (belowB hb5 (.cells #[.int .i64 x] 3)).out.size spot_some (nd + 1) rfl ?_; intro A6 c6 w6 hown6 hgr6; have hb6 := Lib.hid ((belowB hb5 (.cells #[.int .i64 x] 3)).out.grown hgr6 (belowB hb5 (.cells #[.int .i64 x] 3)).out.size (fun b h => (own_lo hown5 b h).1)); obtain ⟨g6, hg6⟩ := own_shape hown6 (Nat.succ_pos _); subst hg6)
            | (go_at_call 71; refine (HCALL.out _ _ _ hown6 hb6).mono ?_; rintro e w7 ⟨A7, c7, r7, rfl, hz7, hr7, hb7', hk7⟩; have hb7 := Lib.hid ((hb6.out.mono hlov).trans hb7'))))
          all_goals
            have HE := Lib.hid (show WeaveRes lo no ro R w (.returned (.slice A7 (no + WL.length + (weaveF f (ds ++ [x]) xs a').length) c7)) w7 from
              ⟨A7, c7, r7, by rw [HLEN.out], by rw [hz7, HMP.out, HREQ.out, List.append_assoc], by rw [← HLEN.out]; exact hr7, HBP.out.trans ((hb6.out.mono hlov).trans hb7'), HKP.out.trans ((Kept.below hb6.out).trans hk7)⟩)
            clear HCALL hr7 hz7 hb7' hk7 hown6 hgr6 hown5 hgr5 hb5 hb6 HL0a HL0b HL0c
            go_wp2
            go_ret
            exact HE.out
end Go.Proofs.YtibephoepkofnaaGreat.Spw
