/- collected: the lists that grow place by place, for any function that tells how a prefix may go on. -/
import Derived.Test.YtefgcnjbiaileaaRws
import Derived.Test.YtefgcnjbiaileaaAat
import Derived.Test.YtefgcnjbiaileaaLb
set_option linter.unusedVariables false
set_option maxRecDepth 20000
namespace Go.Proofs.Ytefgcnjbiaileaa.Col
open Go.RowKit Fr _root_.Go.Proofs.Ytefgcnjbiaileaa.Own Pk Ins Pok Prm Pfn Rws

/-- the lists that grow from a prefix by n places -/
def grow (nx : List Int → List Int) : Nat → List Int → List (List Int)
  | 0, p => [p]
  | f + 1, p => (nx p).flatMap fun x => grow nx f (p ++ [x])
def gst (nx : List Int → List Int) (p : List Int) : List (List Int) := (nx p).map fun x => p ++ [x]
theorem grow_succ (nx : List Int → List Int) : ∀ (f : Nat) (p : List Int), grow nx (f + 1) p = (grow nx f p).flatMap (gst nx)
  | 0, p => by simp [grow, gst, List.map_eq_flatMap]
  | f + 1, p => by
    rw [grow, grow, List.flatMap_assoc]
    refine congrArg (fun g => (nx p).flatMap g) (funext fun x => grow_succ nx f (p ++ [x]))
theorem grow_len (nx : List Int → List Int) : ∀ (f : Nat) (p q : List Int), q ∈ grow nx f p → q.length = p.length + f
  | 0, p, q, h => by simp [grow] at h; subst h; rfl
  | f + 1, p, q, h => by
    rw [grow, List.mem_flatMap] at h
    obtain ⟨x, hx, hq⟩ := h
    have := grow_len nx f (p ++ [x]) q hq
    rw [List.length_append, List.length_singleton] at this
    omega
theorem ss_mono {W : World} {lo lo' hi : Nat} {A : Option Addr} {n c : Nat} {rs : List RD} (h : SSRow W lo hi A n c rs) (hl : lo' ≤ lo) : SSRow W lo' hi A n c rs :=
  ⟨own_mono h.1 hl, fun i hi' => ⟨own_mono (h.2.1 i hi').1 hl, (h.2.1 i hi').2⟩, h.2.2⟩
theorem ints_gr {W W' : World} {B : Nat} {row : Option Nat} {A : Option Addr} {zs : List Int} (h : IntsAt W B .i64 A zs) (hB : B ≤ W.heap.size) (hg : W.grownBy W' row) (hA : ∀ k, A.map (·.block) = some k → row = some k → False) : IntsAt W' B .i64 A zs := by
  intro j hj
  obtain ⟨b, o, rfl, hlt, hc⟩ := h j hj
  refine ⟨b, o, rfl, hlt, ?_⟩
  have := hg.block b (by omega) (fun e => hA b rfl e.symm)
  unfold World.cell? at hc ⊢
  rw [this]
  exact hc
/-- what the function that tells how a prefix may go on has to answer -/
def Nexts (w : World) (f : Nat) (p : Addr) (nx : List Int → List Int) (n : Nat) : Prop := ∀ (W : World) (k m c : Nat) (A : Option Addr) (ps : List Int), k < n → ps ∈ grow nx k [] → ps.length = m → Below w.heap.size w W → IntsAt W W.heap.size .i64 A ps →
  Calls Try.prog f #[.slice A m c, .pointer (some p)] W fun e w2 => ∃ A2 c2, e = .returned (.slice A2 (nx ps).length c2) ∧ IntsAt w2 w2.heap.size .i64 A2 (nx ps) ∧ (∀ b, A2.map (·.block) = some b → b < w.heap.size ∨ W.heap.size ≤ b) ∧ Below W.heap.size W w2
/-- one list without elements -/
theorem ss_one (w : World) : SSRow (w.alloc (.cells #[.slice none 0 0] 33)) w.heap.size (w.alloc (.cells #[.slice none 0 0] 33)).heap.size (some ⟨w.heap.size, 0, none⟩) 1 1 [rd0] := by
  refine ⟨World.ownsRow_lit w _ 1 (Nat.le_refl _) (by unfold maxLen; omega) rfl, ?_, ?_, ?_, Nat.le_refl _⟩
  · intro i hi
    have e : i = 0 := by simp at hi; exact hi
    subst e
    exact ⟨World.ownsRow_nil _ _ _ _, (fun a h => by cases h), Nat.le_refl _⟩
  · intro i j hi hj hne
    simp at hi hj
    omega
  · intro a ha
    simp only [Option.some.injEq] at ha
    subst ha
    simp
theorem take_flat {f : List Int → List (List Int)} {L : List (List Int)} {j : Nat} (h : j < L.length) : (L.take (j + 1)).flatMap f = (L.take j).flatMap f ++ f (L.getD j []) := by
  rw [List.take_succ_eq_append_getElem h, List.flatMap_append, List.getD_eq_getElem?_getD, List.getElem?_eq_getElem h]
  simp
theorem map_get {rs : List RD} {L : List (List Int)} (h : rs.map RD.zs = L) {j : Nat} (hj : j < rs.length) : (rs.getD j rd0).zs = L.getD j [] ∧ L.getD j [] ∈ L := by
  subst h
  have hj2 : j < (rs.map RD.zs).length := by rw [List.length_map]; exact hj
  simp only [List.getD_eq_getElem?_getD, List.getElem?_eq_getElem hj, List.getElem?_eq_getElem hj2, Option.getD_some]
  exact ⟨by simp, List.getElem_mem _⟩
theorem take_one (q : List Int) (t : Nat) (h : t < q.length) (g : Int → List Int) : (q.take (t + 1)).map g = (q.take t).map g ++ [g (q.getD t 0)] := by
  rw [take_snoc q t h, List.map_append]; rfl

set_option maxHeartbeats 4000000 in
theorem collect_any (fc : Nat) (p : Addr) (nx : List Int → List Int) (n : Nat) (w : World) (hn : n ≤ 12) (hbig : ∀ k, k ≤ n → (grow nx k []).length ≤ 1000) (hsm : ∀ q, (nx q).length ≤ 16) (hce : ∀ args w, (callFunc fc args).run Try.prog w = .ok (.enter fc args) w) (hnx : Nexts w fc p nx n) :
    Calls Try.prog 21 #[.int .i64 n, .func (.func fc) #[] #[.pointer (some p)]] w (IsSS w.heap.size (grow nx n []) w) := by
  obtain ⟨i0, hi, hz0, hz1, hz2⟩ := info_parts infoInt
  obtain ⟨i1, hj1, hy0, hy1, hy2⟩ := infos_parts
  have HNEX := Lib.hid hnx
  have HBIG := Lib.hid hbig
  have HSM := Lib.hid hsm
  clear hnx hbig hsm
  go_enter Try.func21, Try.ntmps21
  go_wp2
  go_loopw [5, 13] (fun v i wr => ∃ k : Nat, k ≤ n ∧ i = .int .i64 (k : Int) ∧ (∃ A N c rs, v = .slice A N c ∧ SSRow wr w.heap.size wr.heap.size A N c rs ∧ Hid (rs.map RD.zs = grow nx k [])) ∧ Below w.heap.size w wr) (fun _ i _ => n - (intOf i).toNat)
  case atStart => exact ⟨0, Nat.zero_le _, rfl, ⟨_, _, _, [rd0], rfl, ss_one w, rfl⟩, (Below.refl _ w).alloc (Nat.le_refl _) _⟩
  case round =>
    obtain ⟨k, hk, rfl, ⟨A, N, c, rs, rfl, hrow, HRS⟩, hbw⟩ := hrel
    have hsz := hbw.size
    by_cases hlt : k < n
    · have HL := Lib.hid hrow.len
      have hN : N ≤ 1000 := by
        rw [← hrow.len, ← List.length_map (f := RD.zs), HRS.out]
        exact HBIG.out k hk
      have HME := Lib.hid (fun q hq => And.intro (grow_len nx k [] q hq) (fun W m c A => HNEX.out W k m c A q hlt hq))
      have HNX := Lib.hid (grow_succ nx k [])
      have HLL := Lib.hid (show (grow nx k []).length = N by rw [← HRS.out, List.length_map]; exact hrow.len)
      generalize grow nx k [] = L at *
      obtain ⟨b0, hb0⟩ : ∃ b, b = wr.heap.size := ⟨_, rfl⟩
      rw [← hb0] at hrow hsz
      have HB0 := Lib.hid hb0
      have HROW := Lib.hid hrow
      clear hb0 hrow
      go_wp2
      go_loopw [6, 17] (fun v i wt => ∃ j : Nat, j ≤ N ∧ i = .int .i64 (j : Int) ∧ (∃ A6 M c6 rs6, v = .slice A6 M c6 ∧ M ≤ 16 * j ∧ SSRow wt b0 wt.heap.size A6 M c6 rs6 ∧ Hid (rs6.map RD.zs = (L.take j).flatMap (gst nx))) ∧ SSRow wt w.heap.size b0 A N c rs ∧ Below w.heap.size w wt ∧ b0 ≤ wt.heap.size) (fun _ i _ => N - (intOf i).toNat)
      case atStart => exact ⟨0, Nat.zero_le _, rfl, ⟨_, _, _, [], rfl, by omega, SSRow.empty (World.ownsRow_nil _ _ _ _), rfl⟩, HROW.out, hbw, Nat.le_of_eq HB0.out⟩
      case round =>
        obtain ⟨j, hj, rfl, ⟨A6, M, c6, rs6, rfl, hM, hr6, HR6⟩, hr5, hbt, hszt⟩ := hrel
        clear HROW
        by_cases hlt2 : j < N
        · obtain ⟨hz, hme⟩ := map_get HRS.out (j := j) (by rw [HL.out]; exact hlt2)
          obtain ⟨hml, hmr⟩ := HME.out _ hme
          have HCN := Lib.hid hmr
          clear hmr
          obtain ⟨g, rfl, hcell⟩ := hr5.cell j hlt2
          have hrj := (hr5.2.1 j (by rw [HL.out]; exact hlt2)).at_
          have HTF := Lib.hid (take_flat (f := gst nx) (L := L) (j := j) (by rw [HLL.out]; exact hlt2))
          simp only [RD.v] at hcell
          rw [hz] at hrj hcell
          rw [List.length_nil, Nat.zero_add] at hml
          have hJ := fun (wu : World) (h : SSRow wu w.heap.size b0 (some ⟨g, 0, none⟩) N c rs) => (h.2.1 j (by rw [HL.out]; exact hlt2)).at_
          rw [hz] at hJ
          have HJ := Lib.hid hJ
          clear hJ
          generalize (rs.getD j rd0).A = A1 at *
          generalize (rs.getD j rd0).c = c1 at *
          generalize L.getD j [] = ps at *
          obtain ⟨m1, hm1⟩ : ∃ m, m = ps.length := ⟨_, rfl⟩
          rw [← hm1] at hcell hml
          have HM1 := Lib.hid hm1.symm
          have hm12 : m1 ≤ 12 := by omega
          have HCL := Lib.hid (HCN.out wr m1 c1 A1 HM1.out hbt hrj)
          have hq12 := HSM.out ps
          have HST := Lib.hid (show gst nx ps = (nx ps).map fun x => ps ++ [x] from rfl)
          have HLOW := Lib.hid (fun k hk => And.intro (own_lo hr6.1 k hk) (hr6.outhi k hk))
          clear HCN
          generalize nx ps = q at *
          have HR5 := Lib.hid hr5
          have HR6r := Lib.hid hr6
          clear hz hme hml hm1 hrj hr5 hr6
          go_wp2_with fail
          refine HCL.out.mono ?_
          rintro e w2 ⟨A2, c2, rfl, hown2, hfar2, hb2⟩
          obtain ⟨b1, hb1⟩ : ∃ b, b = wr.heap.size := ⟨_, rfl⟩
          obtain ⟨er, her⟩ : ∃ b, b = w2.heap.size := ⟨_, rfl⟩
          have hs2 := hb2.size
          have HFAR := Lib.hid (show ∀ k, A6.map (·.block) = some k → A2.map (·.block) = some k → False from fun k h1 h2 => by
            have h3 := HLOW.out k h1
            have h4 := hfar2 k h2
            omega)
          have hr5 := HR5.out.below hb2
          have hr6 := (HR6r.out.below hb2).higher hs2 (Nat.le_refl _)
          have hbt2 := hbt.trans (hb2.mono (Nat.le_trans hsz hszt))
          rw [← hb1] at hs2 hszt
          rw [← her] at hown2
          have hs3 : er ≤ w2.heap.size := by omega
          have hb0e : b0 ≤ er := by omega
          have H5 := Lib.hid hr5
          have H6 := Lib.hid hr6
          have HO2 := Lib.hid hown2
          clear hr5 hr6 hown2 hfar2 HR5 HR6r HCL HLOW hb1 her hb2 hcell
          go_wp2
          go_loopw [6, 25] (fun v i wu => ∃ t : Nat, t ≤ q.length ∧ i = .int .i64 (t : Int) ∧ (∃ A6 M c6 rs6, v = .slice A6 M c6 ∧ M ≤ 16 * j + t ∧ SSRow wu b0 wu.heap.size A6 M c6 rs6 ∧ Hid (rs6.map RD.zs = (L.take j).flatMap (gst nx) ++ (q.take t).map fun x => ps ++ [x]) ∧ Hid (∀ k, A6.map (·.block) = some k → A2.map (·.block) = some k → False)) ∧ Hid (IntsAt wu er .i64 A2 q) ∧ SSRow wu w.heap.size b0 (some ⟨g, 0, none⟩) N c rs ∧ Below w.heap.size w wu ∧ er ≤ wu.heap.size) (fun _ i _ => q.length - (intOf i).toNat)
          case atStart => exact ⟨0, Nat.zero_le _, rfl, ⟨_, _, _, rs6, rfl, by omega, H6.out, by show _ = _; rw [List.take_zero, List.map_nil, List.append_nil]; exact HR6.out, HFAR⟩, HO2, H5.out, hbt2, hs3⟩
          case round =>
            obtain ⟨t, ht, rfl, ⟨A6, M, c6, rs6, rfl, hM, hr6, HR6, HF6⟩, HQ, hr5, hbu, hszu⟩ := hrel
            clear H5 H6 HO2 hbt2 HFAR hs3
            by_cases hlt3 : t < q.length
            · obtain ⟨bq, oq, rfl, hbq, hcq⟩ := HQ.out t hlt3
              have hT := take_one q t hlt3 fun x => ps ++ [x]
              generalize q.getD t 0 = x at hcq hT
              have HT := Lib.hid hT
              have hrj := HJ.out wr hr5
              have HC := Lib.hid (Lb.clone_any A1 m1 c1 ps wr HM1.out (by omega) hrj)
              have HR5 := Lib.hid hr5
              have HR6r := Lib.hid hr6
              clear hT hrj hr5 hr6
              go_wp2_with fail
              refine HC.out.mono ?_
              rintro e w3 ⟨A3, c3, rfl, hown3, hb3⟩
              rw [HM1.out] at hown3
              rw [HM1.out]
              have hs3 := hb3.size
              obtain ⟨b2, hb2⟩ : ∃ b, b = wr.heap.size := ⟨_, rfl⟩
              have hr5 := HR5.out.below hb3
              have hr6 := HR6r.out.below hb3
              have HQ3 := Lib.hid (HQ.out.below (hb3.mono hszu))
              have hbu3 := hbu.trans (hb3.mono (by omega))
              have hcq3 := (hb3.cell (p := ⟨bq, oq + t, none⟩) (by show bq < _; omega)).trans hcq
              rw [← hb2] at hown3 hs3 hszu hr6
              have H3 := Lib.hid hown3
              have H5 := Lib.hid hr5
              have H6 := Lib.hid hr6
              clear hb3 hr5 hr6 hown3 HQ HR5 HR6r HC hbu hcq hb2
              go_wp2_with (first | (at_builtin; refine app_more rfl (.tmp 31) (.tmp 33) 33 rfl b2 3 i0 (.int .i64 0) 8 Try.underlying33 hi hz0 hz1 hz2 (by decide) rfl _ _ _ _ rfl H3.out (.int .i64 x) rfl _ rfl rfl (by omega) hs3 ?_; intro g4 c4 w4 hown4 hgr4; (have hs4 := hgr4.size); (have hlo3 := fun k hk => (own_lo H3.out k hk).1); (have hr5 := H5.out.grown hgr4 (fun k hk => Or.inr (by have := hlo3 k hk; omega))); (have hr6 := H6.out.grown hgr4 (fun k hk => Or.inr (hlo3 k hk))); (have hq := ints_gr HQ3.out (by omega) hgr4 (fun k hk e => by have h2 := hlo3 k e; simp only [Option.map_some, Option.some.injEq] at hk; omega)); (have hbu4 := hbu3.grown hgr4 (by omega) (fun k hk => by have := hlo3 k hk; omega)); (have H4 := Lib.hid hown4); (have H52 := Lib.hid hr5); (have H62 := Lib.hid hr6); (have HQ4 := Lib.hid hq); clear hgr4 hr5 hr6 hq hown4 H3 H5 H6 HQ3 hlo3 hbu3 hcq3) | (at_builtin; refine Aat.app_at rfl (.tmp 29) (.tmp 35) 24 rfl b0 33 i1 (.slice none 0 0) 24 Try.underlying24 hj1 hy0 hy1 hy2 (by decide) rfl _ _ _ _ rfl H62.out.1 (.slice (some ⟨g4, 0, none⟩) (m1 + 1) c4) rfl _ rfl rfl (by omega) (by omega) ?_; intro g5 c5 w5 hown5 hgr5 hat5))
              have hs5 := hgr5.size
              have hlp : (ps ++ [x]).length = m1 + 1 := by rw [List.length_append, HM1.out]; rfl
              have HSN := Lib.hid (SSRow.snoc (zs := ps ++ [x]) (A1 := some ⟨g4, 0, none⟩) (c1 := c4) H62.out (by omega) (by rw [hlp, List.map_append]; exact H4.out) (by rw [hlp]; exact hown5) hgr5)
              have HQ5 := Lib.hid (ints_gr HQ4.out (by omega) hgr5 (fun k hk e => HF6.out k e hk))
              have HF7 := Lib.hid (show ∀ k, (some (⟨g5, 0, none⟩ : Addr)).map (·.block) = some k → (some (⟨bq, oq, none⟩ : Addr)).map (·.block) = some k → False from fun k h1 h2 => by
                simp only [Option.map_some, Option.some.injEq] at h1 h2
                rcases hat5 with h | h
                · exact HF6.out g5 h (by rw [h1, ← h2]; rfl)
                · omega)
              have H55 := Lib.hid (H52.out.grown hgr5 (fun k hk => Or.inr (own_lo H62.out.1 k hk).1))
              have HBU := Lib.hid (hbu4.grown hgr5 (by omega) (fun k hk => by have := (own_lo H62.out.1 k hk).1; omega))
              clear hown5 hgr5 hlp hat5
              go_roundw
              case rel => exact ⟨t + 1, by omega, by go_num, ⟨_, _, _, _, rfl, by omega, HSN.out, by show _ = _; rw [List.map_append, HR6.out, HT.out, ← List.append_assoc]; rfl, HF7⟩, HQ5, H55.out, HBU.out, by omega⟩
              case measure => simp [intOf]; omega
            · have htq : q.take t = q := List.take_of_length_le (by omega)
              have HSS := Lib.hid (show rs6.map RD.zs = (L.take (j + 1)).flatMap (gst nx) by rw [HTF.out, HST.out, HR6.out, htq])
              have H5 := Lib.hid hr5
              have H6 := Lib.hid hr6
              have htl : t = q.length := by omega
              have hM2 : M ≤ 16 * (j + 1) := by omega
              clear htq hr5 hr6 HQ
              go_wp2
              go_roundw
              case rel => exact ⟨j + 1, by omega, by go_num, ⟨_, _, _, rs6, rfl, hM2, H6.out, HSS.out⟩, H5.out, hbu, by omega⟩
              case measure => simp [intOf]; omega
        · have hjN : L.take j = L := List.take_of_length_le (by rw [HLL.out]; omega)
          have HSS := Lib.hid (show rs6.map RD.zs = grow nx (k + 1) [] by rw [HR6.out, hjN]; exact HNX.out.symm)
          have H6 := Lib.hid (ss_mono hr6 hsz)
          clear hjN hr5 hr6
          go_wp2
          go_roundw
          case rel => exact ⟨k + 1, by omega, by go_num, ⟨_, _, _, rs6, rfl, H6.out, HSS.out⟩, hbt⟩
          case measure => simp [intOf]; omega
    · have hkn : k = n := by omega
      have HR := Lib.hid hrow
      have HNL := Lib.hid hrow.len
      clear hrow
      go_wp2
      go_ret
      rw [hkn] at HRS
      have e : (grow nx n []).length = N := by rw [← HRS.out, List.length_map]; exact HNL.out
      exact ⟨A, c, rs, by rw [e]; rfl, HRS.out, by rw [e]; exact HR.out, hbw⟩
end Go.Proofs.Ytefgcnjbiaileaa.Col
