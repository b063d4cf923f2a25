/- What is known after a move (AfterMove), of the model and of the program. -/
import Derived.Test.YthcggkhpamjjbaaGreatKni
import Derived.Test.YthcggkhpamjjbaaGreatPa
import Derived.Deep.RegionHeld3
import Derived.Deep.CutRange
set_option linter.unusedVariables false
set_option maxRecDepth 20000
namespace Go.Proofs.YthcggkhpamjjbaaGreat.Afm
open Go.RowKit Fr _root_.Go.Proofs.YthcggkhpamjjbaaGreat.Own Pk Ins Pok Rws Lb Cat Srt Sst Arr Kno Kns Mvp Pf Do Pa

def aftB (zss : List (List Int)) (kd k : Int) : Bool := knowB zss && mvB ((zss.getD 0 []).length : Nat) kd k
def aftF (zss : List (List Int)) (kd k : Int) : List (List Int) := if aftB zss kd k = true then cano (zss.map (moveF kd.toNat k.toNat)) else []
theorem aft_no {zss : List (List Int)} {kd k : Int} (h : aftB zss kd k = false) : aftF zss kd k = [] := by unfold aftF; rw [h]; rfl
theorem aft_yes {zss : List (List Int)} {kd k : Int} (h : aftB zss kd k = true) : aftF zss kd k = cano (zss.map (moveF kd.toNat k.toNat)) := by unfold aftF; rw [if_pos h]
theorem take_move {ls : List RD} {k n : Nat} (f : List Int → List Int) (hn : ls.length = n) (hk : k < n) : ((ls.map RD.zs).take (k + 1)).map f = ((ls.map RD.zs).take k).map f ++ [f (ls.getD k rd0).zs] := by
  have e : (ls.map RD.zs).take (k + 1) = (ls.map RD.zs).take k ++ [(ls.getD k rd0).zs] := by
    rw [List.take_add_one, List.getElem?_map, List.getElem?_eq_getElem (by omega)]
    simp [List.getD_eq_getElem?_getD, List.getElem?_eq_getElem (show k < ls.length by omega)]
  rw [e, List.map_append]
  rfl
theorem box_held {w W : World} {kd k : Int} (hb : Below (w.alloc (.cells #[.int .i64 kd, .int .i64 k] 26)).heap.size (w.alloc (.cells #[.int .i64 kd, .int .i64 k] 26)) W) : W.cell? ⟨w.heap.size, 0, none⟩ = some (.int .i64 kd) ∧ W.cell? ⟨w.heap.size, 1, none⟩ = some (.int .i64 k) := by
  have h := heap_alloc_new w (.cells #[.int .i64 kd, .int .i64 k] 26)
  have hl := (Array.getElem?_eq_some_iff.1 h).1
  have h2 := (hb.block w.heap.size hl).trans h
  unfold World.cell?
  rw [h2]
  exact ⟨rfl, rfl⟩
theorem caps_of {W : World} {lo hi : Nat} {A : Option Addr} {n c : Nat} {rs : List RD} (h : SSRow W lo hi A n c rs) : ∀ i, i < n → (rs.getD i rd0).zs.length ≤ (rs.getD i rd0).c := by
  intro i hi
  have hr := (h.2.1 i (by rw [h.len]; exact hi)).1
  rcases hr.2 with ⟨hv, h0⟩ | ⟨g, cap, cur, hv, hg, hh, q1, q2, q3, q4⟩
  · omega
  · simp only [Value.slice.injEq] at hv
    omega
theorem aft_big (zss : List (List Int)) (kd k : Int) : Big.BigSS (aftF zss kd k) := by
  cases h : aftB zss kd k with
  | false => rw [aft_no h]; exact ⟨Nat.zero_le _, Nat.zero_le _⟩
  | true =>
    rw [aft_yes h]
    unfold aftB at h
    rw [Bool.and_eq_true] at h
    obtain ⟨h1, h2, h3, h4⟩ := know_len h.1
    have hp := mvB_parts h.2
    refine Big.big_cano (Big.big_small (by rw [List.length_map]; omega) ?_)
    intro x hx
    rw [List.mem_map] at hx
    obtain ⟨y, hy, rfl⟩ := hx
    obtain ⟨i, hi, rfl⟩ := List.mem_iff_getElem.1 hy
    have hs := h4 i hi
    unfold stepB at hs
    rw [Bool.and_eq_true] at hs
    obtain ⟨q1, q2, q3⟩ := arr_parts hs.1
    have e : zss.getD i [] = zss[i] := by rw [List.getD_eq_getElem?_getD, List.getElem?_eq_getElem hi]; rfl
    rw [e] at q2 q3
    have hl := move_len (kd := kd.toNat) (k := k.toNat) (zs := zss[i]) (by rw [← q3]; exact hp.2.2.2.2.2) (by omega) (okB_yes q2).1
    have := (okB_yes q2).1
    omega
/-- a row of an argument, with its capacity -/
theorem row_at2 {w : World} {B n : Nat} {A : Option Addr} {ls : List RD} (h : SSAt w B A ls) (hn : ls.length = n) (hf : ∀ i, i < n → Fits (ls.getD i rd0).zs) (hz : ∀ i, i < n → (ls.getD i rd0).zs.length ≤ 1048576) (hcp : ∀ i, i < n → (ls.getD i rd0).zs.length ≤ (ls.getD i rd0).c) (k : Nat) (hk : k < n) :
    ∃ (b o : Nat) (A1 : Option Addr) (m c1 : Nat), A = some ⟨b, o, none⟩ ∧ b < B ∧ w.cell? ⟨b, o + k, none⟩ = some (.slice A1 m c1) ∧ (ls.getD k rd0).zs.length = m ∧ IntsAt w B .i64 A1 (ls.getD k rd0).zs ∧ Fits (ls.getD k rd0).zs ∧ m ≤ 1048576 ∧ m ≤ c1 := by
  obtain ⟨b, o, e, hb, hc, hi⟩ := h k (by rw [hn]; exact hk)
  exact ⟨b, o, _, _, _, e, hb, hc, rfl, hi, hf k hk, hz k hk, hcp k hk⟩
/-- no list at all, behind some work -/
theorem none_ssb {B : Nat} {w W : World} {zss : List (List Int)} (h : zss = []) (hb : Below B w W) : Big.IsSSB B zss false w (.returned (.tuple #[.slice none 0 0, .bool false])) W := by
  subst h
  exact ⟨none, 0, [], rfl, rfl, SSRow.empty (World.ownsRow_nil _ _ _ _), hb⟩
set_option maxHeartbeats 4000000 in
theorem impl_after (A : Option Addr) (n c : Nat) (ls : List RD) (kd k : Int) (w : World) (hn : ls.length = n) (hat : SSAt w w.heap.size A ls) (hf : ∀ i, i < n → Fits (ls.getD i rd0).zs) (hz : ∀ i, i < n → (ls.getD i rd0).zs.length ≤ 1048576) (hcp : ∀ i, i < n → (ls.getD i rd0).zs.length ≤ (ls.getD i rd0).c) (hn2 : n ≤ 1048576) :
    Calls Tryz.prog 7 #[.slice A n c, .agg #[.int .i64 kd, .int .i64 k]] w (Big.IsSSB w.heap.size (aftF (ls.map RD.zs) kd k) (aftB (ls.map RD.zs) kd k) w) := by
  obtain ⟨i1, hj, hy0, hy1, hy2⟩ := infos_parts
  obtain ⟨R, hR⟩ : ∃ R, R = aftF (ls.map RD.zs) kd k := ⟨_, rfl⟩
  obtain ⟨G, hG⟩ : ∃ G, G = aftB (ls.map RD.zs) kd k := ⟨_, rfl⟩
  rw [← hR, ← hG]
  have HR := Lib.hid hR
  have HG := Lib.hid hG
  have HN := Lib.hid hn
  have HAT := Lib.hid hat
  have HF := Lib.hid hf
  have HZ := Lib.hid hz
  have HCP := Lib.hid hcp
  clear hR hG
  have HB1 := Lib.hid ((Below.refl w.heap.size w).alloc (Nat.le_refl _) (.cells #[.int .i64 kd, .int .i64 k] 26))
  have HBX := Lib.hid (fun (W : World) hb => box_held (w := w) (W := W) (kd := kd) (k := k) hb)
  have hs1 : (w.alloc (.cells #[.int .i64 kd, .int .i64 k] 26)).heap.size = w.heap.size + 1 := by simp
  have HCK := Lib.hid (fun (W : World) (hW : Below w.heap.size w W) => Kni.impl_know A n c ls W hn ((hat.below hW).more hW.size) hf hz hn2)
  cases hkb : knowB (ls.map RD.zs) with
  | false =>
    have HS := Lib.hid (show R = [] by rw [HR.out, aft_no (by unfold aftB; rw [hkb]; rfl)])
    have hgf : G = false := by rw [HG.out]; unfold aftB; rw [hkb]; rfl
    rw [hkb] at HCK
    clear HR HG hn hat hf hz hcp hkb
    subst hgf
    go_enter Tryz.func7, Tryz.ntmps7
    go_upto_region 1 with fail
    generalize w.alloc (.cells #[.int .i64 kd, .int .i64 k] 26) = W1 at *
    go_cut [22] from 11 (fun s wx => s = .bool true ∧ Below w.heap.size w wx)
    case first =>
      have HBW := Lib.hid (show Below w.heap.size w W1.drew from HB1.out.drew)
      refine wp_region_any (by kernel_rfl) ?_
      change wpAny _ _ _ _ _ _ _ (World.drew _)
      refine wpAny_take (i := 0) (v := .slice A n c) rfl (by kernel_rfl) (by kernel_rfl) (by kernel_rfl) (fun _ _ _ h => h) (Or.inl ⟨rfl, fun w => by go_simp⟩) ?_
      refine wpAny_ready (rs := [1]) (by kernel_rfl) (by simp) ?_
      refine AllReady.cons rfl (fun K hK => ?_) AllReady.nil
      go_simp
      refine (HCK.out _ HBW.out).mono ?_
      rintro e wa ⟨rfl, hba⟩
      have HBA := Lib.hid (HBW.out.trans (hba.mono HBW.out.size))
      refine hK _ _ ?_
      clear hK K hba
      refine wpAny_take (i := 2) (v := .bool true) rfl (by kernel_rfl) (by kernel_rfl) (by kernel_rfl) (fun _ _ _ h => h) (Or.inl ⟨rfl, fun w => by go_simp⟩) ?_
      refine wpAny_take (i := 3) (v := .bool true) rfl (by kernel_rfl) (by kernel_rfl) (by kernel_rfl) (fun _ _ _ h => h) (Or.inl ⟨rfl, fun w => by go_simp⟩) ?_
      refine wpAny_take (i := 4) (v := undef) rfl (by kernel_rfl) (by kernel_rfl) (by kernel_rfl) (fun _ _ _ h => h) (Or.inr ⟨by simp [Region.wanted, yielded, Act.put], rfl⟩) ?_
      refine wpAny_take (i := 5) (v := undef) rfl (by kernel_rfl) (by kernel_rfl) (by kernel_rfl) (fun _ _ _ h => h) (Or.inr ⟨by simp [Region.wanted, yielded, Act.put], rfl⟩) ?_
      refine wpAny_take (i := 6) (v := undef) rfl (by kernel_rfl) (by kernel_rfl) (by kernel_rfl) (fun _ _ _ h => h) (Or.inr ⟨by simp [Region.wanted, yielded, Act.put], rfl⟩) ?_
      refine wpAny_take (i := 7) (v := undef) rfl (by kernel_rfl) (by kernel_rfl) (by kernel_rfl) (fun _ _ _ h => h) (Or.inr ⟨by simp [Region.wanted, yielded, Act.put], rfl⟩) ?_
      refine wpAny_take (i := 8) (v := undef) rfl (by kernel_rfl) (by kernel_rfl) (by kernel_rfl) (fun _ _ _ h => h) (Or.inr ⟨by simp [Region.wanted, yielded, Act.put], rfl⟩) ?_
      refine wpAny_take (i := 9) (v := undef) rfl (by kernel_rfl) (by kernel_rfl) (by kernel_rfl) (fun _ _ _ h => h) (Or.inr ⟨by simp [Region.wanted, yielded, Act.put], rfl⟩) ?_
      refine wpAny_take (i := 10) (v := undef) rfl (by kernel_rfl) (by kernel_rfl) (by kernel_rfl) (fun _ _ _ h => h) (Or.inr ⟨by simp [Region.wanted, yielded, Act.put], rfl⟩) ?_
      refine wpAny_take (i := 11) (v := .bool true) rfl (by kernel_rfl) (by kernel_rfl) (by kernel_rfl) (fun _ _ _ h => h) (Or.inl ⟨rfl, fun w => by go_simp⟩) ?_
      go_simp
      refine wpAny_done (by kernel_rfl) ?_ _
      go_wp2_with fail
      go_meet
      exact ⟨rfl, HBA.out⟩
    case rest =>
    obtain ⟨rfl, hbc⟩ := hcut
    go_wp2
    go_ret2
    exact none_ssb HS.out hbc
  | true =>
    obtain ⟨hfe, hfw⟩ := know_few hn hkb
    have hn0 : 0 < n := hfe
    obtain ⟨b, o, A0, m0, c0, rfl, hbb, hc0, hm0, hi0, hf0, hs0⟩ := row_at HAT.out HN.out HF.out HZ.out 0 (by omega)
    have hc0' : w.cell? ⟨b, o, none⟩ = some (.slice A0 m0 c0) := hc0
    have HROW := Lib.hid (fun (W : World) (hW : Below w.heap.size w W) => (show W.cell? ⟨b, o, none⟩ = some (.slice A0 m0 c0) from (hW.cell (p := ⟨b, o, none⟩) hbb).trans hc0'))
    have HKR := Lib.hid (know_row hn hkb)
    have HGM := Lib.hid (show aftB (ls.map RD.zs) kd k = mvB (m0 : Nat) kd k by unfold aftB; rw [hkb, map_getD, hm0]; rfl)
    have HM0 := Lib.hid hm0
    have HCM := Lib.hid (fun W : World => Mok2.impl_moveok (m0 : Nat) kd k W)
    rw [hkb] at HCK
    clear hc0 hc0' hi0 hf0 hs0 hm0
    cases hmv : mvB (m0 : Nat) kd k with
    | false =>
      have HS := Lib.hid (show R = [] by rw [HR.out, aft_no (by rw [HGM.out, hmv])])
      have hgf : G = false := by rw [HG.out, HGM.out, hmv]
      rw [hmv] at HCM
      clear HR HG hn hat hf hz hcp hkb HKR HGM hmv
      subst hgf
      go_enter Tryz.func7, Tryz.ntmps7
      go_upto_region 1 with fail
      generalize w.alloc (.cells #[.int .i64 kd, .int .i64 k] 26) = W1 at *
      go_cut [22] from 11 (fun s wx => s = .bool true ∧ Below w.heap.size w wx)
      case first =>
        have HBW := Lib.hid (show Below W1.heap.size W1 W1.drew from (Below.refl _ W1).drew)
        have HBV := Lib.hid (show Below w.heap.size w W1.drew from HB1.out.drew)
        have hSS0 := (HBX.out _ HBW.out).1
        have hSS1 := (HBX.out _ HBW.out).2
        have hSS2 := HROW.out _ HBV.out
        go_region_held3 (fun w' => w'.cell? ⟨w.heap.size, 0, none⟩ = some (.int .i64 kd) ∧ w'.cell? ⟨w.heap.size, 1, none⟩ = some (.int .i64 k) ∧ w'.cell? ⟨b, o, none⟩ = some (.slice A0 m0 c0)) ((first | exact ⟨hSS0, hSS1, hSS2⟩ | exact ⟨hSA0, hSA1, hSA2⟩ | exact ⟨hSB0, hSB1, hSB2⟩)) ((first
          | (go_at_call 9; refine (HCK.out _ HBV.out).mono ?_; rintro e wa ⟨rfl, hba⟩; have HBA := Lib.hid (HBW.out.trans hba); have HBU := Lib.hid (HBV.out.trans (hba.mono HBV.out.size)); have hSA0 := (HBX.out _ HBA.out).1; have hSA1 := (HBX.out _ HBA.out).2; have hSA2 := HROW.out _ HBU.out; clear hba)
          | (go_at_call 24; refine (HCM.out _).mono ?_; rintro e wb ⟨rfl, hbb2⟩; have HBC := Lib.hid (HBA.out.trans (hbb2.mono HBA.out.size)); have HBD := Lib.hid (HBU.out.trans (hbb2.mono HBU.out.size)); have hSB0 := (HBX.out _ HBC.out).1; have hSB1 := (HBX.out _ HBC.out).2; have hSB2 := HROW.out _ HBD.out; clear hbb2)))
        all_goals (go_wp2_with fail; go_meet; exact ⟨rfl, HBD.out⟩)
      case rest =>
      obtain ⟨rfl, hbc⟩ := hcut
      go_wp2
      go_ret2
      exact none_ssb HS.out hbc
    | true =>
      have HS := Lib.hid (show cano (((ls.map RD.zs).take n).map (moveF kd.toNat k.toNat)) = R by rw [HR.out, aft_yes (by rw [HGM.out, hmv]), ← HN.out, List.take_of_length_le (by rw [List.length_map]; exact Nat.le_refl _)])
      have hgf : G = true := by rw [HG.out, HGM.out, hmv]
      have HMV := Lib.hid hmv
      rw [hmv] at HCM
      clear HR HG hn hat hf hz hcp hkb HGM hmv
      subst hgf
      go_enter Tryz.func7, Tryz.ntmps7
      go_upto_region 1 with fail
      generalize w.alloc (.cells #[.int .i64 kd, .int .i64 k] 26) = W1 at *
      go_cut [22] from 11 (fun s wx => s = .bool false ∧ Below W1.heap.size W1 wx)
      case first =>
        have HBW := Lib.hid (show Below W1.heap.size W1 W1.drew from (Below.refl _ W1).drew)
        have HBV := Lib.hid (show Below w.heap.size w W1.drew from HB1.out.drew)
        have hSS0 := (HBX.out _ HBW.out).1
        have hSS1 := (HBX.out _ HBW.out).2
        have hSS2 := HROW.out _ HBV.out
        go_region_held3 (fun w' => w'.cell? ⟨w.heap.size, 0, none⟩ = some (.int .i64 kd) ∧ w'.cell? ⟨w.heap.size, 1, none⟩ = some (.int .i64 k) ∧ w'.cell? ⟨b, o, none⟩ = some (.slice A0 m0 c0)) ((first | exact ⟨hSS0, hSS1, hSS2⟩ | exact ⟨hSA0, hSA1, hSA2⟩ | exact ⟨hSB0, hSB1, hSB2⟩)) ((first
          | (go_at_call 9; refine (HCK.out _ HBV.out).mono ?_; rintro e wa ⟨rfl, hba⟩; have HBA := Lib.hid (HBW.out.trans hba); have HBU := Lib.hid (HBV.out.trans (hba.mono HBV.out.size)); have hSA0 := (HBX.out _ HBA.out).1; have hSA1 := (HBX.out _ HBA.out).2; have hSA2 := HROW.out _ HBU.out; clear hba)
          | (go_at_call 24; refine (HCM.out _).mono ?_; rintro e wb ⟨rfl, hbb2⟩; have HBC := Lib.hid (HBA.out.trans (hbb2.mono HBA.out.size)); have HBD := Lib.hid (HBU.out.trans (hbb2.mono HBU.out.size)); have hSB0 := (HBX.out _ HBC.out).1; have hSB1 := (HBX.out _ HBC.out).2; have hSB2 := HROW.out _ HBD.out; clear hbb2)))
        all_goals (go_wp2_with fail; go_meet; exact ⟨rfl, HBC.out⟩)
      case rest =>
      obtain ⟨rfl, hbc⟩ := hcut
      have HO0 := Lib.hid (SSRow.empty (World.ownsRow_nil wc W1.heap.size 28 1))
      have HAL := Lib.hid hbc
      clear hbc
      go_wp2
      go_loopg [6, 8, 9, 10, 25] n (fun g s6 _ _ _ s24 wr => ∃ (k2 : Nat) (Ao : Option Addr) (co : Nat) (ro : List RD), k2 ≤ n ∧ g = n - k2 ∧ s24 = .int .i64 (k2 : Int) ∧ s6 = .slice Ao k2 co ∧
        Hid (ro.map RD.zs = ((ls.map RD.zs).take k2).map (moveF kd.toNat k.toNat)) ∧ Hid (SSRow wr W1.heap.size wr.heap.size Ao k2 co ro) ∧ Hid (Below W1.heap.size W1 wr))
      case atStart => exact ⟨0, _, 0, [], Nat.zero_le _, rfl, rfl, rfl, Lib.hid rfl, HO0, HAL⟩
      case round =>
        clear HO0 HAL
        obtain ⟨k2, Ao, co, ro, hk, hg, rfl, rfl, HRZ, HO, HBW⟩ := hrel
        have hsz := HBW.out.size
        have HBV := Lib.hid (HB1.out.trans (HBW.out.mono HB1.out.size))
        have hsv := HBV.out.size
        by_cases hlt : k2 < n
        · obtain ⟨b2, o2, Ak, mk, ck, e2, hbk, hck, hmk, hik, hfk, hsk, hcap2⟩ := row_at2 (HAT.out.below HBV.out) HN.out HF.out HZ.out HCP.out k2 hlt
          simp only [Option.some.injEq, Addr.mk.injEq, and_true] at e2
          obtain ⟨rfl, rfl⟩ := e2
          have hrow := HKR.out k2 hlt
          have hc9 := (HBX.out _ HBW.out).1
          have hc8 := (HBX.out _ HBW.out).2
          have HAP := Lib.hid (fun (r : RD) (hr : r.zs = moveF kd.toNat k.toNat (ls.getD k2 rd0).zs) => (show (ro ++ [r]).map RD.zs = ((ls.map RD.zs).take (k2 + 1)).map (moveF kd.toNat k.toNat) by rw [take_move _ HN.out hlt]; exact snoc_zs HRZ.out hr))
          have hmm : mk = m0 := by rw [← hmk, ← HM0.out]; exact hrow.2.2.2
          have hm12 : mk ≤ 12 := by rw [← hmk]; exact hrow.2.2.1
          have hokk := hrow.1
          clear hrow HRZ
          generalize (ls.getD k2 rd0).zs = zs at *
          subst hmm
          have HM := Lib.hid hmk
          have CD := Pf.impl_perform Ak mk ck kd k zs wr hmk hcap2 (by omega) hfk (hik.more hsv)
          rw [Pf.perfF_yes (show Pf.perfB zs kd k = true by unfold Pf.perfB; rw [hmk, HMV.out, hokk]; rfl), show Pf.perfB zs kd k = true by unfold Pf.perfB; rw [hmk, HMV.out, hokk]; rfl] at CD
          clear hik hmk hfk
          go_wp2_with fail
          refine CD.mono ?_
          rintro e w3 ⟨A5, c5, rfl, hown5, hb3⟩
          generalize hzq : moveF kd.toNat k.toNat zs = zq at *
          have hr5 := HO.out.below hb3
          have HB3 := Lib.hid (HBW.out.trans (hb3.mono hsz))
          have hs3 := hb3.size
          clear hb3 HO HBW CD
          go_wp2_with (at_builtin; (refine app_more rfl (.tmp 35) (.tmp 37) 23 rfl W1.heap.size 28 i1 (.slice none 0 0) 24 Tryz.underlying23 hj hy0 hy1 hy2 (by decide) rfl _ _ _ _ rfl hr5.1 (.slice A5 zq.length c5) rfl _ rfl rfl (by omega) (by omega) ?_; intro g6 c6 w6 hown6 hgr6))
          have HSN := Lib.hid (SSRow.snoc (zs := zq) (A1 := A5) (c1 := c5) hr5 hsz hown5 hown6 hgr6)
          have HB6 := Lib.hid (HB3.out.grown hgr6 (by omega) (fun k hk => hr5.outlo k hk))
          have HR6 := Lib.hid (HAP.out ⟨A5, c5, zq⟩ rfl)
          clear hr5 hown5 hown6 hgr6
          go_roundg (n - (k2 + 1))
          case rel => exact ⟨k2 + 1, _, c6, _, by omega, rfl, by go_num, rfl, HR6, HSN, HB6⟩
          case measure => omega
        · have hkn : k2 = n := by omega
          subst hkn
          have HRR := Lib.hid (show cano (ro.map RD.zs) = R by rw [HRZ.out]; exact HS.out)
          have hln : ∀ x ∈ ro.map RD.zs, x.length ≤ 1048576 := by
            rw [HRZ.out]
            intro x hx
            rw [List.mem_map] at hx
            obtain ⟨y, hy, rfl⟩ := hx
            obtain ⟨i, hi, rfl⟩ := List.mem_iff_getElem.1 hy
            rw [List.length_take, List.length_map, HN.out] at hi
            rw [List.getElem_take, List.getElem_map]
            have hrow := HKR.out i (by omega)
            rw [List.getD_eq_getElem?_getD, List.getElem?_eq_getElem (by rw [HN.out]; omega), Option.getD_some] at hrow
            have hkk := (mvB_parts HMV.out).2.2.2.2.2
            have hl := move_len (kd := kd.toNat) (k := k.toNat) (zs := (ls[i]'(by rw [HN.out]; omega)).zs) (by rw [hrow.2.2.2, HM0.out]; exact hkk) hrow.2.1 hrow.2.2.1
            omega
          have HSR := Lib.hid (Sip.isort_any Ao k2 co ro wr HO.out.len (at_of HO.out) (fun i hi => Sip.len_of 1048576 hln i) (by omega))
          clear HRZ HS hln
          go_wp2_with fail
          refine HSR.out.mono ?_
          rintro e w5 h5
          obtain ⟨A5, c5, rs5, rfl, hz5, ho5, hb5⟩ := Sps.ss_mono h5 HBV.out hsv hsv
          clear h5
          rw [HRR.out] at hz5 ho5 ⊢
          go_wp2
          go_ret2
          exact ⟨A5, c5, rs5, rfl, hz5, ho5, hb5⟩

end Go.Proofs.YthcggkhpamjjbaaGreat.Afm
