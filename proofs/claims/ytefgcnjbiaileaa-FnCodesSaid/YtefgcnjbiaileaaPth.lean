/- The program's search for a message (pathFrom). -/
import Derived.Test.YtefgcnjbiaileaaUsr
import Derived.Deep.LoopGhost
import Derived.WalkMore
set_option linter.unusedVariables false
set_option maxRecDepth 20000
namespace Go.Proofs.Ytefgcnjbiaileaa.Pth
open Go.RowKit Go.Maps Fr _root_.Go.Proofs.Ytefgcnjbiaileaa.Own Pk Ins Pfn Rws Srt Sst Map Col Wit Hms Pkn Fcp Usr

def ab (u : Int × RD) : Use := (u.1, u.2.zs)
def encT (k : Int) : Value × Value := (.int .i64 k, .bool true)
section
variable {Hs : List (List Int)} {us : List (Int × Int)} {f : Nat} {s : Ps} {m : List Int} {R : List Use}
def nextsF (Hs : List (List Int)) (x : Int) : List (List Int) := grow (withF (Hs.getD x.toNat [])) ((Hs.getD x.toNat []).length - 1) []
theorem path_stop (h : freshF s.tried (nextsF Hs s.last.1) = none) (hi : s.init = []) : pathF Hs us (f + 1) s = some [] := by
  unfold nextsF at h
  rw [pathF, h, hi]
  rfl
theorem path_pop {i : List Use} {e : Use} (h : freshF s.tried (nextsF Hs s.last.1) = none) (hi : s.init = i ++ [e]) : pathF Hs us (f + 1) s = pathF Hs us f ⟨s.tried, i, e⟩ := by
  unfold nextsF at h
  rw [pathF, h, hi]
  simp
theorem path_end (h : freshF s.tried (nextsF Hs s.last.1) = some m) (hl : lookF us (numF m) = none) : pathF Hs us (f + 1) s = some (s.init ++ [(s.last.1, m)]) := by
  unfold nextsF at h
  rw [pathF, h]
  simp only [hl]
theorem path_more {k : Int} (h : freshF s.tried (nextsF Hs s.last.1) = some m) (hl : lookF us (numF m) = some k) : pathF Hs us (f + 1) s = pathF Hs us f ⟨s.tried ++ [numF m], s.init ++ [(s.last.1, m)], (k, [])⟩ := by
  unfold nextsF at h
  rw [pathF, h]
  simp only [hl]
end
theorem fresh_skip {tr : List Int} {L : List (List Int)} {j : Nat} (hj : j < L.length) (h : numF (L.getD j []) ∈ tr) : freshF tr (L.drop j) = freshF tr (L.drop (j + 1)) := by
  rw [List.drop_eq_getElem_cons hj, freshF]
  rw [List.getD_eq_getElem?_getD, List.getElem?_eq_getElem hj] at h
  rw [if_pos (by simpa using h)]
theorem fresh_found {tr : List Int} {L : List (List Int)} {j : Nat} (hj : j < L.length) (h : ¬ numF (L.getD j []) ∈ tr) : freshF tr (L.drop j) = some (L.getD j []) := by
  rw [List.drop_eq_getElem_cons hj, freshF]
  rw [List.getD_eq_getElem?_getD, List.getElem?_eq_getElem hj] at h ⊢
  rw [if_neg (by simpa using h)]
  rfl
theorem tr_keys (tr : List Int) (k : Int) : (Value.int .i64 k) ∈ (tr.map encT).map Prod.fst ↔ k ∈ tr := by
  simp only [List.mem_map]
  constructor
  · rintro ⟨_, ⟨e, he, rfl⟩, h⟩
    have : e = k := by simpa [encT] using h
    rw [← this]
    exact he
  · intro hk
    exact ⟨_, ⟨k, hk, rfl⟩, rfl⟩
theorem tr_nodup {tr : List Int} (h : tr.Nodup) : ((tr.map encT).map Prod.fst).Nodup := by
  rw [List.map_map, List.Nodup, List.pairwise_map]
  exact h.imp fun hne e => hne (by simpa [encT] using e)
theorem ab_take {p : List (Int × RD)} {k : Nat} (hk : k < p.length) : p.map ab = (p.take k).map ab ++ (p.drop k).map ab := by
  rw [← List.map_append, List.take_append_drop]
theorem ab_last {p : List (Int × RD)} {k : Nat} (hk : p.length = k + 1) : p.map ab = (p.take k).map ab ++ [ab (p.getD k u0)] := by
  have : p = p.take k ++ [p.getD k u0] := by
    rw [List.getD_eq_getElem?_getD, List.getElem?_eq_getElem (by omega)]
    conv => lhs; rw [← List.take_append_drop k p]
    congr 1
    rw [List.drop_eq_getElem_cons (by omega), List.drop_eq_nil_of_le (by omega)]
    rfl
  conv => lhs; rw [this]
  rw [List.map_append]
  rfl
theorem set_last {p : List (Int × RD)} {k : Nat} {x : Int × RD} (hk : p.length = k + 1) : (p.set k x).map ab = (p.take k).map ab ++ [ab x] := by
  rw [ab_last (p := p.set k x) (k := k) (by rw [List.length_set]; exact hk), Usr.getD_set (by omega), if_pos rfl, List.take_set_of_le (Nat.le_refl k)]
theorem zeroB (w : World) : (zeroValue 4).run Try.prog w = .ok (.bool false) w := by kernel_rfl
theorem zeroN (w : World) : (zeroValue 3).run Try.prog w = .ok (.int .i64 0) w := by kernel_rfl
theorem use_parts : ∃ i, Try.prog.info? 47 = some i ∧ i.zero = some (.agg #[.int .i64 0, .slice none 0 0]) ∧ i.size = 2 ∧ i.bytes = 32 := by
  have h := infoUse
  cases hi : Try.prog.info? 47 with
  | none => rw [hi] at h; cases h
  | some i =>
    rw [hi] at h
    simp only [Option.map_some, Option.some.injEq, Prod.mk.injEq] at h
    exact ⟨i, rfl, h.1, h.2.1, h.2.2⟩
theorem box_lt (W : World) (o : Obj) {k : Nat} (hk : k < W.heap.size) : (W.alloc o).heap[k]? = W.heap[k]? := ((Below.refl W.heap.size W).alloc (Nat.le_refl _) o).block k hk
/-- a use of one of n hands, with a message of cards -/
def OkU (n : Nat) (u : Int × RD) : Prop := 0 ≤ u.1 ∧ u.1 < (n : Int) ∧ u.2.zs.length ≤ 12 ∧ ∀ z ∈ u.2.zs, 0 ≤ z ∧ z < 12
/-- what the search leaves -/
def IsPath (B n : Nat) (R : List Use) (w : World) (e : Ending) (w' : World) : Prop :=
  ∃ A c p, e = .returned (.slice A R.length c) ∧ p.map ab = R ∧ UR w' B A R.length c p ∧ (∀ j, j < R.length → OkU n (p.getD j u0)) ∧ Below B w w'
theorem grow_in (zl : List Int) : ∀ (f : Nat) (p q : List Int), q ∈ grow (withF zl) f p → (∀ x ∈ p, x ∈ zl) → ∀ x ∈ q, x ∈ zl
  | 0, p, q, h, hp => by simp [grow] at h; subst h; exact hp
  | f + 1, p, q, h, hp => by
    rw [grow, List.mem_flatMap] at h
    obtain ⟨x, hx, hq⟩ := h
    refine grow_in zl f (p ++ [x]) q hq fun z hz => ?_
    rcases List.mem_append.1 hz with hz | hz
    · exact hp z hz
    · simp at hz
      subst hz
      exact (List.mem_filter.1 hx).1
theorem num_fits {zs : List Int} (h : zs.length ≤ 12) (h2 : ∀ z ∈ zs, 0 ≤ z ∧ z < 12) : 0 ≤ numF zs ∧ numF zs ≤ 9223372036854775807 := by
  have hc : Cards zs := fun i hi => by
    have hm : zs.getD i 0 ∈ zs := by
      rw [List.getD_eq_getElem?_getD, List.getElem?_eq_getElem hi]
      exact List.getElem_mem _
    have := h2 _ hm
    omega
  have := num_small hc h zs.length (Nat.le_refl _)
  unfold numF
  omega
set_option maxHeartbeats 8000000 in
theorem path_any (Hs : List (List Int)) (us : List (Int × Int)) (hand : Nat) (R : List Use) (A : Option Addr) (n c : Nat) (ls : List RD) (bu : Nat) (w : World) (hn : ls.length = n) (hz : ls.map RD.zs = Hs) (hat : SSAt w w.heap.size A ls) (hn2 : n ≤ 1000)
    (hHs : ∀ q ∈ Hs, q.length ≤ 3 ∧ 1 ≤ q.length ∧ ∀ x ∈ q, 0 ≤ x ∧ x < 12) (hus : MapE Try.prog 3 w bu (us.map Usr.encI)) (hnd : (us.map Prod.fst).Nodup) (hval : ∀ e ∈ us, 0 ≤ e.2 ∧ e.2 < (n : Int)) (hhand : hand < n)
    (hrun : pathF Hs us fuel ⟨[], [], ((hand : Int), [])⟩ = some R) :
    Calls Try.prog 16 #[.slice A n c, .map (some bu), .int .i64 (hand : Int)] w (IsPath w.heap.size n R w) := by
  have hmm := @run_makeMap Try.prog
  obtain ⟨iu, hu1, hu2, hu3, hu4⟩ := use_parts
  have HN := Lib.hid hn
  have HZ := Lib.hid hz
  have HAT := Lib.hid hat
  have HHS := Lib.hid hHs
  have HUS := Lib.hid hus
  have HND := Lib.hid hnd
  have HVAL := Lib.hid hval
  have HRUN := Lib.hid hrun
  have hbu := hus.lt
  clear hn hz hat hHs hus hnd hval hrun
  obtain ⟨W, hW⟩ : ∃ W, W = (w.alloc (.map #[] 0)).alloc (.cells #[.int .i64 (hand : Int), .slice none 0 0] 47) := ⟨_, rfl⟩
  have hb0 : Below w.heap.size w W := by rw [hW]; exact ((Below.refl _ w).alloc (Nat.le_refl _) _).alloc (by simp) _
  have hs1 : (w.alloc (.map #[] 0)).heap.size = w.heap.size + 1 := by simp
  have hM0 : MapE Try.prog 3 W w.heap.size (([] : List Int).map encT) := by
    rw [hW]
    exact (MapE.new Try.prog 3 w).kept ((box_lt _ _ (by rw [hs1]; omega)))
  have hU0 : UR W w.heap.size (some ⟨w.heap.size + 1, 0, none⟩) 1 1 [((hand : Int), rd0)] := by
    have h1 := World.ownsRow_lit (base := w.heap.size) (e := 47) (size := 2) (w.alloc (.map #[] 0)) #[.int .i64 (hand : Int), .slice none 0 0] 1 (by rw [hs1]; omega) (by decide) rfl
    rw [hs1, ← hW] at h1
    refine ⟨⟨_, h1, fun j hj => ?_⟩, rfl, fun j hj => ?_, fun i j hi hj hne => by omega⟩
    · rw [show j = 0 by omega]; exact ⟨rfl, rfl⟩
    · rw [show j = 0 by omega]; exact World.ownsRow_nil _ _ _ _
  have HM0 := Lib.hid hM0
  have HU0 := Lib.hid hU0
  have HB0 := Lib.hid hb0
  clear hb0 hM0 hU0 hs1
  go_enter Try.func16, Try.ntmps16
  go_wp2
  go_step3
  go_wp2
  go_step3
  rw [← hW]
  clear hW hmm
  go_wp2
  go_loopg [8] fuel (fun gh v wr => ∃ (N : Nat) (A8 : Option Addr) (c8 : Nat) (p : List (Int × RD)) (tr : List Int), v = .slice A8 N c8 ∧ Hid (UR wr w.heap.size A8 N c8 p) ∧ Hid (MapE Try.prog 3 wr w.heap.size (tr.map encT)) ∧ Hid tr.Nodup ∧ Hid (Below w.heap.size w wr) ∧ Hid (∀ j, j < N → OkU n (p.getD j u0)) ∧ w.heap.size < wr.heap.size ∧ gh + N ≤ fuel + 1 ∧
    Hid ((N = 0 → R = []) ∧ ∀ k, N = k + 1 → pathF Hs us gh ⟨tr, (p.take k).map ab, ab (p.getD k u0)⟩ = some R))
  case atStart =>
    refine ⟨1, _, 1, _, [], rfl, HU0, HM0, Lib.hid List.nodup_nil, HB0, fun j hj => ?_, ?_, by omega, ⟨fun h => by omega, fun k hk => ?_⟩⟩
    · rw [show j = 0 by omega]; exact ⟨by simp, by simpa using hhand, by simp [rd0], fun z hz => by simp [rd0] at hz⟩
    · exact HM0.out.lt
    · rw [show k = 0 by omega]; exact HRUN.out
  case round =>
    obtain ⟨N, A8, c8, p, tr, rfl, HU, HM, HTN, HB, HX, hsz, hNb, HR⟩ := hrel
    clear HU0 HM0 HB0
    cases N with
    | zero =>
      have HR0 := Lib.hid (HR.out.1 rfl)
      go_wp2
      (try rw [Exit.noGoto_ret])
      go_ret
      exact ⟨A8, c8, p, by rw [HR0.out]; rfl, by rw [HR0.out]; exact (by have := HU.out.len; rw [List.length_eq_zero_iff.1 this]; rfl), by rw [HR0.out]; exact HU.out, by rw [HR0.out]; exact fun j hj => absurd hj (Nat.not_lt_zero _), HB.out⟩
    | succ k =>
      have hR := HR.out.2 k rfl
      have hpl := HU.out.len
      obtain ⟨f, hf⟩ : ∃ f, gk = f + 1 := by
        cases gk with
        | zero => cases hR
        | succ f => exact ⟨f, rfl⟩
      have hkb : k ≤ 200 := by have : fuel = 200 := rfl; omega
      rw [hf] at hR
      obtain ⟨g, rfl⟩ := HU.out.shape (by omega)
      obtain ⟨hx1, hx2, _⟩ := HX.out k (by omega)
      obtain ⟨e1, e2, e3⟩ := HU.out.cells k (by omega)
      have HAB := Lib.hid (ab_last hpl)
      have HSL := fun x => Lib.hid (set_last (x := x) hpl)
      have HPL := Lib.hid hpl
      obtain ⟨x, hx⟩ : ∃ x, x = (p.getD k u0).1 := ⟨_, rfl⟩
      rw [← hx] at hx1 hx2 e1
      have hRx : ∀ r : List Int, pathF Hs us (f + 1) ⟨tr, (p.take k).map ab, ab (p.getD k u0)⟩ = some R := fun _ => hR
      have HXE := Lib.hid hx
      obtain ⟨y, rfl⟩ : ∃ y : Nat, x = (y : Int) := ⟨x.toNat, by omega⟩
      have hyn : y < n := by omega
      obtain ⟨b1, o1, rfl, hb1, hcy, hiy⟩ := HAT.out y (by rw [HN.out]; exact hyn)
      have hcy2 := (HB.out.cell (p := ⟨b1, o1 + y, none⟩) hb1).trans hcy
      have hzy : (ls.getD y rd0).zs = Hs.getD y [] := by
        rw [← HZ.out]
        simp [List.getD_eq_getElem?_getD, List.getElem?_eq_getElem (show y < ls.length by rw [HN.out]; exact hyn)]
      have hmem : Hs.getD y [] ∈ Hs := by
        rw [List.getD_eq_getElem?_getD, List.getElem?_eq_getElem (by rw [← HZ.out, List.length_map, HN.out]; exact hyn)]
        exact List.getElem_mem _
      obtain ⟨hq1, hq2, hq3⟩ := HHS.out _ hmem
      have HNX := Lib.hid (show nextsF Hs (y : Int) = grow (withF (Hs.getD y [])) ((Hs.getD y []).length - 1) [] from rfl)
      simp only [RD.v] at hcy2
      rw [← hzy] at hq1 hq2 hq3 HNX
      have hiy2 := (hiy.below HB.out).more HB.out.size
      generalize ls.getD y rd0 = ry at *
      obtain ⟨Ay, dy, zy⟩ := ry
      simp only at hcy2 hiy2 hq1 hq2 hq3 HNX
      obtain ⟨my, hmy⟩ : ∃ m, m = zy.length := ⟨_, rfl⟩
      rw [← hmy] at hcy2 hq1 hq2 HNX
      have HC := impl_arrs Ay my dy (my - 1) zy wr hmy.symm (by omega) (by omega) hiy2
      rw [show ((my - 1 : Nat) : Int) = (my : Int) - 1 by omega] at HC
      obtain ⟨L, hL⟩ : ∃ L, L = grow (withF zy) (my - 1) [] := ⟨_, rfl⟩
      rw [← hL] at HC HNX
      have HLL := Lib.hid (show L.length ≤ 1000 by
        rw [hL]
        have h1 := grow_big (withF zy) (b := 8) (fun q => Nat.le_trans (withF_len zy q) (by omega)) (my - 1) []
        have h2 : 8 ^ (my - 1) ≤ 8 ^ 3 := Nat.pow_le_pow_right (by decide) (by omega)
        have h3 : 8 ^ 3 = 512 := rfl
        omega)
      have HLI := Lib.hid (show ∀ q ∈ L, q.length = my - 1 ∧ ∀ z ∈ q, 0 ≤ z ∧ z < 12 from fun q hq => by
        rw [hL] at hq
        exact ⟨by have := grow_len _ _ _ _ hq; simpa using this, fun z hz => hq3 z (grow_in zy _ _ _ hq (fun _ h => by cases h) z hz)⟩)
      have HCC := Lib.hid HC
      have HRR := Lib.hid hR
      have hw64 : IntKind.i64.wrap ((my : Int) - 1) = (my : Int) - 1 := IntWalk.i64_in _ (by omega)
      clear HC hR hRx hpl hx hcy hiy hzy hmem hq3 hmy hL hiy2
      go_wp2_with fail
      refine HCC.out.mono ?_
      rintro e w5 ⟨A5, c5, rr, rfl, hrr, hrow, hb5⟩
      have hcw : UR w5 w.heap.size (some ⟨g, 0, none⟩) (k + 1) c8 p := HU.out.below hb5
      obtain ⟨br, hbr⟩ : ∃ b, b = wr.heap.size := ⟨_, rfl⟩
      have hpl5 := HU.out.lt g rfl
      have HIL := Lib.hid (fun j (hj : j < k + 1) b hb => (own_lo (HU.out.inner j hj) b hb).2)
      have HU5 := Lib.hid hcw
      have HM5 := Lib.hid (HM.out.below hb5 HM.out.lt)
      have HB5 := Lib.hid (HB.out.trans (hb5.mono HB.out.size))
      have hs5 := hb5.size
      rw [← hbr] at hrow hs5 hsz HIL hpl5
      have HROW := Lib.hid hrow
      have HRW := Lib.hid hrr
      have HLR := Lib.hid (show rr.length = L.length by rw [← hrr, List.length_map])
      obtain ⟨M, hM⟩ : ∃ M, M = L.length := ⟨_, rfl⟩
      rw [← hM] at HLL HLR HROW
      rw [← hM]
      have HML := Lib.hid hM.symm
      have hM1 : M ≤ 1000 := HLL.out
      clear hrr hrow hb5 hcw hM hbr hcy2
      go_wp2
      go_hide hQ
      go_loopg [8, 41] M (fun gh v8 i wi => ∃ j : Nat, j ≤ M ∧ M - j ≤ gh ∧ i = .int .i64 (j : Int) ∧ v8 = .slice (some ⟨g, 0, none⟩) (k + 1) c8 ∧ wi = w5 ∧ Hid (freshF tr (L.drop j) = freshF tr L))
      case atStart => exact ⟨0, Nat.zero_le _, by omega, rfl, rfl, rfl, rfl⟩
      case round =>
        obtain ⟨j, hj, hgj, rfl, rfl, rfl, HF⟩ := hrel
        by_cases hlt : j < M
        · obtain ⟨gq, rfl, hcq⟩ := HROW.out.cell j hlt
          have hrj := (HROW.out.2.1 j (by rw [HLR.out]; exact hlt)).1
          have hzj : (rr.getD j rd0).zs = L.getD j [] := by
            rw [← HRW.out]
            simp [List.getD_eq_getElem?_getD, List.getElem?_eq_getElem (show j < rr.length by rw [HLR.out]; exact hlt)]
          have hmem : L.getD j [] ∈ L := by
            rw [List.getD_eq_getElem?_getD, List.getElem?_eq_getElem (by rw [HML.out]; exact hlt)]
            exact List.getElem_mem _
          obtain ⟨hl1, hl2⟩ := HLI.out _ hmem
          have HSK := Lib.hid (fun h => fresh_skip (tr := tr) (L := L) (j := j) (by rw [HML.out]; exact hlt) h)
          have HFO := Lib.hid (fun h => fresh_found (tr := tr) (L := L) (j := j) (by rw [HML.out]; exact hlt) h)
          rw [← hzj] at hl1 hl2 HSK HFO
          simp only [RD.v] at hcq
          generalize rr.getD j rd0 = rj at *
          obtain ⟨Aj, dj, mj⟩ := rj
          simp only at hcq hrj hzj hl1 hl2 HSK HFO
          have HRJ := Lib.hid hrj
          have HNM := Lib.hid (num_any Aj mj.length dj _ mj _ rfl (by omega) (fun i hi => by
            have hm : mj.getD i 0 ∈ mj := by
              rw [List.getD_eq_getElem?_getD, List.getElem?_eq_getElem hi]
              exact List.getElem_mem _
            have := hl2 _ hm
            omega) (ints_of hrj))
          have hnb : 0 ≤ numF mj ∧ numF mj ≤ 9223372036854775807 := num_fits (by omega) hl2
          have hky := Pok.key_int (a := numF mj) (by omega) hnb.2
          have HMJ := Lib.hid hl1
          have HMZ := Lib.hid hl2
          obtain ⟨nj, hnj⟩ : ∃ k, k = mj.length := ⟨_, rfl⟩
          obtain ⟨K, hK⟩ : ∃ k, k = numF mj := ⟨_, rfl⟩
          rw [← hK] at HNM hky HSK HFO hnb
          rw [← hnj] at HNM hcq
          have HK := Lib.hid hK
          have HNJ := Lib.hid hnj.symm
          clear hrj hzj hmem hl1 hl2 hnj hK
          go_wp2_with fail
          refine HNM.out.mono ?_
          rintro e w6 ⟨rfl, rfl⟩
          by_cases hin : K ∈ tr
          · have HT := Lib.hid (HF.out.symm.trans (HSK.out hin)).symm
            have HIN := Lib.hid (List.mem_map.2 ⟨K, hin, rfl⟩ : encT K ∈ tr.map encT)
            clear hin HSK HFO
            go_wp2_with (at_lookup; refine wpList_hit rfl (.tmp 47) (.tmp 48) 64 false rfl Pok.keyed Try.underlying64 w.heap.size _ HM5.out rfl (.int .i64 K) (.bool true) _ rfl hky (tr_nodup HTN.out) HIN.out ?_)
            go_wp2
            go_roundg (M - (j + 1))
            case rel => exact ⟨j + 1, by omega, Nat.le_refl _, by go_num, rfl, rfl, HT⟩
            case measure => omega
          · have HFM := Lib.hid (HF.out.symm.trans (HFO.out hin))
            have HNO := Lib.hid (show (Value.int .i64 K) ∉ (tr.map encT).map Prod.fst from fun h => hin ((tr_keys tr K).1 h))
            have HTN2 := Lib.hid (show (tr ++ [K]).Nodup from List.nodup_append.2 ⟨HTN.out, by simp, fun a ha b hb e => by simp at hb; rw [e, hb] at ha; exact hin ha⟩)
            clear hin HSK HFO
            go_wp2_with (first
              | (at_lookup; refine wpList_miss rfl (.tmp 47) (.tmp 48) 64 false rfl Pok.keyed Try.underlying64 w.heap.size _ HM5.out rfl (zeroB _) (.int .i64 K) _ rfl hky HNO.out ?_)
              | (at_mapUpdate; refine wpList_put rfl (.tmp 50) (.tmp 51) (.const (.bool true)) 64 (Or.inl rfl) Pok.keyed Try.underlying64 w.heap.size _ HM5.out rfl (.int .i64 K) (.bool true) _ rfl rfl hky HNO.out ?_; intro w7 hm7 hg7 hs7; (have HU7 := Lib.hid (HU5.out.map HM5.out hg7)); (have HRJ7 := Lib.hid (own_gr HRJ.out hg7 (fun k hk e => by cases e; exact map_ne HM5.out HRJ.out _ hk rfl))); (have HM7 := Lib.hid hm7); (have HB7 := Lib.hid (HB5.out.grown hg7 (by omega) (fun k hk => by simp only [Option.some.injEq] at hk; omega))); (have hsz7 := hg7.size); (obtain ⟨q1, q2, q3⟩ := HU7.out.cells k (by omega)); clear hm7 hg7)
              | fail)
            have HUS7 := Lib.hid (HUS.out.below HB7.out hbu)
            obtain ⟨o8, g8⟩ := HU7.out.put (i := k) (r := ⟨Aj, dj, mj⟩) (by omega) (own_mono HRJ7.out (by omega)) (fun j hj hne b hb e => by
              have h1 := HIL.out j hj b e
              have h2 := (own_lo HRJ7.out b hb).1
              omega)
            have hgm : g ≠ w.heap.size := map_ne HM7.out HU7.out.own.choose_spec.1 g rfl
            simp only [RD.v] at o8 g8
            rw [HNJ.out] at o8 g8
            obtain ⟨w8, hw8⟩ : ∃ w8, w8 = w7.setCell ⟨g, k * 2 + 1, none⟩ (.slice Aj nj dj) := ⟨_, rfl⟩
            rw [← hw8] at o8 g8
            rw [← hw8]
            have HU8 := Lib.hid o8
            have HM8 := Lib.hid (show MapE Try.prog 3 w8 w.heap.size ((tr ++ [K]).map encT) by rw [List.map_append]; exact HM7.out.grown g8 (fun e => by cases e; exact hgm rfl))
            have HUS8 := Lib.hid (HUS7.out.grown g8 (fun e => by simp only [Option.some.injEq] at e; omega))
            have HB8 := Lib.hid (HB7.out.grown g8 (by omega) (fun k hk => by simp only [Option.some.injEq] at hk; omega))
            have hsz8 := g8.size
            have HX8 := Lib.hid (show ∀ j, j < k + 1 → OkU n ((p.set k ((p.getD k u0).1, (⟨Aj, dj, mj⟩ : RD))).getD j u0) from fun j hj => by
              rw [Usr.getD_set (by rw [HPL.out]; omega)]
              by_cases e : j = k
              · rw [if_pos e]
                exact ⟨(HX.out k (by omega)).1, (HX.out k (by omega)).2.1, by show mj.length ≤ 12; rw [HMJ.out]; omega, HMZ.out⟩
              · rw [if_neg e]; exact HX.out j hj)
            clear o8 g8 hw8 q1 q2 q3 HUS7
            have HSL8 := HSL ((p.getD k u0).1, (⟨Aj, dj, mj⟩ : RD))
            obtain ⟨p8, hp8⟩ : ∃ q, q = p.set k ((p.getD k u0).1, (⟨Aj, dj, mj⟩ : RD)) := ⟨_, rfl⟩
            rw [← hp8] at HU8 HX8 HSL8
            have HFM2 := Lib.hid (show freshF tr (nextsF Hs ((ab (p.getD k u0)).1)) = some mj by
              show freshF tr (nextsF Hs (p.getD k u0).1) = some mj
              rw [← HXE.out, HNX.out]
              exact HFM.out)
            cases hlk : lookF us K with
            | none =>
              have HREQ := Lib.hid (show R = p8.map ab by
                have h1 := path_end (us := us) (f := f) (s := ⟨tr, (p.take k).map ab, ab (p.getD k u0)⟩) HFM2.out (by rw [← HK.out]; exact hlk)
                rw [HRR.out] at h1
                rw [HSL8.out]
                exact Option.some.inj h1)
              have hno := look_none.1 hlk
              have HNO2 := Lib.hid (show (Value.int .i64 K) ∉ (us.map Usr.encI).map Prod.fst from fun h => hno ((enc_keys us K).1 h))
              have HRL := Lib.hid (show R.length = k + 1 by rw [HREQ.out, List.length_map, HU8.out.len])
              clear hlk hno hp8
              rw [HUS8.out.miss Pok.keyed Try.underlying43 true (zeroN _) hky HNO2.out]
              go_wp2
              subst hQ
              go_wp2
              (try rw [Exit.noGoto_ret])
              go_ret
              exact ⟨_, c8, p8, by rw [HRL.out]; rfl, HREQ.out.symm, by rw [HRL.out]; exact HU8.out, by rw [HRL.out]; exact HX8.out, HB8.out⟩
            | some hh =>
              have hin2 := look_some hlk
              obtain ⟨hv1, hv2⟩ := HVAL.out _ hin2
              have HIN2 := Lib.hid (List.mem_map.2 ⟨_, hin2, rfl⟩ : Usr.encI (K, hh) ∈ us.map Usr.encI)
              have HREQ := Lib.hid (show pathF Hs us f ⟨tr ++ [K], p8.map ab, (hh, [])⟩ = some R by
                have h1 := path_more (us := us) (f := f) (s := ⟨tr, (p.take k).map ab, ab (p.getD k u0)⟩) HFM2.out (by rw [← HK.out]; exact hlk)
                rw [HRR.out] at h1
                rw [HSL8.out, h1, HK.out]
                rfl)
              clear hlk hin2 hp8
              rw [HUS8.out.hit (enc_nodup HND.out) Pok.keyed Try.underlying43 true hky HIN2.out]
              go_wp2_with (at_builtin; refine Wid.app_wide rfl (.tmp 64) (.tmp 67) 44 rfl w.heap.size 47 iu _ 2 32 Try.underlying44 hu1 hu2 hu3 hu4 (by decide) rfl (by decide) (some ⟨g, 0, none⟩) c8 (k + 1) HU8.out.own.choose rfl HU8.out.own.choose_spec.1 #[.int .i64 hh, .slice none 0 0] rfl (by intro u hu; simp at hu; rcases hu with rfl | rfl <;> rfl) _ rfl rfl (by omega) (by omega) ?_; intro g9 c9 w9 ho9 hg9)
              have HU9 := Lib.hid (UR.snoc HU8.out hg9 ho9)
              have HM9 := Lib.hid (HM8.out.grown hg9 (fun e => by simp only [Option.map_some, Option.some.injEq] at e; exact hgm e))
              have HB9 := Lib.hid (HB8.out.grown hg9 (by omega) (fun k hk => by simp only [Option.map_some, Option.some.injEq] at hk; omega))
              have hs9 := hg9.size
              have HPL8 := Lib.hid HU8.out.len
              have HX9 := Lib.hid (show ∀ j, j < k + 1 + 1 → OkU n ((p8 ++ [(hh, rd0)]).getD j u0) from fun j hj => by
                by_cases e : j = k + 1
                · rw [List.getD_eq_getElem?_getD, List.getElem?_append_right (by rw [HPL8.out]; omega), HPL8.out, e, Nat.sub_self]
                  exact ⟨hv1, hv2, by simp [rd0], fun z hz => by simp [rd0] at hz⟩
                · have := HX8.out j (by omega)
                  rw [List.getD_eq_getElem?_getD] at this ⊢
                  rwa [List.getElem?_append_left (by rw [HPL8.out]; omega)])
              have HREL := Lib.hid (show (k + 1 + 1 = 0 → R = []) ∧ ∀ k', k + 1 + 1 = k' + 1 → pathF Hs us f ⟨tr ++ [K], ((p8 ++ [(hh, rd0)]).take k').map ab, ab ((p8 ++ [(hh, rd0)]).getD k' u0)⟩ = some R from ⟨fun h => by omega, fun k' hk' => by
                have e : k' = k + 1 := by omega
                subst e
                rw [List.take_append_of_le_length (by rw [HPL8.out]; exact Nat.le_refl _), List.take_of_length_le (by rw [HPL8.out]; exact Nat.le_refl _), List.getD_eq_getElem?_getD, List.getElem?_append_right (by rw [HPL8.out]; exact Nat.le_refl _), HPL8.out, Nat.sub_self]
                exact HREQ.out⟩)
              clear ho9 hg9
              go_wp2
              (try subst hQ)
              (try go_wp2)
              go_roundg f
              case rel => exact ⟨k + 1 + 1, _, c9, p8 ++ [(hh, rd0)], tr ++ [K], rfl, HU9, HM9, HTN2, HB9, HX9, by omega, by omega, HREL⟩
              case measure => omega
        · have hjM : j = M := by omega
          have HFN := Lib.hid (show freshF tr L = none by
            rw [← HF.out, hjM, ← HML.out, List.drop_length]
            rfl)
          have HFM2 := Lib.hid (show freshF tr (nextsF Hs ((ab (p.getD k u0)).1)) = none by
            show freshF tr (nextsF Hs (p.getD k u0).1) = none
            rw [← HXE.out, HNX.out]
            exact HFN.out)
          have HUP := Lib.hid HU5.out.pop
          have hcap := HU5.out.cap
          have HREL := Lib.hid (show (k = 0 → R = []) ∧ ∀ k', k = k' + 1 → pathF Hs us f ⟨tr, ((p.take k).take k').map ab, ab ((p.take k).getD k' u0)⟩ = some R from ⟨fun h => by
              have h1 := path_stop (us := us) (f := f) (s := ⟨tr, (p.take k).map ab, ab (p.getD k u0)⟩) HFM2.out (by rw [h]; rfl)
              rw [HRR.out] at h1
              exact Option.some.inj h1, fun k' hk' => by
              have h1 := path_pop (us := us) (f := f) (s := ⟨tr, (p.take k).map ab, ab (p.getD k u0)⟩) (i := ((p.take k).take k').map ab) (e := ab ((p.take k).getD k' u0)) HFM2.out (ab_last (by rw [List.length_take, HPL.out]; omega))
              rw [← h1]
              exact HRR.out⟩)
          have HXP := Lib.hid (show ∀ j, j < k → OkU n ((p.take k).getD j u0) from fun j hj => by
            rw [take_getD hj]
            exact HX.out j (by omega))
          have hge : decide (j < M) = false := decide_eq_false hlt
          clear hjM
          go_wp2
          (try subst hQ)
          (try go_wp2)
          go_roundg f
          case rel => exact ⟨k, _, c8, p.take k, tr, rfl, HUP, HM5, HTN, HB5, HXP, by omega, by omega, HREL⟩
          case measure => omega
end Go.Proofs.Ytefgcnjbiaileaa.Pth
