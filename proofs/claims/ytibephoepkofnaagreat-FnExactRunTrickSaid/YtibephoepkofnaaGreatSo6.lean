/- The model's results of a choice: l05Ok, l05Cuts. The model's l05Of: all results of a choice. The model's l05Of: riffles. The model's l05Of: picks. The model's ResultsOf, CountResults, IsResult, ResultsAfter. The model's ResultsAfter. -/
import Derived.Test.YtibephoepkofnaaGreatRaf
import Derived.Test.YtibephoepkofnaaGreatDo
import Derived.Test.YtibephoepkofnaaGreatSpw
import Derived.Test.YtibephoepkofnaaGreatSps
import Derived.Deep.RegionHeldLaw
import Derived.Shelf.RegionOpen
import Derived.Shelf.Abstract
import Derived.WalkKit
import Derived.TacticsInMore
import Derived.Maps.AppendAt
set_option linter.unusedVariables false
set_option maxRecDepth 20000
namespace Go.Proofs.YtibephoepkofnaaGreat.Sof
open Go.RowKit Fr _root_.Go.Proofs.YtibephoepkofnaaGreat.Own Pk Ins Pfn Rws Sst Lb Mvp Pf Wv Itr Big Srt Raf

/-- is the choice possible -/
def okM (k : Int) (zs : List Int) : Bool := Pok.okB zs && decide (1 ≤ zs.length) && decide (0 ≤ k ∧ k ≤ 4) && ((decide (k ≠ 3) || decide (2 ≤ zs.length)) && (decide (k ≠ 2) || decide (zs.length ≤ 11)))
theorem take_snoc {l : List (List Int)} {rs : List RD} {k : Nat} {r : RD} (hk : k < l.length) (h : rs.map RD.zs = l.take k) (hr : r.zs = l.getD k []) : (rs ++ [r]).map RD.zs = l.take (k + 1) := by
  rw [List.map_append, h, List.take_add_one, List.getElem?_eq_getElem hk]
  simp [hr, List.getD_eq_getElem?_getD, List.getElem?_eq_getElem hk]
set_option maxHeartbeats 2000000 in
theorem spec_cuts (A : Option Addr) (n c : Nat) (zs : List Int) (w : World) (hR : Ready A n c zs w) :
    Calls Tryz.prog 70 #[.slice A n c] w (IsSS w.heap.size (cutsF zs) w) := by
  obtain ⟨i1, hj, hy0, hy1, hy2⟩ := infos_parts
  have hfew := hR.few
  have HRY := Lib.hid hR
  have HL := Lib.hid (show (cutsF zs).length = n by simp [cutsF, hR.len])
  have HG := Lib.hid (show ∀ k, k < n → (cutsF zs).getD k [] = moveF 1 k zs from fun k hk => row_get (by rw [hR.len]; exact hk))
  clear hR
  go_enter Tryz.func70, Tryz.ntmps70
  go_wp2
  have hnew : SSRow (w.alloc (.cells #[] 22)) w.heap.size (w.alloc (.cells #[] 22)).heap.size (some ⟨w.heap.size, 0, none⟩) 0 0 [] := SSRow.empty (World.ownsRow_lit (base := w.heap.size) (e := 22) (size := 1) w #[] 0 (Nat.le_refl _) (Nat.zero_le _) rfl)
  have hb0 : Below w.heap.size w (w.alloc (.cells #[] 22)) := (Below.refl _ w).alloc (Nat.le_refl _) _
  go_loopw [3, 4, 8] (fun s _ i wr => ∃ (k : Nat) (A3 : Option Addr) (c3 : Nat) (rs : List RD), k ≤ n ∧ i = .int .i64 (k : Int) ∧ s = .slice A3 k c3 ∧ SSRow wr w.heap.size wr.heap.size A3 k c3 rs ∧ Hid (rs.map RD.zs = (cutsF zs).take k) ∧ Below w.heap.size w wr) (fun _ _ i _ => n - (intOf i).toNat)
  case atStart => exact ⟨0, _, 0, [], Nat.zero_le _, rfl, rfl, hnew, rfl, hb0⟩
  case round =>
    obtain ⟨k, A3, c3, rs, hk, rfl, rfl, hrow, HRZ, hbw⟩ := hrel
    have hsz := hbw.size
    by_cases hlt : k < n
    · have hR1 : Ready A n c zs wr := ⟨HRY.out.len, HRY.out.pos, HRY.out.few, HRY.out.cap, HRY.out.fits, (HRY.out.cells.below hbw).more hsz⟩
      have hmv : mvB (n : Int) 1 (k : Int) = true := by
        unfold mvB
        rw [decide_eq_true (show (1 : Int) ≤ n ∧ (n : Int) ≤ 12 by omega), decide_eq_true (show (0 : Int) ≤ k ∧ (0 : Int) ≤ 1 by omega)]
        have hk1 : kOk (1 : Int).toNat (k : Int).toNat (n : Int).toNat = true := by
          show kOk 1 k n = true
          unfold kOk
          rw [if_pos (Or.inl rfl), decide_eq_true (by omega)]
        rw [hk1]
        rfl
      have C1 := Do.do_1 A n c k zs wr hR1 hmv
      rw [Int.toNat_natCast] at C1
      have HT := Lib.hid (fun (r : RD) (hr : r.zs = moveF 1 k zs) => take_snoc (l := cutsF zs) (k := k) (r := r) (by rw [HL.out]; exact hlt) HRZ (hr.trans (HG.out k hlt).symm))
      generalize moveF 1 k zs = y at *
      have HROW := Lib.hid hrow
      have HB := Lib.hid hbw
      clear hrow hbw HRZ hR1 hmv
      go_wp2_with fail
      refine C1.mono ?_
      rintro e w2 ⟨A4, c4, rfl, hown4, hb4⟩
      have hr2 := HROW.out.below hb4
      have hs2 := hb4.size
      have HB2 := Lib.hid (HB.out.trans (hb4.mono hsz))
      clear C1
      go_wp2_with (at_builtin; refine app_more rfl (.tmp 11) (.tmp 16) 63 rfl w.heap.size 22 i1 (.slice none 0 0) 24 Tryz.underlying63 hj hy0 hy1 hy2 (by decide) rfl A3 c3 k _ rfl hr2.1 (.slice A4 y.length c4) rfl _ rfl rfl (by omega) (by omega) ?_; intro g6 c6 w6 hown6 hgr6)
      have HSN := Lib.hid (SSRow.snoc (zs := y) (A1 := A4) (c1 := c4) hr2 hsz hown4 hown6 hgr6)
      have HB3 := Lib.hid (HB2.out.grown hgr6 (by omega) (fun j hj' => HROW.out.outlo j hj'))
      have HTT := Lib.hid (HT.out ⟨A4, c4, y⟩ rfl)
      clear hown6 hgr6 hown4 hr2 HT
      go_roundw
      case rel => exact ⟨k + 1, _, c6, rs ++ [⟨A4, c4, y⟩], by omega, by go_num, by go_num, HSN.out, HTT, HB3.out⟩
      case measure => simp [intOf]; omega
    · have hkn : k = n := by omega
      subst hkn
      have HROW := Lib.hid hrow
      have HB := Lib.hid hbw
      clear hrow hbw
      go_wp2
      go_ret
      have hz : rs.map RD.zs = cutsF zs := by rw [HRZ, ← HL.out, List.take_length]
      exact ⟨A3, c3, rs, by rw [HL.out]; rfl, hz, by rw [HL.out]; exact HROW.out, HB.out⟩
end Go.Proofs.YtibephoepkofnaaGreat.Sof

namespace Go.Proofs.YtibephoepkofnaaGreat.So2
open Go.RowKit Fr _root_.Go.Proofs.YtibephoepkofnaaGreat.Own Pk Ins Pfn Rws Sst Spl Sps Lb Mvp Pf Wv Itr Big Srt Raf Sof

/-- a call hands back a list of lists that may lie anywhere -/
def OfRes (L : List (List Int)) (w : World) (e : Ending) (w' : World) : Prop :=
  ∃ A' c' rs, e = .returned (.slice A' L.length c') ∧ rs.map RD.zs = L ∧ SSAt w' w'.heap.size A' rs ∧ RowsOk rs ∧ L.length ≤ c' ∧ Below w.heap.size w w'
theorem of_ss {B : Nat} {zss : List (List Int)} {w0 w w' : World} {e : Ending} (h : IsSS B zss w e w') (hz : ∀ x ∈ zss, x.length ≤ 1048576) (hb : Below w0.heap.size w0 w') : OfRes zss w0 e w' := by
  obtain ⟨A, c, rs, rfl, h1, h2, h3⟩ := h
  exact ⟨A, c, rs, rfl, h1, at_of h2, rows_ok h2 (by rw [h1]; exact hz), ss_cap h2, hb⟩
def ofM (k : Int) (zs : List Int) : List (List Int) := if k = 1 then cutsF zs else if k = 2 then rifM zs else if k = 3 then cutsF (moveF 3 2 zs) else if k = 4 then picksF zs else [zs]
theorem cuts_small {zs : List Int} (h : Pok.okB zs = true) (h1 : 1 ≤ zs.length) : ∀ x ∈ cutsF zs, x.length ≤ 1048576 := fun x hx => by
  have q := (cuts_good h h1 x hx).2
  have := (ok_parts h).1
  omega
set_option maxHeartbeats 1000000 in
theorem of_1 (A : Option Addr) (n c : Nat) (zs : List Int) (w : World) (hR : Ready A n c zs w) (hok : Pok.okB zs = true) :
    Calls Tryz.prog 55 #[.slice A n c, .int .i64 1] w (OfRes (cutsF zs) w) := by
  have hb0 : Below w.heap.size w (w.alloc (.cells #[] 22)) := (Below.refl _ w).alloc (Nat.le_refl _) _
  have C := spec_cuts A n c zs (w.alloc (.cells #[] 22)) ⟨hR.len, hR.pos, hR.few, hR.cap, hR.fits, (hR.cells.below hb0).more hb0.size⟩
  have HS := Lib.hid (cuts_small hok (by rw [hR.len]; exact hR.pos))
  have HB0 := Lib.hid hb0
  have hs0 := hb0.size
  clear hR hb0
  go_enter Tryz.func55, Tryz.ntmps55
  go_wp2_with fail
  refine C.mono ?_
  rintro e w1 hI
  have hb1 : Below w.heap.size w w1 := by
    obtain ⟨A3, c3, rs, _, _, _, h3⟩ := hI
    exact HB0.out.trans (h3.mono hs0)
  have hO := of_ss hI HS.out hb1
  obtain ⟨A3, c3, rs, rfl, h⟩ := hO
  have HO := Lib.hid h
  clear hI h hb1
  go_wp2
  go_ret
  exact ⟨A3, c3, rs, rfl, HO.out⟩
set_option maxHeartbeats 1000000 in
theorem of_3 (A : Option Addr) (n c : Nat) (zs : List Int) (w : World) (hR : Ready A n c zs w) (hok : Pok.okB zs = true) (hn2 : 2 ≤ n) :
    Calls Tryz.prog 55 #[.slice A n c, .int .i64 3] w (OfRes (cutsF (moveF 3 2 zs)) w) := by
  have hb0 : Below w.heap.size w (w.alloc (.cells #[] 22)) := (Below.refl _ w).alloc (Nat.le_refl _) _
  have C := Sv.spec_back true A n c 2 zs (w.alloc (.cells #[] 22)) hR.len hR.pos hR.few hR.cap hn2 hR.fits ((hR.cells.below hb0).more hb0.size)
  have e : Sv.mapUp true (zs.take 2).reverse ++ zs.drop 2 = moveF 3 2 zs := rfl
  rw [e] at C
  have hk1 : kOk 3 2 zs.length = true := by
    unfold kOk
    have := hR.len
    simp
    omega
  have hl := hR.len
  have hp := hR.pos
  have hf := hR.few
  have hml : (moveF 3 2 zs).length = n := by rw [move_len hk1 (by omega) (by omega), hl]
  have hmo := move_ok hk1 (by omega) hok
  have hmf := move_fits hk1 (by omega) hok
  generalize moveF 3 2 zs = ys at *
  have HS := Lib.hid (cuts_small hmo (by omega))
  have HP := Lib.hid (And.intro hml (And.intro hmf (And.intro hp hf)))
  have HB0 := Lib.hid hb0
  have hs0 := hb0.size
  clear hR hb0 e hk1 hl hml hmo hmf hp hf
  go_enter Tryz.func55, Tryz.ntmps55
  go_wp2_with fail
  refine C.mono ?_
  rintro e w1 ⟨A1, c1, rfl, hown, hb1⟩
  have hc1 : ys.length ≤ c1 := by
    rcases hown.2 with ⟨hv, h0⟩ | ⟨g, cap, cur, hv, hg, hh, q1, q2, q3, q4⟩
    · omega
    · simp only [Value.slice.injEq] at hv
      omega
  have C2 := spec_cuts A1 ys.length c1 ys w1 ⟨rfl, by rw [HP.out.1]; exact HP.out.2.2.1, by rw [HP.out.1]; exact HP.out.2.2.2, hc1, HP.out.2.1, ints_of hown⟩
  have HB1 := Lib.hid (HB0.out.trans (hb1.mono hs0))
  have hs1 := HB1.out.size
  clear hown hb1 C
  generalize ys.length = m at *
  go_wp2_with fail
  refine C2.mono ?_
  rintro e w2 hI
  have hb2 : Below w.heap.size w w2 := by
    obtain ⟨A3, c3, rs, _, _, _, h3⟩ := hI
    exact HB1.out.trans (h3.mono hs1)
  have hO := of_ss hI HS.out hb2
  obtain ⟨A3, c3, rs, rfl, h⟩ := hO
  have HO := Lib.hid h
  clear hI h hb2
  go_wp2
  go_ret
  exact ⟨A3, c3, rs, rfl, HO.out⟩
set_option maxHeartbeats 1000000 in
theorem of_0 (A : Option Addr) (n c : Nat) (zs : List Int) (w : World) (hR : Ready A n c zs w) :
    Calls Tryz.prog 55 #[.slice A n c, .int .i64 0] w (OfRes [zs] w) := by
  obtain ⟨i1, hj, hy0, hy1, hy2⟩ := infos_parts
  obtain ⟨b, o, rfl⟩ : ∃ b o, A = some ⟨b, o, none⟩ := by
    have := hR.pos
    obtain ⟨b, o, e, _⟩ := hR.cells 0 (by rw [hR.len]; omega)
    exact ⟨b, o, e⟩
  have hout := World.ownsRow_lit (base := w.heap.size) (e := 22) (size := 1) w #[] 0 (Nat.le_refl _) (Nat.zero_le _) rfl
  have hb0 : Below w.heap.size w (w.alloc (.cells #[] 22)) := (Below.refl _ w).alloc (Nat.le_refl _) _
  have hs0 := hb0.size
  have HR := Lib.hid hR
  clear hR
  go_enter Tryz.func55, Tryz.ntmps55
  go_upto_region 20 with fail
  generalize w.alloc (.cells #[] 22) = w0 at *
  go_wp2_with (at_builtin; refine app_more rfl (.tmp 65) (.tmp 67) 63 rfl w.heap.size 22 i1 (.slice none 0 0) 24 Tryz.underlying63 hj hy0 hy1 hy2 (by decide) rfl (some ⟨w.heap.size, 0, none⟩) 0 0 _ rfl hout (.slice (some ⟨b, o, none⟩) n c) rfl _ rfl rfl (by omega) (by omega) ?_; intro g6 c6 w6 hown6 hgr6)
  have hb6 : Below w.heap.size w w6 := hb0.grown hgr6 hs0 (fun k e => by cases e; exact Nat.le_refl _)
  have hc6 : 1 ≤ c6 := by
    rcases hown6.2 with ⟨hv, h0⟩ | ⟨g, cap, cur, hv, hg, hh, q1, q2, q3, q4⟩
    · omega
    · simp only [Value.slice.injEq] at hv
      omega
  have hcell : w6.cell? ⟨g6, 0, none⟩ = some (.slice (some ⟨b, o, none⟩) n c) := hown6.cellAt (j := 0) (by simp)
  have hg6 : g6 < w6.heap.size := (own_lo hown6 g6 rfl).2
  have HOF := Lib.hid (show OfRes [zs] w (.returned (.slice (some ⟨g6, 0, none⟩) 1 c6)) w6 from by
    have hl := HR.out.len
    have hf := HR.out.few
    subst hl
    refine ⟨some ⟨g6, 0, none⟩, c6, [⟨some ⟨b, o, none⟩, c, zs⟩], rfl, rfl, ?_, ?_, hc6, hb6⟩
    · intro j hj0
      obtain rfl : j = 0 := by simpa using hj0
      exact ⟨g6, 0, rfl, hg6, hcell, (HR.out.cells.below hb6).more hb6.size⟩
    · intro i hi
      obtain rfl : i = 0 := by simpa using hi
      exact ⟨Nat.le_trans hf (by decide), (fun h => by cases h), fun a h => by cases h; rfl⟩)
  clear hown6 hgr6 hb6 hcell
  go_wp2
  go_ret
  exact HOF.out
end Go.Proofs.YtibephoepkofnaaGreat.So2

namespace Go.Proofs.YtibephoepkofnaaGreat.So3
open Go.RowKit Fr _root_.Go.Proofs.YtibephoepkofnaaGreat.Own Pk Ins Pfn Rws Sst Spl Sps Lb Mvp Pf Wv Itr Big Srt Raf Sof So2

def rifK (zs : List Int) (k : Nat) : List (List Int) := (List.range k).flatMap fun j => weaveF zs.length [] (zs.take j) (zs.drop j)
theorem rifK_snoc (zs : List Int) (k : Nat) : rifK zs (k + 1) = rifK zs k ++ weaveF zs.length [] (zs.take k) (zs.drop k) := by
  unfold rifK
  rw [List.range_succ, List.flatMap_append]
  simp
theorem rifK_len (zs : List Int) (h : zs.length ≤ 12) : ∀ k, (rifK zs k).length ≤ k * 4096
  | 0 => by simp [rifK]
  | k + 1 => by
    rw [rifK_snoc, List.length_append]
    have h1 := rifK_len zs h k
    have h2 := Wv.weave_size zs.length [] (zs.take k) (zs.drop k)
    have h3 : 2 ^ zs.length ≤ 4096 := Nat.pow_le_pow_right (by decide) h
    omega
theorem rifM_small {zs : List Int} (h : zs.length ≤ 12) : ∀ x ∈ rifM zs, x.length ≤ 1048576 := fun x hx => by
  have hx2 := (Wv.rif_mem zs x).1 hx
  unfold rifI at hx2
  obtain ⟨w, hw, rfl⟩ := List.mem_map.1 hx2
  rw [(Wv.rif_perm (bitsN_len _ _)).length_eq]
  omega
set_option maxHeartbeats 2000000 in
theorem of_2 (A : Option Addr) (n c : Nat) (zs : List Int) (w : World) (hR : Ready A n c zs w) :
    Calls Tryz.prog 55 #[.slice A n c, .int .i64 2] w (OfRes (rifM zs) w) := by
  have hfew := hR.few
  have hcap := hR.cap
  have HRY := Lib.hid hR
  obtain ⟨b, o, rfl⟩ : ∃ b o, A = some ⟨b, o, none⟩ := by
    have := hR.pos
    obtain ⟨b, o, e, _⟩ := hR.cells 0 (by rw [hR.len]; omega)
    exact ⟨b, o, e⟩
  have hout := World.ownsRow_lit (base := w.heap.size) (e := 22) (size := 1) w #[] 0 (Nat.le_refl _) (Nat.zero_le _) rfl
  have hb0 : Below w.heap.size w (w.alloc (.cells #[] 22)) := (Below.refl _ w).alloc (Nat.le_refl _) _
  have hnew := SSRow.empty hout
  have HS := Lib.hid (rifM_small (zs := zs) (by rw [hR.len]; exact hR.few))
  clear hR hout
  go_enter Tryz.func55, Tryz.ntmps55
  go_wp2
  generalize w.alloc (.cells #[] 22) = w0 at *
  go_loopw [5, 6] (fun s i wr => ∃ (k m : Nat) (A3 : Option Addr) (c3 : Nat) (rs : List RD), k ≤ n + 1 ∧ i = .int .i64 (k : Int) ∧ s = .slice A3 m c3 ∧ SSRow wr w.heap.size wr.heap.size A3 m c3 rs ∧ Hid (rs.map RD.zs = rifK zs k) ∧ Below w.heap.size w wr) (fun _ i _ => n + 1 - (intOf i).toNat)
  case atStart => exact ⟨0, 0, _, 0, [], Nat.zero_le _, rfl, rfl, hnew, rfl, hb0⟩
  case round =>
    obtain ⟨k, m, A3, c3, rs, hk, rfl, rfl, hrow, HRZ, hbw⟩ := hrel
    have hsz := hbw.size
    have hm : m ≤ 65536 := by
      have h1 := hrow.len
      have h2 := rifK_len zs (by rw [HRY.out.len]; exact hfew) k
      rw [← HRZ, List.length_map, h1] at h2
      omega
    by_cases hlt : k ≤ n
    · have hki : (k : Int) ≤ (n : Int) := by omega
      have h0i : (0 : Int) ≤ (k : Int) := by omega
      have hkc : (k : Int) ≤ (c : Int) := by omega
      have hb1 : Below wr.heap.size wr (wr.alloc (.cells #[] 3)).drew := ((Below.refl _ wr).alloc (Nat.le_refl _) _).drew
      have hzl : zs.length = n := HRY.out.len
      have hA : IntsAt ((wr.alloc (.cells #[] 3)).drew) w.heap.size .i64 (some ⟨b, o, none⟩) zs := HRY.out.cells.below (hbw.trans (hb1.mono hsz))
      have hD : (wr.alloc (.cells #[] 3)).drew.ownsRow wr.heap.size 3 1 (.slice (some ⟨wr.heap.size, 0, none⟩) 0 0) 0 (vals []) := World.ownsRow_lit (base := wr.heap.size) (e := 3) (size := 1) wr #[] 0 (Nat.le_refl _) (Nat.zero_le _) rfl
      have hp2 : 2 ^ n ≤ 4096 := Nat.pow_le_pow_right (by decide) hfew
      have hO : SSRow ((wr.alloc (.cells #[] 3)).drew) w.heap.size wr.heap.size A3 m c3 rs := hrow.below hb1 |>.under (Below.refl _ _)
      have HBX := Lib.hid (hbw.trans (hb1.mono hsz))
      have HRC := Lib.hid (rifK_snoc zs k)
      rw [hzl] at HRC
      by_cases hck : c = k
      · subst hck
        have HW := Lib.hid (Spw.weave_any n w.heap.size wr.heap.size A3 m c3 rs wr.heap.size 0 0 [] (some ⟨b, o, none⟩) c c (zs.take c) (some ⟨b, o, none⟩) 0 0 (zs.drop c) ((wr.alloc (.cells #[] 3)).drew) (by rw [List.length_take]; omega) (by rw [List.length_drop]; omega) rfl (by omega) hO hsz hD (Mv1.ints_take2 c hA) (by
          have hz : zs.drop c = [] := List.drop_eq_nil_of_le (by omega)
          rw [hz]
          exact IntsAt.none_ _ _ _ _) (by omega) (by omega) (by omega) (by omega))
        have hlm : (weaveF n [] (zs.take c) (zs.drop c)).length ≤ 4096 := Nat.le_trans (Wv.weave_size _ _ _ _) hp2
        clear hA hD hO hb1 hrow hbw hp2
        generalize weaveF n [] (zs.take c) (zs.drop c) = L at *
        go_upto_region 9 with fail
        refine (wpIn_wide (n := 5)).1 ?_
        refine wpIn_region_any (by kernel_rfl) ?_
        change wpAnyIn _ _ _ _ _ _ _ _ _ (World.drew _)
        refine wpAnyIn_take (i := 0) (v := ?_) rfl rfl (by kernel_rfl) (by kernel_rfl) (by kernel_rfl) (fun _ _ _ h => h) ⟨Or.inl ⟨by rfl, ?_⟩, fun _ => rfl⟩ ?_
        rotate_left
        · (intro w; go_simp; (try with_reducible rfl))
        refine wpAnyIn_take (i := 2) (v := ?_) rfl rfl (by kernel_rfl) (by kernel_rfl) (by kernel_rfl) (fun _ _ _ h => h) ⟨Or.inl ⟨by rfl, ?_⟩, fun _ => rfl⟩ ?_
        rotate_left
        · (intro w; go_simp; (try with_reducible rfl))
        refine wpAnyIn_take (i := 3) (v := ?_) rfl rfl (by kernel_rfl) (by kernel_rfl) (by kernel_rfl) (fun _ _ _ h => h) ⟨Or.inl ⟨by rfl, ?_⟩, fun _ => rfl⟩ ?_
        rotate_left
        · (intro w; go_simp; (try with_reducible rfl))
        refine wpAnyIn_take (i := 4) (v := ?_) rfl rfl (by kernel_rfl) (by kernel_rfl) (by kernel_rfl) (fun _ _ _ h => h) ⟨Or.inl ⟨by rfl, ?_⟩, fun _ => rfl⟩ ?_
        rotate_left
        · (intro w; go_simp; (try with_reducible rfl))
        refine wpAnyIn_take (i := 5) (v := ?_) rfl rfl (by kernel_rfl) (by kernel_rfl) (by kernel_rfl) (fun _ _ _ h => h) ⟨Or.inl ⟨by rfl, ?_⟩, fun _ => rfl⟩ ?_
        rotate_left
        · (intro w; go_simp; (try with_reducible rfl))
        refine wpAnyIn_take (i := 6) (v := ?_) rfl rfl (by kernel_rfl) (by kernel_rfl) (by kernel_rfl) (fun _ _ _ h => h) ⟨Or.inl ⟨by rfl, ?_⟩, fun _ => rfl⟩ ?_
        rotate_left
        · (intro w; go_simp; (try with_reducible rfl))
        refine wpAnyIn_take (i := 7) (v := ?_) rfl rfl (by kernel_rfl) (by kernel_rfl) (by kernel_rfl) (fun _ _ _ h => h) ⟨Or.inl ⟨by rfl, ?_⟩, fun _ => rfl⟩ ?_
        rotate_left
        · (intro w; go_simp; (try with_reducible rfl))
        refine wpAnyIn_ready (rs := [1]) (by kernel_rfl) (by simp) ?_
        refine (AllReadyIn.cons rfl (fun K hK => ?_) AllReadyIn.nil)
        go_simp
        refine hK _ _ ?_
        clear hK K
        refine wpAnyIn_ready (rs := [8]) (by kernel_rfl) (by simp) ?_
        refine (AllReadyIn.cons rfl (fun K hK => ?_) AllReadyIn.nil)
        go_simp
        refine ⟨trivial, ?_⟩
        refine (callsIn_wide.2 HW.out).mono ?_
        rintro e w2 ⟨A4, c4, rs4, rfl, hz4, hss4, hb4, _⟩
        refine hK _ _ ?_
        clear hK K
        refine wpAnyIn_take (i := 9) (v := ?_) rfl rfl (by kernel_rfl) (by kernel_rfl) (by kernel_rfl) (fun _ _ _ h => h) ⟨Or.inl ⟨by rfl, ?_⟩, fun _ => rfl⟩ ?_
        rotate_left
        · (intro w; go_simp; (try with_reducible rfl))
        refine wpAnyIn_done (by kernel_rfl) ?_ _
        have HB4 := Lib.hid (HBX.out.trans hb4)
        have HSS := Lib.hid hss4
        have HZ := Lib.hid (show rs4.map RD.zs = rifK zs (c + 1) by rw [hz4, HRZ, HRC.out])
        clear hz4 hss4 hb4 HW
        go_wp2
        go_roundw
        case rel => exact ⟨c + 1, m + L.length, A4, c4, rs4, by omega, by go_num, by go_num, HSS.out, HZ.out, HB4.out⟩
        case measure => simp [intOf]; omega
      · have HW := Lib.hid (Spw.weave_any n w.heap.size wr.heap.size A3 m c3 rs wr.heap.size 0 0 [] (some ⟨b, o, none⟩) k c (zs.take k) (some ⟨b, o + k, none⟩) (n - k) (c - k) (zs.drop k) ((wr.alloc (.cells #[] 3)).drew) (by rw [List.length_take]; omega) (by rw [List.length_drop]; omega) rfl (by omega) hO hsz hD (Mv1.ints_take2 k hA) (Mv1.ints_drop hA) (by omega) (by omega) (by omega) (by omega))
        have hlm : (weaveF n [] (zs.take k) (zs.drop k)).length ≤ 4096 := Nat.le_trans (Wv.weave_size _ _ _ _) hp2
        clear hA hD hO hb1 hrow hbw hp2
        generalize weaveF n [] (zs.take k) (zs.drop k) = L at *
        go_upto_region 9 with fail
        refine (wpIn_wide (n := 5)).1 ?_
        refine wpIn_region_any (by kernel_rfl) ?_
        change wpAnyIn _ _ _ _ _ _ _ _ _ (World.drew _)
        refine wpAnyIn_take (i := 0) (v := ?_) rfl rfl (by kernel_rfl) (by kernel_rfl) (by kernel_rfl) (fun _ _ _ h => h) ⟨Or.inl ⟨by rfl, ?_⟩, fun _ => rfl⟩ ?_
        rotate_left
        · (intro w; go_simp; (try with_reducible rfl))
        refine wpAnyIn_take (i := 2) (v := ?_) rfl rfl (by kernel_rfl) (by kernel_rfl) (by kernel_rfl) (fun _ _ _ h => h) ⟨Or.inl ⟨by rfl, ?_⟩, fun _ => rfl⟩ ?_
        rotate_left
        · (intro w; go_simp; (try with_reducible rfl))
        refine wpAnyIn_take (i := 3) (v := ?_) rfl rfl (by kernel_rfl) (by kernel_rfl) (by kernel_rfl) (fun _ _ _ h => h) ⟨Or.inl ⟨by rfl, ?_⟩, fun _ => rfl⟩ ?_
        rotate_left
        · (intro w; go_simp; (try with_reducible rfl))
        refine wpAnyIn_take (i := 4) (v := ?_) rfl rfl (by kernel_rfl) (by kernel_rfl) (by kernel_rfl) (fun _ _ _ h => h) ⟨Or.inl ⟨by rfl, ?_⟩, fun _ => rfl⟩ ?_
        rotate_left
        · (intro w; go_simp; (try with_reducible rfl))
        refine wpAnyIn_take (i := 5) (v := ?_) rfl rfl (by kernel_rfl) (by kernel_rfl) (by kernel_rfl) (fun _ _ _ h => h) ⟨Or.inl ⟨by rfl, ?_⟩, fun _ => rfl⟩ ?_
        rotate_left
        · (intro w; go_simp; (try with_reducible rfl))
        refine wpAnyIn_take (i := 6) (v := ?_) rfl rfl (by kernel_rfl) (by kernel_rfl) (by kernel_rfl) (fun _ _ _ h => h) ⟨Or.inl ⟨by rfl, ?_⟩, fun _ => rfl⟩ ?_
        rotate_left
        · (intro w; go_simp; (try with_reducible rfl))
        refine wpAnyIn_take (i := 7) (v := ?_) rfl rfl (by kernel_rfl) (by kernel_rfl) (by kernel_rfl) (fun _ _ _ h => h) ⟨Or.inl ⟨by rfl, ?_⟩, fun _ => rfl⟩ ?_
        rotate_left
        · (intro w; go_simp; (try with_reducible rfl))
        refine wpAnyIn_ready (rs := [1]) (by kernel_rfl) (by simp) ?_
        refine (AllReadyIn.cons rfl (fun K hK => ?_) AllReadyIn.nil)
        go_simp
        refine hK _ _ ?_
        clear hK K
        refine wpAnyIn_ready (rs := [8]) (by kernel_rfl) (by simp) ?_
        refine (AllReadyIn.cons rfl (fun K hK => ?_) AllReadyIn.nil)
        go_simp
        refine ⟨trivial, ?_⟩
        refine (callsIn_wide.2 HW.out).mono ?_
        rintro e w2 ⟨A4, c4, rs4, rfl, hz4, hss4, hb4, _⟩
        refine hK _ _ ?_
        clear hK K
        refine wpAnyIn_take (i := 9) (v := ?_) rfl rfl (by kernel_rfl) (by kernel_rfl) (by kernel_rfl) (fun _ _ _ h => h) ⟨Or.inl ⟨by rfl, ?_⟩, fun _ => rfl⟩ ?_
        rotate_left
        · (intro w; go_simp; (try with_reducible rfl))
        refine wpAnyIn_done (by kernel_rfl) ?_ _
        have HB4 := Lib.hid (HBX.out.trans hb4)
        have HSS := Lib.hid hss4
        have HZ := Lib.hid (show rs4.map RD.zs = rifK zs (k + 1) by rw [hz4, HRZ, HRC.out])
        clear hz4 hss4 hb4 HW
        go_wp2
        go_roundw
        case rel => exact ⟨k + 1, m + L.length, A4, c4, rs4, by omega, by go_num, by go_num, HSS.out, HZ.out, HB4.out⟩
        case measure => simp [intOf]; omega
    · have hkn : k = n + 1 := by omega
      subst hkn
      have HM := Lib.hid (show rifK zs (n + 1) = rifM zs by unfold rifK rifM; rw [HRY.out.len])
      have hml : m = (rifM zs).length := by rw [← HM.out, ← HRZ, List.length_map, hrow.len]
      have HO := Lib.hid (of_ss (w0 := w) ⟨A3, c3, rs, rfl, by rw [HRZ, HM.out], by rw [← hml]; exact hrow, hbw⟩ HS.out hbw)
      rw [← hml] at HO
      obtain ⟨A9, c9, rs9, e9, q1, q2, q3, q4, q5⟩ := HO.out
      have HEQ := Lib.hid hml
      clear hml hrow hbw q1 q2 q3 q4 q5 e9
      go_wp2
      go_ret
      exact HO.out
end Go.Proofs.YtibephoepkofnaaGreat.So3

namespace Go.Proofs.YtibephoepkofnaaGreat.So4
open Go.RowKit Fr _root_.Go.Proofs.YtibephoepkofnaaGreat.Own Pk Ins Pfn Rws Sst Spl Sps Lb Mvp Mv1 Pf Wv Itr Big Srt Raf Sof So2 Sv2 Do

theorem st_lit {B : Nat} {W : World} {x : Int} (hB : B ≤ W.heap.size) : (W.alloc (.cells #[.int .i64 x] 3)).ownsRow B 3 1 (.slice (some ⟨W.heap.size, 0, none⟩) 1 1) 1 (vals [x]) := World.ownsRow_lit (base := B) (e := 3) (size := 1) W #[.int .i64 x] 1 hB (by decide) rfl
theorem st_nil {B : Nat} {W : World} (hB : B ≤ W.heap.size) : (W.alloc (.cells #[] 3)).ownsRow B 3 1 (.slice (some ⟨W.heap.size, 0, none⟩) 0 0) 0 (vals []) := World.ownsRow_lit (base := B) (e := 3) (size := 1) W #[] 0 hB (Nat.zero_le _) rfl
theorem st_spot {W : World} {B : Nat} {A : Option Addr} {n c : Nat} {xs : List Value} (h : W.ownsRow B 3 1 (.slice A n c) n xs) : (A = none → c = 0) ∧ ∀ a, A = some a → a.spot = none := by
  rcases own_full h with ⟨h1, h2, h3⟩ | ⟨g, ys, rfl, _⟩
  · subst h1
    exact ⟨fun _ => h3, fun a e => (by cases e)⟩
  · exact ⟨fun e => (by cases e), fun a e => (by cases e; rfl)⟩
theorem own_grow {W W' : World} {B g n c : Nat} {A : Option Addr} {xs : List Value} (h : W.ownsRow B 3 1 (.slice (some ⟨g, 0, none⟩) n c) n xs) (hg : W.grownBy W' (A.map (·.block))) (hne : A.map (·.block) ≠ some g) : W'.ownsRow B 3 1 (.slice (some ⟨g, 0, none⟩) n c) n xs :=
  own_gr h hg fun k hk e => hne (e.trans hk.symm)
theorem step_app_v {P : Program} {w : World} {ops : Array Oper} {o : Oper} {a : Act} {K : Act → World → Prop} {Q : Exit → Act → World → Prop} {E : Prop} (hgd : o.guard = none) (s x : Operand) (t : TypeId)
    (ho : o.op = .call { callee := .builtin .append, args := #[s, x], argTypes := #[t, t] })
    (B : Nat) (e : TypeId) (i : TypeInfo) (z : Value) (bytes : Nat) (ht : P.underlying t = some (.slice e)) (hi : P.info? e = some i) (hz : i.zero = some z)
    (hsize : i.size = 1) (hby : i.bytes = bytes) (hzs : z.cells.size = 1) (A : Option Addr) (c : Nat) (n : Nat) (xs : List Value) (hs : a.eval s = .slice A n c) (hown : w.ownsRow B e 1 (.slice A n c) n xs)
    (y : Value) (hy : y.oneCell' = true) (N : Nat) (hx : a.eval x = .slice (some ⟨N, 0, none⟩) 1 1) (hcell : w.cell? ⟨N, 0, none⟩ = some y) (hn : n ≤ 1048576) (hby2 : bytes ≤ 32) (hB : B ≤ w.heap.size)
    (h : ∀ g c' w', w'.ownsRow B e 1 (.slice (some ⟨g, 0, none⟩) (n + 1) c') (n + 1) (xs ++ [y]) → w.grownBy w' (A.map (·.block)) → K (a.put o.dst (.slice (some ⟨g, 0, none⟩) (n + 1) c')) w') :
    if Region.wanted o (yielded ops a.tmps) = true then Oper.wp P o a w K Q else E := by
  have hw : Region.wanted o (yielded ops a.tmps) = true := by simp [Region.wanted, hgd]
  rw [if_pos hw]
  obtain ⟨v', w', hr, h2, h3, _, h5⟩ := run_append_own_at (P := P) w B t o.type e i z 1 bytes ht hi hz hsize hby hzs (by decide) _ n xs hown ⟨N, 0, none⟩ 1 1 [y] rfl (fun j u hj => by
    match j, hj with
    | 0, hj =>
      simp at hj
      subst hj
      exact hcell) (fun u hu => by simp at hu; subst hu; exact hy) (by unfold maxLen; omega) (by
    have : (n + 1) * bytes ≤ (1048576 + 1) * 32 := Nat.mul_le_mul (by omega) hby2
    omega) hB
  obtain ⟨A', c', rfl⟩ := own_slice h2
  obtain ⟨g, rfl⟩ := own_shape h2 (by omega)
  unfold Oper.wp execOp
  simp only [ho, resolve, invoke, builtin, Sem.run_bind, Sem.run_pure, Result.andThen_ok, List.map_toArray, List.map_cons, List.map_nil, hs, hx, hr]
  refine h g c' w' h2 ?_
  cases A with
  | none => exact h3
  | some a2 => exact h3
set_option maxHeartbeats 4000000 in
theorem of_4 (A : Option Addr) (n c : Nat) (zs : List Int) (w : World) (hR : Ready A n c zs w) :
    Calls Tryz.prog 55 #[.slice A n c, .int .i64 4] w (OfRes (picksF zs) w) := by
  obtain ⟨i0, hi, hz0, hz1', hz2⟩ := info_parts infoInt
  obtain ⟨i1, hj, hy0, hy1, hy2⟩ := infos_parts
  have hfew := hR.few
  have hcap := hR.cap
  have HRY := Lib.hid hR
  obtain ⟨b, o, rfl⟩ : ∃ b o, A = some ⟨b, o, none⟩ := by
    have := hR.pos
    obtain ⟨b, o, e, _⟩ := hR.cells 0 (by rw [hR.len]; omega)
    exact ⟨b, o, e⟩
  have hout := World.ownsRow_lit (base := w.heap.size) (e := 22) (size := 1) w #[] 0 (Nat.le_refl _) (Nat.zero_le _) rfl
  have hb0 : Below w.heap.size w (w.alloc (.cells #[] 22)) := (Below.refl _ w).alloc (Nat.le_refl _) _
  have hnew := SSRow.empty hout
  have HL := Lib.hid (show (picksF zs).length = n by simp [picksF, hR.len])
  have HG := Lib.hid (show ∀ k, k < n → (picksF zs).getD k [] = pickOf zs k from fun k hk => row_get (by rw [hR.len]; exact hk))
  have HS := Lib.hid (show ∀ x ∈ picksF zs, x.length ≤ 1048576 from fun x hx => by
    unfold picksF at hx
    obtain ⟨i, hi, rfl⟩ := List.mem_map.1 hx
    rw [List.mem_range] at hi
    rw [(pick_perm hi).length_eq]
    have := hR.len
    have := hR.few
    omega)
  clear hR hout
  go_enter Tryz.func55, Tryz.ntmps55
  go_wp2
  generalize w.alloc (.cells #[] 22) = w0 at *
  go_loopw [5, 7, 8, 42] (fun s _ _ i wr => ∃ (k : Nat) (A3 : Option Addr) (c3 : Nat) (rs : List RD), k ≤ n ∧ i = .int .i64 (k : Int) ∧ s = .slice A3 k c3 ∧ SSRow wr w.heap.size wr.heap.size A3 k c3 rs ∧ Hid (rs.map RD.zs = (picksF zs).take k) ∧ Below w.heap.size w wr) (fun _ _ _ i _ => n - (intOf i).toNat)
  case atStart => exact ⟨0, _, 0, [], Nat.zero_le _, rfl, rfl, hnew, rfl, hb0⟩
  case round =>
    obtain ⟨k, A3, c3, rs, hk, rfl, rfl, hrow, HRZ, hbw⟩ := hrel
    have hsz := hbw.size
    by_cases hlt : k < n
    · have hkc : (k : Int) ≤ (c : Int) := by omega
      have hkn : (k : Int) < (n : Int) := by omega
      have hk1 : (k : Int) + 1 ≤ (c : Int) := by omega
      have hk3 : (k : Int) + 1 ≤ (n : Int) := by omega
      have hk0 : (0 : Int) ≤ (k : Int) := by omega
      have hk4 : (0 : Int) ≤ (k : Int) + 1 := by omega
      have hk2 : (k : Int) ≤ (k : Int) + 1 := by omega
      have hk5 : (k : Int) < (k : Int) + 1 := by omega
      have hw1 : IntKind.i64.wrap ((k : Int) + 1) = (k : Int) + 1 := IntWalk.i64_in _ (by omega)
      have hT : ((k : Int) + 1).toNat = k + 1 := by omega
      have hck0 : ¬ c = k := by omega
      have hzl : zs.length = n := HRY.out.len
      have HAT := Lib.hid (show IntsAt wr wr.heap.size .i64 (some ⟨b, o, none⟩) zs from (HRY.out.cells.below hbw).more hsz)
      obtain ⟨b2, o2, e2, hlt2, hcx⟩ := HAT.out k (by rw [hzl]; exact hlt)
      simp only [Option.some.injEq, Addr.mk.injEq, and_true] at e2
      obtain ⟨rfl, rfl⟩ := e2
      have HPK := Lib.hid (show [zs.getD k 0] ++ ([] ++ zs.take k ++ zs.drop (k + 1)) = pickOf zs k by simp [pickOf])
      have HT := Lib.hid (fun (r : RD) (hr : r.zs = pickOf zs k) => take_snoc (l := picksF zs) (k := k) (r := r) (by rw [HL.out]; exact hlt) HRZ (hr.trans (HG.out k hlt).symm))
      have L1 := Lib.hid (show (zs.take k).length = k by rw [List.length_take, hzl]; omega)
      have L2 := Lib.hid (show (zs.drop (k + 1)).length = n - (k + 1) by rw [List.length_drop, hzl])
      have HROW := Lib.hid hrow
      have HB := Lib.hid hbw
      clear hrow hbw HRZ hzl
      generalize pickOf zs k = y at *
      generalize zs.getD k 0 = x at *
      have hks : k ≤ 1048576 := by omega
      have hns : n - (k + 1) ≤ 1048576 := by omega
      have hzk : 0 + k = k := Nat.zero_add _
      have hr2 : k + (n - (k + 1)) = n - 1 := by omega
      have hr2s : n - 1 ≤ 1048576 := by omega
      have hr3 : 1 + (n - 1) = n := by omega
      by_cases hck1 : c = k + 1
      · obtain rfl : n = k + 1 := by omega
        subst hck1
        go_upto_region 17 with fail
        refine wp_region_any (by kernel_rfl) ?_
        change wpAny _ _ _ _ _ _ _ (World.drew _)
        refine wpAny_take (i := 0) (v := ?_) rfl (by kernel_rfl) (by kernel_rfl) (by kernel_rfl) (fun _ _ _ h => h) (Or.inl ⟨by rfl, ?_⟩) ?_
        rotate_left
        · (intro w; go_simp; (try with_reducible rfl))
        refine wpAny_take (i := 1) (v := ?_) rfl (by kernel_rfl) (by kernel_rfl) (by kernel_rfl) (fun _ _ _ h => h) (Or.inl ⟨by rfl, ?_⟩) ?_
        rotate_left
        · (intro w; go_simp; (try with_reducible rfl))
        refine wpAny_take (i := 4) (v := ?_) rfl (by kernel_rfl) (by kernel_rfl) (by kernel_rfl) (fun _ _ _ h => h) (Or.inl ⟨by rfl, ?_⟩) ?_
        rotate_left
        · (intro w; go_simp; (try with_reducible rfl))
        refine wpAny_take (i := 5) (v := ?_) rfl (by kernel_rfl) (by kernel_rfl) (by kernel_rfl) (fun _ _ _ h => h) (Or.inl ⟨by rfl, ?_⟩) ?_
        rotate_left
        · (intro w; go_simp; (try with_reducible rfl))
        refine wpAny_take (i := 6) (v := ?_) rfl (by kernel_rfl) (by kernel_rfl) (by kernel_rfl) (fun _ _ _ h => h) (Or.inl ⟨by rfl, ?_⟩) ?_
        rotate_left
        · (intro w; go_simp; (try with_reducible rfl))
        refine wpAny_take (i := 8) (v := ?_) rfl (by kernel_rfl) (by kernel_rfl) (by kernel_rfl) (fun _ _ _ h => h) (Or.inl ⟨by rfl, ?_⟩) ?_
        rotate_left
        · (intro w; go_simp; (try with_reducible rfl))
        refine wpAny_take (i := 9) (v := ?_) rfl (by kernel_rfl) (by kernel_rfl) (by kernel_rfl) (fun _ _ _ h => h) (Or.inl ⟨by rfl, ?_⟩) ?_
        rotate_left
        · (intro w; go_simp; (try with_reducible rfl))
        refine wpAny_take (i := 10) (v := ?_) rfl (by kernel_rfl) (by kernel_rfl) (by kernel_rfl) (fun _ _ _ h => h) (Or.inl ⟨by rfl, ?_⟩) ?_
        rotate_left
        · (intro w; go_simp; (try with_reducible rfl))
        refine wpAny_take (i := 11) (v := ?_) rfl (by kernel_rfl) (by kernel_rfl) (by kernel_rfl) (fun _ _ _ h => h) (Or.inl ⟨by rfl, ?_⟩) ?_
        rotate_left
        · (intro w; go_simp; (try with_reducible rfl))
        refine wpAny_ready (rs := [2, 3]) (by kernel_rfl) (by simp) ?_
        refine (AllReady.cons rfl (fun K hK => ?_) (AllReady.cons rfl (fun K hK => ?_) AllReady.nil))
        · skip
          go_simp
          refine hK _ _ ?_
          clear hK K
          obtain ⟨W1, hW1⟩ : ∃ W', W' = (wr.alloc (.cells #[.int .i64 x] 3)).drew := ⟨_, rfl⟩
          have hal : Below wr.heap.size wr W1 := by rw [hW1]; exact ((Below.refl _ _).alloc (Nat.le_refl _) _).drew
          have hsl : wr.heap.size < W1.heap.size := by rw [hW1]; show wr.heap.size < (wr.alloc _).heap.size; simp
          have HB1 := Lib.hid hal
          obtain ⟨gx, hgx⟩ : ∃ g, g = wr.heap.size := ⟨_, rfl⟩
          have HLIT := Lib.hid (show W1.ownsRow wr.heap.size 3 1 (.slice (some ⟨gx, 0, none⟩) 1 1) 1 (vals [x]) by rw [hW1, hgx]; exact st_lit (W := wr) (Nat.le_refl _))
          have hgl : gx < W1.heap.size := by omega
          rw [← hgx]
          clear hgx
          rw [← hW1]
          clear hW1 hsl hal
          refine wpAny_ready (rs := [3]) (by kernel_rfl) (by simp) ?_
          refine (AllReady.cons rfl (fun K hK => ?_) AllReady.nil)
          · skip
            go_simp
            refine hK _ _ ?_
            clear hK K
            obtain ⟨W2, hW2⟩ : ∃ W', W' = (W1.alloc (.cells #[] 3)) := ⟨_, rfl⟩
            have hal : Below W1.heap.size W1 W2 := by rw [hW2]; exact (Below.refl _ _).alloc (Nat.le_refl _) _
            have hsl : W1.heap.size < W2.heap.size := by rw [hW2]; show W1.heap.size < (W1.alloc _).heap.size; simp
            have HB2 := Lib.hid (HB1.out.trans (hal.mono HB1.out.size))
            obtain ⟨ge, hge⟩ : ∃ g, g = W1.heap.size := ⟨_, rfl⟩
            have HOWN := Lib.hid (show W2.ownsRow wr.heap.size 3 1 (.slice (some ⟨ge, 0, none⟩) 0 0) 0 (vals []) by rw [hW2, hge]; exact st_nil (W := W1) HB1.out.size)
            have HLIT := Lib.hid (own_below HLIT.out hal)
            have hgl : gx < W2.heap.size := by omega
            rw [← hge]
            obtain ⟨AE, hAE⟩ : ∃ AE, AE = (some ⟨ge, 0, none⟩ : Option Addr) := ⟨_, rfl⟩
            have HLT := Lib.hid (show ∀ q, Option.map (fun x : Addr => x.block) AE = some q → q < W2.heap.size from fun q hq => by rw [hAE] at hq; simp only [Option.map_some, Option.some.injEq] at hq; omega)
            have HNE := Lib.hid (show Option.map (fun x : Addr => x.block) AE ≠ some gx from fun e => by rw [hAE] at e; simp only [Option.map_some, Option.some.injEq] at e; omega)
            rw [← hAE] at HOWN ⊢
            clear hAE hge
            rw [← hW2]
            clear hW2 hsl hal
            refine wpAny_ready (rs := [7]) (by kernel_rfl) (by simp) ?_
            refine (AllReady.cons rfl (fun K hK => ?_) AllReady.nil)
            · skip
              refine step_app_f rfl (.tmp 50) (.tmp 53) 22 rfl wr.heap.size 3 i0 Tryz.underlying22 hi hz0 hz1' hz2 AE _ 0 [] rfl HOWN.out b o k _ (zs.take k) rfl L1.out (ints_take2 k (ints_on HAT.out HB2.out)) (by decide) hks HB2.out.size k hzk ?_
              intro AN cN W3 hownN hgrN hfN
              have HB3 := Lib.hid (HB2.out.grown hgrN HB2.out.size (fun q hq => (own_lo HOWN.out q hq).1))
              have HLIT := Lib.hid (own_grow HLIT.out hgrN HNE.out)
              have HNE := Lib.hid (show Option.map (fun x : Addr => x.block) AN ≠ some gx from fun e => (hfN gx e).elim (fun h => HNE.out h) (fun h => absurd h (by omega)))
              have hgl : gx < W3.heap.size := Nat.lt_of_lt_of_le hgl hgrN.size
              have HLT := Lib.hid (fun q (hq : Option.map (fun x : Addr => x.block) AN = some q) => (own_lo hownN q hq).2)
              have HOWN := Lib.hid hownN
              clear hownN hgrN hfN
              obtain ⟨AE, hAE⟩ : ∃ AE, AE = AN := ⟨_, rfl⟩
              subst hAE
              refine hK _ _ ?_
              clear hK K
              refine wpAny_ready (rs := [12]) (by kernel_rfl) (by simp) ?_
              refine (AllReady.cons rfl (fun K hK => ?_) AllReady.nil)
              · skip
                refine step_app_f rfl (.tmp 54) (.tmp 58) 22 rfl wr.heap.size 3 i0 Tryz.underlying22 hi hz0 hz1' hz2 AE _ k ([] ++ zs.take k) rfl HOWN.out b o 0 _ (zs.drop (k + 1)) rfl (L2.out.trans (by omega)) (ints_none _ _ _ (L2.out.trans (by omega))) hks (by decide) HB3.out.size (k + 1 - 1) (by omega) ?_
                intro AN cN W4 hownN hgrN hfN
                have HB4 := Lib.hid (HB3.out.grown hgrN HB3.out.size (fun q hq => (own_lo HOWN.out q hq).1))
                have HLIT := Lib.hid (own_grow HLIT.out hgrN HNE.out)
                have HNE := Lib.hid (show Option.map (fun x : Addr => x.block) AN ≠ some gx from fun e => (hfN gx e).elim (fun h => HNE.out h) (fun h => absurd h (by omega)))
                have hgl : gx < W4.heap.size := Nat.lt_of_lt_of_le hgl hgrN.size
                have HLT := Lib.hid (fun q (hq : Option.map (fun x : Addr => x.block) AN = some q) => (own_lo hownN q hq).2)
                have HOWN := Lib.hid hownN
                clear hownN hgrN hfN
                obtain ⟨AE, hAE⟩ : ∃ AE, AE = AN := ⟨_, rfl⟩
                subst hAE
                refine hK _ _ ?_
                clear hK K
                refine wpAny_ready (rs := [13]) (by kernel_rfl) (by simp) ?_
                refine (AllReady.cons rfl (fun K hK => ?_) AllReady.nil)
                refine step_app_r rfl (.tmp 49) (.tmp 59) 22 rfl wr.heap.size 3 i0 Tryz.underlying22 hi hz0 hz1' hz2 (some ⟨gx, 0, none⟩) 1 1 [x] rfl HLIT.out AE ((k + 1) - 1) _ ([] ++ zs.take k ++ zs.drop (k + 1)) rfl (by rw [List.nil_append, List.length_append, L1.out, L2.out]; omega) (st_spot HOWN.out).1 (ints_of (show W4.ownsRow wr.heap.size 3 1 (.slice AE ((k + 1) - 1) _) ((k + 1) - 1) (([] ++ zs.take k ++ zs.drop (k + 1)).map (Value.int .i64)) from HOWN.out)) (by decide) hr2s HB4.out.size (st_spot HOWN.out).2 (k + 1) hr3 ?_
                intro A7 c7 W5 hown7 hgr7
                have HB5 := Lib.hid (HB4.out.grown hgr7 HB4.out.size (fun q hq => (own_lo HLIT.out q hq).1))
                rw [HPK.out] at hown7
                refine hK _ _ ?_
                clear hK K
                have hyl : y.length = (k + 1) := Sv.row_len hown7
                have HO7 := Lib.hid hown7
                clear hown7 hgr7
                refine wpAny_ready (rs := [14]) (by kernel_rfl) (by simp) ?_
                refine (AllReady.cons rfl (fun K hK => ?_) AllReady.nil)
                go_simp
                refine hK _ _ ?_
                clear hK K
                obtain ⟨W6, hW6⟩ : ∃ W', W' = W5.alloc (.cells #[.slice A7 (k + 1) c7] 22) := ⟨_, rfl⟩
                have hal : Below W5.heap.size W5 W6 := by rw [hW6]; exact (Below.refl _ _).alloc (Nat.le_refl _) _
                have hcl : W6.cell? ⟨W5.heap.size, 0, none⟩ = some (.slice A7 (k + 1) c7) := by rw [hW6]; exact (Boxed.new W5 22 (.slice A7 (k + 1) c7)).cell
                have hr6 := (HROW.out.below HB5.out).below hal
                have HIN := Lib.hid (show W6.ownsRow wr.heap.size 3 1 (.slice A7 y.length c7) y.length (y.map (Value.int .i64)) by rw [hyl]; exact own_below HO7.out hal)
                have hs6 : wr.heap.size ≤ W6.heap.size := Nat.le_trans HB5.out.size hal.size
                have HB6 := Lib.hid (HB.out.trans ((HB5.out.trans (hal.mono HB5.out.size)).mono hsz))
                obtain ⟨gb, hgb⟩ : ∃ g, g = W5.heap.size := ⟨_, rfl⟩
                rw [← hgb] at hcl
                rw [← hW6, ← hgb]
                clear hW6 hgb hal
                have HR6 := Lib.hid hr6
                have HCL := Lib.hid hcl
                clear hr6 hcl
                refine wpAny_ready (rs := [15]) (by kernel_rfl) (by simp) ?_
                refine (AllReady.cons rfl (fun K hK => ?_) AllReady.nil)
                refine step_app_v rfl (.tmp 47) (.tmp 61) 63 rfl w.heap.size 22 i1 (.slice none 0 0) 24 Tryz.underlying63 hj hy0 hy1 hy2 rfl A3 c3 k _ rfl HR6.out.1 (.slice A7 (k + 1) c7) rfl gb rfl HCL.out (by omega) (by decide) (by omega) ?_
                intro g8 c8 W7 hown8 hgr8
                have HSN := Lib.hid (SSRow.snoc (zs := y) (A1 := A7) (c1 := c7) HR6.out hsz HIN.out (by rw [hyl]; exact hown8) hgr8)
                have HB7 := Lib.hid (HB6.out.grown hgr8 (by omega) (fun q hq => HROW.out.outlo q hq))
                have HTT := Lib.hid (HT.out ⟨A7, c7, y⟩ rfl)
                clear hown8 hgr8 hyl
                refine hK _ _ ?_
                clear hK K
                refine wpAny_take (i := 16) (v := ?_) rfl (by kernel_rfl) (by kernel_rfl) (by kernel_rfl) (fun _ _ _ h => h) (Or.inl ⟨by rfl, ?_⟩) ?_
                rotate_left
                · (intro w; go_simp; (try with_reducible rfl))
                refine wpAny_done (by kernel_rfl) ?_ _
                clear HROW HB HT HAT HLIT HOWN HB1 HB2 HB3 HB4 HB5 HB6 HIN HR6 HCL HO7 HNE HLT
                go_wp2
                refine ⟨⟨_, _, _, _, _, _, _, _, _, _, _, _, _, _, _, _, _, _, _, _, _, _, _, _, _, ?rel, rfl⟩, ?measure⟩
                case rel => exact ⟨k + 1, _, c8, rs ++ [⟨A7, c7, y⟩], by omega, by go_num, by go_num, HSN.out, HTT, HB7.out⟩
                case measure => simp [intOf] <;> omega
        · skip
          go_simp
          refine hK _ _ ?_
          clear hK K
          obtain ⟨W1, hW1⟩ : ∃ W', W' = (wr.alloc (.cells #[] 3)).drew := ⟨_, rfl⟩
          have hal : Below wr.heap.size wr W1 := by rw [hW1]; exact ((Below.refl _ _).alloc (Nat.le_refl _) _).drew
          have hsl : wr.heap.size < W1.heap.size := by rw [hW1]; show wr.heap.size < (wr.alloc _).heap.size; simp
          have HB1 := Lib.hid hal
          obtain ⟨ge, hge⟩ : ∃ g, g = wr.heap.size := ⟨_, rfl⟩
          have HOWN := Lib.hid (show W1.ownsRow wr.heap.size 3 1 (.slice (some ⟨ge, 0, none⟩) 0 0) 0 (vals []) by rw [hW1, hge]; exact st_nil (W := wr) (Nat.le_refl _))
          rw [← hge]
          obtain ⟨AE, hAE⟩ : ∃ AE, AE = (some ⟨ge, 0, none⟩ : Option Addr) := ⟨_, rfl⟩
          have HLT := Lib.hid (show ∀ q, Option.map (fun x : Addr => x.block) AE = some q → q < W1.heap.size from fun q hq => by rw [hAE] at hq; simp only [Option.map_some, Option.some.injEq] at hq; omega)
          rw [← hAE] at HOWN ⊢
          clear hAE hge
          rw [← hW1]
          clear hW1 hsl hal
          refine wpAny_ready (rs := [2, 7]) (by kernel_rfl) (by simp) ?_
          refine (AllReady.cons rfl (fun K hK => ?_) (AllReady.cons rfl (fun K hK => ?_) AllReady.nil))
          · skip
            go_simp
            refine hK _ _ ?_
            clear hK K
            obtain ⟨W2, hW2⟩ : ∃ W', W' = (W1.alloc (.cells #[.int .i64 x] 3)) := ⟨_, rfl⟩
            have hal : Below W1.heap.size W1 W2 := by rw [hW2]; exact (Below.refl _ _).alloc (Nat.le_refl _) _
            have hsl : W1.heap.size < W2.heap.size := by rw [hW2]; show W1.heap.size < (W1.alloc _).heap.size; simp
            have HB2 := Lib.hid (HB1.out.trans (hal.mono HB1.out.size))
            obtain ⟨gx, hgx⟩ : ∃ g, g = W1.heap.size := ⟨_, rfl⟩
            have HLIT := Lib.hid (show W2.ownsRow wr.heap.size 3 1 (.slice (some ⟨gx, 0, none⟩) 1 1) 1 (vals [x]) by rw [hW2, hgx]; exact st_lit (W := W1) HB1.out.size)
            have HOWN := Lib.hid (own_below HOWN.out hal)
            have HNE := Lib.hid (show Option.map (fun x : Addr => x.block) AE ≠ some gx from fun e => by have := HLT.out gx e; omega)
            have HLT := Lib.hid (fun q hq => Nat.lt_of_lt_of_le (HLT.out q hq) hal.size)
            have hgl : gx < W2.heap.size := by omega
            rw [← hgx]
            clear hgx
            rw [← hW2]
            clear hW2 hsl hal
            refine wpAny_ready (rs := [7]) (by kernel_rfl) (by simp) ?_
            refine (AllReady.cons rfl (fun K hK => ?_) AllReady.nil)
            · skip
              refine step_app_f rfl (.tmp 50) (.tmp 53) 22 rfl wr.heap.size 3 i0 Tryz.underlying22 hi hz0 hz1' hz2 AE _ 0 [] rfl HOWN.out b o k _ (zs.take k) rfl L1.out (ints_take2 k (ints_on HAT.out HB2.out)) (by decide) hks HB2.out.size k hzk ?_
              intro AN cN W3 hownN hgrN hfN
              have HB3 := Lib.hid (HB2.out.grown hgrN HB2.out.size (fun q hq => (own_lo HOWN.out q hq).1))
              have HLIT := Lib.hid (own_grow HLIT.out hgrN HNE.out)
              have HNE := Lib.hid (show Option.map (fun x : Addr => x.block) AN ≠ some gx from fun e => (hfN gx e).elim (fun h => HNE.out h) (fun h => absurd h (by omega)))
              have hgl : gx < W3.heap.size := Nat.lt_of_lt_of_le hgl hgrN.size
              have HLT := Lib.hid (fun q (hq : Option.map (fun x : Addr => x.block) AN = some q) => (own_lo hownN q hq).2)
              have HOWN := Lib.hid hownN
              clear hownN hgrN hfN
              obtain ⟨AE, hAE⟩ : ∃ AE, AE = AN := ⟨_, rfl⟩
              subst hAE
              refine hK _ _ ?_
              clear hK K
              refine wpAny_ready (rs := [12]) (by kernel_rfl) (by simp) ?_
              refine (AllReady.cons rfl (fun K hK => ?_) AllReady.nil)
              · skip
                refine step_app_f rfl (.tmp 54) (.tmp 58) 22 rfl wr.heap.size 3 i0 Tryz.underlying22 hi hz0 hz1' hz2 AE _ k ([] ++ zs.take k) rfl HOWN.out b o 0 _ (zs.drop (k + 1)) rfl (L2.out.trans (by omega)) (ints_none _ _ _ (L2.out.trans (by omega))) hks (by decide) HB3.out.size (k + 1 - 1) (by omega) ?_
                intro AN cN W4 hownN hgrN hfN
                have HB4 := Lib.hid (HB3.out.grown hgrN HB3.out.size (fun q hq => (own_lo HOWN.out q hq).1))
                have HLIT := Lib.hid (own_grow HLIT.out hgrN HNE.out)
                have HNE := Lib.hid (show Option.map (fun x : Addr => x.block) AN ≠ some gx from fun e => (hfN gx e).elim (fun h => HNE.out h) (fun h => absurd h (by omega)))
                have hgl : gx < W4.heap.size := Nat.lt_of_lt_of_le hgl hgrN.size
                have HLT := Lib.hid (fun q (hq : Option.map (fun x : Addr => x.block) AN = some q) => (own_lo hownN q hq).2)
                have HOWN := Lib.hid hownN
                clear hownN hgrN hfN
                obtain ⟨AE, hAE⟩ : ∃ AE, AE = AN := ⟨_, rfl⟩
                subst hAE
                refine hK _ _ ?_
                clear hK K
                refine wpAny_ready (rs := [13]) (by kernel_rfl) (by simp) ?_
                refine (AllReady.cons rfl (fun K hK => ?_) AllReady.nil)
                refine step_app_r rfl (.tmp 49) (.tmp 59) 22 rfl wr.heap.size 3 i0 Tryz.underlying22 hi hz0 hz1' hz2 (some ⟨gx, 0, none⟩) 1 1 [x] rfl HLIT.out AE ((k + 1) - 1) _ ([] ++ zs.take k ++ zs.drop (k + 1)) rfl (by rw [List.nil_append, List.length_append, L1.out, L2.out]; omega) (st_spot HOWN.out).1 (ints_of (show W4.ownsRow wr.heap.size 3 1 (.slice AE ((k + 1) - 1) _) ((k + 1) - 1) (([] ++ zs.take k ++ zs.drop (k + 1)).map (Value.int .i64)) from HOWN.out)) (by decide) hr2s HB4.out.size (st_spot HOWN.out).2 (k + 1) hr3 ?_
                intro A7 c7 W5 hown7 hgr7
                have HB5 := Lib.hid (HB4.out.grown hgr7 HB4.out.size (fun q hq => (own_lo HLIT.out q hq).1))
                rw [HPK.out] at hown7
                refine hK _ _ ?_
                clear hK K
                have hyl : y.length = (k + 1) := Sv.row_len hown7
                have HO7 := Lib.hid hown7
                clear hown7 hgr7
                refine wpAny_ready (rs := [14]) (by kernel_rfl) (by simp) ?_
                refine (AllReady.cons rfl (fun K hK => ?_) AllReady.nil)
                go_simp
                refine hK _ _ ?_
                clear hK K
                obtain ⟨W6, hW6⟩ : ∃ W', W' = W5.alloc (.cells #[.slice A7 (k + 1) c7] 22) := ⟨_, rfl⟩
                have hal : Below W5.heap.size W5 W6 := by rw [hW6]; exact (Below.refl _ _).alloc (Nat.le_refl _) _
                have hcl : W6.cell? ⟨W5.heap.size, 0, none⟩ = some (.slice A7 (k + 1) c7) := by rw [hW6]; exact (Boxed.new W5 22 (.slice A7 (k + 1) c7)).cell
                have hr6 := (HROW.out.below HB5.out).below hal
                have HIN := Lib.hid (show W6.ownsRow wr.heap.size 3 1 (.slice A7 y.length c7) y.length (y.map (Value.int .i64)) by rw [hyl]; exact own_below HO7.out hal)
                have hs6 : wr.heap.size ≤ W6.heap.size := Nat.le_trans HB5.out.size hal.size
                have HB6 := Lib.hid (HB.out.trans ((HB5.out.trans (hal.mono HB5.out.size)).mono hsz))
                obtain ⟨gb, hgb⟩ : ∃ g, g = W5.heap.size := ⟨_, rfl⟩
                rw [← hgb] at hcl
                rw [← hW6, ← hgb]
                clear hW6 hgb hal
                have HR6 := Lib.hid hr6
                have HCL := Lib.hid hcl
                clear hr6 hcl
                refine wpAny_ready (rs := [15]) (by kernel_rfl) (by simp) ?_
                refine (AllReady.cons rfl (fun K hK => ?_) AllReady.nil)
                refine step_app_v rfl (.tmp 47) (.tmp 61) 63 rfl w.heap.size 22 i1 (.slice none 0 0) 24 Tryz.underlying63 hj hy0 hy1 hy2 rfl A3 c3 k _ rfl HR6.out.1 (.slice A7 (k + 1) c7) rfl gb rfl HCL.out (by omega) (by decide) (by omega) ?_
                intro g8 c8 W7 hown8 hgr8
                have HSN := Lib.hid (SSRow.snoc (zs := y) (A1 := A7) (c1 := c7) HR6.out hsz HIN.out (by rw [hyl]; exact hown8) hgr8)
                have HB7 := Lib.hid (HB6.out.grown hgr8 (by omega) (fun q hq => HROW.out.outlo q hq))
                have HTT := Lib.hid (HT.out ⟨A7, c7, y⟩ rfl)
                clear hown8 hgr8 hyl
                refine hK _ _ ?_
                clear hK K
                refine wpAny_take (i := 16) (v := ?_) rfl (by kernel_rfl) (by kernel_rfl) (by kernel_rfl) (fun _ _ _ h => h) (Or.inl ⟨by rfl, ?_⟩) ?_
                rotate_left
                · (intro w; go_simp; (try with_reducible rfl))
                refine wpAny_done (by kernel_rfl) ?_ _
                clear HROW HB HT HAT HLIT HOWN HB1 HB2 HB3 HB4 HB5 HB6 HIN HR6 HCL HO7 HNE HLT
                go_wp2
                refine ⟨⟨_, _, _, _, _, _, _, _, _, _, _, _, _, _, _, _, _, _, _, _, _, _, _, _, _, ?rel, rfl⟩, ?measure⟩
                case rel => exact ⟨k + 1, _, c8, rs ++ [⟨A7, c7, y⟩], by omega, by go_num, by go_num, HSN.out, HTT, HB7.out⟩
                case measure => simp [intOf] <;> omega
          · skip
            refine step_app_f rfl (.tmp 50) (.tmp 53) 22 rfl wr.heap.size 3 i0 Tryz.underlying22 hi hz0 hz1' hz2 AE _ 0 [] rfl HOWN.out b o k _ (zs.take k) rfl L1.out (ints_take2 k (ints_on HAT.out HB1.out)) (by decide) hks HB1.out.size k hzk ?_
            intro AN cN W2 hownN hgrN hfN
            have HB2 := Lib.hid (HB1.out.grown hgrN HB1.out.size (fun q hq => (own_lo HOWN.out q hq).1))
            have HLT := Lib.hid (fun q (hq : Option.map (fun x : Addr => x.block) AN = some q) => (own_lo hownN q hq).2)
            have HOWN := Lib.hid hownN
            clear hownN hgrN hfN
            obtain ⟨AE, hAE⟩ : ∃ AE, AE = AN := ⟨_, rfl⟩
            subst hAE
            refine hK _ _ ?_
            clear hK K
            refine wpAny_ready (rs := [2, 12]) (by kernel_rfl) (by simp) ?_
            refine (AllReady.cons rfl (fun K hK => ?_) (AllReady.cons rfl (fun K hK => ?_) AllReady.nil))
            · skip
              go_simp
              refine hK _ _ ?_
              clear hK K
              obtain ⟨W3, hW3⟩ : ∃ W', W' = (W2.alloc (.cells #[.int .i64 x] 3)) := ⟨_, rfl⟩
              have hal : Below W2.heap.size W2 W3 := by rw [hW3]; exact (Below.refl _ _).alloc (Nat.le_refl _) _
              have hsl : W2.heap.size < W3.heap.size := by rw [hW3]; show W2.heap.size < (W2.alloc _).heap.size; simp
              have HB3 := Lib.hid (HB2.out.trans (hal.mono HB2.out.size))
              obtain ⟨gx, hgx⟩ : ∃ g, g = W2.heap.size := ⟨_, rfl⟩
              have HLIT := Lib.hid (show W3.ownsRow wr.heap.size 3 1 (.slice (some ⟨gx, 0, none⟩) 1 1) 1 (vals [x]) by rw [hW3, hgx]; exact st_lit (W := W2) HB2.out.size)
              have HOWN := Lib.hid (own_below HOWN.out hal)
              have HNE := Lib.hid (show Option.map (fun x : Addr => x.block) AE ≠ some gx from fun e => by have := HLT.out gx e; omega)
              have HLT := Lib.hid (fun q hq => Nat.lt_of_lt_of_le (HLT.out q hq) hal.size)
              have hgl : gx < W3.heap.size := by omega
              rw [← hgx]
              clear hgx
              rw [← hW3]
              clear hW3 hsl hal
              refine wpAny_ready (rs := [12]) (by kernel_rfl) (by simp) ?_
              refine (AllReady.cons rfl (fun K hK => ?_) AllReady.nil)
              · skip
                refine step_app_f rfl (.tmp 54) (.tmp 58) 22 rfl wr.heap.size 3 i0 Tryz.underlying22 hi hz0 hz1' hz2 AE _ k ([] ++ zs.take k) rfl HOWN.out b o 0 _ (zs.drop (k + 1)) rfl (L2.out.trans (by omega)) (ints_none _ _ _ (L2.out.trans (by omega))) hks (by decide) HB3.out.size (k + 1 - 1) (by omega) ?_
                intro AN cN W4 hownN hgrN hfN
                have HB4 := Lib.hid (HB3.out.grown hgrN HB3.out.size (fun q hq => (own_lo HOWN.out q hq).1))
                have HLIT := Lib.hid (own_grow HLIT.out hgrN HNE.out)
                have HNE := Lib.hid (show Option.map (fun x : Addr => x.block) AN ≠ some gx from fun e => (hfN gx e).elim (fun h => HNE.out h) (fun h => absurd h (by omega)))
                have hgl : gx < W4.heap.size := Nat.lt_of_lt_of_le hgl hgrN.size
                have HLT := Lib.hid (fun q (hq : Option.map (fun x : Addr => x.block) AN = some q) => (own_lo hownN q hq).2)
                have HOWN := Lib.hid hownN
                clear hownN hgrN hfN
                obtain ⟨AE, hAE⟩ : ∃ AE, AE = AN := ⟨_, rfl⟩
                subst hAE
                refine hK _ _ ?_
                clear hK K
                refine wpAny_ready (rs := [13]) (by kernel_rfl) (by simp) ?_
                refine (AllReady.cons rfl (fun K hK => ?_) AllReady.nil)
                refine step_app_r rfl (.tmp 49) (.tmp 59) 22 rfl wr.heap.size 3 i0 Tryz.underlying22 hi hz0 hz1' hz2 (some ⟨gx, 0, none⟩) 1 1 [x] rfl HLIT.out AE ((k + 1) - 1) _ ([] ++ zs.take k ++ zs.drop (k + 1)) rfl (by rw [List.nil_append, List.length_append, L1.out, L2.out]; omega) (st_spot HOWN.out).1 (ints_of (show W4.ownsRow wr.heap.size 3 1 (.slice AE ((k + 1) - 1) _) ((k + 1) - 1) (([] ++ zs.take k ++ zs.drop (k + 1)).map (Value.int .i64)) from HOWN.out)) (by decide) hr2s HB4.out.size (st_spot HOWN.out).2 (k + 1) hr3 ?_
                intro A7 c7 W5 hown7 hgr7
                have HB5 := Lib.hid (HB4.out.grown hgr7 HB4.out.size (fun q hq => (own_lo HLIT.out q hq).1))
                rw [HPK.out] at hown7
                refine hK _ _ ?_
                clear hK K
                have hyl : y.length = (k + 1) := Sv.row_len hown7
                have HO7 := Lib.hid hown7
                clear hown7 hgr7
                refine wpAny_ready (rs := [14]) (by kernel_rfl) (by simp) ?_
                refine (AllReady.cons rfl (fun K hK => ?_) AllReady.nil)
                go_simp
                refine hK _ _ ?_
                clear hK K
                obtain ⟨W6, hW6⟩ : ∃ W', W' = W5.alloc (.cells #[.slice A7 (k + 1) c7] 22) := ⟨_, rfl⟩
                have hal : Below W5.heap.size W5 W6 := by rw [hW6]; exact (Below.refl _ _).alloc (Nat.le_refl _) _
                have hcl : W6.cell? ⟨W5.heap.size, 0, none⟩ = some (.slice A7 (k + 1) c7) := by rw [hW6]; exact (Boxed.new W5 22 (.slice A7 (k + 1) c7)).cell
                have hr6 := (HROW.out.below HB5.out).below hal
                have HIN := Lib.hid (show W6.ownsRow wr.heap.size 3 1 (.slice A7 y.length c7) y.length (y.map (Value.int .i64)) by rw [hyl]; exact own_below HO7.out hal)
                have hs6 : wr.heap.size ≤ W6.heap.size := Nat.le_trans HB5.out.size hal.size
                have HB6 := Lib.hid (HB.out.trans ((HB5.out.trans (hal.mono HB5.out.size)).mono hsz))
                obtain ⟨gb, hgb⟩ : ∃ g, g = W5.heap.size := ⟨_, rfl⟩
                rw [← hgb] at hcl
                rw [← hW6, ← hgb]
                clear hW6 hgb hal
                have HR6 := Lib.hid hr6
                have HCL := Lib.hid hcl
                clear hr6 hcl
                refine wpAny_ready (rs := [15]) (by kernel_rfl) (by simp) ?_
                refine (AllReady.cons rfl (fun K hK => ?_) AllReady.nil)
                refine step_app_v rfl (.tmp 47) (.tmp 61) 63 rfl w.heap.size 22 i1 (.slice none 0 0) 24 Tryz.underlying63 hj hy0 hy1 hy2 rfl A3 c3 k _ rfl HR6.out.1 (.slice A7 (k + 1) c7) rfl gb rfl HCL.out (by omega) (by decide) (by omega) ?_
                intro g8 c8 W7 hown8 hgr8
                have HSN := Lib.hid (SSRow.snoc (zs := y) (A1 := A7) (c1 := c7) HR6.out hsz HIN.out (by rw [hyl]; exact hown8) hgr8)
                have HB7 := Lib.hid (HB6.out.grown hgr8 (by omega) (fun q hq => HROW.out.outlo q hq))
                have HTT := Lib.hid (HT.out ⟨A7, c7, y⟩ rfl)
                clear hown8 hgr8 hyl
                refine hK _ _ ?_
                clear hK K
                refine wpAny_take (i := 16) (v := ?_) rfl (by kernel_rfl) (by kernel_rfl) (by kernel_rfl) (fun _ _ _ h => h) (Or.inl ⟨by rfl, ?_⟩) ?_
                rotate_left
                · (intro w; go_simp; (try with_reducible rfl))
                refine wpAny_done (by kernel_rfl) ?_ _
                clear HROW HB HT HAT HLIT HOWN HB1 HB2 HB3 HB4 HB5 HB6 HIN HR6 HCL HO7 HNE HLT
                go_wp2
                refine ⟨⟨_, _, _, _, _, _, _, _, _, _, _, _, _, _, _, _, _, _, _, _, _, _, _, _, _, ?rel, rfl⟩, ?measure⟩
                case rel => exact ⟨k + 1, _, c8, rs ++ [⟨A7, c7, y⟩], by omega, by go_num, by go_num, HSN.out, HTT, HB7.out⟩
                case measure => simp [intOf] <;> omega
            · skip
              refine step_app_f rfl (.tmp 54) (.tmp 58) 22 rfl wr.heap.size 3 i0 Tryz.underlying22 hi hz0 hz1' hz2 AE _ k ([] ++ zs.take k) rfl HOWN.out b o 0 _ (zs.drop (k + 1)) rfl (L2.out.trans (by omega)) (ints_none _ _ _ (L2.out.trans (by omega))) hks (by decide) HB2.out.size (k + 1 - 1) (by omega) ?_
              intro AN cN W3 hownN hgrN hfN
              have HB3 := Lib.hid (HB2.out.grown hgrN HB2.out.size (fun q hq => (own_lo HOWN.out q hq).1))
              have HLT := Lib.hid (fun q (hq : Option.map (fun x : Addr => x.block) AN = some q) => (own_lo hownN q hq).2)
              have HOWN := Lib.hid hownN
              clear hownN hgrN hfN
              obtain ⟨AE, hAE⟩ : ∃ AE, AE = AN := ⟨_, rfl⟩
              subst hAE
              refine hK _ _ ?_
              clear hK K
              refine wpAny_ready (rs := [2]) (by kernel_rfl) (by simp) ?_
              refine (AllReady.cons rfl (fun K hK => ?_) AllReady.nil)
              · skip
                go_simp
                refine hK _ _ ?_
                clear hK K
                obtain ⟨W4, hW4⟩ : ∃ W', W' = (W3.alloc (.cells #[.int .i64 x] 3)) := ⟨_, rfl⟩
                have hal : Below W3.heap.size W3 W4 := by rw [hW4]; exact (Below.refl _ _).alloc (Nat.le_refl _) _
                have hsl : W3.heap.size < W4.heap.size := by rw [hW4]; show W3.heap.size < (W3.alloc _).heap.size; simp
                have HB4 := Lib.hid (HB3.out.trans (hal.mono HB3.out.size))
                obtain ⟨gx, hgx⟩ : ∃ g, g = W3.heap.size := ⟨_, rfl⟩
                have HLIT := Lib.hid (show W4.ownsRow wr.heap.size 3 1 (.slice (some ⟨gx, 0, none⟩) 1 1) 1 (vals [x]) by rw [hW4, hgx]; exact st_lit (W := W3) HB3.out.size)
                have HOWN := Lib.hid (own_below HOWN.out hal)
                have HNE := Lib.hid (show Option.map (fun x : Addr => x.block) AE ≠ some gx from fun e => by have := HLT.out gx e; omega)
                have HLT := Lib.hid (fun q hq => Nat.lt_of_lt_of_le (HLT.out q hq) hal.size)
                have hgl : gx < W4.heap.size := by omega
                rw [← hgx]
                clear hgx
                rw [← hW4]
                clear hW4 hsl hal
                refine wpAny_ready (rs := [13]) (by kernel_rfl) (by simp) ?_
                refine (AllReady.cons rfl (fun K hK => ?_) AllReady.nil)
                refine step_app_r rfl (.tmp 49) (.tmp 59) 22 rfl wr.heap.size 3 i0 Tryz.underlying22 hi hz0 hz1' hz2 (some ⟨gx, 0, none⟩) 1 1 [x] rfl HLIT.out AE ((k + 1) - 1) _ ([] ++ zs.take k ++ zs.drop (k + 1)) rfl (by rw [List.nil_append, List.length_append, L1.out, L2.out]; omega) (st_spot HOWN.out).1 (ints_of (show W4.ownsRow wr.heap.size 3 1 (.slice AE ((k + 1) - 1) _) ((k + 1) - 1) (([] ++ zs.take k ++ zs.drop (k + 1)).map (Value.int .i64)) from HOWN.out)) (by decide) hr2s HB4.out.size (st_spot HOWN.out).2 (k + 1) hr3 ?_
                intro A7 c7 W5 hown7 hgr7
                have HB5 := Lib.hid (HB4.out.grown hgr7 HB4.out.size (fun q hq => (own_lo HLIT.out q hq).1))
                rw [HPK.out] at hown7
                refine hK _ _ ?_
                clear hK K
                have hyl : y.length = (k + 1) := Sv.row_len hown7
                have HO7 := Lib.hid hown7
                clear hown7 hgr7
                refine wpAny_ready (rs := [14]) (by kernel_rfl) (by simp) ?_
                refine (AllReady.cons rfl (fun K hK => ?_) AllReady.nil)
                go_simp
                refine hK _ _ ?_
                clear hK K
                obtain ⟨W6, hW6⟩ : ∃ W', W' = W5.alloc (.cells #[.slice A7 (k + 1) c7] 22) := ⟨_, rfl⟩
                have hal : Below W5.heap.size W5 W6 := by rw [hW6]; exact (Below.refl _ _).alloc (Nat.le_refl _) _
                have hcl : W6.cell? ⟨W5.heap.size, 0, none⟩ = some (.slice A7 (k + 1) c7) := by rw [hW6]; exact (Boxed.new W5 22 (.slice A7 (k + 1) c7)).cell
                have hr6 := (HROW.out.below HB5.out).below hal
                have HIN := Lib.hid (show W6.ownsRow wr.heap.size 3 1 (.slice A7 y.length c7) y.length (y.map (Value.int .i64)) by rw [hyl]; exact own_below HO7.out hal)
                have hs6 : wr.heap.size ≤ W6.heap.size := Nat.le_trans HB5.out.size hal.size
                have HB6 := Lib.hid (HB.out.trans ((HB5.out.trans (hal.mono HB5.out.size)).mono hsz))
                obtain ⟨gb, hgb⟩ : ∃ g, g = W5.heap.size := ⟨_, rfl⟩
                rw [← hgb] at hcl
                rw [← hW6, ← hgb]
                clear hW6 hgb hal
                have HR6 := Lib.hid hr6
                have HCL := Lib.hid hcl
                clear hr6 hcl
                refine wpAny_ready (rs := [15]) (by kernel_rfl) (by simp) ?_
                refine (AllReady.cons rfl (fun K hK => ?_) AllReady.nil)
                refine step_app_v rfl (.tmp 47) (.tmp 61) 63 rfl w.heap.size 22 i1 (.slice none 0 0) 24 Tryz.underlying63 hj hy0 hy1 hy2 rfl A3 c3 k _ rfl HR6.out.1 (.slice A7 (k + 1) c7) rfl gb rfl HCL.out (by omega) (by decide) (by omega) ?_
                intro g8 c8 W7 hown8 hgr8
                have HSN := Lib.hid (SSRow.snoc (zs := y) (A1 := A7) (c1 := c7) HR6.out hsz HIN.out (by rw [hyl]; exact hown8) hgr8)
                have HB7 := Lib.hid (HB6.out.grown hgr8 (by omega) (fun q hq => HROW.out.outlo q hq))
                have HTT := Lib.hid (HT.out ⟨A7, c7, y⟩ rfl)
                clear hown8 hgr8 hyl
                refine hK _ _ ?_
                clear hK K
                refine wpAny_take (i := 16) (v := ?_) rfl (by kernel_rfl) (by kernel_rfl) (by kernel_rfl) (fun _ _ _ h => h) (Or.inl ⟨by rfl, ?_⟩) ?_
                rotate_left
                · (intro w; go_simp; (try with_reducible rfl))
                refine wpAny_done (by kernel_rfl) ?_ _
                clear HROW HB HT HAT HLIT HOWN HB1 HB2 HB3 HB4 HB5 HB6 HIN HR6 HCL HO7 HNE HLT
                go_wp2
                refine ⟨⟨_, _, _, _, _, _, _, _, _, _, _, _, _, _, _, _, _, _, _, _, _, _, _, _, _, ?rel, rfl⟩, ?measure⟩
                case rel => exact ⟨k + 1, _, c8, rs ++ [⟨A7, c7, y⟩], by omega, by go_num, by go_num, HSN.out, HTT, HB7.out⟩
                case measure => simp [intOf] <;> omega
      · have hck2 : ¬ ((c : Int) = (k : Int) + 1) := by omega
        go_upto_region 17 with fail
        refine wp_region_any (by kernel_rfl) ?_
        change wpAny _ _ _ _ _ _ _ (World.drew _)
        refine wpAny_take (i := 0) (v := ?_) rfl (by kernel_rfl) (by kernel_rfl) (by kernel_rfl) (fun _ _ _ h => h) (Or.inl ⟨by rfl, ?_⟩) ?_
        rotate_left
        · (intro w; go_simp; (try with_reducible rfl))
        refine wpAny_take (i := 1) (v := ?_) rfl (by kernel_rfl) (by kernel_rfl) (by kernel_rfl) (fun _ _ _ h => h) (Or.inl ⟨by rfl, ?_⟩) ?_
        rotate_left
        · (intro w; go_simp; (try with_reducible rfl))
        refine wpAny_take (i := 4) (v := ?_) rfl (by kernel_rfl) (by kernel_rfl) (by kernel_rfl) (fun _ _ _ h => h) (Or.inl ⟨by rfl, ?_⟩) ?_
        rotate_left
        · (intro w; go_simp; (try with_reducible rfl))
        refine wpAny_take (i := 5) (v := ?_) rfl (by kernel_rfl) (by kernel_rfl) (by kernel_rfl) (fun _ _ _ h => h) (Or.inl ⟨by rfl, ?_⟩) ?_
        rotate_left
        · (intro w; go_simp; (try with_reducible rfl))
        refine wpAny_take (i := 6) (v := ?_) rfl (by kernel_rfl) (by kernel_rfl) (by kernel_rfl) (fun _ _ _ h => h) (Or.inl ⟨by rfl, ?_⟩) ?_
        rotate_left
        · (intro w; go_simp; (try with_reducible rfl))
        refine wpAny_take (i := 8) (v := ?_) rfl (by kernel_rfl) (by kernel_rfl) (by kernel_rfl) (fun _ _ _ h => h) (Or.inl ⟨by rfl, ?_⟩) ?_
        rotate_left
        · (intro w; go_simp; (try with_reducible rfl))
        refine wpAny_take (i := 9) (v := ?_) rfl (by kernel_rfl) (by kernel_rfl) (by kernel_rfl) (fun _ _ _ h => h) (Or.inl ⟨by rfl, ?_⟩) ?_
        rotate_left
        · (intro w; go_simp; (try with_reducible rfl))
        refine wpAny_take (i := 10) (v := ?_) rfl (by kernel_rfl) (by kernel_rfl) (by kernel_rfl) (fun _ _ _ h => h) (Or.inl ⟨by rfl, ?_⟩) ?_
        rotate_left
        · (intro w; go_simp; (try with_reducible rfl))
        refine wpAny_take (i := 11) (v := ?_) rfl (by kernel_rfl) (by kernel_rfl) (by kernel_rfl) (fun _ _ _ h => h) (Or.inl ⟨by rfl, ?_⟩) ?_
        rotate_left
        · (intro w; go_simp; (try with_reducible rfl))
        refine wpAny_ready (rs := [2, 3]) (by kernel_rfl) (by simp) ?_
        refine (AllReady.cons rfl (fun K hK => ?_) (AllReady.cons rfl (fun K hK => ?_) AllReady.nil))
        · skip
          go_simp
          refine hK _ _ ?_
          clear hK K
          obtain ⟨W1, hW1⟩ : ∃ W', W' = (wr.alloc (.cells #[.int .i64 x] 3)).drew := ⟨_, rfl⟩
          have hal : Below wr.heap.size wr W1 := by rw [hW1]; exact ((Below.refl _ _).alloc (Nat.le_refl _) _).drew
          have hsl : wr.heap.size < W1.heap.size := by rw [hW1]; show wr.heap.size < (wr.alloc _).heap.size; simp
          have HB1 := Lib.hid hal
          obtain ⟨gx, hgx⟩ : ∃ g, g = wr.heap.size := ⟨_, rfl⟩
          have HLIT := Lib.hid (show W1.ownsRow wr.heap.size 3 1 (.slice (some ⟨gx, 0, none⟩) 1 1) 1 (vals [x]) by rw [hW1, hgx]; exact st_lit (W := wr) (Nat.le_refl _))
          have hgl : gx < W1.heap.size := by omega
          rw [← hgx]
          clear hgx
          rw [← hW1]
          clear hW1 hsl hal
          refine wpAny_ready (rs := [3]) (by kernel_rfl) (by simp) ?_
          refine (AllReady.cons rfl (fun K hK => ?_) AllReady.nil)
          · skip
            go_simp
            refine hK _ _ ?_
            clear hK K
            obtain ⟨W2, hW2⟩ : ∃ W', W' = (W1.alloc (.cells #[] 3)) := ⟨_, rfl⟩
            have hal : Below W1.heap.size W1 W2 := by rw [hW2]; exact (Below.refl _ _).alloc (Nat.le_refl _) _
            have hsl : W1.heap.size < W2.heap.size := by rw [hW2]; show W1.heap.size < (W1.alloc _).heap.size; simp
            have HB2 := Lib.hid (HB1.out.trans (hal.mono HB1.out.size))
            obtain ⟨ge, hge⟩ : ∃ g, g = W1.heap.size := ⟨_, rfl⟩
            have HOWN := Lib.hid (show W2.ownsRow wr.heap.size 3 1 (.slice (some ⟨ge, 0, none⟩) 0 0) 0 (vals []) by rw [hW2, hge]; exact st_nil (W := W1) HB1.out.size)
            have HLIT := Lib.hid (own_below HLIT.out hal)
            have hgl : gx < W2.heap.size := by omega
            rw [← hge]
            obtain ⟨AE, hAE⟩ : ∃ AE, AE = (some ⟨ge, 0, none⟩ : Option Addr) := ⟨_, rfl⟩
            have HLT := Lib.hid (show ∀ q, Option.map (fun x : Addr => x.block) AE = some q → q < W2.heap.size from fun q hq => by rw [hAE] at hq; simp only [Option.map_some, Option.some.injEq] at hq; omega)
            have HNE := Lib.hid (show Option.map (fun x : Addr => x.block) AE ≠ some gx from fun e => by rw [hAE] at e; simp only [Option.map_some, Option.some.injEq] at e; omega)
            rw [← hAE] at HOWN ⊢
            clear hAE hge
            rw [← hW2]
            clear hW2 hsl hal
            refine wpAny_ready (rs := [7]) (by kernel_rfl) (by simp) ?_
            refine (AllReady.cons rfl (fun K hK => ?_) AllReady.nil)
            · skip
              refine step_app_f rfl (.tmp 50) (.tmp 53) 22 rfl wr.heap.size 3 i0 Tryz.underlying22 hi hz0 hz1' hz2 AE _ 0 [] rfl HOWN.out b o k _ (zs.take k) rfl L1.out (ints_take2 k (ints_on HAT.out HB2.out)) (by decide) hks HB2.out.size k hzk ?_
              intro AN cN W3 hownN hgrN hfN
              have HB3 := Lib.hid (HB2.out.grown hgrN HB2.out.size (fun q hq => (own_lo HOWN.out q hq).1))
              have HLIT := Lib.hid (own_grow HLIT.out hgrN HNE.out)
              have HNE := Lib.hid (show Option.map (fun x : Addr => x.block) AN ≠ some gx from fun e => (hfN gx e).elim (fun h => HNE.out h) (fun h => absurd h (by omega)))
              have hgl : gx < W3.heap.size := Nat.lt_of_lt_of_le hgl hgrN.size
              have HLT := Lib.hid (fun q (hq : Option.map (fun x : Addr => x.block) AN = some q) => (own_lo hownN q hq).2)
              have HOWN := Lib.hid hownN
              clear hownN hgrN hfN
              obtain ⟨AE, hAE⟩ : ∃ AE, AE = AN := ⟨_, rfl⟩
              subst hAE
              refine hK _ _ ?_
              clear hK K
              refine wpAny_ready (rs := [12]) (by kernel_rfl) (by simp) ?_
              refine (AllReady.cons rfl (fun K hK => ?_) AllReady.nil)
              · skip
                refine step_app_f rfl (.tmp 54) (.tmp 58) 22 rfl wr.heap.size 3 i0 Tryz.underlying22 hi hz0 hz1' hz2 AE _ k ([] ++ zs.take k) rfl HOWN.out b (o + (k + 1)) (n - (k + 1)) _ (zs.drop (k + 1)) rfl L2.out (ints_drop (ints_on HAT.out HB3.out)) hks hns HB3.out.size (n - 1) hr2 ?_
                intro AN cN W4 hownN hgrN hfN
                have HB4 := Lib.hid (HB3.out.grown hgrN HB3.out.size (fun q hq => (own_lo HOWN.out q hq).1))
                have HLIT := Lib.hid (own_grow HLIT.out hgrN HNE.out)
                have HNE := Lib.hid (show Option.map (fun x : Addr => x.block) AN ≠ some gx from fun e => (hfN gx e).elim (fun h => HNE.out h) (fun h => absurd h (by omega)))
                have hgl : gx < W4.heap.size := Nat.lt_of_lt_of_le hgl hgrN.size
                have HLT := Lib.hid (fun q (hq : Option.map (fun x : Addr => x.block) AN = some q) => (own_lo hownN q hq).2)
                have HOWN := Lib.hid hownN
                clear hownN hgrN hfN
                obtain ⟨AE, hAE⟩ : ∃ AE, AE = AN := ⟨_, rfl⟩
                subst hAE
                refine hK _ _ ?_
                clear hK K
                refine wpAny_ready (rs := [13]) (by kernel_rfl) (by simp) ?_
                refine (AllReady.cons rfl (fun K hK => ?_) AllReady.nil)
                refine step_app_r rfl (.tmp 49) (.tmp 59) 22 rfl wr.heap.size 3 i0 Tryz.underlying22 hi hz0 hz1' hz2 (some ⟨gx, 0, none⟩) 1 1 [x] rfl HLIT.out AE (n - 1) _ ([] ++ zs.take k ++ zs.drop (k + 1)) rfl (by rw [List.nil_append, List.length_append, L1.out, L2.out]; omega) (st_spot HOWN.out).1 (ints_of (show W4.ownsRow wr.heap.size 3 1 (.slice AE (n - 1) _) (n - 1) (([] ++ zs.take k ++ zs.drop (k + 1)).map (Value.int .i64)) from HOWN.out)) (by decide) hr2s HB4.out.size (st_spot HOWN.out).2 n hr3 ?_
                intro A7 c7 W5 hown7 hgr7
                have HB5 := Lib.hid (HB4.out.grown hgr7 HB4.out.size (fun q hq => (own_lo HLIT.out q hq).1))
                rw [HPK.out] at hown7
                refine hK _ _ ?_
                clear hK K
                have hyl : y.length = n := Sv.row_len hown7
                have HO7 := Lib.hid hown7
                clear hown7 hgr7
                refine wpAny_ready (rs := [14]) (by kernel_rfl) (by simp) ?_
                refine (AllReady.cons rfl (fun K hK => ?_) AllReady.nil)
                go_simp
                refine hK _ _ ?_
                clear hK K
                obtain ⟨W6, hW6⟩ : ∃ W', W' = W5.alloc (.cells #[.slice A7 n c7] 22) := ⟨_, rfl⟩
                have hal : Below W5.heap.size W5 W6 := by rw [hW6]; exact (Below.refl _ _).alloc (Nat.le_refl _) _
                have hcl : W6.cell? ⟨W5.heap.size, 0, none⟩ = some (.slice A7 n c7) := by rw [hW6]; exact (Boxed.new W5 22 (.slice A7 n c7)).cell
                have hr6 := (HROW.out.below HB5.out).below hal
                have HIN := Lib.hid (show W6.ownsRow wr.heap.size 3 1 (.slice A7 y.length c7) y.length (y.map (Value.int .i64)) by rw [hyl]; exact own_below HO7.out hal)
                have hs6 : wr.heap.size ≤ W6.heap.size := Nat.le_trans HB5.out.size hal.size
                have HB6 := Lib.hid (HB.out.trans ((HB5.out.trans (hal.mono HB5.out.size)).mono hsz))
                obtain ⟨gb, hgb⟩ : ∃ g, g = W5.heap.size := ⟨_, rfl⟩
                rw [← hgb] at hcl
                rw [← hW6, ← hgb]
                clear hW6 hgb hal
                have HR6 := Lib.hid hr6
                have HCL := Lib.hid hcl
                clear hr6 hcl
                refine wpAny_ready (rs := [15]) (by kernel_rfl) (by simp) ?_
                refine (AllReady.cons rfl (fun K hK => ?_) AllReady.nil)
                refine step_app_v rfl (.tmp 47) (.tmp 61) 63 rfl w.heap.size 22 i1 (.slice none 0 0) 24 Tryz.underlying63 hj hy0 hy1 hy2 rfl A3 c3 k _ rfl HR6.out.1 (.slice A7 n c7) rfl gb rfl HCL.out (by omega) (by decide) (by omega) ?_
                intro g8 c8 W7 hown8 hgr8
                have HSN := Lib.hid (SSRow.snoc (zs := y) (A1 := A7) (c1 := c7) HR6.out hsz HIN.out (by rw [hyl]; exact hown8) hgr8)
                have HB7 := Lib.hid (HB6.out.grown hgr8 (by omega) (fun q hq => HROW.out.outlo q hq))
                have HTT := Lib.hid (HT.out ⟨A7, c7, y⟩ rfl)
                clear hown8 hgr8 hyl
                refine hK _ _ ?_
                clear hK K
                refine wpAny_take (i := 16) (v := ?_) rfl (by kernel_rfl) (by kernel_rfl) (by kernel_rfl) (fun _ _ _ h => h) (Or.inl ⟨by rfl, ?_⟩) ?_
                rotate_left
                · (intro w; go_simp; (try with_reducible rfl))
                refine wpAny_done (by kernel_rfl) ?_ _
                clear HROW HB HT HAT HLIT HOWN HB1 HB2 HB3 HB4 HB5 HB6 HIN HR6 HCL HO7 HNE HLT
                go_wp2
                go_roundw
                case rel => exact ⟨k + 1, _, c8, rs ++ [⟨A7, c7, y⟩], by omega, by go_num, by go_num, HSN.out, HTT, HB7.out⟩
                case measure => simp [intOf] <;> omega
        · skip
          go_simp
          refine hK _ _ ?_
          clear hK K
          obtain ⟨W1, hW1⟩ : ∃ W', W' = (wr.alloc (.cells #[] 3)).drew := ⟨_, rfl⟩
          have hal : Below wr.heap.size wr W1 := by rw [hW1]; exact ((Below.refl _ _).alloc (Nat.le_refl _) _).drew
          have hsl : wr.heap.size < W1.heap.size := by rw [hW1]; show wr.heap.size < (wr.alloc _).heap.size; simp
          have HB1 := Lib.hid hal
          obtain ⟨ge, hge⟩ : ∃ g, g = wr.heap.size := ⟨_, rfl⟩
          have HOWN := Lib.hid (show W1.ownsRow wr.heap.size 3 1 (.slice (some ⟨ge, 0, none⟩) 0 0) 0 (vals []) by rw [hW1, hge]; exact st_nil (W := wr) (Nat.le_refl _))
          rw [← hge]
          obtain ⟨AE, hAE⟩ : ∃ AE, AE = (some ⟨ge, 0, none⟩ : Option Addr) := ⟨_, rfl⟩
          have HLT := Lib.hid (show ∀ q, Option.map (fun x : Addr => x.block) AE = some q → q < W1.heap.size from fun q hq => by rw [hAE] at hq; simp only [Option.map_some, Option.some.injEq] at hq; omega)
          rw [← hAE] at HOWN ⊢
          clear hAE hge
          rw [← hW1]
          clear hW1 hsl hal
          refine wpAny_ready (rs := [2, 7]) (by kernel_rfl) (by simp) ?_
          refine (AllReady.cons rfl (fun K hK => ?_) (AllReady.cons rfl (fun K hK => ?_) AllReady.nil))
          · skip
            go_simp
            refine hK _ _ ?_
            clear hK K
            obtain ⟨W2, hW2⟩ : ∃ W', W' = (W1.alloc (.cells #[.int .i64 x] 3)) := ⟨_, rfl⟩
            have hal : Below W1.heap.size W1 W2 := by rw [hW2]; exact (Below.refl _ _).alloc (Nat.le_refl _) _
            have hsl : W1.heap.size < W2.heap.size := by rw [hW2]; show W1.heap.size < (W1.alloc _).heap.size; simp
            have HB2 := Lib.hid (HB1.out.trans (hal.mono HB1.out.size))
            obtain ⟨gx, hgx⟩ : ∃ g, g = W1.heap.size := ⟨_, rfl⟩
            have HLIT := Lib.hid (show W2.ownsRow wr.heap.size 3 1 (.slice (some ⟨gx, 0, none⟩) 1 1) 1 (vals [x]) by rw [hW2, hgx]; exact st_lit (W := W1) HB1.out.size)
            have HOWN := Lib.hid (own_below HOWN.out hal)
            have HNE := Lib.hid (show Option.map (fun x : Addr => x.block) AE ≠ some gx from fun e => by have := HLT.out gx e; omega)
            have HLT := Lib.hid (fun q hq => Nat.lt_of_lt_of_le (HLT.out q hq) hal.size)
            have hgl : gx < W2.heap.size := by omega
            rw [← hgx]
            clear hgx
            rw [← hW2]
            clear hW2 hsl hal
            refine wpAny_ready (rs := [7]) (by kernel_rfl) (by simp) ?_
            refine (AllReady.cons rfl (fun K hK => ?_) AllReady.nil)
            · skip
              refine step_app_f rfl (.tmp 50) (.tmp 53) 22 rfl wr.heap.size 3 i0 Tryz.underlying22 hi hz0 hz1' hz2 AE _ 0 [] rfl HOWN.out b o k _ (zs.take k) rfl L1.out (ints_take2 k (ints_on HAT.out HB2.out)) (by decide) hks HB2.out.size k hzk ?_
              intro AN cN W3 hownN hgrN hfN
              have HB3 := Lib.hid (HB2.out.grown hgrN HB2.out.size (fun q hq => (own_lo HOWN.out q hq).1))
              have HLIT := Lib.hid (own_grow HLIT.out hgrN HNE.out)
              have HNE := Lib.hid (show Option.map (fun x : Addr => x.block) AN ≠ some gx from fun e => (hfN gx e).elim (fun h => HNE.out h) (fun h => absurd h (by omega)))
              have hgl : gx < W3.heap.size := Nat.lt_of_lt_of_le hgl hgrN.size
              have HLT := Lib.hid (fun q (hq : Option.map (fun x : Addr => x.block) AN = some q) => (own_lo hownN q hq).2)
              have HOWN := Lib.hid hownN
              clear hownN hgrN hfN
              obtain ⟨AE, hAE⟩ : ∃ AE, AE = AN := ⟨_, rfl⟩
              subst hAE
              refine hK _ _ ?_
              clear hK K
              refine wpAny_ready (rs := [12]) (by kernel_rfl) (by simp) ?_
              refine (AllReady.cons rfl (fun K hK => ?_) AllReady.nil)
              · skip
                refine step_app_f rfl (.tmp 54) (.tmp 58) 22 rfl wr.heap.size 3 i0 Tryz.underlying22 hi hz0 hz1' hz2 AE _ k ([] ++ zs.take k) rfl HOWN.out b (o + (k + 1)) (n - (k + 1)) _ (zs.drop (k + 1)) rfl L2.out (ints_drop (ints_on HAT.out HB3.out)) hks hns HB3.out.size (n - 1) hr2 ?_
                intro AN cN W4 hownN hgrN hfN
                have HB4 := Lib.hid (HB3.out.grown hgrN HB3.out.size (fun q hq => (own_lo HOWN.out q hq).1))
                have HLIT := Lib.hid (own_grow HLIT.out hgrN HNE.out)
                have HNE := Lib.hid (show Option.map (fun x : Addr => x.block) AN ≠ some gx from fun e => (hfN gx e).elim (fun h => HNE.out h) (fun h => absurd h (by omega)))
                have hgl : gx < W4.heap.size := Nat.lt_of_lt_of_le hgl hgrN.size
                have HLT := Lib.hid (fun q (hq : Option.map (fun x : Addr => x.block) AN = some q) => (own_lo hownN q hq).2)
                have HOWN := Lib.hid hownN
                clear hownN hgrN hfN
                obtain ⟨AE, hAE⟩ : ∃ AE, AE = AN := ⟨_, rfl⟩
                subst hAE
                refine hK _ _ ?_
                clear hK K
                refine wpAny_ready (rs := [13]) (by kernel_rfl) (by simp) ?_
                refine (AllReady.cons rfl (fun K hK => ?_) AllReady.nil)
                refine step_app_r rfl (.tmp 49) (.tmp 59) 22 rfl wr.heap.size 3 i0 Tryz.underlying22 hi hz0 hz1' hz2 (some ⟨gx, 0, none⟩) 1 1 [x] rfl HLIT.out AE (n - 1) _ ([] ++ zs.take k ++ zs.drop (k + 1)) rfl (by rw [List.nil_append, List.length_append, L1.out, L2.out]; omega) (st_spot HOWN.out).1 (ints_of (show W4.ownsRow wr.heap.size 3 1 (.slice AE (n - 1) _) (n - 1) (([] ++ zs.take k ++ zs.drop (k + 1)).map (Value.int .i64)) from HOWN.out)) (by decide) hr2s HB4.out.size (st_spot HOWN.out).2 n hr3 ?_
                intro A7 c7 W5 hown7 hgr7
                have HB5 := Lib.hid (HB4.out.grown hgr7 HB4.out.size (fun q hq => (own_lo HLIT.out q hq).1))
                rw [HPK.out] at hown7
                refine hK _ _ ?_
                clear hK K
                have hyl : y.length = n := Sv.row_len hown7
                have HO7 := Lib.hid hown7
                clear hown7 hgr7
                refine wpAny_ready (rs := [14]) (by kernel_rfl) (by simp) ?_
                refine (AllReady.cons rfl (fun K hK => ?_) AllReady.nil)
                go_simp
                refine hK _ _ ?_
                clear hK K
                obtain ⟨W6, hW6⟩ : ∃ W', W' = W5.alloc (.cells #[.slice A7 n c7] 22) := ⟨_, rfl⟩
                have hal : Below W5.heap.size W5 W6 := by rw [hW6]; exact (Below.refl _ _).alloc (Nat.le_refl _) _
                have hcl : W6.cell? ⟨W5.heap.size, 0, none⟩ = some (.slice A7 n c7) := by rw [hW6]; exact (Boxed.new W5 22 (.slice A7 n c7)).cell
                have hr6 := (HROW.out.below HB5.out).below hal
                have HIN := Lib.hid (show W6.ownsRow wr.heap.size 3 1 (.slice A7 y.length c7) y.length (y.map (Value.int .i64)) by rw [hyl]; exact own_below HO7.out hal)
                have hs6 : wr.heap.size ≤ W6.heap.size := Nat.le_trans HB5.out.size hal.size
                have HB6 := Lib.hid (HB.out.trans ((HB5.out.trans (hal.mono HB5.out.size)).mono hsz))
                obtain ⟨gb, hgb⟩ : ∃ g, g = W5.heap.size := ⟨_, rfl⟩
                rw [← hgb] at hcl
                rw [← hW6, ← hgb]
                clear hW6 hgb hal
                have HR6 := Lib.hid hr6
                have HCL := Lib.hid hcl
                clear hr6 hcl
                refine wpAny_ready (rs := [15]) (by kernel_rfl) (by simp) ?_
                refine (AllReady.cons rfl (fun K hK => ?_) AllReady.nil)
                refine step_app_v rfl (.tmp 47) (.tmp 61) 63 rfl w.heap.size 22 i1 (.slice none 0 0) 24 Tryz.underlying63 hj hy0 hy1 hy2 rfl A3 c3 k _ rfl HR6.out.1 (.slice A7 n c7) rfl gb rfl HCL.out (by omega) (by decide) (by omega) ?_
                intro g8 c8 W7 hown8 hgr8
                have HSN := Lib.hid (SSRow.snoc (zs := y) (A1 := A7) (c1 := c7) HR6.out hsz HIN.out (by rw [hyl]; exact hown8) hgr8)
                have HB7 := Lib.hid (HB6.out.grown hgr8 (by omega) (fun q hq => HROW.out.outlo q hq))
                have HTT := Lib.hid (HT.out ⟨A7, c7, y⟩ rfl)
                clear hown8 hgr8 hyl
                refine hK _ _ ?_
                clear hK K
                refine wpAny_take (i := 16) (v := ?_) rfl (by kernel_rfl) (by kernel_rfl) (by kernel_rfl) (fun _ _ _ h => h) (Or.inl ⟨by rfl, ?_⟩) ?_
                rotate_left
                · (intro w; go_simp; (try with_reducible rfl))
                refine wpAny_done (by kernel_rfl) ?_ _
                clear HROW HB HT HAT HLIT HOWN HB1 HB2 HB3 HB4 HB5 HB6 HIN HR6 HCL HO7 HNE HLT
                go_wp2
                go_roundw
                case rel => exact ⟨k + 1, _, c8, rs ++ [⟨A7, c7, y⟩], by omega, by go_num, by go_num, HSN.out, HTT, HB7.out⟩
                case measure => simp [intOf] <;> omega
          · skip
            refine step_app_f rfl (.tmp 50) (.tmp 53) 22 rfl wr.heap.size 3 i0 Tryz.underlying22 hi hz0 hz1' hz2 AE _ 0 [] rfl HOWN.out b o k _ (zs.take k) rfl L1.out (ints_take2 k (ints_on HAT.out HB1.out)) (by decide) hks HB1.out.size k hzk ?_
            intro AN cN W2 hownN hgrN hfN
            have HB2 := Lib.hid (HB1.out.grown hgrN HB1.out.size (fun q hq => (own_lo HOWN.out q hq).1))
            have HLT := Lib.hid (fun q (hq : Option.map (fun x : Addr => x.block) AN = some q) => (own_lo hownN q hq).2)
            have HOWN := Lib.hid hownN
            clear hownN hgrN hfN
            obtain ⟨AE, hAE⟩ : ∃ AE, AE = AN := ⟨_, rfl⟩
            subst hAE
            refine hK _ _ ?_
            clear hK K
            refine wpAny_ready (rs := [2, 12]) (by kernel_rfl) (by simp) ?_
            refine (AllReady.cons rfl (fun K hK => ?_) (AllReady.cons rfl (fun K hK => ?_) AllReady.nil))
            · skip
              go_simp
              refine hK _ _ ?_
              clear hK K
              obtain ⟨W3, hW3⟩ : ∃ W', W' = (W2.alloc (.cells #[.int .i64 x] 3)) := ⟨_, rfl⟩
              have hal : Below W2.heap.size W2 W3 := by rw [hW3]; exact (Below.refl _ _).alloc (Nat.le_refl _) _
              have hsl : W2.heap.size < W3.heap.size := by rw [hW3]; show W2.heap.size < (W2.alloc _).heap.size; simp
              have HB3 := Lib.hid (HB2.out.trans (hal.mono HB2.out.size))
              obtain ⟨gx, hgx⟩ : ∃ g, g = W2.heap.size := ⟨_, rfl⟩
              have HLIT := Lib.hid (show W3.ownsRow wr.heap.size 3 1 (.slice (some ⟨gx, 0, none⟩) 1 1) 1 (vals [x]) by rw [hW3, hgx]; exact st_lit (W := W2) HB2.out.size)
              have HOWN := Lib.hid (own_below HOWN.out hal)
              have HNE := Lib.hid (show Option.map (fun x : Addr => x.block) AE ≠ some gx from fun e => by have := HLT.out gx e; omega)
              have HLT := Lib.hid (fun q hq => Nat.lt_of_lt_of_le (HLT.out q hq) hal.size)
              have hgl : gx < W3.heap.size := by omega
              rw [← hgx]
              clear hgx
              rw [← hW3]
              clear hW3 hsl hal
              refine wpAny_ready (rs := [12]) (by kernel_rfl) (by simp) ?_
              refine (AllReady.cons rfl (fun K hK => ?_) AllReady.nil)
              · skip
                refine step_app_f rfl (.tmp 54) (.tmp 58) 22 rfl wr.heap.size 3 i0 Tryz.underlying22 hi hz0 hz1' hz2 AE _ k ([] ++ zs.take k) rfl HOWN.out b (o + (k + 1)) (n - (k + 1)) _ (zs.drop (k + 1)) rfl L2.out (ints_drop (ints_on HAT.out HB3.out)) hks hns HB3.out.size (n - 1) hr2 ?_
                intro AN cN W4 hownN hgrN hfN
                have HB4 := Lib.hid (HB3.out.grown hgrN HB3.out.size (fun q hq => (own_lo HOWN.out q hq).1))
                have HLIT := Lib.hid (own_grow HLIT.out hgrN HNE.out)
                have HNE := Lib.hid (show Option.map (fun x : Addr => x.block) AN ≠ some gx from fun e => (hfN gx e).elim (fun h => HNE.out h) (fun h => absurd h (by omega)))
                have hgl : gx < W4.heap.size := Nat.lt_of_lt_of_le hgl hgrN.size
                have HLT := Lib.hid (fun q (hq : Option.map (fun x : Addr => x.block) AN = some q) => (own_lo hownN q hq).2)
                have HOWN := Lib.hid hownN
                clear hownN hgrN hfN
                obtain ⟨AE, hAE⟩ : ∃ AE, AE = AN := ⟨_, rfl⟩
                subst hAE
                refine hK _ _ ?_
                clear hK K
                refine wpAny_ready (rs := [13]) (by kernel_rfl) (by simp) ?_
                refine (AllReady.cons rfl (fun K hK => ?_) AllReady.nil)
                refine step_app_r rfl (.tmp 49) (.tmp 59) 22 rfl wr.heap.size 3 i0 Tryz.underlying22 hi hz0 hz1' hz2 (some ⟨gx, 0, none⟩) 1 1 [x] rfl HLIT.out AE (n - 1) _ ([] ++ zs.take k ++ zs.drop (k + 1)) rfl (by rw [List.nil_append, List.length_append, L1.out, L2.out]; omega) (st_spot HOWN.out).1 (ints_of (show W4.ownsRow wr.heap.size 3 1 (.slice AE (n - 1) _) (n - 1) (([] ++ zs.take k ++ zs.drop (k + 1)).map (Value.int .i64)) from HOWN.out)) (by decide) hr2s HB4.out.size (st_spot HOWN.out).2 n hr3 ?_
                intro A7 c7 W5 hown7 hgr7
                have HB5 := Lib.hid (HB4.out.grown hgr7 HB4.out.size (fun q hq => (own_lo HLIT.out q hq).1))
                rw [HPK.out] at hown7
                refine hK _ _ ?_
                clear hK K
                have hyl : y.length = n := Sv.row_len hown7
                have HO7 := Lib.hid hown7
                clear hown7 hgr7
                refine wpAny_ready (rs := [14]) (by kernel_rfl) (by simp) ?_
                refine (AllReady.cons rfl (fun K hK => ?_) AllReady.nil)
                go_simp
                refine hK _ _ ?_
                clear hK K
                obtain ⟨W6, hW6⟩ : ∃ W', W' = W5.alloc (.cells #[.slice A7 n c7] 22) := ⟨_, rfl⟩
                have hal : Below W5.heap.size W5 W6 := by rw [hW6]; exact (Below.refl _ _).alloc (Nat.le_refl _) _
                have hcl : W6.cell? ⟨W5.heap.size, 0, none⟩ = some (.slice A7 n c7) := by rw [hW6]; exact (Boxed.new W5 22 (.slice A7 n c7)).cell
                have hr6 := (HROW.out.below HB5.out).below hal
                have HIN := Lib.hid (show W6.ownsRow wr.heap.size 3 1 (.slice A7 y.length c7) y.length (y.map (Value.int .i64)) by rw [hyl]; exact own_below HO7.out hal)
                have hs6 : wr.heap.size ≤ W6.heap.size := Nat.le_trans HB5.out.size hal.size
                have HB6 := Lib.hid (HB.out.trans ((HB5.out.trans (hal.mono HB5.out.size)).mono hsz))
                obtain ⟨gb, hgb⟩ : ∃ g, g = W5.heap.size := ⟨_, rfl⟩
                rw [← hgb] at hcl
                rw [← hW6, ← hgb]
                clear hW6 hgb hal
                have HR6 := Lib.hid hr6
                have HCL := Lib.hid hcl
                clear hr6 hcl
                refine wpAny_ready (rs := [15]) (by kernel_rfl) (by simp) ?_
                refine (AllReady.cons rfl (fun K hK => ?_) AllReady.nil)
                refine step_app_v rfl (.tmp 47) (.tmp 61) 63 rfl w.heap.size 22 i1 (.slice none 0 0) 24 Tryz.underlying63 hj hy0 hy1 hy2 rfl A3 c3 k _ rfl HR6.out.1 (.slice A7 n c7) rfl gb rfl HCL.out (by omega) (by decide) (by omega) ?_
                intro g8 c8 W7 hown8 hgr8
                have HSN := Lib.hid (SSRow.snoc (zs := y) (A1 := A7) (c1 := c7) HR6.out hsz HIN.out (by rw [hyl]; exact hown8) hgr8)
                have HB7 := Lib.hid (HB6.out.grown hgr8 (by omega) (fun q hq => HROW.out.outlo q hq))
                have HTT := Lib.hid (HT.out ⟨A7, c7, y⟩ rfl)
                clear hown8 hgr8 hyl
                refine hK _ _ ?_
                clear hK K
                refine wpAny_take (i := 16) (v := ?_) rfl (by kernel_rfl) (by kernel_rfl) (by kernel_rfl) (fun _ _ _ h => h) (Or.inl ⟨by rfl, ?_⟩) ?_
                rotate_left
                · (intro w; go_simp; (try with_reducible rfl))
                refine wpAny_done (by kernel_rfl) ?_ _
                clear HROW HB HT HAT HLIT HOWN HB1 HB2 HB3 HB4 HB5 HB6 HIN HR6 HCL HO7 HNE HLT
                go_wp2
                go_roundw
                case rel => exact ⟨k + 1, _, c8, rs ++ [⟨A7, c7, y⟩], by omega, by go_num, by go_num, HSN.out, HTT, HB7.out⟩
                case measure => simp [intOf] <;> omega
            · skip
              refine step_app_f rfl (.tmp 54) (.tmp 58) 22 rfl wr.heap.size 3 i0 Tryz.underlying22 hi hz0 hz1' hz2 AE _ k ([] ++ zs.take k) rfl HOWN.out b (o + (k + 1)) (n - (k + 1)) _ (zs.drop (k + 1)) rfl L2.out (ints_drop (ints_on HAT.out HB2.out)) hks hns HB2.out.size (n - 1) hr2 ?_
              intro AN cN W3 hownN hgrN hfN
              have HB3 := Lib.hid (HB2.out.grown hgrN HB2.out.size (fun q hq => (own_lo HOWN.out q hq).1))
              have HLT := Lib.hid (fun q (hq : Option.map (fun x : Addr => x.block) AN = some q) => (own_lo hownN q hq).2)
              have HOWN := Lib.hid hownN
              clear hownN hgrN hfN
              obtain ⟨AE, hAE⟩ : ∃ AE, AE = AN := ⟨_, rfl⟩
              subst hAE
              refine hK _ _ ?_
              clear hK K
              refine wpAny_ready (rs := [2]) (by kernel_rfl) (by simp) ?_
              refine (AllReady.cons rfl (fun K hK => ?_) AllReady.nil)
              · skip
                go_simp
                refine hK _ _ ?_
                clear hK K
                obtain ⟨W4, hW4⟩ : ∃ W', W' = (W3.alloc (.cells #[.int .i64 x] 3)) := ⟨_, rfl⟩
                have hal : Below W3.heap.size W3 W4 := by rw [hW4]; exact (Below.refl _ _).alloc (Nat.le_refl _) _
                have hsl : W3.heap.size < W4.heap.size := by rw [hW4]; show W3.heap.size < (W3.alloc _).heap.size; simp
                have HB4 := Lib.hid (HB3.out.trans (hal.mono HB3.out.size))
                obtain ⟨gx, hgx⟩ : ∃ g, g = W3.heap.size := ⟨_, rfl⟩
                have HLIT := Lib.hid (show W4.ownsRow wr.heap.size 3 1 (.slice (some ⟨gx, 0, none⟩) 1 1) 1 (vals [x]) by rw [hW4, hgx]; exact st_lit (W := W3) HB3.out.size)
                have HOWN := Lib.hid (own_below HOWN.out hal)
                have HNE := Lib.hid (show Option.map (fun x : Addr => x.block) AE ≠ some gx from fun e => by have := HLT.out gx e; omega)
                have HLT := Lib.hid (fun q hq => Nat.lt_of_lt_of_le (HLT.out q hq) hal.size)
                have hgl : gx < W4.heap.size := by omega
                rw [← hgx]
                clear hgx
                rw [← hW4]
                clear hW4 hsl hal
                refine wpAny_ready (rs := [13]) (by kernel_rfl) (by simp) ?_
                refine (AllReady.cons rfl (fun K hK => ?_) AllReady.nil)
                refine step_app_r rfl (.tmp 49) (.tmp 59) 22 rfl wr.heap.size 3 i0 Tryz.underlying22 hi hz0 hz1' hz2 (some ⟨gx, 0, none⟩) 1 1 [x] rfl HLIT.out AE (n - 1) _ ([] ++ zs.take k ++ zs.drop (k + 1)) rfl (by rw [List.nil_append, List.length_append, L1.out, L2.out]; omega) (st_spot HOWN.out).1 (ints_of (show W4.ownsRow wr.heap.size 3 1 (.slice AE (n - 1) _) (n - 1) (([] ++ zs.take k ++ zs.drop (k + 1)).map (Value.int .i64)) from HOWN.out)) (by decide) hr2s HB4.out.size (st_spot HOWN.out).2 n hr3 ?_
                intro A7 c7 W5 hown7 hgr7
                have HB5 := Lib.hid (HB4.out.grown hgr7 HB4.out.size (fun q hq => (own_lo HLIT.out q hq).1))
                rw [HPK.out] at hown7
                refine hK _ _ ?_
                clear hK K
                have hyl : y.length = n := Sv.row_len hown7
                have HO7 := Lib.hid hown7
                clear hown7 hgr7
                refine wpAny_ready (rs := [14]) (by kernel_rfl) (by simp) ?_
                refine (AllReady.cons rfl (fun K hK => ?_) AllReady.nil)
                go_simp
                refine hK _ _ ?_
                clear hK K
                obtain ⟨W6, hW6⟩ : ∃ W', W' = W5.alloc (.cells #[.slice A7 n c7] 22) := ⟨_, rfl⟩
                have hal : Below W5.heap.size W5 W6 := by rw [hW6]; exact (Below.refl _ _).alloc (Nat.le_refl _) _
                have hcl : W6.cell? ⟨W5.heap.size, 0, none⟩ = some (.slice A7 n c7) := by rw [hW6]; exact (Boxed.new W5 22 (.slice A7 n c7)).cell
                have hr6 := (HROW.out.below HB5.out).below hal
                have HIN := Lib.hid (show W6.ownsRow wr.heap.size 3 1 (.slice A7 y.length c7) y.length (y.map (Value.int .i64)) by rw [hyl]; exact own_below HO7.out hal)
                have hs6 : wr.heap.size ≤ W6.heap.size := Nat.le_trans HB5.out.size hal.size
                have HB6 := Lib.hid (HB.out.trans ((HB5.out.trans (hal.mono HB5.out.size)).mono hsz))
                obtain ⟨gb, hgb⟩ : ∃ g, g = W5.heap.size := ⟨_, rfl⟩
                rw [← hgb] at hcl
                rw [← hW6, ← hgb]
                clear hW6 hgb hal
                have HR6 := Lib.hid hr6
                have HCL := Lib.hid hcl
                clear hr6 hcl
                refine wpAny_ready (rs := [15]) (by kernel_rfl) (by simp) ?_
                refine (AllReady.cons rfl (fun K hK => ?_) AllReady.nil)
                refine step_app_v rfl (.tmp 47) (.tmp 61) 63 rfl w.heap.size 22 i1 (.slice none 0 0) 24 Tryz.underlying63 hj hy0 hy1 hy2 rfl A3 c3 k _ rfl HR6.out.1 (.slice A7 n c7) rfl gb rfl HCL.out (by omega) (by decide) (by omega) ?_
                intro g8 c8 W7 hown8 hgr8
                have HSN := Lib.hid (SSRow.snoc (zs := y) (A1 := A7) (c1 := c7) HR6.out hsz HIN.out (by rw [hyl]; exact hown8) hgr8)
                have HB7 := Lib.hid (HB6.out.grown hgr8 (by omega) (fun q hq => HROW.out.outlo q hq))
                have HTT := Lib.hid (HT.out ⟨A7, c7, y⟩ rfl)
                clear hown8 hgr8 hyl
                refine hK _ _ ?_
                clear hK K
                refine wpAny_take (i := 16) (v := ?_) rfl (by kernel_rfl) (by kernel_rfl) (by kernel_rfl) (fun _ _ _ h => h) (Or.inl ⟨by rfl, ?_⟩) ?_
                rotate_left
                · (intro w; go_simp; (try with_reducible rfl))
                refine wpAny_done (by kernel_rfl) ?_ _
                clear HROW HB HT HAT HLIT HOWN HB1 HB2 HB3 HB4 HB5 HB6 HIN HR6 HCL HO7 HNE HLT
                go_wp2
                go_roundw
                case rel => exact ⟨k + 1, _, c8, rs ++ [⟨A7, c7, y⟩], by omega, by go_num, by go_num, HSN.out, HTT, HB7.out⟩
                case measure => simp [intOf] <;> omega
    · have hkn : k = n := by omega
      subst hkn
      have hz : rs.map RD.zs = picksF zs := by rw [HRZ, ← HL.out, List.take_length]
      have HO := Lib.hid (of_ss (w0 := w) ⟨A3, c3, rs, rfl, hz, by rw [HL.out]; exact hrow, hbw⟩ HS.out hbw)
      rw [HL.out] at HO
      clear hrow hbw
      go_wp2
      go_ret
      exact HO.out
end Go.Proofs.YtibephoepkofnaaGreat.So4

namespace Go.Proofs.YtibephoepkofnaaGreat.So5
open Go.RowKit Fr _root_.Go.Proofs.YtibephoepkofnaaGreat.Own Pk Ins Pfn Rws Sst Spl Spm Sps Lb Mvp Pf Wv Itr Big Srt Raf Sof So2 Sam

theorem okM_parts {k : Int} {zs : List Int} (h : okM k zs = true) : Pok.okB zs = true ∧ 1 ≤ zs.length ∧ zs.length ≤ 12 ∧ (0 ≤ k ∧ k ≤ 4) ∧ (k = 3 → 2 ≤ zs.length) ∧ (k = 2 → zs.length ≤ 11) := by
  unfold okM at h
  simp only [Bool.and_eq_true, Bool.or_eq_true, decide_eq_true_eq] at h
  obtain ⟨⟨⟨h1, h2⟩, h3⟩, h4, h5⟩ := h
  refine ⟨h1, h2, (ok_parts h1).1, h3, fun e => ?_, fun e => ?_⟩
  · rcases h4 with h | h
    · exact absurd e h
    · exact h
  · rcases h5 with h | h
    · exact absurd e h
    · exact h
theorem ofM_mem {k : Int} {zs : List Int} (hk : 0 ≤ k ∧ k ≤ 4) (z : List Int) : z ∈ ofM k zs ↔ z ∈ Mkr.rowsF k zs := by
  unfold ofM Mkr.rowsF
  rcases (show k = 0 ∨ k = 1 ∨ k = 2 ∨ k = 3 ∨ k = 4 by omega) with rfl | rfl | rfl | rfl | rfl
  · exact Iff.rfl
  · exact Iff.rfl
  · exact rif_mem zs z
  · exact Iff.rfl
  · exact Iff.rfl
theorem ofM_len {k : Int} {zs : List Int} (h : okM k zs = true) : (ofM k zs).length ≤ 65536 := by
  obtain ⟨h1, h2, h3, h4, h5, h6⟩ := okM_parts h
  rcases (show k = 0 ∨ k = 1 ∨ k = 2 ∨ k = 3 ∨ k = 4 by omega) with rfl | rfl | rfl | rfl | rfl
  · show [zs].length ≤ 65536
    simp
  · show (cutsF zs).length ≤ 65536
    simp [cutsF]; omega
  · show (rifM zs).length ≤ 65536
    have e : rifM zs = So3.rifK zs (zs.length + 1) := rfl
    rw [e]
    have := So3.rifK_len zs h3 (zs.length + 1)
    omega
  · show (cutsF (moveF 3 2 zs)).length ≤ 65536
    have hk1 : kOk 3 2 zs.length = true := by
      have := h5 rfl
      unfold kOk
      simp
      omega
    have := move_len hk1 h2 h3
    simp [cutsF]; omega
  · show (picksF zs).length ≤ 65536
    simp [picksF]; omega
theorem of_any (k : Int) (A : Option Addr) (n c : Nat) (zs : List Int) (w : World) (hn : zs.length = n) (hnc : n ≤ c) (hat : IntsAt w w.heap.size .i64 A zs) (h : okM k zs = true) :
    Calls Tryz.prog 55 #[.slice A n c, .int .i64 k] w (OfRes (ofM k zs) w) := by
  obtain ⟨h1, h2, h3, h4, h5, h6⟩ := okM_parts h
  have hR : Ready A n c zs w := ⟨hn, by omega, by omega, hnc, ok_fits h1, hat⟩
  rcases (show k = 0 ∨ k = 1 ∨ k = 2 ∨ k = 3 ∨ k = 4 by omega) with rfl | rfl | rfl | rfl | rfl
  · exact of_0 A n c zs w hR
  · exact of_1 A n c zs w hR h1
  · exact So3.of_2 A n c zs w hR
  · exact of_3 A n c zs w hR h1 (by have := h5 rfl; omega)
  · exact So4.of_4 A n c zs w hR
def roM (k : Int) (zs : List Int) : List (List Int) := if okM k zs then cano (ofM k zs) else []
theorem of_big {L : List (List Int)} {w w' : World} {e : Ending} (h : OfRes L w e w') : ∃ A c rs, e = .returned (.slice A L.length c) ∧ rs.length = L.length ∧ rs.map RD.zs = L ∧ SSAt w' w'.heap.size A rs ∧ RowsOk rs ∧ L.length ≤ c ∧ Below w.heap.size w w' := by
  obtain ⟨A, c, rs, h1, h2, h3⟩ := h
  exact ⟨A, c, rs, h1, by rw [← h2, List.length_map], h2, h3⟩
def cntM (k : Int) (zs : List Int) : Int := if okM k zs then ((roM k zs).length : Int) else -1
theorem same_iff {us vs : List Int} : sameB us vs = true ↔ us = vs := decide_eq_true_iff
def inTo (q : List Int) (rs : List RD) : Nat → Bool
  | 0 => false
  | j + 1 => inTo q rs j || sameB (rs.getD j rd0).zs q
theorem inTo_iff {q : List Int} {rs : List RD} : ∀ j, j ≤ rs.length → (inTo q rs j = true ↔ ∃ i, i < j ∧ (rs.getD i rd0).zs = q)
  | 0, _ => by simp [inTo]
  | j + 1, h => by
    rw [inTo, Bool.or_eq_true, inTo_iff j (by omega)]
    constructor
    · rintro (⟨i, hi, e⟩ | e)
      · exact ⟨i, by omega, e⟩
      · exact ⟨j, by omega, same_iff.1 e⟩
    · rintro ⟨i, hi, e⟩
      by_cases hij : i = j
      · subst hij
        exact Or.inr (same_iff.2 e)
      · exact Or.inl ⟨i, by omega, e⟩
theorem in_rows {q : List Int} {rs : List RD} {zss : List (List Int)} {n : Nat} (hz : rs.map RD.zs = zss) (hn : rs.length = n) : inTo q rs n = decide (q ∈ zss) := by
  rw [Bool.eq_iff_iff, inTo_iff n (by omega), decide_eq_true_iff, ← hz]
  constructor
  · rintro ⟨i, hi, rfl⟩
    refine List.mem_map.2 ⟨rs.getD i rd0, ?_, rfl⟩
    rw [List.getD_eq_getElem?_getD, List.getElem?_eq_getElem (by omega)]
    exact List.getElem_mem _
  · intro h
    obtain ⟨r, hr, rfl⟩ := List.mem_map.1 h
    obtain ⟨i, hi, rfl⟩ := List.getElem_of_mem hr
    exact ⟨i, by omega, by simp [List.getD_eq_getElem?_getD, List.getElem?_eq_getElem hi]⟩
def isrM (k : Int) (zs q : List Int) : Bool := decide (q ∈ roM k zs)
theorem roM_short {k : Int} {zs x : List Int} (h : x ∈ roM k zs) : x.length ≤ 12 := by
  unfold roM at h
  split at h
  next hok =>
    obtain ⟨h1, h2, h3, h4, h5, h6⟩ := okM_parts hok
    have hx := (ofM_mem h4 x).1 ((cano_mem _ _).1 h)
    have hg : goodB k zs = true := by
      unfold goodB
      rw [decide_eq_true h4, h1]
      have : Ck.leastN k ≤ zs.length := by
        unfold Ck.leastN
        split
        · have := h5 (by assumption); omega
        · omega
      rw [decide_eq_true this]
      rfl
    exact (rows_card hg x hx).2
  next => cases h
theorem roM_len {k : Int} {zs : List Int} : (roM k zs).length ≤ 65536 := by
  unfold roM
  split
  · exact Nat.le_trans (cano_size _).1 (ofM_len (by assumption))
  · simp
end Go.Proofs.YtibephoepkofnaaGreat.So5

namespace Go.Proofs.YtibephoepkofnaaGreat.So6
open Go.RowKit Fr _root_.Go.Proofs.YtibephoepkofnaaGreat.Own Pk Ins Pfn Rws Sst Spl Spm Sps Lb Mvp Pf Wv Itr Big Srt Raf Sof So2 So5

def maF (k : Int) (l : List (List Int)) : List (List Int) := cano (l.flatMap (ofM k))
def maB (k : Int) (l : List (List Int)) : Bool := l.all (okM k) && decide ((maF k l).length ≤ 3000)
def maR (k : Int) (l : List (List Int)) : List (List Int) := if maB k l then maF k l else []
theorem ma_bad {k : Int} {l : List (List Int)} {i : Nat} (hi : i < l.length) (h : okM k (l.getD i []) = false) : maB k l = false := by
  unfold maB
  have : l.all (okM k) = false := by
    rw [List.all_eq_false]
    refine ⟨l.getD i [], ?_, by rw [h]; simp⟩
    rw [List.getD_eq_getElem?_getD, List.getElem?_eq_getElem hi]
    exact List.getElem_mem _
  rw [this]
  rfl
theorem sorted_nodup {l : List (List Int)} (h : SortedL l) : l.Nodup := by
  rw [List.nodup_iff_pairwise_ne]
  refine h.imp fun {a b} hab e => ?_
  subst e
  rw [less_irr] at hab
  cases hab
theorem cano_le {l m : List (List Int)} (h : ∀ x, x ∈ l → x ∈ m) : (cano l).length ≤ (cano m).length :=
  (sorted_nodup (cano_sorted l)).length_le_of_subset fun x hx => (cano_mem m x).2 (h x ((cano_mem l x).1 hx))
theorem ma_many {k : Int} {l : List (List Int)} {j : Nat} (h : 3000 < (maF k (l.take j)).length) : maB k l = false := by
  unfold maB
  have : (maF k (l.take j)).length ≤ (maF k l).length := cano_le fun x hx => by
    obtain ⟨y, hy, hx⟩ := List.mem_flatMap.1 hx
    exact List.mem_flatMap.2 ⟨y, List.mem_of_mem_take hy, hx⟩
  rw [decide_eq_false (show ¬ (maF k l).length ≤ 3000 by omega), Bool.and_false]
theorem ma_snoc {k : Int} {l : List (List Int)} {j : Nat} (h : j < l.length) : mergeL (maF k (l.take j)) (cano (ofM k (l.getD j []))) = maF k (l.take (j + 1)) := by
  unfold maF
  rw [cano_merge, List.take_add_one, List.flatMap_append, List.getElem?_eq_getElem h, List.getD_eq_getElem?_getD, List.getElem?_eq_getElem h]
  simp
theorem ma_len {k : Int} {l : List (List Int)} {j : Nat} (h : ∀ x ∈ maF k (l.take j), x.length ≤ 12) : True := trivial
theorem ofM_short {k : Int} {zs : List Int} (h : okM k zs = true) : ∀ x ∈ ofM k zs, x.length ≤ 12 := fun x hx => roM_short (k := k) (zs := zs) (by unfold roM; rw [if_pos h]; exact (cano_mem _ _).2 hx)
end Go.Proofs.YtibephoepkofnaaGreat.So6
