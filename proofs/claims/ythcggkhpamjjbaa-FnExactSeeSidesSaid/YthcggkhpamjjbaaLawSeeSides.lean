/- The law of SeeSides holds: for every argument the program's SeeSides answers as its model does, changes no argument, and shares no memory. No condition. -/
import Derived.Test.YthcggkhpamjjbaaBig
import Derived.Test.YthcggkhpamjjbaaKns
import Derived.Test.YthcggkhpamjjbaaKnc
import Derived.Test.YthcggkhpamjjbaaPkt
import Derived.Conc.Holds
import Derived.Leaving
import Derived.Test.YthcggkhpamjjbaaFrame
set_option linter.unusedVariables false
namespace Go.Proofs.Ythcggkhpamjjbaa.LawSeeSides
open Go.ChangeShapes Go.WideShapes Go.ChangeAt Go.RowKit Fr _root_.Go.Proofs.Ythcggkhpamjjbaa.Own

set_option maxHeartbeats 4000000 in
theorem walk (A0 : Option Addr) (n0 c0 : Nat) (l0 : List Rws.RD) (A1 : Option Addr) (n1 c1 : Nat) (l1 : List Int) (w : World) (hn0 : l0.length = n0) (hm0 : n0 ≤ maxLen) (hs0 : Sst.WfSS l0) (ha0 : Sst.SSAt w w.heap.size A0 l0) (hn1 : l1.length = n1) (hm1 : n1 ≤ maxLen) (hs1 : ∀ z ∈ l1, (Lit.int .i64 z).wf = true) (ha1 : IntsAt w w.heap.size .i64 A1 l1) :
    Calls Try.prog 8 #[.slice A0 n0 c0, .slice A1 n1 c1] w fun e w' => e = .returned (.bool true) ∧ Below w.heap.size w w' := by
  have hx0 : n0 ≤ 9223372036854775807 := by unfold maxLen at hm0; omega
  have HN0 := Lib.hid hn0
  have HS0 := Lib.hid hs0
  clear hn0 hm0 hs0
  have hx1 : n1 ≤ 9223372036854775807 := by unfold maxLen at hm1; omega
  have hz1 := Ins.fits_of hs1
  have HN1 := Lib.hid hn1
  clear hn1 hm1 hs1
  by_cases hg1 : n1 ≤ 1048576
  · have hk1 : decide ((1048576 : Int) < (n1 : Int)) = false := decide_eq_false (by omega)
    by_cases hg0 : n0 + Rws.tot l0 n0 ≤ 1048576
    · have hgn0 : n0 ≤ 1048576 := by omega
      have HBG0 := Lib.hid (Big.big_of HN0.out hg0)
      have HLN0 := Lib.hid (fun i (_ : i < n0) => Big.big_len rfl HBG0.out i)
      obtain ⟨res, hres⟩ : ∃ r, r = Kns.seeF (Kns.sidesB l1) (l0.map Rws.RD.zs) := ⟨_, rfl⟩
      have HSS := Lib.hid (show Big.BigSS res by rw [hres]; exact Kns.see_big _ HBG0.out)
      have hlen := HSS.out.1
      have HR := Lib.hid hres.symm
      clear hres
      have T : Below w.heap.size w w := Below.refl _ w
      have f0 := ha0
      clear ha0
      have f1 := ha1
      clear ha1
      go_enter Try.func8, Try.ntmps8
      go_wp2_with fail
      refine (Sst.sz_ss A0 n0 c0 l0 1048576 _ HN0.out hx0 HS0.out (by omega) f0).mono ?_
      rintro e w' ⟨rfl, rfl⟩
      rw [if_pos hg0]
      have hz_0 : decide ((1048576 : Int) - (n0 : Int) - (Rws.tot l0 n0 : Int) < 0) = false := decide_eq_false (by omega)
      go_wp2_with fail
      refine (Sst.to_ss A0 n0 c0 l0 _ HN0.out hgn0 HLN0.out (f0.more T.size)).mono ?_
      rintro e w1 ⟨g_t1, rs_t1, rfl, hz_t1, hnn_t1, hown, hb⟩
      clear hnn_t1
      have s1 : w.heap.size ≤ w1.heap.size := hb.size
      replace T := T.trans (hb.mono (by omega))
      replace f0 := f0.below (hb.mono (by omega))
      replace f1 := Ins.at_below f1 hb (by omega)
      clear hb
      have r_t1 := hown
      clear hown
      go_wp2_with fail
      refine (Ins.to_any A1 n1 c1 l1 _ HN1.out hg1 (f1.more T.size)).mono ?_
      rintro e w2 ⟨g_t2, rfl, hgg, hown, hb⟩
      have s2 : w1.heap.size ≤ w2.heap.size := hb.size
      replace T := T.trans (hb.mono (by omega))
      replace f0 := f0.below (hb.mono (by omega))
      replace f1 := Ins.at_below f1 hb (by omega)
      replace r_t1 := r_t1.below hb
      clear hb
      have r_t2 := Ins.Row.mk hown
      clear hgg hown
      go_wp2_with fail
      refine ((Kns.spec_sides (some ⟨g_t1, 0, none⟩) n0 n0 rs_t1 (some ⟨g_t2, 0, none⟩) n1 n1 l1 _ r_t1.len (Sst.at_of r_t1) (Kno.fits_of HS0.out hz_t1 r_t1.len) (fun i _ => Big.big_len hz_t1 HBG0.out i) (by omega) HN1.out (by omega) r_t2.at_).mono (fun _ _ h => Big.cast (by rw [hz_t1, HR.out]) h)).mono ?_
      rintro e w3 ⟨A_w0, c_w0, rs_w0, rfl, hz_w0, hown, hb⟩
      have s3 : w2.heap.size ≤ w3.heap.size := hb.size
      replace T := T.trans (hb.mono (by omega))
      replace f0 := f0.below (hb.mono (by omega))
      replace f1 := Ins.at_below f1 hb (by omega)
      replace r_t1 := r_t1.below hb
      replace r_t2 := r_t2.below hb
      clear hb
      have r_w0 := hown
      clear hown
      go_wp2_with fail
      refine (Sst.to_ss A0 n0 c0 l0 _ HN0.out hgn0 HLN0.out (f0.more T.size)).mono ?_
      rintro e w4 ⟨g_x0, rs_x0, rfl, hz_x0, hnn_x0, hown, hb⟩
      clear hnn_x0
      have s4 : w3.heap.size ≤ w4.heap.size := hb.size
      replace T := T.trans (hb.mono (by omega))
      replace f0 := f0.below (hb.mono (by omega))
      replace f1 := Ins.at_below f1 hb (by omega)
      replace r_t1 := r_t1.below hb
      replace r_t2 := r_t2.below hb
      replace r_w0 := r_w0.below hb
      clear hb
      have r_x0 := hown
      clear hown
      go_wp2_with fail
      refine (Ins.to_any A1 n1 c1 l1 _ HN1.out hg1 (f1.more T.size)).mono ?_
      rintro e w5 ⟨g_x1, rfl, hgg, hown, hb⟩
      have s5 : w4.heap.size ≤ w5.heap.size := hb.size
      replace T := T.trans (hb.mono (by omega))
      replace f0 := f0.below (hb.mono (by omega))
      replace f1 := Ins.at_below f1 hb (by omega)
      replace r_t1 := r_t1.below hb
      replace r_t2 := r_t2.below hb
      replace r_w0 := r_w0.below hb
      replace r_x0 := r_x0.below hb
      clear hb
      have r_x1 := Ins.Row.mk hown
      clear hgg hown
      go_wp2_with fail
      refine ((Knc.impl_sides (some ⟨g_x0, 0, none⟩) n0 n0 rs_x0 (some ⟨g_x1, 0, none⟩) n1 n1 l1 _ r_x0.len (Sst.at_of r_x0) (Kno.fits_of HS0.out hz_x0 r_x0.len) (fun i _ => Big.big_len hz_x0 HBG0.out i) (by omega) HN1.out (by omega) hz1 r_x1.at_).mono (fun _ _ h => Big.cast (by rw [hz_x0, HR.out]) h)).mono ?_
      rintro e w6 ⟨A_g0, c_g0, rs_g0, rfl, hz_g0, hown, hb⟩
      have s6 : w5.heap.size ≤ w6.heap.size := hb.size
      replace T := T.trans (hb.mono (by omega))
      replace f0 := f0.below (hb.mono (by omega))
      replace f1 := Ins.at_below f1 hb (by omega)
      replace r_t1 := r_t1.below hb
      replace r_t2 := r_t2.below hb
      replace r_w0 := r_w0.below hb
      replace r_x0 := r_x0.below hb
      replace r_x1 := r_x1.below hb
      clear hb
      have r_g0 := hown
      clear hown
      go_wp2_with fail
      refine (Rws.eq_ss _ _ _ _ A_g0 A_w0 res.length c_g0 c_w0 rs_g0 rs_w0 _ r_g0 r_w0 (hz_g0.trans hz_w0.symm) (by omega) (fun i _ => Nat.le_trans (Big.big_len hz_g0 HSS.out i) (by omega))).mono ?_
      rintro e w7 ⟨rfl, hb⟩
      have s7 : w6.heap.size ≤ w7.heap.size := hb.size
      replace T := T.trans (hb.mono (by omega))
      replace f0 := f0.below (hb.mono (by omega))
      replace f1 := Ins.at_below f1 hb (by omega)
      replace r_t1 := r_t1.below hb
      replace r_t2 := r_t2.below hb
      replace r_w0 := r_w0.below hb
      replace r_x0 := r_x0.below hb
      replace r_x1 := r_x1.below hb
      replace r_g0 := r_g0.below hb
      clear hb
      go_wp2_with fail
      refine (Sst.to_ss A0 n0 c0 l0 _ HN0.out hgn0 HLN0.out (f0.more T.size)).mono ?_
      rintro e w8 ⟨g_t3, rs_t3, rfl, hz_t3, hnn_t3, hown, hb⟩
      clear hnn_t3
      have s8 : w7.heap.size ≤ w8.heap.size := hb.size
      replace T := T.trans (hb.mono (by omega))
      replace f0 := f0.below (hb.mono (by omega))
      replace f1 := Ins.at_below f1 hb (by omega)
      replace r_t1 := r_t1.below hb
      replace r_t2 := r_t2.below hb
      replace r_w0 := r_w0.below hb
      replace r_x0 := r_x0.below hb
      replace r_x1 := r_x1.below hb
      replace r_g0 := r_g0.below hb
      clear hb
      have r_t3 := hown
      clear hown
      go_wp2_with fail
      refine (Rws.eq_ss _ _ _ _ (some ⟨g_x0, 0, none⟩) (some ⟨g_t3, 0, none⟩) n0 n0 n0 rs_x0 rs_t3 _ r_x0 r_t3 (hz_x0.trans hz_t3.symm) (by omega) (fun i _ => Nat.le_trans (Big.big_len hz_x0 HBG0.out i) (by omega))).mono ?_
      rintro e w9 ⟨rfl, hb⟩
      have s9 : w8.heap.size ≤ w9.heap.size := hb.size
      replace T := T.trans (hb.mono (by omega))
      replace f0 := f0.below (hb.mono (by omega))
      replace f1 := Ins.at_below f1 hb (by omega)
      replace r_t1 := r_t1.below hb
      replace r_t2 := r_t2.below hb
      replace r_w0 := r_w0.below hb
      replace r_x0 := r_x0.below hb
      replace r_x1 := r_x1.below hb
      replace r_g0 := r_g0.below hb
      replace r_t3 := r_t3.below hb
      clear hb
      go_wp2_with fail
      refine (Ins.to_any A1 n1 c1 l1 _ HN1.out hg1 (f1.more T.size)).mono ?_
      rintro e w10 ⟨g_t4, rfl, hgg, hown, hb⟩
      have s10 : w9.heap.size ≤ w10.heap.size := hb.size
      replace T := T.trans (hb.mono (by omega))
      replace f0 := f0.below (hb.mono (by omega))
      replace f1 := Ins.at_below f1 hb (by omega)
      replace r_t1 := r_t1.below hb
      replace r_t2 := r_t2.below hb
      replace r_w0 := r_w0.below hb
      replace r_x0 := r_x0.below hb
      replace r_x1 := r_x1.below hb
      replace r_g0 := r_g0.below hb
      replace r_t3 := r_t3.below hb
      clear hb
      have r_t4 := Ins.Row.mk hown
      clear hgg hown
      go_wp2_with fail
      refine (Ins.eq_same (some ⟨g_x1, 0, none⟩) (some ⟨g_t4, 0, none⟩) n1 n1 n1 l1 _ HN1.out (by omega) r_x1.at_ r_t4.at_).mono ?_
      rintro e w11 ⟨rfl, hb⟩
      have s11 : w10.heap.size ≤ w11.heap.size := hb.size
      replace T := T.trans (hb.mono (by omega))
      replace f0 := f0.below (hb.mono (by omega))
      replace f1 := Ins.at_below f1 hb (by omega)
      replace r_t1 := r_t1.below hb
      replace r_t2 := r_t2.below hb
      replace r_w0 := r_w0.below hb
      replace r_x0 := r_x0.below hb
      replace r_x1 := r_x1.below hb
      replace r_g0 := r_g0.below hb
      replace r_t3 := r_t3.below hb
      replace r_t4 := r_t4.below hb
      clear hb
      have ht_x0 := Big.big_tot hz_x0 HBG0.out n0
      go_wp2_with fail
      refine (Rws.mark_ss _ _ (some ⟨g_x0, 0, none⟩) n0 n0 rs_x0 _ _ (by omega) (by omega) (by omega) r_x0).mono ?_
      rintro e w12 ⟨rfl, hrow, hwi⟩
      clear r_x0
      have r_x0 := hrow
      clear hrow
      have s12 : w11.heap.size ≤ w12.heap.size := hwi.size
      replace T := Rws.below_wi T hwi (by omega) (by omega)
      replace f0 := f0.below (Rws.below_wi (Below.refl w.heap.size _) hwi (by omega) (by omega))
      replace f1 := Rws.at_wi f1 hwi (by omega) (by omega)
      replace r_t1 := r_t1.wi hwi (by omega)
      replace r_t2 := Rws.row_wi r_t2 hwi (by omega)
      replace r_w0 := r_w0.wi hwi (by omega)
      replace r_x1 := Rws.row_wi r_x1 hwi (by omega)
      replace r_g0 := r_g0.wi hwi (by omega)
      replace r_t3 := r_t3.wi hwi (by omega)
      replace r_t4 := Rws.row_wi r_t4 hwi (by omega)
      clear hwi
      go_wp2_with fail
      refine (Ins.mark_any _ _ n1 (some ⟨g_x1, 0, none⟩) n1 _ _ (by omega) (by omega) r_x1.own).mono ?_
      rintro e w13 ⟨rfl, ho, hgr⟩
      have s13 : w12.heap.size ≤ w13.heap.size := hgr.size
      replace T := T.grown hgr (by omega) (fun k hk => by have h1 := r_x1.lo k hk; omega)
      replace f0 := f0.below ((Below.refl w.heap.size _).grown hgr (by omega) (fun k hk => by have h1 := r_x1.lo k hk; omega))
      replace f1 := Ins.at_grown f1 hgr (by omega) (fun k hk => by have h1 := r_x1.lo k hk; omega)
      replace r_t1 := r_t1.grown hgr (fun k hk => by have h1 := r_x1.lo k hk; have h2 := r_x1.hi k hk; omega)
      replace r_t2 := r_t2.grown hgr (fun k hk => by have h1 := r_x1.lo k hk; have h2 := r_x1.hi k hk; omega)
      replace r_w0 := r_w0.grown hgr (fun k hk => by have h1 := r_x1.lo k hk; have h2 := r_x1.hi k hk; omega)
      replace r_x0 := r_x0.grown hgr (fun k hk => by have h1 := r_x1.lo k hk; have h2 := r_x1.hi k hk; omega)
      replace r_g0 := r_g0.grown hgr (fun k hk => by have h1 := r_x1.lo k hk; have h2 := r_x1.hi k hk; omega)
      replace r_t3 := r_t3.grown hgr (fun k hk => by have h1 := r_x1.lo k hk; have h2 := r_x1.hi k hk; omega)
      replace r_t4 := r_t4.grown hgr (fun k hk => by have h1 := r_x1.lo k hk; have h2 := r_x1.hi k hk; omega)
      replace r_x1 := r_x1.marked ho hgr
      clear ho hgr
      go_wp2_with fail
      refine (Rws.eq_ss _ _ _ _ A_g0 A_w0 res.length c_g0 c_w0 rs_g0 rs_w0 _ r_g0 r_w0 (hz_g0.trans hz_w0.symm) (by omega) (fun i _ => Nat.le_trans (Big.big_len hz_g0 HSS.out i) (by omega))).mono ?_
      rintro e w14 ⟨rfl, hb⟩
      have s14 : w13.heap.size ≤ w14.heap.size := hb.size
      replace T := T.trans (hb.mono (by omega))
      replace f0 := f0.below (hb.mono (by omega))
      replace f1 := Ins.at_below f1 hb (by omega)
      replace r_t1 := r_t1.below hb
      replace r_t2 := r_t2.below hb
      replace r_w0 := r_w0.below hb
      replace r_x0 := r_x0.below hb
      replace r_x1 := r_x1.below hb
      replace r_g0 := r_g0.below hb
      replace r_t3 := r_t3.below hb
      replace r_t4 := r_t4.below hb
      clear hb
      have ht_g0 := Big.big_tot hz_g0 HSS.out res.length
      go_wp2_with fail
      refine (Rws.mark_ss _ _ A_g0 res.length c_g0 rs_g0 _ _ (by omega) (by omega) (by omega) r_g0).mono ?_
      rintro e w15 ⟨rfl, hrow, hwi⟩
      clear r_g0
      have r_g0 := hrow
      clear hrow
      have s15 : w14.heap.size ≤ w15.heap.size := hwi.size
      replace T := Rws.below_wi T hwi (by omega) (by omega)
      replace f0 := f0.below (Rws.below_wi (Below.refl w.heap.size _) hwi (by omega) (by omega))
      replace f1 := Rws.at_wi f1 hwi (by omega) (by omega)
      replace r_t1 := r_t1.wi hwi (by omega)
      replace r_t2 := Rws.row_wi r_t2 hwi (by omega)
      replace r_w0 := r_w0.wi hwi (by omega)
      replace r_x0 := r_x0.wi hwi (by omega)
      replace r_x1 := Rws.row_wi r_x1 hwi (by omega)
      replace r_t3 := r_t3.wi hwi (by omega)
      replace r_t4 := Rws.row_wi r_t4 hwi (by omega)
      clear hwi
      go_wp2_with fail
      refine (Rws.held_ss _ _ A_g0 res.length c_g0 rs_g0 _ _ (by omega) (by omega) (by omega) r_g0).mono ?_
      rintro e w' ⟨rfl, rfl⟩
      go_wp2_with fail
      refine (Sst.to_ss A0 n0 c0 l0 _ HN0.out hgn0 HLN0.out (f0.more T.size)).mono ?_
      rintro e w16 ⟨g_t5, rs_t5, rfl, hz_t5, hnn_t5, hown, hb⟩
      clear hnn_t5
      have s16 : w15.heap.size ≤ w16.heap.size := hb.size
      replace T := T.trans (hb.mono (by omega))
      replace f0 := f0.below (hb.mono (by omega))
      replace f1 := Ins.at_below f1 hb (by omega)
      replace r_t1 := r_t1.below hb
      replace r_t2 := r_t2.below hb
      replace r_w0 := r_w0.below hb
      replace r_x0 := r_x0.below hb
      replace r_x1 := r_x1.below hb
      replace r_g0 := r_g0.below hb
      replace r_t3 := r_t3.below hb
      replace r_t4 := r_t4.below hb
      clear hb
      have r_t5 := hown
      clear hown
      go_wp2_with fail
      refine (Ins.to_any A1 n1 c1 l1 _ HN1.out hg1 (f1.more T.size)).mono ?_
      rintro e w17 ⟨g_t6, rfl, hgg, hown, hb⟩
      have s17 : w16.heap.size ≤ w17.heap.size := hb.size
      replace T := T.trans (hb.mono (by omega))
      replace f0 := f0.below (hb.mono (by omega))
      replace f1 := Ins.at_below f1 hb (by omega)
      replace r_t1 := r_t1.below hb
      replace r_t2 := r_t2.below hb
      replace r_w0 := r_w0.below hb
      replace r_x0 := r_x0.below hb
      replace r_x1 := r_x1.below hb
      replace r_g0 := r_g0.below hb
      replace r_t3 := r_t3.below hb
      replace r_t4 := r_t4.below hb
      replace r_t5 := r_t5.below hb
      clear hb
      have r_t6 := Ins.Row.mk hown
      clear hgg hown
      go_wp2_with fail
      refine ((Knc.impl_sides (some ⟨g_t5, 0, none⟩) n0 n0 rs_t5 (some ⟨g_t6, 0, none⟩) n1 n1 l1 _ r_t5.len (Sst.at_of r_t5) (Kno.fits_of HS0.out hz_t5 r_t5.len) (fun i _ => Big.big_len hz_t5 HBG0.out i) (by omega) HN1.out (by omega) hz1 r_t6.at_).mono (fun _ _ h => Big.cast (by rw [hz_t5, HR.out]) h)).mono ?_
      rintro e w18 ⟨A_h0, c_h0, rs_h0, rfl, hz_h0, hown, hb⟩
      have s18 : w17.heap.size ≤ w18.heap.size := hb.size
      replace T := T.trans (hb.mono (by omega))
      replace f0 := f0.below (hb.mono (by omega))
      replace f1 := Ins.at_below f1 hb (by omega)
      replace r_t1 := r_t1.below hb
      replace r_t2 := r_t2.below hb
      replace r_w0 := r_w0.below hb
      replace r_x0 := r_x0.below hb
      replace r_x1 := r_x1.below hb
      replace r_g0 := r_g0.below hb
      replace r_t3 := r_t3.below hb
      replace r_t4 := r_t4.below hb
      replace r_t5 := r_t5.below hb
      replace r_t6 := r_t6.below hb
      clear hb
      have r_h0 := hown
      clear hown
      go_wp2_with fail
      refine (Rws.eq_ss _ _ _ _ A_h0 A_w0 res.length c_h0 c_w0 rs_h0 rs_w0 _ r_h0 r_w0 (hz_h0.trans hz_w0.symm) (by omega) (fun i _ => Nat.le_trans (Big.big_len hz_h0 HSS.out i) (by omega))).mono ?_
      rintro e w19 ⟨rfl, hb⟩
      have s19 : w18.heap.size ≤ w19.heap.size := hb.size
      replace T := T.trans (hb.mono (by omega))
      replace f0 := f0.below (hb.mono (by omega))
      replace f1 := Ins.at_below f1 hb (by omega)
      replace r_t1 := r_t1.below hb
      replace r_t2 := r_t2.below hb
      replace r_w0 := r_w0.below hb
      replace r_x0 := r_x0.below hb
      replace r_x1 := r_x1.below hb
      replace r_g0 := r_g0.below hb
      replace r_t3 := r_t3.below hb
      replace r_t4 := r_t4.below hb
      replace r_t5 := r_t5.below hb
      replace r_t6 := r_t6.below hb
      replace r_h0 := r_h0.below hb
      clear hb
      go_wp2_with fail
      refine (Rws.held_ss _ _ A_g0 res.length c_g0 rs_g0 _ _ (by omega) (by omega) (by omega) r_g0).mono ?_
      rintro e w' ⟨rfl, rfl⟩
      go_wp2
      go_ret
      exact ⟨rfl, T⟩
    · go_enter Try.func8, Try.ntmps8
      go_wp2_with fail
      refine (Sst.sz_ss A0 n0 c0 l0 1048576 _ HN0.out hx0 HS0.out (by omega) ha0).mono ?_
      rintro e w' ⟨rfl, rfl⟩
      rw [if_neg hg0]
      go_wp2
      go_ret
      exact ⟨rfl, Below.refl _ w⟩
  · have hk1 : (1048576 : Int) < (n1 : Int) := by omega
    go_enter Try.func8, Try.ntmps8
    go_wp2
    go_ret
    first | exact ⟨rfl, Below.refl _ w⟩ | exact ⟨rfl, (Below.refl _ w).alloc (Nat.le_refl _) _⟩
set_option maxRecDepth 100000 in
theorem lifted (os : Os) (started : os.Started) (H : Type) (enc : TypeId × Value → H) :
    ReturnsInHanded {} Try.checked os 8 .any (Rows.fnExactSeeSidesSpec.pre6 enc Try.prog Try.f8 Rows.fnExactSeeSidesRow.domain false) (Rows.fnExactSeeSidesSpec.post enc Try.prog Try.f8 false true false false) := by
  refine returnsInHanded_of_change (C := Try.checked) Fr.own started (by kernel_rfl) Try.func8
    (ChangeSpec.witness6 (enc := enc) (C := Try.checked) false ⟨#[], #[.slice none 0 0, .slice none 0 0], []⟩ 8 (by kernel_rfl) (by kernel_rfl) (by kernel_rfl) (by kernel_rfl)) ?_
  intro W base args ds gs before hval0 hW hcnd _
  have hval : ∀ (j : Nat) t v, Try.f8.params[j]? = some t → args[j]? = some v → Value.okWide Try.prog W .any base t v := hval0
  have hW' := hW
  obtain ⟨p, q, hA0, hV, rfl, hfz, hnd⟩ := hW
  have hA : DataW.TrodAll enc Try.prog W 0 (fun _ => true) true Try.f8.params.toList args.toList ds p := hA0
  have hAk := hA
  rw [Try.params8] at hA hval
  obtain ⟨v0, v1, d0, d1, p0, p1, rfl, rfl, hp, h0, h1⟩ := trodAll_two hA
  obtain ⟨rfl, rfl⟩ := trodVars_none hV
  have hlt : ∀ x ∈ p, x.block < W.heap.size := fun x hx => by simpa using hW'.lt x (List.mem_append_left _ hx)
  obtain ⟨A0, n0, c0, l0, rfl, hn0, hm0, hs0, ha0⟩ := Sst.view_intss Try.underlying22 Try.underlying31 Try.underlying3 (by kernel_rfl) (by kernel_rfl) (hval 0 22 v0 rfl rfl) h0 (fun x hx => hlt x (by rw [hp]; simp [hx]))
  obtain ⟨A1, n1, c1, l1, rfl, hn1, hm1, hs1, ha1⟩ := Fr.view_nums Try.underlying31 Try.underlying3 (by kernel_rfl) (hval 1 31 v1 rfl rfl) h1 (fun x hx => hlt x (by rw [hp]; simp [hx]))
  clear hA0 hval0
  refine (walk A0 n0 c0 l0 A1 n1 c1 l1 W hn0 hm0 hs0 ha0 hn1 hm1 hs1 ha1).mono fun e W' ⟨he, hb⟩ => ?_
  subst he
  exact ⟨_, rfl, _, _, _, [], p, [], hW', trodAll_mk1 (shut_bool Try.underlying4 _), Fr.below_all Fr.laidOut hb _ _ _ _ (Fr.readB_all (by kernel_rfl)) hAk hlt, rfl, hb.frame _, fun h => by cases h⟩

/-- a call in which nobody else is about leaves nobody behind -/
theorem leave_of_handed {a : Assume} {C : Checked} {os : Os} {f : FuncId} {r : Reach} {Pre : World → Array Value → Prop} {Post : World → Array Value → Value → World → Prop} (h : ReturnsInHanded a C os f r Pre Post) : ReturnsInLeavingWide a C os f r Pre Post :=
  fun enter => ReturnsInOpen.mono (fun _ _ _ x => ⟨x.2.1, onlyLeaving_of_quiet x.1, x.2.2⟩) (fun _ x => x) (h enter)

theorem proved : Rows.FnExactSeeSidesSaid :=
  OpenClaim.holds_of_wide_leaving 8 Try.f8 rfl rfl rfl rfl rfl rfl rfl ⟨rfl, rfl, rfl, rfl, rfl⟩ rfl rfl rfl rfl rfl (by kernel_rfl) Try.func8 (by kernel_rfl)
    (of_decide_eq_true (by kernel_rfl)) (by unfold Func.isWrapper; first | (rw [if_pos (by decide +kernel)]; kernel_rfl) | (rw [if_neg (by decide +kernel)]; exact ⟨rfl, rfl⟩))
    (fun os started H enc _ => leave_of_handed (lifted os started H enc))

end Go.Proofs.Ythcggkhpamjjbaa.LawSeeSides
