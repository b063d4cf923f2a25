/- HasBlocks of the program: a range over the blocks. -/
import Derived.Test.YtpmfiflpipcojaaGih
set_option linter.unusedVariables false
set_option maxRecDepth 20000
namespace Go.Proofs.Ytpmfiflpipcojaa.Gii
open Go.RowKit Go.Shelf Fr _root_.Go.Proofs.Ytpmfiflpipcojaa.Own Pk Ins Prm Pfn Rws Rfn Rfv Gip Gib Gih

attribute [local go_sem] Oper.semAt_some
theorem load_b {W : World} {b : Nat} {v : Value} (h : W.cell? ⟨b, 0, none⟩ = some v) : (loadVar 4 ⟨b, 0, none⟩).run Try.prog W = .ok v W := by
  have hu := run_underlying Try.underlying4
  simp [go_sem, loadVar, isAgg, hu, h]
/-- what holds between the blocks -/
def EvB (w : World) (b1 b o n c S : Nat) (W : World) : Prop :=
  Below w.heap.size w W ∧ Boxed W w.heap.size 3 (.int .i64 S) ∧ Boxed W (w.heap.size + 1) 4 (.bool false) ∧ KPc b1 (b1 + 1) b o n c S W ∧ b1 + 2 ≤ W.heap.size
theorem EvB.low {w W W' : World} {b1 b o n c S : Nat} (h : EvB w b1 b o n c S W) (hb : Below (b1 + 2) W W') (h1 : w.heap.size + 1 < b1) : EvB w b1 b o n c S W' :=
  ⟨h.1.trans (hb.mono (by omega)), (hb.block _ (by omega)).trans h.2.1, (hb.block _ (by omega)).trans h.2.2.1,
    ⟨(hb.cell (p := ⟨b1, 0, none⟩) (by show b1 < _; omega)).trans h.2.2.2.1.1, (hb.cell (p := ⟨b1 + 1, 0, none⟩) (by show b1 + 1 < _; omega)).trans h.2.2.2.1.2⟩, Nat.le_trans h.2.2.2.2 hb.size⟩
theorem low_grw {B : Nat} {W W' : World} (h : Grw B W W') (hB : B ≤ W.heap.size) : Below B W W' := by
  rcases h.below with h | h
  · exact h
  · omega
theorem EvB.stored {w W : World} {b1 b o n c S : Nat} (h : EvB w b1 b o n c S W) : Below w.heap.size w (W.setCell ⟨w.heap.size + 1, 0, none⟩ (.bool false)) ∧ Boxed (W.setCell ⟨w.heap.size + 1, 0, none⟩ (.bool false)) (w.heap.size + 1) 4 (.bool false) :=
  ⟨h.1.setCell (p := ⟨w.heap.size + 1, 0, none⟩) (by show w.heap.size ≤ w.heap.size + 1; omega) _, h.2.2.1.set _⟩
/-- the marks of block j behind t cards -/
def mkF (zs : List Int) (S j t v : Nat) : Bool := (List.range t).any fun x => rr zs S (j * S + x) == v
theorem mkF_zero (zs : List Int) (S j : Nat) : brow 12 (mkF zs S j 0) = List.replicate 12 (.bool false) := by
  rw [← brow_none]; exact brow_congr fun v _ => by simp [mkF]
theorem mkF_next (zs : List Int) (S j t : Nat) : (brow 12 (mkF zs S j t)).set (rr zs S (j * S + t)) (.bool true) = brow 12 (mkF zs S j (t + 1)) := by
  rw [brow_set]
  refine brow_congr fun v _ => ?_
  unfold mkF
  rw [List.range_succ, List.any_append, Bool.eq_iff_iff]
  simp only [Bool.or_eq_true, decide_eq_true_eq, List.any_cons, List.any_nil, Bool.or_false, beq_iff_eq]
  constructor
  · rintro (h | h)
    · exact Or.inl h
    · exact Or.inr h.symm
  · rintro (h | h)
    · exact Or.inl h
    · exact Or.inr h.symm
theorem mod_in {S j t : Nat} (h : t < S) : (j * S + t) % S = t := by rw [Nat.mul_comm, Nat.mul_add_mod, Nat.mod_eq_of_lt h]
theorem mk_hit {zs : List Int} {S j t : Nat} (ht : t < S) (hi : j * S + t < zs.length) (h : mkF zs S j t (rr zs S (j * S + t)) = true) : blkB zs (S : Int) = false := by
  unfold mkF at h
  rw [List.any_eq_true] at h
  obtain ⟨x, hx, he⟩ := h
  rw [List.mem_range] at hx
  exact blk_bad (i := j * S + t) (k := j * S + x) hi (by rw [mod_in ht]; omega) (by omega) (beq_iff_eq.1 he)
theorem mk_miss {zs : List Int} {S j t : Nat} (ht : t < S) (h : mkF zs S j t (rr zs S (j * S + t)) = false) : okBlk zs S (j * S + t) = true := by
  rw [okBlk_iff, mod_in ht]
  intro k h1 h2 he
  unfold mkF at h
  rw [List.any_eq_false] at h
  refine h (k - j * S) (List.mem_range.2 (by omega)) ?_
  rw [show j * S + (k - j * S) = k by omega, he]
  exact beq_self_eq_true _
def Res (zs : List Int) (s : Int) (w : World) (e : Ending) (w' : World) : Prop := e = .returned (.bool (blkB zs s)) ∧ Below w.heap.size w w'
theorem blk_end {w W : World} {ms : List Nat} {zs : List Int} {s : Int} {b : Bool} {tmps : Array Value} {n : Nat} (hb : Below w.heap.size w W) (h4 : Boxed W (w.heap.size + 1) 4 (.bool b))
    (hm : ms.Nodup ∧ ∀ D ∈ ms, w.heap.size ≤ D ∧ W.heap[D]? = some (.deferred (some []))) (e4 : tmps.getD 4 undef = .pointer (some ⟨w.heap.size + 1, 0, none⟩)) (hr : blkB zs s = b) :
    LeavesInM Fence.wide n Try.prog Try.f15 tmps (Res zs s w) (marks ms) .returning W := by
  refine leave_marks (B := w.heap.size) ms W hm.1 hm.2 fun W' hg => ?_
  refine ⟨_, results_cell1 rfl _ e4 (load_b (hg.cell h4.cell)), by rw [hr], ?_⟩
  rcases hg.below with h | h
  · exact hb.trans h
  · have := hb.size; omega
theorem entry (w : World) (s : Int) : Below w.heap.size w ((w.alloc (.cells #[.int .i64 s] 3)).alloc (.cells #[.bool false] 4)) ∧ Boxed ((w.alloc (.cells #[.int .i64 s] 3)).alloc (.cells #[.bool false] 4)) w.heap.size 3 (.int .i64 s) ∧
    Boxed ((w.alloc (.cells #[.int .i64 s] 3)).alloc (.cells #[.bool false] 4)) (w.heap.size + 1) 4 (.bool false) := by
  refine ⟨((Below.refl _ w).alloc (Nat.le_refl _) _).alloc (by simp) _, (Boxed.new w _ _).alloc _, ?_⟩
  have := Boxed.new (w.alloc (.cells #[.int .i64 s] 3)) 4 (.bool false)
  rwa [World.size_alloc] at this
theorem chunk_ent : ∀ args w, (callFunc 71 args).run Try.prog w = .ok (.enter 71 args) w := enters_of Try.func71 (by kernel_rfl) rfl

set_option maxHeartbeats 4000000 in
set_option maxRecDepth 100000 in
theorem impl_blk (A : Option Addr) (n c : Nat) (zs : List Int) (s : Int) (w : World) (hn : zs.length = n) (hnc : n ≤ c) (hn2 : n ≤ 9223372036854775807) (hz : Fits zs) (hss : IntsAt w w.heap.size .i64 A zs) :
    Calls Try.prog 15 #[.slice A n c, .int .i64 s] w (Res zs s w) := by
  refine (callsIn_wide (n := 8)).1 (callsIn_of_wp_marks Try.func15 rfl trivial ?_ rfl)
  simp only [Try.ntmps15, List.size_toArray, List.length_cons, List.length_nil, Nat.reduceAdd, Nat.reduceSub, Array.replicate_succ, Array.replicate_zero, List.push_toArray, List.append_toArray, List.nil_append, List.cons_append]
  refine wpIn_wide.2 ?_
  have HN := Lib.hid hn
  have HSS := Lib.hid hss
  obtain ⟨hb0, hx0, hy0⟩ := entry w s
  have HF := Lib.hid (impl_perm A n c zs _ hn hn2 hz ((hss.below hb0).more hb0.size))
  have HSH := Lib.hid (@perm_short zs)
  have HIR := Lib.hid (@inR_perm zs)
  clear hn hss hz
  go_wp2_with fail
  generalize (w.alloc (.cells #[.int .i64 s] 3)).alloc (.cells #[.bool false] 4) = w0 at *
  refine HF.out.mono ?_
  rintro e w1 ⟨rfl, hb1⟩
  have hx1 : Boxed w1 w.heap.size 3 (.int .i64 s) := (hb1.block _ hx0.lt).trans hx0
  have hy1 : Boxed w1 (w.heap.size + 1) 4 (.bool false) := (hb1.block _ hy0.lt).trans hy0
  have hbw := hb0.trans (hb1.mono hb0.size)
  clear hb0 hb1 hx0 hy0 HF
  have hcx := hx1.cell
  have hcy := hy1.cell
  have hfy := hy1.frozen
  have HX1 := Lib.hid hx1
  have HY1 := Lib.hid hy1
  have HBW := Lib.hid hbw
  have hszw := hbw.size
  have hsy := hy1.lt
  clear hx1 hy1 hbw
  have hbe : Below w.heap.size w (w1.setCell ⟨w.heap.size + 1, 0, none⟩ (.bool false)) := HBW.out.setCell (p := ⟨w.heap.size + 1, 0, none⟩) (by show w.heap.size ≤ w.heap.size + 1; omega) _
  have HBE := Lib.hid hbe
  clear hbe
  cases hp : permB zs with
  | false =>
    have HS := Lib.hid (blk_no (s := s) hp)
    clear hp hcx
    go_wp2
    exact blk_end (ms := []) HBE.out (HY1.out.set _) ⟨List.nodup_nil, fun D hD => by cases hD⟩ rfl HS.out
  | true =>
    have h12 := HSH.out hp
    rw [HN.out] at h12
    have hin := HIR.out hp
    rw [HN.out] at hin
    by_cases h1 : s < 1
    · have HS := Lib.hid (blk_out (s := s) (zs := zs) (by omega))
      clear hp hin
      go_wp2
      exact blk_end (ms := []) HBE.out (HY1.out.set _) ⟨List.nodup_nil, fun D hD => by cases hD⟩ rfl HS.out
    · have h1' : decide (s < 1) = false := decide_eq_false h1
      by_cases h2 : (n : Int) < s
      · have HS := Lib.hid (blk_out (s := s) (zs := zs) (by rw [HN.out]; omega))
        clear hp hin
        go_wp2
        exact blk_end (ms := []) HBE.out (HY1.out.set _) ⟨List.nodup_nil, fun D hD => by cases hD⟩ rfl HS.out
      · have h2' : decide ((n : Int) < s) = false := decide_eq_false h2
        obtain ⟨S, rfl⟩ : ∃ S : Nat, s = S := ⟨s.toNat, by omega⟩
        have h3' : decide (n < S) = false := decide_eq_false (by omega)
        have h4' : decide (S < 1) = false := decide_eq_false (by omega)
        have HP := Lib.hid hp
        have HIN := Lib.hid hin
        clear hp hin
        obtain ⟨b, o, rfl, hbb, hcz⟩ := HSS.out 0 (by rw [HN.out]; omega)
        clear hcz
        go_wp2_with fail
        refine (chunk_any (some ⟨b, o, none⟩) n c S w1 (by omega)).mono ?_
        rintro e w2 ⟨rfl, hw2⟩
        go_wp2_with fail
        have hb12 : w.heap.size + 1 < w1.heap.size := hsy
        have hw1 : Below w1.heap.size w1 w2 := by rw [← hw2]; exact ((Below.refl _ w1).alloc (Nat.le_refl _) _).alloc (by simp) _
        have hsz2 : w2.heap.size = w1.heap.size + 2 := by rw [← hw2]; simp
        have hk2 : KPc w1.heap.size (w1.heap.size + 1) b o n c S w2 := by
          rw [← hw2]
          refine ⟨?_, ?_⟩
          · have h1 := (Boxed.new w1 23 (.slice (some ⟨b, o, none⟩) n c)).alloc (.cells #[.int .i64 S] 3)
            exact h1.cell
          · have h1 := Boxed.new (w1.alloc (.cells #[.slice (some ⟨b, o, none⟩) n c] 23)) 3 (.int .i64 S)
            rw [World.size_alloc] at h1
            exact h1.cell
        have hE : EvB w w1.heap.size b o n c S w2 := ⟨HBW.out.trans (hw1.mono hszw), (hw1.block _ (by omega)).trans HX1.out, (hw1.block _ (by omega)).trans HY1.out, hk2, by omega⟩
        have HE := Lib.hid hE
        have HSZ2 := Lib.hid hsz2
        clear hw1 hsz2 hk2 hE hw2 HBE HBW HX1 HY1 hcx hcy hfy hsy
        generalize w1.heap.size = b1 at *
        have hit := chunk_iter b1 (b1 + 1) b o n c S (by omega) (by omega) h12 hnc
        have HIT := Lib.hid hit
        clear hit
        refine wp_rangeV (gf := 71) rfl chunk_ent HIT.out rfl
          (fun j W => EvB w b1 b o n c S W ∧ ∀ i, i < j * S → i < n → okBlk zs S i = true)
          (fun cc W => cc = .ret ∧ Below w.heap.size w W ∧ Boxed W (w.heap.size + 1) 4 (.bool false) ∧ blkB zs (S : Int) = false ∧ b1 + 2 ≤ W.heap.size)
          (fun k W h => h.1.2.2.2.1) (fun k W W' h hg => ⟨h.1.low (by rw [HSZ2.out] at hg; exact low_grw hg h.1.2.2.2.2) hb12, h.2⟩)
          (fun cc W W' h hg => by
            rw [HSZ2.out] at hg
            have hl := low_grw hg h.2.2.2.2
            exact ⟨h.1, h.2.1.trans (hl.mono (by omega)), (hl.block _ (by omega)).trans h.2.2.1, h.2.2.2.1, Nat.le_trans h.2.2.2.2 hl.size⟩)
          ⟨HE.out, fun i hi => absurd hi (by simp)⟩
          (fun v => { tmps := #[.slice (some ⟨b, o, none⟩) n c, .int .i64 S, undef, .pointer (some ⟨w.heap.size, 0, none⟩), .pointer (some ⟨w.heap.size + 1, 0, none⟩), v, undef, undef, undef, .slice (some ⟨b, o, none⟩) n c, .bool true, .bool false, .bool false, .int .i64 S, .bool false, .bool false, .bool false, .int .i64 S, .slice (some ⟨b, o, none⟩) n c, .int .i64 n, .bool false, .bool false, .slice (some ⟨b, o, none⟩) n c, .int .i64 S,
            .func (.func 71) #[] #[.pointer (some ⟨b1, 0, none⟩), .pointer (some ⟨b1 + 1, 0, none⟩)], v, undef, undef, undef, undef, undef, undef, undef, undef, undef, undef, undef, undef, undef, undef, undef, undef], defers := [] }) ?assign ?body ?done ?stop
        case assign =>
          intro l x W1 K hK
          gi_wp2
          exact hK
        case body =>
          rintro l j W0 W hj ⟨hE0, hG0⟩ hg0 hs0
          rw [HSZ2.out] at hg0 hs0
          rw [HSZ2.out]
          have hE := hE0.low (low_grw hg0 hs0) hb12
          rw [chVs_len] at hj
          rw [chVs_get hj]
          have hjn := (chK_lt (by omega)).1 hj
          unfold chV
          obtain ⟨q, hq⟩ : ∃ q, q = j * S := ⟨_, rfl⟩
          rw [← hq]
          rw [← hq] at hjn
          obtain ⟨M, hM⟩ : ∃ M, M = min S (n - q) := ⟨_, rfl⟩
          rw [← hM]
          have hsW : b1 + 2 ≤ W.heap.size := hE.2.2.2.2
          have hseen : (W.alloc (.cells #[.bool false, .bool false, .bool false, .bool false, .bool false, .bool false, .bool false, .bool false, .bool false, .bool false, .bool false, .bool false] 54)).ownsRow W.heap.size 54 1 (.slice (some ⟨W.heap.size, 0, none⟩) 12 12) 12 (brow 12 (mkF zs S j 0)) := by
            rw [mkF_zero]
            exact World.ownsRow_lit W _ 12 (Nat.le_refl _) (by unfold maxLen; omega) rfl
          have hEa := hE.low ((Below.refl (b1 + 2) W).alloc hsW (.cells #[.bool false, .bool false, .bool false, .bool false, .bool false, .bool false, .bool false, .bool false, .bool false, .bool false, .bool false, .bool false] 54)) hb12
          have hKa : KeepsFrom (b1 + 2) W (W.alloc (.cells #[.bool false, .bool false, .bool false, .bool false, .bool false, .bool false, .bool false, .bool false, .bool false, .bool false, .bool false, .bool false] 54)) := (KeepsOthers.alloc W _).from _
          have HQ := Lib.hid hq
          have HM := Lib.hid hM
          have HSN := Lib.hid hseen
          have HEA := Lib.hid hEa
          have HKA := Lib.hid hKa
          have HG0 := Lib.hid hG0
          have hMn : q + M ≤ n := by omega
          have hMS : M ≤ S := by omega
          have hS12 : S ≤ 12 := by omega
          have hS0 : ((S : Int) == 0) = false := by simp; omega
          have hS0' : ¬ S = 0 := by omega
          clear hq hM hseen hEa hKa hE hE0 hG0 hg0 hs0 hj
          gi_wp2
          gi_loopw [8, 28] (fun _ i wr => ∃ t : Nat, t ≤ M ∧ i = .int .i64 (t : Int) ∧ Hid (∀ x, x < t → okBlk zs S (j * S + x) = true) ∧ wr.ownsRow W.heap.size 54 1 (.slice (some ⟨W.heap.size, 0, none⟩) 12 12) 12 (brow 12 (mkF zs S j t)) ∧ Hid (EvB w b1 b o n c S wr) ∧ Hid (KeepsFrom (b1 + 2) W wr)) (fun _ i _ => M - (intOf i).toNat)
          case atStart => exact ⟨0, Nat.zero_le _, rfl, (fun x hx => absurd hx (Nat.not_lt_zero _)), HSN.out, HEA.out, HKA.out⟩
          case round =>
            obtain ⟨t, ht, rfl, HOK, hsn, HE1, HK1⟩ := hrel
            clear HSN HEA HKA
            by_cases hlt : t < M
            · have htS : t < S := by omega
              obtain ⟨b', o', e, hbb', hc⟩ := (HSS.out.below HE1.out.1) (q + t) (by rw [HN.out]; omega)
              simp only [Option.some.injEq, Addr.mk.injEq, and_true] at e
              obtain ⟨rfl, rfl⟩ := e
              have hx := HIN.out (q + t) (by rw [HN.out]; omega)
              obtain ⟨y, hy⟩ : ∃ y : Nat, zs.getD (q + t) 0 = y := ⟨(zs.getD (q + t) 0).toNat, by omega⟩
              rw [hy] at hc hx
              rw [← Nat.add_assoc] at hc
              have hr : rr zs S (j * S + t) = y % S := by unfold rr; rw [← HQ.out, hy, Int.toNat_natCast]
              have hrS : y % S < S := Nat.mod_lt _ (by omega)
              have hm2 := nat_tmod y S
              have hcell : wr.cell? ⟨W.heap.size, y % S, none⟩ = some (.bool (mkF zs S j t (y % S))) := by rw [hsn.cellAt (y % S) (by omega)]; exact brow_get (by omega)
              have hst := hsn.stored (y % S) (.bool true)
              have hnx := mkF_next zs S j t
              have HHIT := Lib.hid (mk_hit (zs := zs) (j := j) htS (by rw [HN.out, ← HQ.out]; omega))
              have HMISS := Lib.hid (mk_miss (zs := zs) (j := j) htS)
              rw [hr] at hnx HHIT HMISS
              rw [hnx] at hst
              have hfz := hsn.frozenAt (y % S)
              have hyl : (y : Int) < 12 := by omega
              clear hnx hr hy hx
              generalize y % S = r at *
              have hr12 : r < 12 := by omega
              have hcS := HE1.out.2.1.cell
              have hcy := HE1.out.2.2.1.cell
              have hfy := HE1.out.2.2.1.frozen
              have HST := Lib.hid hst
              cases hmk : mkF zs S j t r with
              | true =>
                rw [hmk] at hcell
                have HS := Lib.hid (HHIT.out hmk)
                have HSD := Lib.hid HE1.out.stored
                have HKD := Lib.hid (HK1.out.trans ((KeepsOthers.setCell wr ⟨w.heap.size + 1, 0, none⟩ (.bool false)).from (b1 + 2)))
                have HSZ := Lib.hid HE1.out.2.2.2.2
                clear hmk HHIT HMISS hst hfz hsn
                gi_wp2
                exact ⟨HKD.out, rfl, HSD.out.1, HSD.out.2, HS.out, by simpa using HSZ.out⟩
              | false =>
                rw [hmk] at hcell
                have HS := Lib.hid (show ∀ x, x < t + 1 → okBlk zs S (j * S + x) = true from fun x hx => by
                  by_cases e : x = t
                  · rw [e]; exact HMISS.out hmk
                  · exact HOK.out x (by omega))
                have HE2 := Lib.hid (HE1.out.low ((Below.refl (b1 + 2) wr).setCell (p := ⟨W.heap.size, r, none⟩) hsW (.bool true)) hb12)
                have HKD := Lib.hid (HK1.out.trans ((KeepsOthers.setCell wr ⟨W.heap.size, r, none⟩ (.bool true)).from (b1 + 2)))
                clear hmk HHIT HMISS hst hsn hcy hfy
                gi_wp2
                go_roundw
                case rel => exact ⟨t + 1, by omega, by go_num, HS.out, HST.out.1, HE2.out, HKD.out⟩
                case measure => simp [intOf]; omega
            · have htM : t = M := by omega
              have HS := Lib.hid (show ∀ i, i < (j + 1) * S → i < n → okBlk zs S i = true from fun i h1 h2 => by
                rw [Nat.succ_mul, ← HQ.out] at h1
                by_cases e : i < j * S
                · exact HG0.out i e h2
                · rw [← HQ.out] at e
                  have hm := HM.out
                  have := HOK.out (i - q) (by omega)
                  rw [← HQ.out, show q + (i - q) = i by omega] at this
                  exact this)
              clear hsn
              gi_wp2
              exact ⟨HK1.out, HE1.out, HS.out⟩
        case done =>
          rintro D W1 hD ⟨hE, hG⟩ hK
          rw [HSZ2.out] at hD
          rw [chVs_len] at hG
          have HS := Lib.hid (blk_good HP.out (show 1 ≤ S by omega) (by rw [HN.out]; omega) (fun i hi => by
            rw [HN.out] at hi
            refine hG i ?_ hi
            by_cases e : i < chK n S * S
            · exact e
            · have h1 := (chK_lt (n := n) (S := S) (j := chK n S) (by omega)).2 (by omega)
              omega))
          have hcy := hE.2.2.1.cell
          have hfy := hE.2.2.1.frozen
          have HB := Lib.hid (hE.1.setCell (p := ⟨w.heap.size + 1, 0, none⟩) (by show w.heap.size ≤ w.heap.size + 1; omega) (.bool true))
          have HY := Lib.hid (hE.2.2.1.set (.bool true))
          have HKD := Lib.hid (show (W1.setCell ⟨w.heap.size + 1, 0, none⟩ (.bool true)).heap[D]? = some (.deferred (some [])) from (Below.heap_setCell W1 ⟨w.heap.size + 1, 0, none⟩ (.bool true) D (fun e => by simp only at e; omega)).trans hK)
          clear hE hG hK
          go_wp2
          exact blk_end (ms := [D]) HB.out HY.out ⟨by simp, fun E hE => by simp at hE; subst hE; exact ⟨by omega, HKD.out⟩⟩ rfl HS.out
        case stop =>
          rintro D cc W1 hD ⟨rfl, hX, hY, hr, hs⟩ hK
          rw [HSZ2.out] at hD
          have HB := Lib.hid hX
          have HY := Lib.hid hY
          have HR := Lib.hid hr
          have HKD := Lib.hid hK
          clear hX hY hr hK
          go_wp2
          exact blk_end (ms := [D]) HB.out HY.out ⟨by simp, fun E hE => by simp at hE; subst hE; exact ⟨by omega, HKD.out⟩⟩ rfl HR.out
end Go.Proofs.Ytpmfiflpipcojaa.Gii
