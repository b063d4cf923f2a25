/- FindCode of the program. -/
import Derived.Test.YtefgcnjbiaileaaFcd
import Derived.Test.YtefgcnjbiaileaaHce
import Derived.Deep.RegionHeld3
set_option linter.unusedVariables false
set_option maxRecDepth 20000
namespace Go.Proofs.Ytefgcnjbiaileaa.Fci
open Go.Deep Go.RowKit Go.Maps Fr _root_.Go.Proofs.Ytefgcnjbiaileaa.Own Pk Ins Pfn Rws Srt Sst Map Hnd Hco Cde Col Him Wit Pkn Fcp Usr Pth Fcd

theorem give_next (R : List Use) (t : Nat) (ht : t < R.length) (x : Fst) : giveF (R.take (t + 1)) x = (putF (giveF (R.take t) x).1 (numF (R.getD t (0, [])).2) (R.getD t (0, [])).1, (giveF (R.take t) x).2.set (R.getD t (0, [])).1.toNat (R.getD t (0, [])).2) := by
  unfold giveF
  rw [List.take_succ_eq_append_getElem ht, List.foldl_append, List.getD_eq_getElem?_getD, List.getElem?_eq_getElem ht]
  rfl
theorem ab_get {p : List (Int × RD)} {R : List Use} (h : p.map ab = R) (t : Nat) (ht : t < R.length) : R.getD t (0, []) = ab (p.getD t u0) := by
  subst h
  rw [List.length_map] at ht
  simp [List.getD_eq_getElem?_getD, List.getElem?_eq_getElem ht]
theorem hands_ok {n k : Int} (h1 : 1 ≤ n ∧ n ≤ 8 ∧ 1 ≤ k ∧ k ≤ n) (h3 : k ≤ 3) : ∀ q ∈ handsI n k, q.length ≤ 3 ∧ 1 ≤ q.length ∧ ∀ x ∈ q, 0 ≤ x ∧ x < 12 := by
  intro q hq
  unfold handsI at hq
  rw [if_pos h1] at hq
  have hl := hands_each _ _ _ q hq
  rw [← (chk_h (n := n.toNat) (k := k.toNat) (by omega) (by omega)).1] at hq
  have := (chk_h (n := n.toNat) (k := k.toNat) (by omega) (by omega)).2 q hq
  exact ⟨by omega, by omega, fun x hx => by have := this x hx; omega⟩
theorem found_some {Hs : List (List Int)} {b : Bool} {x : Fst} (h : findF Hs Hs.length = some (b, x)) : (foundF Hs).1 = b ∧ (b = true → (foundF Hs).2 = x.2) := by
  unfold foundF
  rw [h]
  cases b
  · exact ⟨rfl, fun h => by cases h⟩
  · exact ⟨rfl, fun _ => rfl⟩
/-- what the loop over the hands keeps -/
structure Lp (w : World) (Hs : List (List Int)) (M lo mid bu gs c : Nat) (A : Option Addr) (rs : List RD) (i : Nat) (wr : World) : Prop where
  st : ∃ es sh r2, findF Hs i = some (true, (es, sh)) ∧ (es.map Prod.fst).Nodup ∧ (∀ e ∈ es, 0 ≤ e.2 ∧ e.2 < (M : Int)) ∧ MapE Try.prog 3 wr bu (es.map Usr.encI) ∧ SSRow wr mid wr.heap.size (some ⟨gs, 0, none⟩) M M r2 ∧ r2.map RD.zs = sh
  hands : SSRow wr lo mid A M c rs
  box : wr.heap[w.heap.size]? = some (.cells #[.int .i64 0, .slice none 0 0, .slice none 0 0] 26 (0, 0))
  bel : Below w.heap.size w wr
  bus : bu < wr.heap.size
theorem ss_map {P : Program} {kt : TypeId} {W W' : World} {lo hi n c b : Nat} {A : Option Addr} {rs : List RD} {kv : List (Value × Value)} (h : SSRow W lo hi A n c rs) (hm : MapE P kt W b kv) (hg : W.grownBy W' (some b)) : SSRow W' lo hi A n c rs :=
  ⟨own_gr h.1 hg fun k hk e => by cases e; exact map_ne hm h.1 _ hk rfl, fun i hi' => ⟨own_gr (h.2.1 i hi').1 hg fun k hk e => by cases e; exact map_ne hm (h.2.1 i hi').1 _ hk rfl, (h.2.1 i hi').2.1, Nat.le_trans (h.2.1 i hi').2.2 hg.size⟩, h.2.2.1, h.2.2.2.1, Nat.le_trans h.2.2.2.2 hg.size⟩
theorem put_vals {es : List (Int × Int)} {k v : Int} {M : Nat} (h : ∀ e ∈ es, 0 ≤ e.2 ∧ e.2 < (M : Int)) (hv : 0 ≤ v ∧ v < (M : Int)) : ∀ e ∈ putF es k v, 0 ≤ e.2 ∧ e.2 < (M : Int) := by
  induction es with
  | nil =>
    intro e he
    simp [putF] at he
    subst he
    exact hv
  | cons a es ih =>
    intro e he
    rw [putF] at he
    split at he
    · rcases List.mem_cons.1 he with rfl | he
      · exact hv
      · exact h e (List.mem_cons_of_mem _ he)
    · rcases List.mem_cons.1 he with rfl | he
      · exact h _ List.mem_cons_self
      · exact ih (fun e he => h e (List.mem_cons_of_mem _ he)) e he
theorem ss_getD {rs : List RD} {i : Nat} {r : RD} (hi : i < rs.length) (j : Nat) : (rs.set i r).getD j rd0 = if j = i then r else rs.getD j rd0 := by
  simp only [List.getD_eq_getElem?_getD]
  by_cases e : j = i
  · subst e
    rw [List.getElem?_set_self hi, if_pos rfl]
    rfl
  · rw [List.getElem?_set_ne (fun e2 => e e2.symm), if_neg e]
/-- what the loop over a path keeps -/
structure Lq (w : World) (Hs : List (List Int)) (M lo mid bu gs c : Nat) (A : Option Addr) (rs : List RD) (x : Fst) (R : List Use) (g5 c5 N pb : Nat) (p : List (Int × RD)) (t : Nat) (wt : World) : Prop where
  st : ∃ r2, (((giveF (R.take t) x).1).map Prod.fst).Nodup ∧ (∀ e ∈ (giveF (R.take t) x).1, 0 ≤ e.2 ∧ e.2 < (M : Int)) ∧ MapE Try.prog 3 wt bu ((giveF (R.take t) x).1.map Usr.encI) ∧ SSRow wt mid wt.heap.size (some ⟨gs, 0, none⟩) M M r2 ∧ r2.map RD.zs = (giveF (R.take t) x).2 ∧
    ∀ j, j < M → ∀ q, (r2.getD j rd0).b = some q → q < pb ∨ ∃ i, i < t ∧ (p.getD i u0).2.b = some q
  hands : SSRow wt lo mid A M c rs
  box : wt.heap[w.heap.size]? = some (.cells #[.int .i64 0, .slice none 0 0, .slice none 0 0] 26 (0, 0))
  bel : Below w.heap.size w wt
  path : UR wt pb (some ⟨g5, 0, none⟩) N c5 p
  size : pb ≤ wt.heap.size
theorem ur_small {W : World} {lo n c : Nat} {A : Option Addr} {p : List (Int × RD)} (h : UR W lo A n c p) : n ≤ 9223372036854775807 := by
  obtain ⟨xs, h1, _⟩ := h.own
  rcases h1.2 with ⟨_, h0⟩ | ⟨g, cap, cur, hv, _, _, hc, hm, _⟩
  · omega
  · unfold maxLen at hm
    omega
set_option maxHeartbeats 8000000 in
theorem impl_find (n k : Int) (w : World) (h1 : -9223372036854775808 ≤ n) (h2 : n ≤ 9223372036854775807) (h3 : -9223372036854775808 ≤ k) (h4 : k ≤ 9223372036854775807) :
    Calls Try.prog 5 #[.int .i64 n, .int .i64 k] w (IsCB w.heap.size (fndD n k) (fndH n k) (fndS n k) (fndB n k) w) := by
  obtain ⟨W, hW⟩ : ∃ W, W = w.alloc (.cells #[.int .i64 0, .slice none 0 0, .slice none 0 0] 26) := ⟨_, rfl⟩
  have hb0 : Below w.heap.size w W := by rw [hW]; exact Cde.box_below w _
  have hP0 : W.heap[w.heap.size]? = some (.cells #[.int .i64 0, .slice none 0 0, .slice none 0 0] 26 (0, 0)) := by rw [hW]; exact heap_alloc_new w _
  have hs0 : w.heap.size < W.heap.size := by rw [hW]; simp
  have HC := Lib.hid (impl_handsof n k W h1 h2 h3 h4)
  have HB0 := Lib.hid hb0
  have HP0 := Lib.hid hP0
  obtain ⟨Hs, hHs⟩ : ∃ l, l = handsI n k := ⟨_, rfl⟩
  have HHs := Lib.hid hHs
  rw [← hHs] at HC
  have HSM := Lib.hid (show Hs.length ≤ 1000 by
    rw [hHs]
    unfold handsI
    split
    · exact Nat.le_trans (hands_len _ _ _) (Nat.le_trans (Nat.pow_le_pow_right (by decide) (show n.toNat - 0 ≤ 8 by omega)) (by decide))
    · exact Nat.zero_le _)
  clear hb0 hP0 hHs
  by_cases hno : Hs = [] ∨ 3 < k
  · have hf : fndB n k = false := by
      unfold fndB
      rw [decide_eq_false (fun h => by
        rcases hno with e | e
        · exact h.2 (by rw [← HHs.out, e])
        · omega), Bool.false_and]
    obtain ⟨e1, e2, e3⟩ := fnd_no hf
    rw [e1, e2, e3, hf]
    clear e1 e2 e3 hf
    obtain ⟨M, hM⟩ : ∃ m, m = Hs.length := ⟨_, rfl⟩
    have hMk : M = 0 ∨ (M ≠ 0 ∧ 3 < k) := by
      rcases hno with e | e
      · left; rw [hM, e]; rfl
      · by_cases h0 : M = 0
        · exact Or.inl h0
        · exact Or.inr ⟨h0, e⟩
    have HM := Lib.hid hM.symm
    clear hno hM
    rcases hMk with h0 | ⟨h0, hk3⟩
    · have hl1 : ((M : Int) == 0) = true := by rw [beq_iff_eq]; omega
      clear h0
      go_enter Try.func5, Try.ntmps5
      go_upto_region 1 with fail
      rw [← hW]
      clear hW
      go_wp2_with fail
      refine HC.out.mono ?_
      rintro e w1 ⟨A, c, rs, rfl, _, _, hb1⟩
      rw [HM.out]
      have hP1 := (hb1.block _ hs0).trans HP0.out
      obtain ⟨q0, q1, q2⟩ := cell3 hP1
      have f0 := frz hP1 0
      have f1 := frz hP1 1
      have f2 := frz hP1 2
      have HP := Lib.hid (put_box (x := .int .i64 0) (y := .slice none 0 0) (z := .slice none 0 0) hP1 (HB0.out.trans (hb1.mono HB0.out.size)) (Nat.le_refl _))
      clear hP1 hb1
      go_wp2
      (try simp only [Exit.inBlock, Exit.then])
      refine bodyPost_ret (results_cs rfl _ rfl rfl HP.out.1) rfl ?_
      exact cb_none HP.out.2.1
    · have hl1 : ((M : Int) == 0) = false := beq_eq_false_iff_ne.2 (by omega)
      have hk3b : decide (3 < k) = true := decide_eq_true hk3
      clear h0
      go_enter Try.func5, Try.ntmps5
      go_upto_region 1 with fail
      rw [← hW]
      clear hW
      go_wp2_with fail
      refine HC.out.mono ?_
      rintro e w1 ⟨A, c, rs, rfl, _, _, hb1⟩
      rw [HM.out]
      have hP1 := (hb1.block _ hs0).trans HP0.out
      obtain ⟨q0, q1, q2⟩ := cell3 hP1
      have f0 := frz hP1 0
      have f1 := frz hP1 1
      have f2 := frz hP1 2
      have HP := Lib.hid (put_box (x := .int .i64 0) (y := .slice none 0 0) (z := .slice none 0 0) hP1 (HB0.out.trans (hb1.mono HB0.out.size)) (Nat.le_refl _))
      clear hP1 hb1
      go_wp2
      (try simp only [Exit.inBlock, Exit.then])
      refine bodyPost_ret (results_cs rfl _ rfl rfl HP.out.1) rfl ?_
      exact cb_none HP.out.2.1
  · have hk3 : k ≤ 3 := by
      rcases Int.lt_or_le 3 k with h | h
      · exact absurd (Or.inr h) hno
      · exact h
    have hne : Hs ≠ [] := fun e => hno (Or.inl e)
    have hr : 1 ≤ n ∧ n ≤ 8 ∧ 1 ≤ k ∧ k ≤ n := by
      by_cases h : 1 ≤ n ∧ n ≤ 8 ∧ 1 ≤ k ∧ k ≤ n
      · exact h
      · exfalso
        apply hne
        rw [HHs.out]
        unfold handsI
        rw [if_neg h]
    obtain ⟨b, x, hf, _, _⟩ := chk_parts (chk_get (n := n.toNat) (k := k.toNat) (by omega) (by omega) (by omega) (by omega) (by omega))
    rw [show handsF n.toNat k.toNat 0 = Hs by rw [HHs.out]; unfold handsI; rw [if_pos hr]] at hf
    have HOK := Lib.hid (show ∀ q ∈ Hs, q.length ≤ 3 ∧ 1 ≤ q.length ∧ ∀ x ∈ q, 0 ≤ x ∧ x < 12 by rw [HHs.out]; exact hands_ok hr hk3)
    have hfb : fndB n k = b := by
      unfold fndB
      rw [← HHs.out, decide_eq_true ⟨hk3, hne⟩, Bool.true_and]
      exact (found_some hf).1
    have HFB := Lib.hid hfb
    have HFS := Lib.hid (fun hb : b = true => (found_some hf).2 hb)
    have hM0 : 0 < Hs.length := List.length_pos_iff.2 hne
    have hkd : decide (3 < k) = false := decide_eq_false (by omega)
    obtain ⟨M, hM⟩ : ∃ m, m = Hs.length := ⟨_, rfl⟩
    have HFI := Lib.hid (show findF Hs M = some (b, x) by rw [hM]; exact hf)
    have HM := Lib.hid hM.symm
    have hM1 : M ≤ 1000 := by rw [hM]; exact HSM.out
    rw [← hM] at hM0
    have hl1 : ((M : Int) == 0) = false := beq_eq_false_iff_ne.2 (by omega)
    obtain ⟨i1, hj1, hy0, hy1, hy2⟩ := infos_parts
    have hmm := @run_makeMap Try.prog
    have HR := Lib.hid hr
    clear hno hne hr hf hfb hM hk3
    go_enter Try.func5, Try.ntmps5
    go_upto_region 1 with fail
    rw [← hW]
    clear hW
    go_wp2_with fail
    refine HC.out.mono ?_
    rintro e w1 ⟨A, c, rs, rfl, hrs, hrow, hb1⟩
    rw [HM.out] at hrow
    rw [HM.out]
    have HRS := Lib.hid hrs
    have HROW := Lib.hid hrow
    have HP1 := Lib.hid ((hb1.block _ hs0).trans HP0.out)
    have HB1 := Lib.hid (HB0.out.trans (hb1.mono HB0.out.size))
    have hs1 := hb1.size
    clear hrs hrow hb1
    go_wp2_with (refine wpList_make_full _ rfl (.tmp 25) (.tmp 25) 24 rfl w1.heap.size 33 i1 (.slice none 0 0) 1 Try.underlying24 hj1 hy0 hy1 .i64 .i64 M M M rfl rfl rfl rfl (by rw [hy2]; omega) (by unfold maxLen; omega) (Nat.le_refl _) ?_)
    intro w2 hown hgrow
    have hb2 : Below w1.heap.size w1 w2 := (Below.refl _ w1).grown hgrow (Nat.le_refl _) (fun k hk => by cases hk)
    have hown0 : w2.ownsRow w1.heap.size 33 1 (.slice (some ⟨w1.heap.size, 0, none⟩) M M) M (List.replicate M (.slice none 0 0)) := by
      have e : (madeCells #[Value.slice none 0 0] M).toList = List.replicate M (.slice none 0 0) := by
        rw [toList_madeCells_one]
      rw [← e]
      simpa using hown
    have hbm := Cde.box_below w2 (.map #[] 0)
    have HLP := Lib.hid (show Lp w Hs M W.heap.size w1.heap.size w2.heap.size w1.heap.size c A rs 0 (w2.alloc (.map #[] 0)) from
      ⟨⟨[], List.replicate Hs.length [], List.replicate M rd0, rfl, List.nodup_nil, (fun e he => by cases he), MapE.new Try.prog 3 w2, ((rows_new hown0).below hbm).higher hbm.size (Nat.le_refl _), by rw [List.map_replicate, HM.out]; rfl⟩,
        (HROW.out.below hb2).below hbm, (hbm.block _ (by have := hb2.size; omega)).trans ((hb2.block _ (by omega)).trans HP1.out), HB1.out.trans ((hb2.mono HB1.out.size).trans (hbm.mono (by have := hb2.size; have := HB1.out.size; omega))), by simp⟩)
    have hmid : w1.heap.size ≤ w2.heap.size := hb2.size
    clear hown hgrow hb2 hown0 hbm HROW HP1 HB1
    obtain ⟨lo, hlo⟩ : ∃ l, l = W.heap.size := ⟨_, rfl⟩
    obtain ⟨mid, hmi⟩ : ∃ l, l = w1.heap.size := ⟨_, rfl⟩
    obtain ⟨bu, hbu⟩ : ∃ l, l = w2.heap.size := ⟨_, rfl⟩
    go_wp2
    rw [← hlo, ← hmi, ← hbu] at HLP
    rw [← hmi, ← hbu]
    have hwl : w.heap.size < lo := by omega
    have hlm : lo ≤ mid := by omega
    have hmb : mid ≤ bu := by omega
    clear hlo hmi hbu hmid hs0 hs1 hmm
    go_loopw [9, 30] (fun _ v wr => ∃ i : Nat, i ≤ M ∧ v = .int .i64 (i : Int) ∧ Hid (Lp w Hs M lo mid bu mid c A rs i wr)) (fun _ v _ => M - (intOf v).toNat)
    case atStart => exact ⟨0, Nat.zero_le _, rfl, HLP⟩
    case round =>
      obtain ⟨i, hi, rfl, HL⟩ := hrel
      clear HLP
      by_cases hlt : i < M
      · obtain ⟨es, sh, r2, hfi, hnd, hval, hmap, hrow2, hsh⟩ := HL.out.st
        obtain ⟨R, hp, hR0, hRn⟩ := find_path HFI.out hlt hfi
        have HPA := Lib.hid (path_any Hs es i R A M c rs bu wr HL.out.hands.len HRS.out (at_of HL.out.hands) hM1 HOK.out hmap hnd hval hlt hp)
        have HR0 := Lib.hid hR0
        have HRN := Lib.hid hRn
        have HND := Lib.hid hnd
        have HVAL := Lib.hid hval
        have HMAP := Lib.hid hmap
        have HROW2 := Lib.hid hrow2
        have HSH := Lib.hid hsh
        have hbus := HL.out.bus
        have hwr := HL.out.bel.size
        have hhands := HL.out.hands
        have hmw : mid ≤ wr.heap.size := hhands.2.2.2.2
        have HHA := Lib.hid hhands
        have HBX := Lib.hid HL.out.box
        have HBE := Lib.hid HL.out.bel
        have hww : w.heap.size < wr.heap.size := by omega
        clear hfi hnd hval hmap hrow2 hsh hR0 hRn hp HL hhands
        go_wp2_with fail
        refine HPA.out.mono ?_
        rintro e w5 ⟨A5, c5, p, rfl, hpR, hur, hok, hb5⟩
        obtain ⟨pb, hpb⟩ : ∃ b, b = wr.heap.size := ⟨_, rfl⟩
        have HMAP5 := Lib.hid (HMAP.out.below hb5 hbus)
        have HROW5 := Lib.hid ((HROW2.out.below hb5).higher hb5.size (Nat.le_refl _))
        have HPBI := Lib.hid (show ∀ j, j < M → ∀ q, (r2.getD j rd0).b = some q → q < pb from fun j hj q hq => by
          have := HROW2.out.2.1 j (by rw [HROW2.out.len]; exact hj)
          rw [hpb]
          exact this.hi q hq)
        have HHA5 := Lib.hid (HHA.out.below hb5)
        have HBX5 := Lib.hid ((hb5.block _ hww).trans HBX.out)
        have HBE5 := Lib.hid (HBE.out.trans (hb5.mono HBE.out.size))
        have hs5 := hb5.size
        rw [← hpb] at hur hs5 hbus hww hmw
        have HUR := Lib.hid hur
        have HOKP := Lib.hid hok
        have HPR := Lib.hid hpR
        clear hpb hb5 hur hok hpR HROW2 HMAP HHA HBX HBE HPA
        obtain ⟨N, hN⟩ : ∃ N, N = R.length := ⟨_, rfl⟩
        rw [← hN] at HUR HOKP
        rw [← hN]
        have HN := Lib.hid hN.symm
        cases hR : R with
        | nil =>
          have hb : b = false := HR0.out hR
          have hN0 : N = 0 := by rw [hN, hR]; rfl
          have hl0 : ((N : Int) == 0) = true := by rw [beq_iff_eq]; omega
          have hf2 : fndB n k = false := by rw [HFB.out, hb]
          have HE := Lib.hid (fnd_no hf2)
          have HF2 := Lib.hid hf2
          obtain ⟨q0, q1, q2⟩ := cell3 HBX5.out
          have f0 := frz HBX5.out 0
          have f1 := frz HBX5.out 1
          have f2 := frz HBX5.out 2
          have HP := Lib.hid (put_box (x := .int .i64 0) (y := .slice none 0 0) (z := .slice none 0 0) HBX5.out HBE5.out (Nat.le_refl _))
          clear hf2 hb hR hN hN0
          go_wp2
          (try simp only [Exit.inBlock, Exit.then])
          refine bodyPost_ret (results_cs rfl _ rfl rfl HP.out.1) rfl ?_
          rw [HE.out.1, HE.out.2.1, HE.out.2.2, HF2.out]
          exact cb_none HP.out.2.1
        | cons u0' R' =>
          have hNpos : 0 < N := by rw [hN, hR]; simp
          have hl0 : ((N : Int) == 0) = false := beq_eq_false_iff_ne.2 (by omega)
          have HFN := Lib.hid (HRN.out (by rw [hR]; simp))
          have hNb : N ≤ 9223372036854775807 := ur_small HUR.out
          obtain ⟨g5, rfl⟩ := HUR.out.shape hNpos
          clear hR hN
          go_wp2
          go_loopw [12, 43] (fun _ v wt => ∃ t : Nat, t ≤ N ∧ v = .int .i64 (t : Int) ∧ Hid (Lq w Hs M lo mid bu mid c A rs (es, sh) R g5 c5 N pb p t wt)) (fun _ v _ => N - (intOf v).toNat)
          case atStart =>
            refine ⟨0, Nat.zero_le _, rfl, ⟨⟨r2, ?_, ?_, HMAP5.out, HROW5.out, HSH.out, fun j hj q hq => Or.inl (HPBI.out j hj q hq)⟩, HHA5.out, HBX5.out, HBE5.out, HUR.out, hs5⟩⟩
            · exact HND.out
            · exact HVAL.out
          case round =>
            obtain ⟨t, ht, rfl, HQ⟩ := hrel
            obtain ⟨r3, hnd2, hval2, hmap2, hrow2, hz2, horig⟩ := HQ.out.st
            by_cases hlt2 : t < N
            · obtain ⟨k1, k2, k3, k4⟩ := HOKP.out t hlt2
              obtain ⟨q1, q2, _⟩ := HQ.out.path.cells t hlt2
              have hin := HQ.out.path.inner t hlt2
              have hgn := give_next R t (by rw [HN.out]; exact hlt2) (es, sh)
              rw [ab_get HPR.out t (by rw [HN.out]; exact hlt2)] at hgn
              have HDF := Lib.hid (fun j (hj : j < t) b (hb : (p.getD t u0).2.b = some b) => HQ.out.path.diff t j hlt2 (by omega) (by omega) b hb)
              have HLOW := Lib.hid (fun b (hb : (p.getD t u0).2.b = some b) => own_lo hin b hb)
              obtain ⟨u, hu⟩ : ∃ u, u = p.getD t u0 := ⟨_, rfl⟩
              rw [← hu] at k1 k2 k3 k4 q1 q2 hin hgn HDF HLOW
              have HUE := Lib.hid hu
              obtain ⟨hh, Aj, dj, mj⟩ := u
              simp only [ab, RD.v] at k1 k2 k3 k4 q1 q2 hin hgn HDF HLOW
              obtain ⟨y, rfl⟩ : ∃ y : Nat, hh = (y : Int) := ⟨hh.toNat, by omega⟩
              rw [Int.toNat_natCast] at hgn
              have hyM : y < M := by omega
              have hnb := num_fits k3 k4
              have hky := Pok.key_int (a := numF mj) (by omega) hnb.2
              obtain ⟨W6, hW6⟩ : ∃ W6, W6 = wr.alloc (.cells #[.int .i64 (y : Int), .slice Aj mj.length dj] 47) := ⟨_, rfl⟩
              have hbm : Below wr.heap.size wr W6 := by rw [hW6]; exact Cde.box_below wr _
              have hs6 : wr.heap.size < W6.heap.size := by rw [hW6]; simp
              obtain ⟨c0, c1⟩ : W6.cell? ⟨wr.heap.size, 0, none⟩ = some (.int .i64 (y : Int)) ∧ W6.cell? ⟨wr.heap.size, 1, none⟩ = some (.slice Aj mj.length dj) := by
                rw [hW6]
                unfold World.cell?
                rw [heap_alloc_new wr _]
                exact ⟨rfl, rfl⟩
              have hpbs := HQ.out.size
              have hM6 := (hmap2.below hbm (by omega)).kept (W' := W6.drew) rfl
              obtain ⟨w7, hrun, hm7, hg7, hs7⟩ := put_map (v := (y : Int)) hM6 hnd2 Pok.keyed Try.underlying43 hky
              have hin6 : W6.drew.ownsRow pb 3 1 (.slice Aj mj.length dj) mj.length (Pfn.vals mj) := own_below hin hbm.drew
              have HNUM := Lib.hid (num_any Aj mj.length dj _ mj W6.drew rfl k3 (fun i hi => by
                have hm : mj.getD i 0 ∈ mj := by
                  rw [List.getD_eq_getElem?_getD, List.getElem?_eq_getElem hi]
                  exact List.getElem_mem _
                have := k4 _ hm
                omega) (ints_of hin6))
              have hrow6 : SSRow W6.drew mid W6.drew.heap.size (some ⟨mid, 0, none⟩) M M r3 := (hrow2.below hbm).higher hbm.size (Nat.le_refl _)
              have hrow7 := ss_map hrow6 hM6 hg7
              have hin7 := own_gr hin6 hg7 (fun k hk e => by cases e; exact map_ne hM6 hin6 _ hk rfl)
              obtain ⟨hset, hg8⟩ := ss_set (r := ⟨Aj, dj, mj⟩) hrow7 hyM (own_mono hin7 (by omega)) (fun j hj hne q hq e => by
                rcases horig j hj q e with h | ⟨i, hi, h⟩
                · have := HLOW.out q hq
                  omega
                · exact HDF.out i hi q hq h)
              simp only [RD.v] at hset hg8
              obtain ⟨old, hold⟩ : ∃ v, w7.cell? ⟨mid, y, none⟩ = some v := ⟨_, (hrow7.1.cellAt y (by omega)).trans (List.getElem?_eq_getElem (by rw [List.length_map, hrow7.len]; exact hyM))⟩
              have hfr := hrow7.1.frozenAt y
              have c07 := Wit.grown_cell (W := W6.drew) c0 hs6 hg7 (fun k hk => by simp only [Option.some.injEq] at hk; omega)
              have c17 := Wit.grown_cell (W := W6.drew) c1 hs6 hg7 (fun k hk => by simp only [Option.some.injEq] at hk; omega)
              have hgm : mid ≠ bu := map_ne hm7 hrow7.1 mid rfl
              have HNXT := Lib.hid (show Lq w Hs M lo mid bu mid c A rs (es, sh) R g5 c5 N pb p (t + 1) (w7.setCell ⟨mid, y, none⟩ (.slice Aj mj.length dj)) from by
                have hb67 : Below wr.heap.size wr W6.drew := hbm.drew
                have hs7b : w7.heap.size = W6.heap.size := hs7
                refine ⟨⟨r3.set y ⟨Aj, dj, mj⟩, ?_, ?_, ?_, ?_, ?_, ?_⟩, ?_, ?_, ?_, ?_, ?_⟩
                · rw [hgn]; exact put_keys hnd2
                · rw [hgn]; exact put_vals hval2 ⟨by omega, by omega⟩
                · rw [hgn]; exact hm7.grown hg8 (fun e => by cases e; exact hgm rfl)
                · exact hset.higher (by simp) (by simp)
                · rw [hgn, ← hz2, List.map_set]
                · intro j hj q hq
                  rw [ss_getD (by rw [hrow2.len]; exact hyM)] at hq
                  by_cases e : j = y
                  · rw [if_pos e] at hq
                    exact Or.inr ⟨t, by omega, by rw [← HUE.out]; exact hq⟩
                  · rw [if_neg e] at hq
                    rcases horig j hj q hq with h | ⟨i, hi, h⟩
                    · exact Or.inl h
                    · exact Or.inr ⟨i, by omega, h⟩
                · exact ((HQ.out.hands.below hb67).grown hg7 (fun k hk => by simp only [Option.some.injEq] at hk; omega)).grown hg8 (fun k hk => by simp only [Option.some.injEq] at hk; omega)
                · exact (hg8.block _ (by omega) (fun e => by simp only [Option.some.injEq] at e; omega)).trans ((hg7.block _ (by show _ < W6.heap.size; omega) (fun e => by simp only [Option.some.injEq] at e; omega)).trans ((hb67.block _ (by omega)).trans HQ.out.box))
                · exact ((HQ.out.bel.trans (hb67.mono (by omega))).grown hg7 (by show _ ≤ W6.heap.size; omega) (fun k hk => by simp only [Option.some.injEq] at hk; omega)).grown hg8 (by omega) (fun k hk => by simp only [Option.some.injEq] at hk; omega)
                · have h7 := (HQ.out.path.below hb67).map hM6 hg7
                  exact h7.grown hg8 (fun k hk e => by have := h7.lt k hk; simp only [Option.some.injEq] at e; omega) (fun j hj k hk e => by have := own_lo (h7.inner j hj) k hk; simp only [Option.some.injEq] at e; omega)
                · have := hg8.size
                  omega)
              obtain ⟨nj, hnj⟩ : ∃ m, m = mj.length := ⟨_, rfl⟩
              obtain ⟨K, hK⟩ : ∃ q, q = numF mj := ⟨_, rfl⟩
              rw [← hnj] at c1 c17 hW6 HNUM q2 HNXT
              rw [← hK] at hrun HNUM
              clear k3 k4 hin hgn HDF HLOW hnb hky hbm hM6 hm7 hs7 hin6 hrow6 hrow7 hin7 hset hg8 hnj hK hnd2 hval2 hmap2 hrow2 hz2 horig hg7
              go_wp2_with fail
              rw [← hW6]
              clear hW6
              go_region_held3 (fun w' => w'.cell? ⟨wr.heap.size, 0, none⟩ = some (.int .i64 (y : Int)) ∧ w'.cell? ⟨wr.heap.size, 1, none⟩ = some (.slice Aj nj dj)) ((first | exact ⟨c0, c1⟩ | exact ⟨c07, c17⟩)) ((first | (go_at_call 17; refine HNUM.out.mono ?_; rintro e w9 ⟨rfl, rfl⟩)))
              all_goals
                go_wp2
                go_roundw
                case rel => exact ⟨t + 1, by omega, by go_num, HNXT⟩
                case measure => simp [intOf]; omega
            · have htN : t = N := by omega
              have HNL := Lib.hid (show Lp w Hs M lo mid bu mid c A rs (i + 1) wr from by
                rw [htN, ← HN.out, List.take_length] at hnd2 hval2 hmap2 hz2
                exact ⟨⟨_, _, r3, HFN.out, hnd2, hval2, hmap2, hrow2, hz2⟩, HQ.out.hands, HQ.out.box, HQ.out.bel, hmap2.lt⟩)
              clear hnd2 hval2 hmap2 hrow2 hz2 horig htN
              go_wp2
              go_roundw
              case rel => exact ⟨i + 1, by omega, by go_num, HNL⟩
              case measure => simp [intOf]; omega
      · have hiM : i = M := by omega
        obtain ⟨es, sh, r2, hfi, hnd, hval, hmap, hrow2, hsh⟩ := HL.out.st
        have hfe : some (b, x) = some (true, (es, sh)) := by rw [← HFI.out, ← hiM]; exact hfi
        simp only [Option.some.injEq, Prod.mk.injEq] at hfe
        have hfb : fndB n k = true := by rw [HFB.out]; exact hfe.1
        have HFY := Lib.hid (fnd_yes hfb)
        have HFT := Lib.hid hfb
        have HSE := Lib.hid (show (foundF (handsI n k)).2 = sh by
          rw [← HHs.out, HFS.out hfe.1, hfe.2])
        have hbx := HL.out.box
        obtain ⟨q0, q1, q2⟩ := cell3 hbx
        have f0 := frz hbx 0
        have f1 := frz hbx 1
        have f2 := frz hbx 2
        have HP := Lib.hid (put_box (x := .int .i64 n) (y := .slice A M c) (z := .slice (some ⟨mid, 0, none⟩) M M) hbx HL.out.bel (Nat.le_refl _))
        have HH := Lib.hid HL.out.hands
        have HR2 := Lib.hid hrow2
        have HSH := Lib.hid hsh
        have hbel := HL.out.bel.size
        clear hfi hnd hval hmap hrow2 hsh hfe hfb hbx
        go_wp2
        (try simp only [Exit.inBlock, Exit.then])
        refine bodyPost_ret (results_cs rfl _ rfl rfl HP.out.1) rfl ?_
        rw [HFY.out.1, HFY.out.2.1, HFY.out.2.2, HFT.out, HSE.out, ← HHs.out]
        have hl2 : sh.length = M := by rw [← HSH.out, List.length_map, HR2.out.len]
        have hg := HP.out.2.2
        refine ⟨A, c, some ⟨mid, 0, none⟩, M, rs, r2, by rw [hl2, HM.out]; rfl, HRS.out, HSH.out, ?_, HP.out.2.1⟩
        rw [hl2, HM.out]
        exact (CR.grown (W := wr) ⟨mid, HH.out, HR2.out, hlm, HH.out.2.2.2.2⟩ hg (fun k hk => by simp only [Option.some.injEq] at hk; omega)).top (by omega)
end Go.Proofs.Ytefgcnjbiaileaa.Fci
