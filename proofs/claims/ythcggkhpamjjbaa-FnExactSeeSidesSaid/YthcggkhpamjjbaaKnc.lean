/- What is left of what is known after a look (fitting, SeeCard, SeeSides), of the program. -/
import Derived.Test.YthcggkhpamjjbaaKni
import Derived.Test.YthcggkhpamjjbaaPerm
set_option linter.unusedVariables false
set_option maxRecDepth 20000
namespace Go.Proofs.Ythcggkhpamjjbaa.Knc
open Go.RowKit Fr _root_.Go.Proofs.Ythcggkhpamjjbaa.Own Pk Ins Pok Rws Lb Cat Srt Sst Arr Kno Kns Kni

/-- is i the index of one of n things? -/
def inB (i n : Int) : Bool := decide (0 ≤ i ∧ i < n)
theorem impl_in (i n : Int) (w : World) : Calls Try.prog 44 #[.int .i64 i, .int .i64 n] w fun e w' => e = .returned (.bool (inB i n)) ∧ w = w' := by
  by_cases h : 0 ≤ i
  · have HS := Lib.hid (show decide (i < n) = inB i n by unfold inB; simp [h])
    go_enter Try.func44, Try.ntmps44
    go_wp2
    go_ret
    exact ⟨ret_b HS.out, rfl⟩
  · have HS := Lib.hid (show false = inB i n by unfold inB; simp; omega)
    have h' : decide (0 ≤ i) = false := decide_eq_false h
    go_enter Try.func44, Try.ntmps44
    go_wp2
    go_ret
    exact ⟨ret_b HS.out, rfl⟩
/-- what a function that tells of a packet has to answer, in every world that has grown out of w -/
def Tells (w : World) (f : Nat) (cs : Array Value) (fb : List Int → Bool) : Prop :=
  ∀ (W : World) (A : Option Addr) (m c : Nat) (zs : List Int), Below w.heap.size w W → zs.length = m → m ≤ 12 → Fits zs → IntsAt W W.heap.size .i64 A zs →
    Calls Try.prog f (#[.slice A m c] ++ cs) W fun e w' => e = .returned (.bool (fb zs)) ∧ Below W.heap.size W w'
set_option maxHeartbeats 2000000 in
theorem fit_any (f : Nat) (cs : Array Value) (fb : List Int → Bool) (A : Option Addr) (n c : Nat) (ls : List RD) (w : World) (hn : ls.length = n) (hat : SSAt w w.heap.size A ls) (hf : ∀ i, i < n → Fits (ls.getD i rd0).zs) (hz : ∀ i, i < n → (ls.getD i rd0).zs.length ≤ 1048576) (hn2 : n ≤ 1048576)
    (hce : ∀ args w, (callFunc f args).run Try.prog w = .ok (.enter f args) w) (hT : Tells w f cs fb) :
    Calls Try.prog 50 #[.slice A n c, .func (.func f) #[] cs] w (IsSS w.heap.size (seeF fb (ls.map RD.zs)) w) := by
  obtain ⟨i1, hj, hy0, hy1, hy2⟩ := infos_parts
  have CK := impl_know A n c ls w hn hat hf hz hn2
  obtain ⟨R, hR⟩ : ∃ R, R = seeF fb (ls.map RD.zs) := ⟨_, rfl⟩
  rw [← hR]
  have HR := Lib.hid hR
  have HN := Lib.hid hn
  have HAT := Lib.hid hat
  have HF := Lib.hid hf
  have HZ := Lib.hid hz
  have HT := Lib.hid hT
  clear hT
  cases hkb : knowB (ls.map RD.zs) with
  | false =>
    have HS := Lib.hid (show R = [] by rw [HR.out, see_no hkb])
    rw [hkb] at CK
    clear HR hR hn hat hf hz hkb
    go_enter Try.func50, Try.ntmps50
    go_wp2_with fail
    refine CK.mono ?_
    rintro e w1 ⟨rfl, hb1⟩
    go_wp2
    go_ret
    exact ⟨none, 0, [], by rw [HS.out]; rfl, by rw [HS.out]; rfl, by rw [HS.out]; exact SSRow.empty (World.ownsRow_nil _ _ _ _), hb1⟩
  | true =>
    have HS := Lib.hid (show ((ls.map RD.zs).take n).filter fb = R by rw [HR.out, see_yes hkb, ← HN.out, List.take_of_length_le (by rw [List.length_map]; exact Nat.le_refl _)])
    have HKR := Lib.hid (know_row hn hkb)
    obtain ⟨hfe, hfw⟩ := know_few hn hkb
    rw [hkb] at CK
    clear HR hR hn hat hf hz hkb
    go_enter Try.func50, Try.ntmps50
    go_wp2_with fail
    refine CK.mono ?_
    rintro e w1 ⟨rfl, hb1⟩
    have HO0 := Lib.hid (SSRow.empty (World.ownsRow_nil w1 w.heap.size 31 1))
    have HAL := Lib.hid hb1
    clear hb1 CK
    go_wp2
    go_loopg [5, 7, 13] n (fun g s5 _ s13 wr => ∃ (k : Nat) (Ao : Option Addr) (no co : Nat) (ro : List RD), k ≤ n ∧ g = n - k ∧ s13 = .int .i64 (k : Int) ∧ s5 = .slice Ao no co ∧ no ≤ k ∧
      Hid (ro.map RD.zs = ((ls.map RD.zs).take k).filter fb) ∧ Hid (SSRow wr w.heap.size wr.heap.size Ao no co ro) ∧ Hid (Below w.heap.size w wr))
    case atStart => exact ⟨0, none, 0, 0, [], Nat.zero_le _, rfl, rfl, rfl, Nat.le_refl _, Lib.hid rfl, HO0, HAL⟩
    case round =>
      clear HO0 HAL
      obtain ⟨k, Ao, no, co, ro, hk, hg, rfl, rfl, hno, HRZ, HO, HBW⟩ := hrel
      have hsz := HBW.out.size
      by_cases hlt : k < n
      · obtain ⟨b, o, Ak, mk, ck, rfl, hbb, hck, hmk, hik, hfk, hsk⟩ := row_at (HAT.out.below HBW.out) HN.out HF.out HZ.out k hlt
        have hrow := HKR.out k hlt
        have HSK := Lib.hid (fun h : fb (ls.getD k rd0).zs = false => (filt_no HN.out hlt h).symm ▸ HRZ.out)
        have HAP := Lib.hid (fun (h : fb (ls.getD k rd0).zs = true) (r : RD) (hr : r.zs = (ls.getD k rd0).zs) => (show (ro ++ [r]).map RD.zs = ((ls.map RD.zs).take (k + 1)).filter fb by rw [filt_yes HN.out hlt h]; exact snoc_zs HRZ.out hr))
        clear HRZ
        generalize (ls.getD k rd0).zs = zs at *
        rw [hmk] at hrow
        have hm2 := hrow.2.2.1
        have HM := Lib.hid hmk
        have CT := HT.out wr Ak mk ck zs HBW.out hmk hm2 hfk (hik.more hsz)
        clear hrow
        cases hcd : fb zs with
        | true =>
          rw [hcd] at CT
          have HAP2 := Lib.hid (HAP.out hcd)
          clear HAP HSK hcd
          go_wp2_with fail
          refine CT.mono ?_
          rintro e w2 ⟨rfl, hb2⟩
          have HB2 := Lib.hid (HBW.out.trans (hb2.mono hsz))
          have HO2 := Lib.hid (HO.out.below hb2)
          have hs2 := hb2.size
          have HI2 := Lib.hid ((hik.more hsz).below hb2)
          clear CT hb2 HO HBW hik hmk hfk hck
          go_wp2_with fail
          refine (Lb.clone_any Ak mk ck zs _ HM.out (by omega) (HI2.out.more hs2)).mono ?_
          rintro e w3 ⟨A5, c5, rfl, hown5, hb3⟩
          rw [HM.out] at hown5 ⊢
          have hr5 := HO2.out.below hb3
          have HB3 := Lib.hid (HB2.out.trans (hb3.mono (show w.heap.size ≤ _ by omega)))
          have hs3 := hb3.size
          clear hb3 HO2 HB2
          go_wp2_with (at_builtin; (refine app_more rfl (.tmp 20) (.tmp 23) 22 rfl w.heap.size 31 i1 (.slice none 0 0) 24 Try.underlying22 hj hy0 hy1 hy2 (by decide) rfl _ _ _ _ rfl hr5.1 (.slice A5 mk c5) rfl _ rfl rfl (by omega) (by omega) ?_; intro g6 c6 w6 hown6 hgr6))
          have HSN := Lib.hid (SSRow.snoc (zs := zs) (A1 := A5) (c1 := c5) hr5 hsz (by rw [HM.out]; exact own_mono hown5 (by omega)) (by rw [HM.out]; exact hown6) hgr6)
          have HB6 := Lib.hid (HB3.out.grown hgr6 (by omega) (fun k hk => hr5.outlo k hk))
          have HR6 := Lib.hid (HAP2.out ⟨A5, c5, zs⟩ rfl)
          clear hr5 hown5 hown6 hgr6
          go_roundg (n - (k + 1))
          case rel => exact ⟨k + 1, _, no + 1, c6, _, by omega, rfl, by go_num, rfl, by omega, HR6, HSN, HB6⟩
          case measure => omega
        | false =>
          rw [hcd] at CT
          have HS2 := Lib.hid (HSK.out hcd)
          clear HAP HSK hcd
          go_wp2_with fail
          refine CT.mono ?_
          rintro e w2 ⟨rfl, hb2⟩
          have HB2 := Lib.hid (HBW.out.trans (hb2.mono hsz))
          have HO2 := Lib.hid ((HO.out.below hb2))
          have hs2 := hb2.size
          clear CT hb2 HO HBW hik hmk hfk hck
          go_wp2
          go_roundg (n - (k + 1))
          case rel => exact ⟨k + 1, Ao, no, co, ro, by omega, rfl, by go_num, rfl, by omega, HS2, Lib.hid (HO2.out.higher hs2 (Nat.le_refl _)), HB2⟩
          case measure => omega
      · have hkn : k = n := by omega
        have HRR := Lib.hid (show ro.map RD.zs = R by rw [HRZ.out, hkn]; exact HS.out)
        have HRL := Lib.hid (show R.length = no by rw [← HRR.out, List.length_map, HO.out.len])
        clear hkn HRZ HS
        go_wp2
        go_ret
        exact ⟨Ao, co, ro, by rw [HRL.out]; rfl, HRR.out, by rw [HRL.out]; exact HO.out, HBW.out⟩
theorem card_yes {p card : Int} {zs : List Int} {m j : Nat} {x : Int} (hm : zs.length = m) (hp : p = (j : Int)) (hj : j < m) (hx : zs.getD j 0 = x) : cardAt p card zs = (cardF x == card) := by
  unfold cardAt
  subst hp
  rw [hm, decide_eq_true ⟨by omega, by omega⟩, Int.toNat_natCast, hx, Bool.true_and]
  by_cases h : cardF x = card <;> simp [h]
set_option maxHeartbeats 2000000 in
theorem card1 (p card : Int) (b1 b2 : Nat) (A : Option Addr) (m c : Nat) (zs : List Int) (W : World) (hm : zs.length = m) (hm2 : m ≤ 12) (hz : Fits zs) (hss : IntsAt W W.heap.size .i64 A zs)
    (h1 : W.cell? ⟨b1, 0, none⟩ = some (.int .i64 p)) (h2 : W.cell? ⟨b2, 0, none⟩ = some (.int .i64 card)) :
    Calls Try.prog 51 #[.slice A m c, .pointer (some ⟨b1, 0, none⟩), .pointer (some ⟨b2, 0, none⟩)] W fun e w' => e = .returned (.bool (cardAt p card zs)) ∧ ∃ d, w' = W.drewN d := by
  by_cases hin : 0 ≤ p ∧ p < (m : Int)
  · obtain ⟨j, rfl⟩ := Int.eq_ofNat_of_zero_le hin.1
    have hj1 : j < m := by omega
    obtain ⟨b, o, rfl, hbx, hcx⟩ := hss j (by rw [hm]; exact hj1)
    obtain ⟨hx1, hx2⟩ := hz j (by rw [hm]; exact hj1)
    obtain ⟨x, hx⟩ : ∃ x, zs.getD j 0 = x := ⟨_, rfl⟩
    rw [card_yes hm rfl hj1 hx]
    rw [hx] at hcx hx1 hx2
    have C1 : ∀ V : World, Calls Try.prog 44 #[.int .i64 (j : Int), .int .i64 (m : Int)] V fun e w' => e = .returned (.bool true) ∧ w' = V := fun V => by
      have h := impl_in (j : Int) (m : Int) V
      rw [show inB (j : Int) (m : Int) = true from decide_eq_true hin] at h
      exact h.mono fun e w' q => ⟨q.1, q.2.symm⟩
    have C2 : ∀ V : World, Calls Try.prog 52 #[.int .i64 x] V fun e w' => e = .returned (.int .i64 (cardF x)) ∧ w' = V := fun V => (Pk.impl_card x V hx1 hx2).mono fun e w' q => ⟨q.1, q.2.symm⟩
    clear hin hm hz hss hx
    generalize cardF x = y at *
    generalize hg : (y == card) = g
    go_enter Try.func51, Try.ntmps51
    go_wp2_with fail
    go_quiet ((first | (go_at_call 44; with_reducible exact Calls.quiet_of_same (C1 _)) | (go_at_call 52; with_reducible exact Calls.quiet_of_same (C2 _))))
    go_wp2
    go_ret
    exact ⟨rfl, _, rfl⟩
  · have HS := Lib.hid (show false = cardAt p card zs by unfold cardAt; rw [hm, decide_eq_false hin]; rfl)
    have C1 : ∀ V : World, Calls Try.prog 44 #[.int .i64 p, .int .i64 (m : Int)] V fun e w' => e = .returned (.bool false) ∧ w' = V := fun V => by
      have h := impl_in p (m : Int) V
      rw [show inB p (m : Int) = false from decide_eq_false hin] at h
      exact h.mono fun e w' q => ⟨q.1, q.2.symm⟩
    clear hin hm hz hss
    go_enter Try.func51, Try.ntmps51
    go_wp2_with fail
    go_quiet ((go_at_call 44; with_reducible exact Calls.quiet_of_same (C1 _)))
    go_wp2
    go_ret
    exact ⟨ret_b HS.out, _, rfl⟩
theorem cell_box (w : World) (v : Value) (e : TypeId) (n : Nat) (hn : w.heap.size = n) : (w.alloc (.cells #[v] e)).cell? ⟨n, 0, none⟩ = some v := by
  have h := heap_alloc_new w (.cells #[v] e)
  rw [hn] at h
  unfold World.cell?
  rw [h]
  rfl
set_option maxHeartbeats 2000000 in
theorem impl_card (A : Option Addr) (n c : Nat) (ls : List RD) (p card : Int) (w : World) (hn : ls.length = n) (hat : SSAt w w.heap.size A ls) (hf : ∀ i, i < n → Fits (ls.getD i rd0).zs) (hz : ∀ i, i < n → (ls.getD i rd0).zs.length ≤ 1048576) (hn2 : n ≤ 1048576) :
    Calls Try.prog 23 #[.slice A n c, .int .i64 p, .int .i64 card] w (IsSS w.heap.size (seeF (cardAt p card) (ls.map RD.zs)) w) := by
  go_enter Try.func23, Try.ntmps23
  go_wp2_with fail
  have s1 : (w.alloc (.cells #[.int .i64 p] 3)).heap.size = w.heap.size + 1 := by simp
  have hb1 := (Below.refl w.heap.size w).alloc (Nat.le_refl _) (.cells #[.int .i64 p] 3)
  have hc1 : (w.alloc (.cells #[.int .i64 p] 3)).cell? ⟨w.heap.size, 0, none⟩ = some (.int .i64 p) := cell_box w (.int .i64 p) 3 _ rfl
  generalize w.alloc (.cells #[.int .i64 p] 3) = W1 at *
  have s2 : (W1.alloc (.cells #[.int .i64 card] 3)).heap.size = w.heap.size + 1 + 1 := by simp [s1]
  have hb2 := hb1.alloc (by omega) (.cells #[.int .i64 card] 3)
  have hc2 : (W1.alloc (.cells #[.int .i64 card] 3)).cell? ⟨w.heap.size + 1, 0, none⟩ = some (.int .i64 card) := cell_box W1 (.int .i64 card) 3 _ s1
  have hc1' := (((Below.refl W1.heap.size W1).alloc (Nat.le_refl _) (.cells #[.int .i64 card] 3)).cell (p := ⟨w.heap.size, 0, none⟩) (show w.heap.size < _ by omega)).trans hc1
  generalize W1.alloc (.cells #[.int .i64 card] 3) = W2 at *
  refine (fit_any 51 #[.pointer (some ⟨w.heap.size, 0, none⟩), .pointer (some ⟨w.heap.size + 1, 0, none⟩)] (cardAt p card) A n c ls W2 hn ((hat.below hb2).more hb2.size) hf hz hn2 (fun args w => rfl) ?_).mono ?_
  · intro W A' m c' zs hbw hm hm2 hz hss
    have e1 := (hbw.cell (p := ⟨w.heap.size, 0, none⟩) (show w.heap.size < _ by omega)).trans hc1'
    have e2 := (hbw.cell (p := ⟨w.heap.size + 1, 0, none⟩) (show w.heap.size + 1 < _ by omega)).trans hc2
    refine (card1 p card w.heap.size (w.heap.size + 1) A' m c' zs W hm hm2 hz hss e1 e2).mono ?_
    rintro e w' ⟨rfl, d, rfl⟩
    exact ⟨rfl, below_drewN (Below.refl _ _) _⟩
  · rintro e w3 h3
    have h4 := Sps.ss_mono h3 hb2 hb2.size hb2.size
    clear h3
    obtain ⟨A5, c5, rs5, rfl, hz5, ho5, hb5⟩ := h4
    go_wp2
    go_ret
    exact ⟨A5, c5, rs5, rfl, hz5, ho5, hb5⟩
theorem seen_out {up : List Int} {k m : Nat} (h : k < up.length) (hx : ¬ (0 ≤ up.getD k 0 ∧ up.getD k 0 < (m : Int))) : Prm.brow m (Prm.seenF up (k + 1)) = Prm.brow m (Prm.seenF up k) := by
  refine Prm.brow_congr fun v hv => ?_
  unfold Prm.seenF
  rw [Prm.take_snoc up k h, Bool.eq_iff_iff]
  simp only [decide_eq_true_eq, List.mem_append, List.mem_singleton]
  constructor
  · rintro (h1 | h1)
    · exact h1
    · exact absurd ⟨by omega, by omega⟩ hx
  · exact Or.inl
theorem seen_all {up : List Int} {n : Nat} (hn : up.length = n) (i : Nat) : Prm.seenF up n i = Pok.hasB up (i : Int) := by
  unfold Prm.seenF Pok.hasB
  rw [← hn, List.take_length]
set_option maxHeartbeats 2000000 in
theorem sides1 (up : List Int) (bb : Nat) (A : Option Addr) (m c : Nat) (zs : List Int) (W : World) (hm : zs.length = m) (hm2 : m ≤ 12) (hz : Fits zs) (hss : IntsAt W W.heap.size .i64 A zs)
    (h1 : ∀ i, i < 12 → W.cell? ⟨bb, i, none⟩ = some (.bool (hasB up (i : Int)))) :
    Calls Try.prog 55 #[.slice A m c, .pointer (some ⟨bb, 0, none⟩)] W fun e w' => e = .returned (.bool (sidesB up zs)) ∧ Below W.heap.size W w' := by
  have HM := Lib.hid hm
  obtain ⟨R, hR⟩ : ∃ R, R = sidesB up zs := ⟨_, rfl⟩
  rw [← hR]
  have HR := Lib.hid hR
  clear hm hR
  go_enter Try.func55, Try.ntmps55
  go_wp2
  go_loopw [4, 5, 8] (fun _ _ i wr => ∃ k : Nat, k ≤ m ∧ i = .int .i64 k ∧ Hid (∀ i, i < k → upB (zs.getD i 0) = hasB up (i : Int)) ∧ Hid (Below W.heap.size W wr)) (fun _ _ i _ => m - (intOf i).toNat)
  case atStart => exact ⟨0, Nat.zero_le _, rfl, (fun i hi => absurd hi (Nat.not_lt_zero _)), Lib.hid (Below.refl _ W)⟩
  case round =>
    obtain ⟨k, hk, rfl, HE, HB⟩ := hrel
    by_cases hlt : k < m
    · obtain ⟨b, o, rfl, hbb, hc0⟩ := hss k (by rw [HM.out]; exact hlt)
      obtain ⟨hx1, hx2⟩ := hz k (by rw [HM.out]; exact hlt)
      have hc := (HB.out.cell (p := ⟨b, o + k, none⟩) hbb).trans hc0
      have h1k := h1 k (by omega)
      have hd := (HB.out.cell (p := ⟨bb, k, none⟩) (World.block_lt_of_cell? W _ h1k)).trans h1k
      obtain ⟨h, hh⟩ : ∃ h, h = hasB up (k : Int) := ⟨_, rfl⟩
      rw [← hh] at hd
      obtain ⟨u, hu⟩ : ∃ u, u = upB (zs.getD k 0) := ⟨_, rfl⟩
      have CU : ∀ V : World, Calls Try.prog 56 #[.int .i64 (zs.getD k 0)] V fun e w' => e = .returned (.bool u) ∧ w' = V := fun V => by
        rw [hu]
        exact (Pk.impl_up (zs.getD k 0) V hx1 hx2).mono fun e w' q => ⟨q.1, q.2.symm⟩
      have HY := Lib.hid (fun e : u = h => (show ∀ i, i < k + 1 → upB (zs.getD i 0) = hasB up (i : Int) from fun i hi => by
        by_cases hik : i = k
        · rw [hik, ← hh, ← hu]; exact e
        · exact HE.out i (by omega)))
      have HNO := Lib.hid (fun e : u ≠ h => (show false = R by rw [HR.out, sides_no (i := k) (by rw [HM.out]; exact hlt) (by rw [← hh, ← hu]; exact e)]))
      clear hc0 h1k hh hu HE hx1 hx2
      generalize zs.getD k 0 = x at *
      by_cases e : u = h
      · have HS := Lib.hid (HY.out e)
        have hne : (!(u == h)) = false := by rw [e]; simp
        clear HY HNO e
        go_wp2_with fail
        go_quiet ((go_at_call 56; with_reducible exact Calls.quiet_of_same (CU _)))
        go_wp2
        go_roundw
        case rel => exact ⟨k + 1, by omega, by go_num, HS, Lib.hid (below_drewN HB.out _)⟩
        case measure => simp [intOf]; omega
      · have HS := Lib.hid (HNO.out e)
        have hne : (!(u == h)) = true := by simpa using e
        clear HY HNO e
        go_wp2_with fail
        go_quiet ((go_at_call 56; with_reducible exact Calls.quiet_of_same (CU _)))
        go_wp2
        go_ret
        exact ⟨ret_b HS.out, below_drewN HB.out _⟩
    · have hkn : k = m := by omega
      have HS := Lib.hid (show true = R by rw [HR.out, sides_yes (fun i hi => HE.out i (by rw [hkn, ← HM.out]; exact hi))])
      clear hkn HE
      go_wp2
      go_ret
      exact ⟨ret_b HS.out, HB.out⟩
set_option maxHeartbeats 2000000 in
theorem impl_sides (A : Option Addr) (n c : Nat) (ls : List RD) (A2 : Option Addr) (n2 c2 : Nat) (up : List Int) (w : World) (hn : ls.length = n) (hat : SSAt w w.heap.size A ls) (hf : ∀ i, i < n → Fits (ls.getD i rd0).zs) (hz : ∀ i, i < n → (ls.getD i rd0).zs.length ≤ 1048576) (hn2 : n ≤ 1048576)
    (hm2 : up.length = n2) (hb2 : n2 ≤ 9223372036854775807) (hz2 : Fits up) (hs2 : IntsAt w w.heap.size .i64 A2 up) :
    Calls Try.prog 28 #[.slice A n c, .slice A2 n2 c2] w (IsSS w.heap.size (seeF (sidesB up) (ls.map RD.zs)) w) := by
  have HU := Lib.hid hm2
  have HN := Lib.hid hn
  have HAT := Lib.hid hat
  have HF := Lib.hid hf
  have HZ := Lib.hid hz
  clear hm2 hn hat hf hz
  have hown0 : (w.alloc (.cells #[.bool false, .bool false, .bool false, .bool false, .bool false, .bool false, .bool false, .bool false, .bool false, .bool false, .bool false, .bool false] 56)).ownsRow w.heap.size 56 1 (.slice (some ⟨w.heap.size, 0, none⟩) 12 12) 12 (Prm.brow 12 (Prm.seenF up 0)) := by
    rw [Prm.seen_zero]
    exact World.ownsRow_lit w _ 12 (Nat.le_refl _) (by unfold maxLen; omega) rfl
  have HOWN0 := Lib.hid hown0
  clear hown0
  go_enter Try.func28, Try.ntmps28
  go_wp2
  go_loopw [7, 10] (fun _ i wr => ∃ k : Nat, k ≤ n2 ∧ i = .int .i64 k ∧ wr.ownsRow w.heap.size 56 1 (.slice (some ⟨w.heap.size, 0, none⟩) 12 12) 12 (Prm.brow 12 (Prm.seenF up k)) ∧ Below w.heap.size w wr) (fun _ i _ => n2 - (intOf i).toNat)
  case atStart => exact ⟨0, Nat.zero_le _, rfl, HOWN0.out, (Below.refl _ w).alloc (Nat.le_refl _) _⟩
  case round =>
    obtain ⟨k, hk, rfl, hown, hbw⟩ := hrel
    clear HOWN0
    by_cases hlt : k < n2
    · obtain ⟨b, o, rfl, hbb, hc⟩ := (hs2.below hbw) k (by rw [HU.out]; exact hlt)
      obtain ⟨hx1, hx2⟩ := hz2 k (by rw [HU.out]; exact hlt)
      have hlt' : k < up.length := by rw [HU.out]; exact hlt
      have hsn := fun y => Prm.seen_next up k 12 y hlt'
      have hso := seen_out (m := 12) hlt'
      generalize up.getD k 0 = x at hc hx1 hx2 hsn hso
      by_cases h0 : 0 ≤ x ∧ x < 12
      · obtain ⟨y, rfl⟩ : ∃ y : Nat, x = y := ⟨x.toNat, by omega⟩
        have hy : y < 12 := by omega
        have C1 : ∀ V : World, Calls Try.prog 44 #[.int .i64 (y : Int), .int .i64 12] V fun e w' => e = .returned (.bool true) ∧ V = w' := fun V => by
          have h := impl_in (y : Int) 12 V
          rw [show inB (y : Int) 12 = true from decide_eq_true h0] at h
          exact h
        have hcell : wr.cell? ⟨w.heap.size, y, none⟩ = some (.bool (Prm.seenF up k y)) := by rw [hown.cellAt y (by omega)]; exact Prm.brow_get hy
        have hst := hown.stored y (.bool true)
        rw [hsn y rfl] at hst
        have hfz := hown.frozenAt y
        have HST := Lib.hid hst
        have HB2 := Lib.hid (hbw.setCell (p := ⟨w.heap.size, y, none⟩) (Nat.le_refl _) (.bool true))
        clear hsn hso hlt' hst h0
        go_wp2_with fail
        refine (C1 _).mono ?_
        rintro e w' ⟨rfl, rfl⟩
        go_wp2
        go_roundw
        case rel => exact ⟨k + 1, by omega, by go_num, HST.out.1, HB2.out⟩
        case measure => simp [intOf]; omega
      · have C1 : ∀ V : World, Calls Try.prog 44 #[.int .i64 x, .int .i64 12] V fun e w' => e = .returned (.bool false) ∧ V = w' := fun V => by
          have h := impl_in x 12 V
          rw [show inB x 12 = false from decide_eq_false h0] at h
          exact h
        have HO2 := Lib.hid hown
        rw [← hso h0] at HO2
        clear hsn hso hlt' h0 hown
        go_wp2_with fail
        refine (C1 _).mono ?_
        rintro e w' ⟨rfl, rfl⟩
        go_wp2
        go_roundw
        case rel => exact ⟨k + 1, by omega, by go_num, HO2.out, hbw⟩
        case measure => simp [intOf]; omega
    · have hkn : k = n2 := by omega
      have hsz := hbw.size
      have hfit := fit_any 55 #[.pointer (some ⟨w.heap.size, 0, none⟩)] (sidesB up) A n c ls wr HN.out ((HAT.out.below hbw).more hsz) HF.out HZ.out hn2 (fun args w => rfl) (fun W A' m c' zs hbW hm hm2 hz hss => by
        refine sides1 up w.heap.size A' m c' zs W hm hm2 hz hss fun i hi => ?_
        rw [hkn] at hown
        have hcell : wr.cell? ⟨w.heap.size, i, none⟩ = some (.bool (Prm.seenF up n2 i)) := by rw [hown.cellAt i (by omega)]; exact Prm.brow_get hi
        rw [seen_all HU.out i] at hcell
        exact (hbW.cell (p := ⟨w.heap.size, i, none⟩) (World.block_lt_of_cell? wr _ hcell)).trans hcell)
      clear hkn hown
      go_wp2_with fail
      refine hfit.mono ?_
      rintro e w3 h3
      obtain ⟨A5, c5, rs5, rfl, hz5, ho5, hb5⟩ := Sps.ss_mono h3 hbw hsz hsz
      clear h3 hfit
      go_wp2
      go_ret
      exact ⟨A5, c5, rs5, rfl, hz5, ho5, hb5⟩
end Go.Proofs.Ythcggkhpamjjbaa.Knc
