/- A message for a hand, in the model (l12Take). -/
import Derived.Test.YtingbpkbdafgeaaFcp
import Derived.Test.YtingbpkbdafgeaaHcp
import Derived.Test.YtingbpkbdafgeaaSps
import Derived.Deep.RegionHeld3
set_option linter.unusedVariables false
set_option maxRecDepth 20000
namespace Go.Proofs.Ytingbpkbdafgeaa.Tak
open Go.RowKit Fr _root_.Go.Proofs.Ytingbpkbdafgeaa.Own Pk Ins Pfn Rws Srt Sst Fnd Hix Fcp

/-! ### plain -/
def cf (tr : List Bool) : Nat := tr.count false
theorem cf_set {tr : List Bool} {k : Nat} (hk : k < tr.length) (h : tr.getD k true = false) : cf (tr.set k true) + 1 = cf tr := by
  unfold cf
  rw [List.getD_eq_getElem?_getD, List.getElem?_eq_getElem hk] at h
  have h : tr[k] = false := h
  rw [List.count_set hk, h]
  have : 0 < tr.count false := List.count_pos_iff.2 (by rw [← h]; exact List.getElem_mem _)
  simp
  omega
theorem cf_le {tr : List Bool} {k : Nat} : cf (tr.set k true) ≤ cf tr := by
  by_cases hk : k < tr.length
  · unfold cf
    rw [List.count_set hk]
    simp
  · rw [List.set_eq_of_length_le (by omega)]
    exact Nat.le_refl _
/-- what a search keeps: lengths, hands that are there, and it only adds to what was tried -/
structure Kp (n M : Nat) (st st' : St) : Prop where
  l1 : st'.1.length = M
  l2 : st'.2.length = M
  v : ∀ j, j < M → st'.1.getD j 0 < (n : Int)
  c : cf st'.2 ≤ cf st.2
theorem set_get {us : List Int} {k j : Nat} {x : Int} (hk : k < us.length) : (us.set k x).getD j 0 = if j = k then x else us.getD j 0 := by
  simp only [List.getD_eq_getElem?_getD]
  by_cases e : j = k
  · subst e
    rw [List.getElem?_set_self hk, if_pos rfl]
    rfl
  · rw [List.getElem?_set_ne (fun e2 => e e2.symm), if_neg e]
theorem loop_kp {rec : Nat → St → Bool × St} {hand n M : Nat} {Ms : List (List Int)} (hrec : ∀ h st, h < n → Kp n M st st → Kp n M st (rec h st).2) (hh : hand < n) : ∀ (L : List (List Int)) (st : St), (∀ m ∈ L, (idxI m Ms).toNat < M) → Kp n M st st → Kp n M st (loopT rec hand Ms L st).2 := by
  intro L
  induction L with
  | nil => exact fun st _ h => h
  | cons m ms ih =>
    intro st hm h
    have hk := hm m List.mem_cons_self
    rw [loopT]
    by_cases h1 : st.2.getD (idxI m Ms).toNat true = true
    · rw [if_pos h1]
      exact ih st (fun q hq => hm q (List.mem_cons_of_mem _ hq)) h
    · rw [if_neg h1]
      generalize (idxI m Ms).toNat = k at *
      have hst : Kp n M (st.1, st.2.set k true) (st.1, st.2.set k true) := ⟨h.l1, by rw [List.length_set]; exact h.l2, h.v, Nat.le_refl _⟩
      by_cases h2 : st.1.getD k 0 < 0
      · rw [if_pos h2]
        exact ⟨by rw [List.length_set]; exact h.l1, by rw [List.length_set]; exact h.l2, fun j hj => by
          rw [set_get (by rw [h.l1]; exact hk)]
          split
          · omega
          · exact h.v j hj, cf_le⟩
      · rw [if_neg h2]
        have hv := h.v k hk
        have hr := hrec (st.1.getD k 0).toNat (st.1, st.2.set k true) (by omega) hst
        simp only
        generalize rec (st.1.getD k 0).toNat (st.1, st.2.set k true) = r at *
        by_cases h3 : r.1 = true
        · rw [if_pos h3]
          exact ⟨by rw [List.length_set]; exact hr.l1, hr.l2, fun j hj => by
            rw [set_get (by rw [hr.l1]; exact hk)]
            split
            · omega
            · exact hr.v j hj, Nat.le_trans hr.c cf_le⟩
        · rw [if_neg h3]
          have := ih r.2 (fun q hq => hm q (List.mem_cons_of_mem _ hq)) ⟨hr.l1, hr.l2, hr.v, Nat.le_refl _⟩
          exact ⟨this.l1, this.l2, this.v, Nat.le_trans this.c (Nat.le_trans hr.c cf_le)⟩
/-- all messages of the hands are there -/
def AllIn (Hs Ms : List (List Int)) : Prop := ∀ q ∈ Hs, ∀ m ∈ Hnd.ordersF (q.length - 1) q, m ∈ Ms
theorem idx_lt {m : List Int} {Ms : List (List Int)} (h : m ∈ Ms) : idxI m Ms = ((idxI m Ms).toNat : Int) ∧ (idxI m Ms).toNat < Ms.length := by
  unfold idxI
  rw [if_pos h]
  exact ⟨by simp, by simpa using List.idxOf_lt_length_of_mem h⟩
theorem take_kp {Hs Ms : List (List Int)} (hA : AllIn Hs Ms) : ∀ (f hand : Nat) (st : St), hand < Hs.length → Kp Hs.length Ms.length st st → Kp Hs.length Ms.length st (takeF Hs Ms f hand st).2
  | 0, _, _, _, h => h
  | f + 1, hand, st, hh, h => by
    rw [takeF]
    refine loop_kp (fun h' st' hh' hs' => take_kp hA f h' st' hh' hs') hh _ st (fun m hm => ?_) h
    have hq : Hs.getD hand [] ∈ Hs := by
      rw [List.getD_eq_getElem?_getD, List.getElem?_eq_getElem hh]
      exact List.getElem_mem _
    exact (idx_lt (hA _ hq m hm)).2
/-! ### memory -/
structure Two (gu gt : Nat) (W W' : World) : Prop where
  os : W'.os = W.os
  tape : W'.tape = W.tape
  output : W'.output = W.output
  size : W.heap.size ≤ W'.heap.size
  block : ∀ k, k < W.heap.size → k ≠ gu → k ≠ gt → W'.heap[k]? = W.heap[k]?
section
variable {gu gt : Nat} {W W1 W2 : World}
theorem Two.refl : Two gu gt W W := ⟨rfl, rfl, rfl, Nat.le_refl _, fun _ _ _ _ => rfl⟩
theorem Two.trans (h : Two gu gt W W1) (h2 : Two gu gt W1 W2) : Two gu gt W W2 :=
  ⟨h2.os.trans h.os, h2.tape.trans h.tape, h2.output.trans h.output, Nat.le_trans h.size h2.size, fun k hk h3 h4 => (h2.block k (Nat.lt_of_lt_of_le hk h.size) h3 h4).trans (h.block k hk h3 h4)⟩
theorem Two.of_below (h : Below W.heap.size W W1) : Two gu gt W W1 := ⟨h.os, h.tape, h.output, h.size, fun k hk _ _ => h.block k hk⟩
theorem Two.of_u (h : W.grownBy W1 (some gu)) : Two gu gt W W1 := ⟨h.os, h.tape, h.output, h.size, fun k hk h3 _ => h.block k hk (fun e => h3 (by simpa using e))⟩
theorem Two.of_t (h : W.grownBy W1 (some gt)) : Two gu gt W W1 := ⟨h.os, h.tape, h.output, h.size, fun k hk _ h4 => h.block k hk (fun e => h4 (by simpa using e))⟩
theorem Two.below {B : Nat} (h : Two gu gt W W1) (h1 : B ≤ gu) (h2 : B ≤ gt) (h3 : B ≤ W.heap.size) : Below B W W1 := ⟨h.os, h.tape, h.output, h.size, fun k hk => h.block k (by omega) (by omega) (by omega)⟩
theorem Two.wi {lo : Nat} (h : Two gu gt W W1) (h1 : gu < lo) (h2 : gt < lo) : Wi 0 lo W W1 := ⟨h.os, h.tape, h.output, h.size, fun k hk h3 => h.block k hk (by omega) (by omega)⟩
end
def bvals (tr : List Bool) : List Value := tr.map Value.bool
theorem bvals_get {tr : List Bool} {k : Nat} (h : k < tr.length) : (bvals tr)[k]? = some (.bool (tr.getD k true)) := by
  simp [bvals, List.getElem?_map, List.getElem?_eq_getElem h, List.getD_eq_getElem?_getD]
theorem bvals_set (tr : List Bool) (k : Nat) (x : Bool) : (bvals tr).set k (.bool x) = bvals (tr.set k x) := by unfold bvals; rw [List.map_set]
/-- what a search for a message leaves -/
def IsTake (B gu cu gt ct M : Nat) (r : Bool × St) (w : World) (e : Ending) (w' : World) : Prop :=
  e = .returned (.bool r.1) ∧ w'.ownsRow B 3 1 (.slice (some ⟨gu, 0, none⟩) M cu) M (vals r.2.1) ∧ w'.ownsRow B 4 1 (.slice (some ⟨gt, 0, none⟩) M ct) M (bvals r.2.2) ∧ Two gu gt w w'
structure Tw (Hs Ms : List (List Int)) (B gu cu gt ct n M hand f br er : Nat) (A5 : Option Addr) (Q c5 : Nat) (rr : List RD) (L : List (List Int)) (r : Bool × St) (us : List Int) (tr : List Bool) (w : World) (j : Nat) (wr : World) : Prop where
  st : ∃ us' tr', wr.ownsRow B 3 1 (.slice (some ⟨gu, 0, none⟩) M cu) M (vals us') ∧ wr.ownsRow B 4 1 (.slice (some ⟨gt, 0, none⟩) M ct) M (bvals tr') ∧ Kp n M (us', tr') (us', tr') ∧ cf tr' ≤ f ∧ r = loopT (takeF Hs Ms f) hand Ms (L.drop j) (us', tr')
  two : Two gu gt w wr
  row : SSRow wr br er A5 Q c5 rr
  er : er ≤ wr.heap.size
set_option maxHeartbeats 8000000 in
theorem take_step (Hs Ms : List (List Int)) (A Am : Option Addr) (n c M cm B gu cu gt ct : Nat) (ls lm : List RD) (hn : ls.length = n) (hz : ls.map RD.zs = Hs) (hm : lm.length = M) (hmz : lm.map RD.zs = Ms) (hA : AllIn Hs Ms) (hH : ∀ q ∈ Hs, q.length ≤ 3 ∧ 1 ≤ q.length) (hMs : ∀ q ∈ Ms, q.length ≤ 3) (hcap : ∀ i, i < n → (ls.getD i rd0).zs.length ≤ (ls.getD i rd0).c) (hn2 : n ≤ 1000) (hM2 : M ≤ 1000) (f : Nat)
    (ih : ∀ f', f' + 1 = f → ∀ (hand : Nat) (us : List Int) (tr : List Bool) (w : World), hand < n → cf tr ≤ f' → Kp n M (us, tr) (us, tr) → SSAt w B A ls → SSAt w B Am lm → w.ownsRow B 3 1 (.slice (some ⟨gu, 0, none⟩) M cu) M (vals us) → w.ownsRow B 4 1 (.slice (some ⟨gt, 0, none⟩) M ct) M (bvals tr) →
      Calls Try.prog 68 #[.slice A n c, .slice Am M cm, .int .i64 (hand : Int), .slice (some ⟨gu, 0, none⟩) M cu, .slice (some ⟨gt, 0, none⟩) M ct] w (IsTake B gu cu gt ct M (takeF Hs Ms (f' + 1) hand (us, tr)) w)) :
    ∀ (hand : Nat) (us : List Int) (tr : List Bool) (w : World), hand < n → cf tr ≤ f → Kp n M (us, tr) (us, tr) → SSAt w B A ls → SSAt w B Am lm → w.ownsRow B 3 1 (.slice (some ⟨gu, 0, none⟩) M cu) M (vals us) → w.ownsRow B 4 1 (.slice (some ⟨gt, 0, none⟩) M ct) M (bvals tr) →
      Calls Try.prog 68 #[.slice A n c, .slice Am M cm, .int .i64 (hand : Int), .slice (some ⟨gu, 0, none⟩) M cu, .slice (some ⟨gt, 0, none⟩) M ct] w (IsTake B gu cu gt ct M (takeF Hs Ms (f + 1) hand (us, tr)) w) := by
  intro hand us tr w hh hcf hkp hat hmt hou hot
  have hBu := (own_lo hou gu rfl)
  have hBt := (own_lo hot gt rfl)
  have hgne : gu ≠ gt := fun e => own_diff hou hot (by decide) gu rfl (by rw [e]; rfl)
  obtain ⟨b1, o1, rfl, hb1, hc1, hi1⟩ := hat hand (by omega)
  have hz1 : (ls.getD hand rd0).zs = Hs.getD hand [] := by
    rw [← hz]
    simp [List.getD_eq_getElem?_getD, List.getElem?_eq_getElem (show hand < ls.length by omega)]
  have hmem : Hs.getD hand [] ∈ Hs := by
    rw [List.getD_eq_getElem?_getD, List.getElem?_eq_getElem (by rw [← hz, List.length_map]; omega)]
    exact List.getElem_mem _
  obtain ⟨hq1, hq2⟩ := hH _ hmem
  have hall := hA _ hmem
  have hcp := hcap hand hh
  have HTF := Lib.hid (show takeF Hs Ms (f + 1) hand (us, tr) = loopT (takeF Hs Ms f) hand Ms (Hnd.ordersF ((Hs.getD hand []).length - 1) (Hs.getD hand [])) (us, tr) from rfl)
  rw [← hz1] at hq1 hq2 hall HTF
  simp only [RD.v] at hc1
  generalize ls.getD hand rd0 = ry at *
  obtain ⟨Ay, dy, zy⟩ := ry
  simp only at hc1 hi1 hq1 hq2 hall hcp HTF
  obtain ⟨my, hmy⟩ : ∃ m, m = zy.length := ⟨_, rfl⟩
  rw [← hmy] at hc1 hq1 hq2 hall hcp HTF
  have hBw : B ≤ w.heap.size := by omega
  have HC0 := Hno.spec_orders (my - 1) zy Ay my dy w.drew hmy.symm hcp (by omega) (by omega) ((hi1.more hBw).below (Below.refl _ w).drew)
  rw [show ((my - 1 : Nat) : Int) = (my : Int) - 1 by omega] at HC0
  obtain ⟨L, hL⟩ : ∃ L, L = Hnd.ordersF (my - 1) zy := ⟨_, rfl⟩
  rw [← hL] at HC0 hall HTF
  have HLL := Lib.hid (show L.length ≤ 1000 by
    rw [hL]
    have h1 := Hno.orders_len (my - 1) zy
    have h2 : zy.length ^ (my - 1) ≤ 8 ^ (my - 1) := Nat.pow_le_pow_left (by omega) _
    have h3 : 8 ^ (my - 1) ≤ 8 ^ 3 := Nat.pow_le_pow_right (by decide) (by omega)
    have h4 : 8 ^ 3 = 512 := rfl
    omega)
  have HALL := Lib.hid hall
  have HMY := Lib.hid hmy
  have HC := Lib.hid HC0
  have HIH := Lib.hid ih
  have HGN := Lib.hid hgne
  have HN := Lib.hid hn
  have HM := Lib.hid hm
  have HMZ := Lib.hid hmz
  have HAA := Lib.hid hA
  have HMS := Lib.hid hMs
  have HAT := Lib.hid hat
  have HMT := Lib.hid hmt
  have HOU := Lib.hid hou
  have HOT := Lib.hid hot
  have HKP := Lib.hid hkp
  have HCF := Lib.hid hcf
  have HLN := Lib.hid (show Hs.length = n by rw [← hz, List.length_map, hn])
  have HLM := Lib.hid (show Ms.length = M by rw [← hmz, List.length_map, hm])
  have hw64 : IntKind.i64.wrap ((my : Int) - 1) = (my : Int) - 1 := IntWalk.i64_in _ (by omega)
  obtain ⟨r, hr⟩ : ∃ r, r = takeF Hs Ms (f + 1) hand (us, tr) := ⟨_, rfl⟩
  rw [← hr] at HTF ⊢
  clear hr ih hn hz hm hmz hA hH hMs hcap hcf hkp hat hmt hou hot hi1 hz1 hmem hall hcp HC0 hL hmy
  go_enter Try.func68, Try.ntmps68
  go_wp2_with fail
  go_region_held3 (fun w' => w'.cell? ⟨b1, o1 + hand, none⟩ = some (.slice Ay my dy)) ((first | exact hc1)) ((first | (go_at_call 61; refine HC.out.mono ?_; rintro e w5 ⟨A5, c5, rr, rfl, hrr, hrow, hb5⟩; replace hc1 := (hb5.cell (p := ⟨b1, o1 + hand, none⟩) (by show b1 < w.heap.size; omega)).trans hc1; have HB5 := Lib.hid hb5; have HRR := Lib.hid hrr; have HROW := Lib.hid hrow; clear hb5 hrr hrow)))
  all_goals
    have hs5 : w.heap.size ≤ w5.heap.size := HB5.out.size
    have HT5 := Lib.hid (show Two gu gt w w5 from Two.of_below ((Below.refl _ w).drew.trans HB5.out))
    have HOU5 := Lib.hid (show w5.ownsRow B 3 1 (.slice (some ⟨gu, 0, none⟩) M cu) M (vals us) from own_below HOU.out ((Below.refl _ w).drew.trans HB5.out))
    have HOT5 := Lib.hid (show w5.ownsRow B 4 1 (.slice (some ⟨gt, 0, none⟩) M ct) M (bvals tr) from own_below HOT.out ((Below.refl _ w).drew.trans HB5.out))
    obtain ⟨Q, hQ⟩ : ∃ q, q = L.length := ⟨_, rfl⟩
    have HQL := Lib.hid hQ.symm
    have hQ1 : Q ≤ 1000 := by rw [hQ]; exact HLL.out
    obtain ⟨br, hbr⟩ : ∃ b, b = w.heap.size := ⟨_, rfl⟩
    have HROW5 := Lib.hid (show SSRow w5 br w5.heap.size A5 Q c5 rr by rw [hbr, hQ]; exact HROW.out)
    have hgu : gu < br := by omega
    have hgt : gt < br := by omega
    rw [← hQ]
    obtain ⟨er, her⟩ : ∃ b, b = w5.heap.size := ⟨_, rfl⟩
    rw [← her] at HROW5
    have here : er ≤ w5.heap.size := by omega
    clear hQ HROW hc1
    have HR0 := Lib.hid (show r = loopT (takeF Hs Ms f) hand Ms (L.drop 0) (us, tr) from HTF.out)
    go_wp2
    go_loopw [12, 13, 26] (fun _ _ i wr => ∃ j : Nat, j ≤ Q ∧ i = .int .i64 (j : Int) ∧ Hid (Tw Hs Ms B gu cu gt ct n M hand f br er A5 Q c5 rr L r us tr w j wr)) (fun _ _ i _ => Q - (intOf i).toNat)
    case atStart => exact ⟨0, Nat.zero_le _, rfl, ⟨⟨us, tr, HOU5.out, HOT5.out, HKP.out, HCF.out, HR0.out⟩, HT5.out, HROW5.out, here⟩⟩
    case round =>
      obtain ⟨j, hj, rfl, HL⟩ := hrel
      clear HOU5 HOT5 HR0 HROW5 HT5 HKP HCF HOU HOT HTF
      by_cases hlt : j < Q
      · obtain ⟨us', tr', hou, hot, hkp, hcf, hr⟩ := HL.out.st
        have hrow := HL.out.row
        have her2 := HL.out.er
        have HT := Lib.hid HL.out.two
        obtain ⟨g5, rfl, hcell⟩ := hrow.cell j hlt
        have hrj := (hrow.2.1 j (by rw [hrow.len]; exact hlt)).at_
        obtain ⟨hz, hme⟩ := Col.map_get HRR.out (j := j) (by rw [hrow.len]; exact hlt)
        have hm3 := HMS.out _ (HALL.out _ hme)
        have hml : (idxI (L.getD j []) Ms).toNat < M := by
          rw [← HLM.out]
          exact (idx_lt (HALL.out _ hme)).2
        have hidx := (idx_lt (HALL.out _ hme)).1
        have hr2 : r = loopT (takeF Hs Ms f) hand Ms (L.getD j [] :: L.drop (j + 1)) (us', tr') := by
          rw [hr, List.drop_eq_getElem_cons (show j < L.length by rw [HQL.out]; exact hlt)]
          simp [List.getD_eq_getElem?_getD, List.getElem?_eq_getElem (show j < L.length by rw [HQL.out]; exact hlt)]
        rw [loopT] at hr2
        dsimp only at hr2
        have hgne := HGN.out
        have hBs : B ≤ wr.heap.size := Nat.le_trans hBw HT.out.size
        have hAM : SSAt wr B Am lm := HMT.out.below (HT.out.below hBu.1 hBt.1 hBw)
        have hAT : SSAt wr B (some ⟨b1, o1, none⟩) ls := HAT.out.below (HT.out.below hBu.1 hBt.1 hBw)
        have hms : ∀ i, i < M → (lm.getD i rd0).zs.length ≤ 1048576 := fun i hi => by
          have h1 : (lm.getD i rd0).zs ∈ Ms := by
            rw [← HMZ.out]
            refine List.mem_map.2 ⟨_, ?_, rfl⟩
            rw [List.getD_eq_getElem?_getD, List.getElem?_eq_getElem (show i < lm.length by rw [HM.out]; exact hi)]
            exact List.getElem_mem _
          have := HMS.out _ h1
          omega
        have hLM : LL wr Am lm := fun k hk => by
          obtain ⟨b, o, e, _, hc, hi⟩ := (hAM.more hBs) k hk
          exact ⟨b, o, e, hc, hi⟩
        simp only [RD.v] at hcell
        rw [hz] at hcell hrj
        generalize (rr.getD j rd0).A = A1 at hcell hrj
        generalize (rr.getD j rd0).c = c1 at hcell
        generalize L.getD j [] = q at *
        have HC1 := spec_index Am A1 M cm q.length c1 lm q wr HM.out hLM hms (by omega) rfl (by omega) hrj
        rw [HMZ.out, hidx] at HC1
        have HC := Lib.hid HC1
        generalize (idxI q Ms).toNat = k at *
        obtain ⟨l1, hl1⟩ : ∃ l, l = q.length := ⟨_, rfl⟩
        rw [← hl1] at HC hcell
        have HROW2 := Lib.hid hrow
        have HCF := Lib.hid hcf
        have HKP := Lib.hid hkp
        have HAM := Lib.hid hAM
        have HAT2 := Lib.hid hAT
        clear hrow hcf hr hz hme hm3 hidx hms hLM HC1 hrj hl1 HL hAM hAT
        have htl := hkp.l2
        have hul := hkp.l1
        simp only at htl hul
        have hct : wr.cell? ⟨gt, k, none⟩ = some (.bool (tr'.getD k true)) := (hot.cellAt k (by omega)).trans (bvals_get (by rw [htl]; exact hml))
        have hfz := hot.frozenAt k
        obtain ⟨o1t, o2t⟩ := hot.stored k (.bool true)
        rw [bvals_set] at o1t
        have hwt : Wi gt (gt + 1) wr (wr.setCell ⟨gt, k, none⟩ (.bool true)) := (Wi.refl gt (gt + 1) wr).grown o2t (by intro b hb; cases hb; omega)
        have hou1 : (wr.setCell ⟨gt, k, none⟩ (.bool true)).ownsRow B 3 1 (.slice (some ⟨gu, 0, none⟩) M cu) M (vals us') := own_wi hou hwt (by intro b hb; have e : gu = b := (by simpa using hb); omega)
        have hcu : (wr.setCell ⟨gt, k, none⟩ (.bool true)).cell? ⟨gu, k, none⟩ = some (.int .i64 (us'.getD k 0)) := (hou1.cellAt k (by omega)).trans (vals_get (by rw [hul]; exact hml))
        have hfu := hou1.frozenAt k
        have HUL := Lib.hid hul
        have HTL := Lib.hid htl
        have hsz1 := o2t.size
        cases hx : tr'.getD k true with
        | true =>
          rw [hx] at hct hr2
          rw [if_pos rfl] at hr2
          have HOU := Lib.hid hou
          have HOT := Lib.hid hot
          have HR := Lib.hid hr2
          clear hgne hcu hfu hou1 hwt o1t o2t hr2 hou hot hx htl hul hkp hsz1 hfz
          go_wp2_with fail
          refine HC.out.mono ?_
          rintro e w1 ⟨rfl, rfl⟩
          go_wp2
          (try go_roundg 0)
          all_goals
            first
              | exact ⟨j + 1, by omega, by go_num, ⟨us', tr', HOU.out, HOT.out, HKP.out, HCF.out, HR.out⟩, HT.out, HROW2.out, her2⟩
              | (refine ⟨⟨j + 1, by omega, by go_num, ⟨us', tr', HOU.out, HOT.out, HKP.out, HCF.out, HR.out⟩, HT.out, HROW2.out, her2⟩, ?_⟩; simp [intOf]; omega)
              | (simp [intOf]; omega)
        | false =>
          rw [hx] at hct hr2
          rw [if_neg (by decide)] at hr2
          have hcft := cf_set (show k < tr'.length by rw [htl]; exact hml) hx
          have HCFT := Lib.hid hcft
          have HT1 := Lib.hid (HT.out.trans (Two.of_t o2t))
          have HROW1 := Lib.hid (HROW2.out.wi ((Two.of_t o2t).wi hgu hgt) (Or.inr (Nat.le_refl _)))
          have HOT1 := Lib.hid o1t
          have HOU1 := Lib.hid hou1
          have hxv := hkp.v k hml
          simp only at hxv
          have her3 := Nat.le_trans her2 hsz1
          rcases Int.lt_or_le (us'.getD k 0) 0 with hneg | hpos
          · rw [if_pos hneg] at hr2
            obtain ⟨o1u, o2u⟩ := hou1.stored k (.int .i64 (hand : Int))
            rw [vals_set] at o1u
            have HOU2 := Lib.hid o1u
            have HT2 := Lib.hid (HT1.out.trans (Two.of_u o2u))
            have hwu : Wi gu (gu + 1) (wr.setCell ⟨gt, k, none⟩ (.bool true)) ((wr.setCell ⟨gt, k, none⟩ (.bool true)).setCell ⟨gu, k, none⟩ (.int .i64 (hand : Int))) := (Wi.refl gu (gu + 1) _).grown o2u (by intro b hb; cases hb; omega)
            have HOT2 := Lib.hid (own_wi o1t hwu (by intro b hb; have e : gt = b := (by simpa using hb); omega))
            have HR := Lib.hid hr2
            generalize us'.getD k 0 = x at *
            clear hgne hou1 hwt o1t o2t hr2 hou hot hx htl hul hkp hsz1 hcft o1u o2u hwu hxv
            go_wp2_with fail
            refine HC.out.mono ?_
            rintro e w1 ⟨rfl, rfl⟩
            go_wp2
            (try simp only [Exit.noGoto_ret])
            go_ret
            rw [HR.out]
            exact ⟨rfl, HOU2.out, HOT2.out, HT2.out⟩
          · rw [if_neg (by omega)] at hr2
            obtain ⟨xn, hxn⟩ : ∃ xn : Nat, us'.getD k 0 = (xn : Int) := ⟨(us'.getD k 0).toNat, by omega⟩
            rw [hxn] at hr2 hxv
            have hxn2 : xn < n := by omega
            have hcf := HCF.out
            obtain ⟨f', hf'⟩ : ∃ f', f' + 1 = f := ⟨f - 1, by omega⟩
            rw [show ((xn : Int)).toNat = xn by omega] at hr2
            have hKT : Kp n M (us', tr'.set k true) (us', tr'.set k true) := ⟨HUL.out, by rw [List.length_set]; exact HTL.out, hkp.v, Nat.le_refl _⟩
            have hBd : Below B wr (wr.setCell ⟨gt, k, none⟩ (.bool true)) := (Two.of_t (gu := gu) o2t).below hBu.1 hBt.1 hBs
            have HRC := Lib.hid (HIH.out f' hf' xn us' (tr'.set k true) (wr.setCell ⟨gt, k, none⟩ (.bool true)) hxn2 (by omega) hKT (HAT2.out.below hBd) (HAM.out.below hBd) HOU1.out HOT1.out)
            rw [hf'] at HRC
            have hKR : Kp n M (us', tr'.set k true) (takeF Hs Ms f xn (us', tr'.set k true)).2 := by
              have h1 := take_kp HAA.out f xn (us', tr'.set k true) (by rw [HLN.out]; exact hxn2) (by rw [HLN.out, HLM.out]; exact hKT)
              rw [HLN.out, HLM.out] at h1
              exact h1
            have HKR := Lib.hid (show Kp n M (takeF Hs Ms f xn (us', tr'.set k true)).2 (takeF Hs Ms f xn (us', tr'.set k true)).2 from ⟨hKR.l1, hKR.l2, hKR.v, Nat.le_refl _⟩)
            have HCR := Lib.hid (show cf (takeF Hs Ms f xn (us', tr'.set k true)).2.2 ≤ f from Nat.le_trans hKR.c (by show cf (tr'.set k true) ≤ f; omega))
            rw [hxn] at hcu
            have hx0 : ¬ ((xn : Int) < 0) := by omega
            generalize takeF Hs Ms f xn (us', tr'.set k true) = R1 at *
            obtain ⟨ok, us2, tr2⟩ := R1
            dsimp only at hr2 HKR HCR
            have HR := Lib.hid hr2
            clear hgne hou1 hwt o1t o2t hr2 hou hot hx htl hul hkp hsz1 hcft hxv hpos hcf hf' hKT hBd hKR HIH
            go_wp2_with fail
            refine HC.out.mono ?_
            rintro e w1 ⟨rfl, rfl⟩
            go_wp2_with fail
            refine HRC.out.mono ?_
            rintro e w2 ⟨rfl, hou2, hot2, hT2⟩
            have hrow2 := HROW1.out.wi (hT2.wi hgu hgt) (Or.inr (Nat.le_refl _))
            have her4 := Nat.le_trans her3 hT2.size
            have hTT := HT1.out.trans hT2
            dsimp only at hou2 hot2
            have hul2 := HKR.out.l1
            dsimp only at hul2
            have hfz2 := hou2.frozenAt k
            have hcz2 : w2.cell? ⟨gu, k, none⟩ = some (.int .i64 (us2.getD k 0)) := (hou2.cellAt k (by omega)).trans (vals_get (by rw [hul2]; exact hml))
            obtain ⟨o1u, o2u⟩ := hou2.stored k (.int .i64 (hand : Int))
            rw [vals_set] at o1u
            have hwu : Wi gu (gu + 1) w2 (w2.setCell ⟨gu, k, none⟩ (.int .i64 (hand : Int))) := (Wi.refl gu (gu + 1) _).grown o2u (by intro b hb; cases hb; omega)
            have HOT3 := Lib.hid (own_wi hot2 hwu (by intro b hb; have e : gt = b := (by simpa using hb); have := HGN.out; omega))
            have HOU3 := Lib.hid o1u
            have HT3 := Lib.hid (hTT.trans (Two.of_u o2u))
            have HOU2 := Lib.hid hou2
            have HOT2 := Lib.hid hot2
            have HROW3 := Lib.hid hrow2
            have HT2 := Lib.hid hTT
            clear hou2 hot2 hT2 hrow2 hTT hul2 o1u o2u hwu her3
            cases ok with
            | true =>
              rw [if_pos rfl] at HR
              go_wp2
              (try simp only [Exit.noGoto_ret])
              go_ret
              rw [HR.out]
              exact ⟨rfl, HOU3.out, HOT3.out, HT3.out⟩
            | false =>
              rw [if_neg (by decide)] at HR
              clear HOU3 HOT3 HT3
              go_wp2
              (try go_roundg 0)
              all_goals
                first
                  | exact ⟨j + 1, by omega, by go_num, ⟨us2, tr2, HOU2.out, HOT2.out, HKR.out, HCR.out, HR.out⟩, HT2.out, HROW3.out, her4⟩
                  | (refine ⟨⟨j + 1, by omega, by go_num, ⟨us2, tr2, HOU2.out, HOT2.out, HKR.out, HCR.out, HR.out⟩, HT2.out, HROW3.out, her4⟩, ?_⟩; simp [intOf]; omega)
                  | (simp [intOf]; omega)
      · have hjQ : j = Q := by omega
        subst hjQ
        obtain ⟨us', tr', hou, hot, hkp, hcf, hr⟩ := HL.out.st
        rw [← HQL.out, List.drop_length] at hr
        have HR := Lib.hid hr
        have HU := Lib.hid hou
        have HV := Lib.hid hot
        clear hr hou hot
        go_wp2
        go_ret
        rw [HR.out]
        exact ⟨rfl, HU.out, HV.out, HL.out.two⟩
theorem spec_take (Hs Ms : List (List Int)) (A Am : Option Addr) (n c M cm B gu cu gt ct : Nat) (ls lm : List RD) (hn : ls.length = n) (hz : ls.map RD.zs = Hs) (hm : lm.length = M) (hmz : lm.map RD.zs = Ms) (hA : AllIn Hs Ms) (hH : ∀ q ∈ Hs, q.length ≤ 3 ∧ 1 ≤ q.length) (hMs : ∀ q ∈ Ms, q.length ≤ 3) (hcap : ∀ i, i < n → (ls.getD i rd0).zs.length ≤ (ls.getD i rd0).c) (hn2 : n ≤ 1000) (hM2 : M ≤ 1000) : ∀ (f hand : Nat) (us : List Int) (tr : List Bool) (w : World), hand < n → cf tr ≤ f → Kp n M (us, tr) (us, tr) → SSAt w B A ls → SSAt w B Am lm → w.ownsRow B 3 1 (.slice (some ⟨gu, 0, none⟩) M cu) M (vals us) → w.ownsRow B 4 1 (.slice (some ⟨gt, 0, none⟩) M ct) M (bvals tr) →
      Calls Try.prog 68 #[.slice A n c, .slice Am M cm, .int .i64 (hand : Int), .slice (some ⟨gu, 0, none⟩) M cu, .slice (some ⟨gt, 0, none⟩) M ct] w (IsTake B gu cu gt ct M (takeF Hs Ms (f + 1) hand (us, tr)) w)
  | 0 => take_step Hs Ms A Am n c M cm B gu cu gt ct ls lm hn hz hm hmz hA hH hMs hcap hn2 hM2 0 (fun f' h => by omega)
  | f + 1 => take_step Hs Ms A Am n c M cm B gu cu gt ct ls lm hn hz hm hmz hA hH hMs hcap hn2 hM2 (f + 1) (fun f' h => by
    obtain rfl : f' = f := by omega
    exact spec_take Hs Ms A Am n c M cm B gu cu gt ct ls lm hn hz hm hmz hA hH hMs hcap hn2 hM2 f')
end Go.Proofs.Ytingbpkbdafgeaa.Tak
