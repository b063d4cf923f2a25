/- Lists of lists of ints as arguments: what they hold, the laws' copy of them and how their size is looked at. -/
import Derived.Test.YtioofakdklghpaaRws
import Derived.Deep.Matrix
set_option linter.unusedVariables false
set_option maxRecDepth 20000
namespace Go.Proofs.Ytioofakdklghpaa.Sst
open Go.Deep Go.RowKit Go.ChangeShapes Go.WideShapes Fr Own Ins Rws

/-- lists in memory below block B, to be read -/
def SSAt (w : World) (B : Nat) (A : Option Addr) (rs : List RD) : Prop :=
  ∀ j, j < rs.length → ∃ b o, A = some ⟨b, o, none⟩ ∧ b < B ∧ w.cell? ⟨b, o + j, none⟩ = some (rs.getD j rd0).v ∧ IntsAt w B .i64 (rs.getD j rd0).A (rs.getD j rd0).zs
theorem SSAt.below {w w' : World} {B : Nat} {A : Option Addr} {rs : List RD} (h : SSAt w B A rs) (hb : Below B w w') : SSAt w' B A rs := by
  intro j hj
  obtain ⟨b, o, hA, hlt, hc, hi⟩ := h j hj
  exact ⟨b, o, hA, hlt, (hb.cell (p := ⟨b, o + j, none⟩) hlt).trans hc, hi.below hb⟩
theorem SSAt.more {w : World} {B B' : Nat} {A : Option Addr} {rs : List RD} (h : SSAt w B A rs) (hB : B ≤ B') : SSAt w B' A rs := by
  intro j hj
  obtain ⟨b, o, hA, hlt, hc, hi⟩ := h j hj
  exact ⟨b, o, hA, Nat.lt_of_lt_of_le hlt hB, hc, hi.more hB⟩
theorem SSAt.nil (w : World) (B : Nat) (A : Option Addr) : SSAt w B A [] := fun j hj => absurd hj (Nat.not_lt_zero _)
def WfSS (rs : List RD) : Prop := ∀ i, i < rs.length → (rs.getD i rd0).zs.length ≤ maxLen ∧ Fits (rs.getD i rd0).zs
theorem at_of {W : World} {lo hi : Nat} {A : Option Addr} {n c : Nat} {rs : List RD} (h : SSRow W lo hi A n c rs) : SSAt W W.heap.size A rs := by
  intro j hj
  obtain ⟨g, rfl, hc⟩ := h.cell j (by rw [← h.len]; exact hj)
  have hg := (own_lo h.1 g rfl).2
  exact ⟨g, 0, rfl, hg, by rw [Nat.zero_add]; exact hc, (h.2.1 j hj).at_⟩
section
variable {H : Type} {enc : TypeId × Value → H} {P : Program}
theorem view_intss {W : World} {base : Nat} {t e q : TypeId} {v : Value} {d : DataW H} {ps : List MemPlace} (ht : P.underlying t = some (.slice e)) (he : P.underlying e = some (.slice q)) (hq : P.underlying q = some (.int .i64)) (ce : P.cellsOf e = 1) (cq : P.cellsOf q = 1)
    (hval : Value.okWide P W .any base t v) (hd : DataW.Trod enc P W 0 (fun _ => true) true t v d ps) (hlt : ∀ x ∈ ps, x.block < W.heap.size) :
    ∃ (A : Option Addr) (n c : Nat) (rs : List RD), v = .slice A n c ∧ rs.length = n ∧ n ≤ maxLen ∧ WfSS rs ∧ SSAt W W.heap.size A rs := by
  obtain ⟨a0, len, cap, rfl⟩ := okWide_slice ht hval
  obtain ⟨fuel, hf⟩ := hd
  rcases open_int_rows ht he hq ce cq hf with ⟨hcs, hx⟩ | ⟨a, len', cap', Ar, L, C, Z, hcs, _, hl, hm, hx, hr⟩
  · simp [Value.cells] at hcs
    obtain ⟨rfl, rfl, rfl⟩ := hcs
    exact ⟨none, 0, 0, [], rfl, rfl, Nat.zero_le _, (fun i hi => absurd hi (Nat.not_lt_zero _)), SSAt.nil _ _ _⟩
  · simp [Value.cells] at hcs
    obtain ⟨rfl, rfl, rfl⟩ := hcs
    simp only [Prod.mk.injEq] at hx
    have hget : ∀ i, i < len → ((List.range len).map fun r => (⟨Ar r, C r, (Z r).take (L r)⟩ : RD)).getD i rd0 = ⟨Ar i, C i, (Z i).take (L i)⟩ := by
      intro i hi
      simp [List.getD_eq_getElem?_getD, hi]
    have hzl : ∀ i, i < cap → ((Z i).take (L i)).length = L i := by
      intro i hi
      obtain ⟨_, h1, _, h3, _⟩ := hr i hi
      rw [List.length_take]; omega
    refine ⟨some a, len, cap, (List.range len).map fun r => ⟨Ar r, C r, (Z r).take (L r)⟩, rfl, by simp, by omega, ?_, ?_⟩
    · intro i hi
      simp only [List.length_map, List.length_range] at hi
      rw [hget i hi]
      obtain ⟨_, h1, h2, h3, h4, _⟩ := hr i (by omega)
      refine ⟨by show ((Z i).take (L i)).length ≤ maxLen; rw [hzl i (by omega)]; omega, ?_⟩
      exact fits_of fun z hz => h4 z (List.mem_of_mem_take hz)
    · intro j hj
      simp only [List.length_map, List.length_range] at hj
      rw [hget j hj]
      obtain ⟨hc, h1, h2, h3, h4, h5, h6⟩ := hr j (by omega)
      obtain ⟨b, off, spot⟩ := a
      have hspot : spot = none := by simpa [Addr.add] using World.cell?_spot (hr 0 (by omega)).1
      subst hspot
      have hbW : b < W.heap.size := hlt (.cell b off) (by rw [hx.2]; exact List.mem_append_left _ (MemPlace.mem_row.2 ⟨0, by omega, by simp⟩))
      refine ⟨b, off, rfl, hbW, ?_, ?_⟩
      · rw [← add_plain, hc]
        simp only [RD.v]
        rw [hzl j (by omega)]
      · intro k hk
        simp only at hk ⊢
        rw [hzl j (by omega)] at hk
        cases hA : Ar j with
        | none => have := h5 hA; omega
        | some a' =>
          obtain ⟨_, hcell⟩ := h6 a' hA
          obtain ⟨b', off', spot'⟩ := a'
          have hs' : spot' = none := by simpa [Addr.add] using World.cell?_spot (hcell 0 (by omega))
          subst hs'
          have hbW' : b' < W.heap.size := by
            refine hlt (.cell b' off') ?_
            rw [hx.2]
            refine List.mem_append_right _ (List.mem_flatMap.2 ⟨j, List.mem_range.2 (by omega), ?_⟩)
            rw [hA]
            exact MemPlace.mem_row.2 ⟨0, by omega, by simp⟩
          refine ⟨b', off', rfl, hbW', ?_⟩
          rw [← add_plain, hcell k (by omega)]
          simp [List.getD_eq_getElem?_getD, hk]
end

/-! ### a row put in its place -/
theorem getD_set {rs : List RD} {k i : Nat} {r : RD} (hk : k < rs.length) : (rs.set k r).getD i rd0 = if i = k then r else rs.getD i rd0 := by
  simp only [List.getD_eq_getElem?_getD]
  by_cases e : i = k
  · subst e
    rw [if_pos rfl, List.getElem?_set_self hk]; rfl
  · rw [if_neg e, List.getElem?_set_ne (fun h => e h.symm)]
theorem put_row {W : World} {lo b0 g : Nat} {n c : Nat} {rs : List RD} {k : Nat} {r : RD} (h : SSRow W lo b0 (some ⟨g, 0, none⟩) n c rs) (hk : k < n) (hlo : lo ≤ b0) (hin : W.ownsRow b0 3 1 (.slice r.A r.zs.length r.c) r.zs.length (r.zs.map (Value.int .i64))) :
    SSRow (W.setCell ⟨g, k, none⟩ r.v) lo (W.setCell ⟨g, k, none⟩ r.v).heap.size (some ⟨g, 0, none⟩) n c (rs.set k r) := by
  have hl := h.len
  have hkl : k < rs.length := by omega
  have hg := set_grown W ⟨g, k, none⟩ r.v
  have hin' : ∀ b, r.b = some b → b0 ≤ b ∧ b < W.heap.size := fun b hb => own_lo hin b hb
  have hsz := hg.size
  refine ⟨?_, ?_, ?_, ?_, Nat.le_refl _⟩
  · rw [List.map_set]
    exact (h.1.stored k r.v).1
  · intro i hi
    rw [List.length_set] at hi
    rw [getD_set hkl]
    split
    · refine ⟨own_mono (own_gr hin hg fun b hb e2 => ?_) hlo, fun a ha => ?_, Nat.le_refl _⟩
      · exact own_diff hin h.1 (by decide) b hb e2
      · have := (hin' a.block (by unfold RD.b; rw [ha]; rfl)).2; omega
    · have hr := h.2.1 i hi
      exact ⟨own_gr hr.1 hg fun b hb e2 => own_diff hr.1 h.1 (by decide) b hb e2, fun a ha => by have h5 := hr.2.1 a ha; have h6 := hr.2.2; omega, Nat.le_refl _⟩
  · intro i j hi hj hne b hb
    rw [List.length_set] at hi hj
    rw [getD_set hkl] at hb
    rw [getD_set hkl]
    by_cases ei : i = k
    · rw [if_pos ei] at hb
      have h1 := (hin' b hb).1
      rw [if_neg (fun e => hne (ei.trans e.symm))]
      intro e2
      have := (h.2.1 j hj).hi b e2
      omega
    · rw [if_neg ei] at hb
      have h1 := (h.2.1 i hi).hi b hb
      by_cases ej : j = k
      · rw [if_pos ej]
        intro e2
        have := (hin' b e2).1
        omega
      · rw [if_neg ej]
        exact h.2.2.1 i j hi hj hne b hb
  · intro a ha
    have h5 := h.2.2.2.1 a ha
    have h6 := h.2.2.2.2
    omega

def IsSSCopy (B : Nat) (n : Nat) (ls : List RD) (w : World) (e : Ending) (w' : World) : Prop :=
  ∃ g rs, e = .returned (.slice (some ⟨g, 0, none⟩) n n) ∧ rs.map RD.zs = ls.map RD.zs ∧ (∀ i, i < n → ∃ b, (rs.getD i rd0).A = some ⟨b, 0, none⟩) ∧ SSRow w' B w'.heap.size (some ⟨g, 0, none⟩) n n rs ∧ Below B w w'
theorem map_zs_of {rs ls : List RD} (hl : rs.length = ls.length) (h : ∀ i, i < rs.length → (rs.getD i rd0).zs = (ls.getD i rd0).zs) : rs.map RD.zs = ls.map RD.zs := by
  refine List.ext_getElem (by simp [hl]) fun i h1 h2 => ?_
  simp only [List.length_map] at h1 h2
  have e := h i h1
  simp only [List.getD_eq_getElem?_getD, List.getElem?_eq_getElem h1, List.getElem?_eq_getElem h2, Option.getD_some] at e
  simpa using e
theorem rows_none (W : World) (lo hi : Nat) (hh : hi ≤ W.heap.size) : Row W lo hi none 0 0 [] := ⟨World.ownsRow_nil _ _ _ _, (fun a e => by cases e), hh⟩
theorem rep_get (n i : Nat) : (List.replicate n rd0).getD i rd0 = rd0 := by
  simp only [List.getD_eq_getElem?_getD, List.getElem?_replicate]
  split <;> rfl
theorem rows_new {W : World} {lo : Nat} {A : Option Addr} {n c : Nat} (h : W.ownsRow lo 23 1 (.slice A n c) n (List.replicate n (.slice none 0 0))) : SSRow W lo W.heap.size A n c (List.replicate n rd0) := by
  refine ⟨by rw [List.map_replicate]; exact h, fun i hi => ?_, fun i j hi hj hne b hb => ?_, fun a e => (own_lo h a.block (by subst e; rfl)).2, Nat.le_refl _⟩
  · rw [rep_get]; exact rows_none _ _ _ (Nat.le_refl _)
  · rw [rep_get] at hb; cases hb
set_option maxHeartbeats 1000000 in
theorem to_ss (A : Option Addr) (n c : Nat) (ls : List RD) (w : World) (hn : ls.length = n) (hn2 : n ≤ 1048576) (hz : ∀ i, i < n → (ls.getD i rd0).zs.length ≤ 1048576) (hss : SSAt w w.heap.size A ls) :
    Calls Try.prog 16 #[.slice A n c] w (IsSSCopy w.heap.size n ls w) := by
  have HN := Lib.hid hn
  have HZ := Lib.hid hz
  clear hn hz
  obtain ⟨i0, hi, hz0, hz1, hz2⟩ := infos_parts
  go_enter Try.func16, Try.ntmps16
  go_wp2_with (refine wpList_make_full _ rfl (.tmp 6) (.tmp 6) 25 rfl w.heap.size 23 i0 (.slice none 0 0) 1 Try.underlying25 hi hz0 hz1 .i64 .i64 n n n rfl rfl rfl rfl (by rw [hz2]; omega) (by unfold maxLen; omega) (Nat.le_refl _) ?_)
  intro w1 hown hgrow
  have hb0 : Below w.heap.size w w1 := (Below.refl _ w).grown hgrow (Nat.le_refl _) (fun k hk => by cases hk)
  have hown0 : w1.ownsRow w.heap.size 23 1 (.slice (some ⟨w.heap.size, 0, none⟩) n n) n (List.replicate n (.slice none 0 0)) := by
    have e : (madeCells #[Value.slice none 0 0] n).toList = List.replicate n (.slice none 0 0) := by
      rw [toList_madeCells_one]
    rw [← e]
    simpa using hown
  have HR0 := Lib.hid (rows_new hown0)
  clear hown hgrow hown0
  go_wp2
  go_loopw [4] (fun i wr => ∃ k : Nat, k ≤ n ∧ i = .int .i64 k ∧ ∃ rs, Hid (SSRow wr w.heap.size wr.heap.size (some ⟨w.heap.size, 0, none⟩) n n rs) ∧ Hid (∀ j, j < k → (rs.getD j rd0).zs = (ls.getD j rd0).zs ∧ ∃ b, (rs.getD j rd0).A = some ⟨b, 0, none⟩) ∧ Below w.heap.size w wr) (fun i _ => n - (intOf i).toNat)
  case atStart => exact ⟨0, Nat.zero_le _, rfl, _, HR0, Lib.hid (fun j hj => absurd hj (Nat.not_lt_zero _)), hb0⟩
  case round =>
    obtain ⟨k, hk, rfl, rs, HR, HG, hbk⟩ := hrel
    clear HR0 hb0
    by_cases hlt : k < n
    · obtain ⟨b, o, rfl, hbb, hc, hi⟩ := (hss.below hbk) k (by rw [HN.out]; exact hlt)
      have hzk := HZ.out k hlt
      have hkl : k < rs.length := by rw [HR.out.len]; exact hlt
      have HGS := Lib.hid (fun (r : RD) (h1 : r.zs = (ls.getD k rd0).zs) (h2 : ∃ b, r.A = some ⟨b, 0, none⟩) => (show ∀ j, j < k + 1 → ((rs.set k r).getD j rd0).zs = (ls.getD j rd0).zs ∧ ∃ b, ((rs.set k r).getD j rd0).A = some ⟨b, 0, none⟩ from fun j hj => by
        rw [getD_set hkl]
        by_cases e : j = k
        · rw [if_pos e, e]; exact ⟨h1, h2⟩
        · rw [if_neg e]; exact HG.out j (by omega)))
      simp only [RD.v] at hc
      generalize (ls.getD k rd0).A = A1 at hc hi
      generalize (ls.getD k rd0).c = c1 at hc
      generalize (ls.getD k rd0).zs = zs at hc hi hzk HGS
      have HI := Lib.hid (hi.more hbk.size)
      have hs0 := hbk.size
      have HBK := Lib.hid hbk
      obtain ⟨m, hm⟩ : ∃ m, m = zs.length := ⟨_, rfl⟩
      rw [← hm] at hc hzk
      have HM := Lib.hid hm.symm
      clear hi HG hss hbk hm
      go_wp2_with fail
      refine (to_any A1 m c1 zs _ HM.out hzk HI.out).mono ?_
      rintro e w5 ⟨g5, rfl, hg5, hown5, hb5⟩
      have hr5 := HR.out.below hb5
      have hp := put_row (r := ⟨some ⟨g5, 0, none⟩, m, zs⟩) hr5 hlt hs0 (by show w5.ownsRow _ _ _ (.slice _ zs.length m) zs.length _; rw [HM.out]; exact hown5)
      have hcell : w5.cell? ⟨w.heap.size, k, none⟩ = some (rs.getD k rd0).v := by
        obtain ⟨g', hg', hc'⟩ := hr5.cell k hlt
        simp only [Option.some.injEq, Addr.mk.injEq, and_true] at hg'
        rw [hg']; exact hc'
      have hfz := hr5.1.frozenAt k
      have hvv : (⟨some ⟨g5, 0, none⟩, m, zs⟩ : RD).v = .slice (some ⟨g5, 0, none⟩) m m := by unfold RD.v; rw [HM.out]
      rw [hvv] at hp
      generalize (rs.getD k rd0).v = old at hcell
      have HP := Lib.hid hp
      have HG5 := Lib.hid (HGS.out ⟨some ⟨g5, 0, none⟩, m, zs⟩ rfl ⟨g5, rfl⟩)
      have HB5 := Lib.hid ((HBK.out.trans (hb5.mono hs0)).setCell (p := ⟨w.heap.size, k, none⟩) (Nat.le_refl _) (.slice (some ⟨g5, 0, none⟩) m m))
      clear hown5 hb5 hr5 hp hvv HR HGS HBK HI hc
      go_wp2
      go_roundw
      case rel => exact ⟨k + 1, by omega, by go_num, _, HP, HG5, HB5.out⟩
      case measure => simp [intOf]; omega
    · have hkn : k = n := by omega
      subst hkn
      clear hss hlt
      have HBK := Lib.hid hbk
      clear hbk
      go_wp2
      go_ret
      exact ⟨w.heap.size, rs, rfl, map_zs_of (by rw [HR.out.len, HN.out]) (fun i hi => (HG.out i (by rw [← HR.out.len]; exact hi)).1), fun i hi => (HG.out i hi).2, HR.out, HBK.out⟩
theorem sz_ints (A : Option Addr) (n c : Nat) (k : Int) (w : World) (hn2 : n ≤ 9223372036854775807) (h0 : 0 ≤ k) (h1 : k ≤ 1073741824) :
    Calls Try.prog 30 #[.slice A n c, .int .i64 k] w fun e w' => e = .returned (.int .i64 (if (n : Int) ≤ k then k - (n : Int) else -1)) ∧ w = w' := by
  by_cases h : (n : Int) ≤ k
  · rw [if_pos h]
    go_enter Try.func30, Try.ntmps30
    go_wp2
    go_ret
    exact ⟨rfl, rfl⟩
  · rw [if_neg h]
    have hneg : k - (n : Int) < 0 := by omega
    go_enter Try.func30, Try.ntmps30
    go_wp2
    go_ret
    exact ⟨rfl, rfl⟩
set_option maxHeartbeats 1000000 in
theorem sz_ss (A : Option Addr) (n c : Nat) (ls : List RD) (k : Nat) (w : World) (hn : ls.length = n) (hn2 : n ≤ 9223372036854775807) (hz : WfSS ls) (hk : k ≤ 1073741824) (hss : SSAt w w.heap.size A ls) :
    Calls Try.prog 14 #[.slice A n c, .int .i64 (k : Int)] w fun e w' => e = .returned (.int .i64 (if n + tot ls n ≤ k then (k : Int) - (n : Int) - (tot ls n : Int) else -1)) ∧ w = w' := by
  have HN := Lib.hid hn
  have HZ := Lib.hid hz
  have HM := Lib.hid (tot_mono ls)
  clear hn hz
  by_cases h0 : n ≤ k
  · have h0' : decide ((k : Int) - (n : Int) < 0) = false := decide_eq_false (by omega)
    obtain ⟨R, hR⟩ : ∃ R : Int, R = if n + tot ls n ≤ k then (k : Int) - (n : Int) - (tot ls n : Int) else -1 := ⟨_, rfl⟩
    rw [← hR]
    have HR := Lib.hid hR
    clear hR
    go_enter Try.func14, Try.ntmps14
    go_wp2
    go_loop [1, 5] (fun q i => ∃ j : Nat, j ≤ n ∧ i = .int .i64 j ∧ n + tot ls j ≤ k ∧ q = .int .i64 ((k : Int) - (n : Int) - (tot ls j : Int))) (fun _ i => n - (intOf i).toNat)
    case atStart => exact ⟨0, Nat.zero_le _, rfl, by simp [tot]; exact h0, by simp [tot]⟩
    case round =>
      obtain ⟨j, hj, rfl, hle, rfl⟩ := hrel
      by_cases hlt : j < n
      · obtain ⟨b, o, rfl, hbb, hc, _⟩ := hss j (by rw [HN.out]; exact hlt)
        have hlen := (HZ.out j (by rw [HN.out]; exact hlt)).1
        have htot : tot ls (j + 1) = tot ls j + (ls.getD j rd0).zs.length := rfl
        have hmono := HM.out (j + 1) n (by omega)
        simp only [RD.v] at hc
        generalize (ls.getD j rd0).A = A1 at hc
        generalize (ls.getD j rd0).c = c1 at hc
        generalize (ls.getD j rd0).zs.length = m at hc htot hlen
        have hm63 : m ≤ 9223372036854775807 := by unfold maxLen at hlen; omega
        generalize hT : tot ls j = T at *
        generalize hT2 : tot ls (j + 1) = T2 at *
        have HT := Lib.hid hT
        have HT2 := Lib.hid hT2
        clear hT hT2 hlen
        by_cases hfit : n + T2 ≤ k
        · go_wp2_with fail
          refine (sz_ints A1 m c1 ((k : Int) - (n : Int) - (T : Int)) w hm63 (by omega) (by omega)).mono ?_
          rintro e w1 ⟨rfl, rfl⟩
          rw [if_pos (by omega)]
          have hnn : decide ((k : Int) - (n : Int) - (T : Int) - (m : Int) < 0) = false := decide_eq_false (by omega)
          go_wp2
          go_round
          case rel => exact ⟨j + 1, by omega, by go_num, by rw [HT2.out]; exact hfit, by rw [HT2.out]; congr 1; omega⟩
          case measure => simp [intOf]; omega
        · have hRv : R = -1 := HR.out.trans (if_neg (by omega))
          subst hRv
          go_wp2_with fail
          refine (sz_ints A1 m c1 ((k : Int) - (n : Int) - (T : Int)) w hm63 (by omega) (by omega)).mono ?_
          rintro e w1 ⟨rfl, rfl⟩
          rw [if_neg (by omega)]
          go_wp2
          go_ret
          exact ⟨rfl, rfl⟩
      · have hjn : j = n := by omega
        subst hjn
        have hRv : R = (k : Int) - (j : Int) - (tot ls j : Int) := HR.out.trans (if_pos hle)
        have HRV := Lib.hid hRv
        clear hRv
        go_wp2
        go_ret
        exact ⟨congrArg (fun z => Ending.returned (.int .i64 z)) HRV.out.symm, rfl⟩
  · have hneg : (k : Int) - (n : Int) < 0 := by omega
    rw [if_neg (by omega)]
    clear hss
    go_enter Try.func14, Try.ntmps14
    go_wp2
    go_ret
    exact ⟨rfl, rfl⟩
end Go.Proofs.Ytioofakdklghpaa.Sst
