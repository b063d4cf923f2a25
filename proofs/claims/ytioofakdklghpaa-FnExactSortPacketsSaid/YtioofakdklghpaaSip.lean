/- How the program sorts lists of lists (SortPackets). -/
import Derived.Test.YtioofakdklghpaaCpf
import Derived.Test.YtioofakdklghpaaLb
import Derived.Test.YtioofakdklghpaaSps
set_option linter.unusedVariables false
set_option maxRecDepth 20000
namespace Go.Proofs.Ytioofakdklghpaa.Sip
open Go.RowKit Fr Own Pk Ins Rws Lb Sam Srt Sst Spl Cmp Srp Cpf

theorem less_of_le_less {a b c : List Int} (h1 : leL a b) (h2 : lessL b c = true) : lessL a c = true := by
  cases h : lessL a c with
  | true => rfl
  | false =>
    have := le_trans (a := c) (b := a) (c := b) h h1
    unfold leL at this
    rw [h2] at this; cases this
theorem back {ss : List RD} : ∀ i, i < ss.length → ∃ j, j < ss.length ∧ keepB ss j = true ∧ (ss.getD j rd0).zs = (ss.getD i rd0).zs
  | 0, h => ⟨0, h, keep_zero ss, rfl⟩
  | i + 1, h => by
    by_cases e : (ss.getD (i + 1) rd0).zs = (ss.getD i rd0).zs
    · obtain ⟨j, h1, h2, h3⟩ := back (ss := ss) i (by omega)
      exact ⟨j, h1, h2, h3.trans e.symm⟩
    · exact ⟨i + 1, h, keep_pos (by rw [Nat.add_sub_cancel]; exact e), rfl⟩
/-- rows in order, without repetitions -/
theorem cmp_cano {ss : List RD} (h : ∀ i j, i < j → j < ss.length → leL (ss.getD i rd0).zs (ss.getD j rd0).zs) : (cmpR ss).map RD.zs = cano (ss.map RD.zs) := by
  refine cano_of ?_ ?_
  · unfold SortedL cmpR idx
    rw [List.map_map, List.pairwise_map, List.pairwise_filter, List.pairwise_iff_getElem]
    intro i j h1 h2 hij _ hk
    rw [List.length_range] at h1 h2
    simp only [List.getElem_range] at hk ⊢
    have hne : (ss.getD j rd0).zs ≠ (ss.getD (j - 1) rd0).zs := by
      rcases of_decide_eq_true hk with q | q
      · omega
      · exact q
    have h3 : lessL (ss.getD (j - 1) rd0).zs (ss.getD j rd0).zs = true := less_of_le (h (j - 1) j (by omega) h2) (fun e => hne e.symm)
    show lessL (ss.getD i rd0).zs (ss.getD j rd0).zs = true
    by_cases e : i = j - 1
    · rw [e]; exact h3
    · exact less_of_le_less (h i (j - 1) (by omega) (by omega)) h3
  · intro x
    constructor
    · intro hx
      obtain ⟨r, hr, rfl⟩ := List.mem_map.1 hx
      obtain ⟨i, hi, rfl⟩ := List.mem_map.1 hr
      have := List.mem_range.1 (List.mem_filter.1 hi).1
      refine List.mem_map.2 ⟨_, ?_, rfl⟩
      rw [List.getD_eq_getElem?_getD, List.getElem?_eq_getElem this]
      exact List.getElem_mem _
    · intro hx
      obtain ⟨r, hr, rfl⟩ := List.mem_map.1 hx
      obtain ⟨i, hi, rfl⟩ := List.getElem_of_mem hr
      obtain ⟨j, h1, h2, h3⟩ := back i hi
      refine List.mem_map.2 ⟨ss.getD j rd0, List.mem_map.2 ⟨j, List.mem_filter.2 ⟨List.mem_range.2 h1, h2⟩, rfl⟩, ?_⟩
      rw [h3, List.getD_eq_getElem?_getD, List.getElem?_eq_getElem hi]
      rfl
theorem take_zs {ls rs : List RD} {k : Nat} {r : RD} (hk : k < ls.length) (h : rs.map RD.zs = (ls.map RD.zs).take k) (hr : r.zs = (ls.getD k rd0).zs) : (rs ++ [r]).map RD.zs = (ls.map RD.zs).take (k + 1) := by
  rw [List.map_append, h, List.take_succ_eq_append_getElem (by simpa using hk)]
  congr 1
  simp [hr, List.getD_eq_getElem?_getD, List.getElem?_eq_getElem hk]
theorem perm_len {ss rs : List RD} (hp : ss.Perm rs) (B : Nat) (h : ∀ x ∈ rs.map RD.zs, x.length ≤ B) (i : Nat) : (ss.getD i rd0).zs.length ≤ B := by
  by_cases hi : i < ss.length
  · refine h _ (List.mem_map.2 ⟨ss.getD i rd0, hp.mem_iff.1 ?_, rfl⟩)
    rw [List.getD_eq_getElem?_getD, List.getElem?_eq_getElem hi]
    exact List.getElem_mem _
  · rw [List.getD_eq_getElem?_getD, List.getElem?_eq_none (by omega)]
    exact Nat.zero_le _
theorem len_of {rs : List RD} (B : Nat) (h : ∀ x ∈ rs.map RD.zs, x.length ≤ B) (i : Nat) : (rs.getD i rd0).zs.length ≤ B := perm_len (List.Perm.refl rs) B h i
theorem len_of' {rs : List RD} {B n : Nat} (hl : rs.length = n) (h : ∀ i, i < n → (rs.getD i rd0).zs.length ≤ B) : ∀ x ∈ rs.map RD.zs, x.length ≤ B := by
  intro x hx
  obtain ⟨r, hr, rfl⟩ := List.mem_map.1 hx
  obtain ⟨i, hi, rfl⟩ := List.getElem_of_mem hr
  have := h i (by omega)
  rw [List.getD_eq_getElem?_getD, List.getElem?_eq_getElem hi] at this
  exact this
/-- sorted, without repetitions -/
theorem sorted_ss {lo hi : Nat} {A : Option Addr} {c : Nat} {rs ss : List RD} {w w0 w' : World} {e : Ending} {zss : List (List Int)} (hp : ss.Perm rs) (hs : ∀ i j, i < j → j < ss.length → leL (ss.getD i rd0).zs (ss.getD j rd0).zs) (hz : rs.map RD.zs = zss)
    (hc : IsCmp lo hi A c ss w e w') (hb : Below lo w0 w) (hlo : lo ≤ w.heap.size) (hA : ∀ k, A.map (·.block) = some k → lo ≤ k) : IsSS lo (cano zss) w0 e w' := by
  obtain ⟨rfl, hr, hg⟩ := hc
  have e1 : (cmpR ss).map RD.zs = cano zss := by
    rw [cmp_cano hs]
    refine cano_same fun x => ?_
    rw [← hz]
    exact (hp.map RD.zs).mem_iff
  have e2 : (cmpR ss).length = (cano zss).length := by rw [← e1, List.length_map]
  refine ⟨A, c, cmpR ss, by rw [e2], e1, ?_, hb.grown hg hlo hA⟩
  rw [← e2]
  exact hr.higher hr.2.2.2.2 (Nat.le_refl _)
set_option maxHeartbeats 4000000 in
theorem isort_any (A : Option Addr) (n c : Nat) (ls : List RD) (w : World) (hn : ls.length = n) (hat : SSAt w w.heap.size A ls) (hz : ∀ i, i < n → (ls.getD i rd0).zs.length ≤ 1048576) (hn2 : n ≤ 1048576) :
    Calls Try.prog 17 #[.slice A n c] w (IsSS w.heap.size (cano (ls.map RD.zs)) w) := by
  obtain ⟨i1, hj, hy0, hy1, hy2⟩ := infos_parts
  have HN := Lib.hid hn
  have HAT := Lib.hid hat
  have HZ := Lib.hid hz
  have HZX := Lib.hid (len_of' hn hz)
  clear hn hat hz
  go_enter Try.func17, Try.ntmps17
  go_wp2
  go_loopw [3, 5, 8] (fun s _ i wr => ∃ (k : Nat) (A3 : Option Addr) (c3 : Nat) (rs : List RD), k ≤ n ∧ i = .int .i64 k ∧ s = .slice A3 k c3 ∧ SSRow wr w.heap.size wr.heap.size A3 k c3 rs ∧ Hid (rs.map RD.zs = (ls.map RD.zs).take k) ∧ Below w.heap.size w wr) (fun _ _ i _ => n - (intOf i).toNat)
  case atStart => exact ⟨0, none, 0, [], Nat.zero_le _, rfl, rfl, SSRow.none_ w w.heap.size, rfl, Below.refl _ w⟩
  case round =>
    obtain ⟨k, A3, c3, rs, hk, rfl, rfl, hrow, HRZ, hbw⟩ := hrel
    have hsz := hbw.size
    by_cases hlt : k < n
    · obtain ⟨b, o, rfl, hbb, hc, hi⟩ := (HAT.out.below hbw) k (by rw [HN.out]; exact hlt)
      have hzk := HZ.out k hlt
      have HT := Lib.hid (fun (r : RD) (hr : r.zs = (ls.getD k rd0).zs) => take_zs (ls := ls) (k := k) (r := r) (by rw [HN.out]; exact hlt) HRZ hr)
      generalize ls.getD k rd0 = R at *
      obtain ⟨B1, d1, zs⟩ := R
      simp only [RD.v] at hc hi hzk HT
      have HROW := Lib.hid hrow
      have HB := Lib.hid hbw
      have HQ := Lib.hid (clone_any B1 zs.length d1 zs wr rfl hzk (hi.more hsz))
      clear hrow hbw HRZ hi HN HAT
      go_wp2_with fail
      refine HQ.out.mono ?_
      rintro e w2 ⟨A4, c4, rfl, hown4, hb4⟩
      have hr2 := HROW.out.below hb4
      have hs2 := hb4.size
      have HB2 := Lib.hid (HB.out.trans (hb4.mono hsz))
      clear HQ
      go_wp2_with (at_builtin; refine app_more rfl (.tmp 12) (.tmp 15) 25 rfl w.heap.size 23 i1 (.slice none 0 0) 24 Try.underlying25 hj hy0 hy1 hy2 (by decide) rfl A3 c3 k _ rfl hr2.1 (.slice A4 zs.length c4) rfl _ rfl rfl (by omega) (by omega) ?_; intro g6 c6 w6 hown6 hgr6)
      have HSN := Lib.hid (SSRow.snoc (zs := zs) (A1 := A4) (c1 := c4) hr2 hsz hown4 hown6 hgr6)
      have HB3 := Lib.hid (HB2.out.grown hgr6 (by omega) (fun j hj' => HROW.out.outlo j hj'))
      have HTT := Lib.hid (HT.out ⟨A4, c4, zs⟩ rfl)
      clear hown6 hgr6 hown4 hr2 HT
      go_roundw
      case rel => exact ⟨k + 1, _, c6, rs ++ [⟨A4, c4, zs⟩], by omega, by go_num, by go_num, HSN.out, HTT, HB3.out⟩
      case measure => simp [intOf]; omega
    · have hkn : k = n := by omega
      subst hkn
      have HRZ2 := Lib.hid (show rs.map RD.zs = ls.map RD.zs by have h := HRZ.out; rw [List.take_of_length_le (by rw [List.length_map, HN.out]; exact Nat.le_refl _)] at h; exact h)
      have hlen := hrow.len
      have HX := Lib.hid (show ∀ x ∈ rs.map RD.zs, x.length ≤ 1048576 by rw [HRZ2.out]; exact HZX.out)
      have HS := Lib.hid (sort_rows _ _ A3 k c3 rs wr hrow (by omega) (fun i hi' => len_of 1048576 HX.out i))
      have HROW := Lib.hid hrow
      have HB := Lib.hid hbw
      clear hrow hbw HRZ HN HAT HZ HZX hlt
      go_wp2_with fail
      refine HS.out.mono ?_
      rintro e w2 ⟨rfl, ss, hp, hso, hrow2, hg2⟩
      have hcap := Sps.ss_cap hrow2
      have HC := Lib.hid (compact_rows _ _ A3 k c3 ss w2 hrow2 (by omega) (fun i hi' => perm_len hp 1048576 HX.out i) hcap)
      have HB2 := Lib.hid (HB.out.grown hg2 hsz (fun j hj' => HROW.out.outlo j hj'))
      have hs2 : w.heap.size ≤ w2.heap.size := Nat.le_trans hsz hg2.size
      have HSO := Lib.hid (show ∀ i j, i < j → j < ss.length → leL (ss.getD i rd0).zs (ss.getD j rd0).zs from fun i j h1 h2 => hso i j h1 (by rw [← hrow2.len]; exact h2))
      have HP := Lib.hid hp
      clear hrow2 hg2 hso hp HS
      go_wp2_with fail
      refine HC.out.mono ?_
      intro e w3 h3
      have HE := Lib.hid (sorted_ss HP.out HSO.out HRZ2.out h3 HB2.out hs2 (fun j hj' => HROW.out.outlo j hj'))
      obtain ⟨rfl, _⟩ := h3
      go_wp2
      go_ret
      exact HE.out
end Go.Proofs.Ytioofakdklghpaa.Sip
