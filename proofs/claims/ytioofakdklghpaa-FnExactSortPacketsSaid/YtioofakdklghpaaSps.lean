/- How the model sorts lists of lists (SortPackets). -/
import Derived.Test.YtioofakdklghpaaSpm
import Derived.Deep.RegionHeldLaw
import Derived.Deep.RegionHeld3
set_option linter.unusedVariables false
set_option maxRecDepth 20000
namespace Go.Proofs.Ytioofakdklghpaa.Sps
open Go.RowKit Fr Own Ins Rws Sam Srt Sst Spl Cat Spm

theorem rows_ok {W : World} {lo hi : Nat} {A : Option Addr} {n c : Nat} {rs : List RD} (h : SSRow W lo hi A n c rs) (hz : ∀ x ∈ rs.map RD.zs, x.length ≤ 1048576) : RowsOk rs := by
  intro i hi'
  have hr := (h.2.1 i hi').1
  refine ⟨hz _ (List.mem_map.2 ⟨rs.getD i rd0, ?_, rfl⟩), ?_, ?_⟩
  · rw [List.getD_eq_getElem?_getD, List.getElem?_eq_getElem hi']; exact List.getElem_mem _
  · intro e
    rcases hr.2 with ⟨hv, _⟩ | ⟨g, cap, cur, hv, _⟩
    · simp only [Value.slice.injEq] at hv; exact hv.2.2
    · rw [e] at hv; simp only [Value.slice.injEq] at hv; exact absurd hv.1 (by simp)
  · intro a e
    rcases hr.2 with ⟨hv, _⟩ | ⟨g, cap, cur, hv, _⟩
    · rw [e] at hv; simp only [Value.slice.injEq] at hv; exact absurd hv.1 (by simp)
    · rw [e] at hv; simp only [Value.slice.injEq, Option.some.injEq] at hv; rw [hv.1]
theorem ss_cap {W : World} {lo hi : Nat} {A : Option Addr} {n c : Nat} {rs : List RD} (h : SSRow W lo hi A n c rs) : n ≤ c := by
  rcases h.1.2 with ⟨hv, hn⟩ | ⟨g, cap, cur, hv, _, _, hn, _⟩
  · omega
  · simp only [Value.slice.injEq] at hv; omega
theorem ok_len {rs : List RD} (h : RowsOk rs) : ∀ x ∈ rs.map RD.zs, x.length ≤ 1048576 := by
  intro x hx
  obtain ⟨r, hr, rfl⟩ := List.mem_map.1 hx
  obtain ⟨i, hi, rfl⟩ := List.getElem_of_mem hr
  have := (h i hi).1
  rw [List.getD_eq_getElem?_getD, List.getElem?_eq_getElem hi] at this
  exact this
theorem cano_len {l : List (List Int)} (h : ∀ x ∈ l, x.length ≤ 1048576) : ∀ x ∈ cano l, x.length ≤ 1048576 := fun x hx => h x ((cano_mem l x).1 hx)
theorem take_len {l : List RD} (k : Nat) (h : ∀ x ∈ l.map RD.zs, x.length ≤ 1048576) : ∀ x ∈ (l.take k).map RD.zs, x.length ≤ 1048576 := fun x hx => h x (by
  obtain ⟨r, hr, rfl⟩ := List.mem_map.1 hx
  exact List.mem_map.2 ⟨r, List.mem_of_mem_take hr, rfl⟩)
theorem drop_len {l : List RD} (k : Nat) (h : ∀ x ∈ l.map RD.zs, x.length ≤ 1048576) : ∀ x ∈ (l.drop k).map RD.zs, x.length ≤ 1048576 := fun x hx => h x (by
  obtain ⟨r, hr, rfl⟩ := List.mem_map.1 hx
  exact List.mem_map.2 ⟨r, List.mem_of_mem_drop hr, rfl⟩)
theorem ss_mono {B B' : Nat} {zss : List (List Int)} {w w0 w' : World} {e : Ending} (h : IsSS B' zss w e w') (hb : Below B w0 w) (hB : B ≤ B') (hs : B ≤ w.heap.size) : IsSS B zss w0 e w' := by
  obtain ⟨A, c, rs, h1, h2, h3, h4⟩ := h
  refine ⟨A, c, rs, h1, h2, ⟨own_mono h3.1 hB, fun i hi => ⟨own_mono (h3.2.1 i hi).1 hB, (h3.2.1 i hi).2⟩, h3.2.2⟩, hb.trans (h4.mono hB)⟩
set_option maxHeartbeats 4000000 in
set_option maxRecDepth 20000 in
theorem sort_any (n : Nat) : ∀ (A : Option Addr) (c : Nat) (rs : List RD) (w : World), rs.length = n → SSAt w w.heap.size A rs → RowsOk rs → n ≤ c → n ≤ 2097152 →
    Calls Try.prog 15 #[.slice A n c] w (IsSS w.heap.size (cano (rs.map RD.zs)) w) := by
  induction n using Nat.strongRecOn with
  | _ n ih =>
    intro A c rs w hn hat hok hc hn2
    by_cases h2 : n < 2
    · have HM := Lib.hid (merge_any A n c rs none 0 0 [] w hn rfl hat (SSAt.nil _ _ _) hok RowsOk.nil hc (Nat.le_refl _) (by omega))
      have HE := Lib.hid (cano_short (l := rs.map RD.zs) (by rw [List.length_map, hn]; exact h2))
      clear hat hok ih
      go_enter Try.func15, Try.ntmps15
      go_wp2_with fail
      refine HM.out.mono ?_
      rintro e w1 ⟨A1, c1, rs1, rfl, hz, hr, hb⟩
      have HX := Lib.hid (show IsSS w.heap.size (cano (rs.map RD.zs)) w (.returned (.slice A1 (mergeL (rs.map RD.zs) (([] : List RD).map RD.zs)).length c1)) w1 from ⟨A1, c1, rs1, by rw [← HE.out]; rfl, hz.trans HE.out, by rw [← HE.out]; exact hr, hb⟩)
      clear hz hr hb HM
      go_wp2
      go_ret
      exact HX.out
    · obtain ⟨b, o, rfl⟩ : ∃ b o, A = some ⟨b, o, none⟩ := by
        obtain ⟨b, o, e, _⟩ := hat 0 (by omega)
        exact ⟨b, o, e⟩
      obtain ⟨h, hh⟩ : ∃ h, h = n / 2 := ⟨_, rfl⟩
      have hh1 : 1 ≤ h := by omega
      have hh2 : h < n := by omega
      have HDIV := Lib.hid (show (n : Int) / 2 = (h : Int) by omega)
      have L1 := Lib.hid (show (rs.take h).length = h by rw [List.length_take, hn]; omega)
      have L2 := Lib.hid (show (rs.drop h).length = n - h by rw [List.length_drop, hn])
      have S1 := Lib.hid (fun w' (hb : Below w.heap.size w w') => ih h hh2 (some ⟨b, o, none⟩) c (rs.take h) w' L1.out ((SSAt.take h hat).below hb |>.more hb.size) (hok.take h) (by omega) (by omega))
      have S2 := Lib.hid (fun w' (hb : Below w.heap.size w w') => ih (n - h) (by omega) (some ⟨b, o + h, none⟩) (c - h) (rs.drop h) w' L2.out ((SSAt.drop h hat).below hb |>.more hb.size) (hok.drop h) (by omega) (by omega))
      have Z0 := ok_len hok
      have Z1 := Lib.hid (cano_len (take_len h Z0))
      have Z2 := Lib.hid (cano_len (drop_len h Z0))
      have C1 := Lib.hid (show (cano ((rs.take h).map RD.zs)).length ≤ h by have := (cano_size ((rs.take h).map RD.zs)).1; rw [List.length_map, L1.out] at this; exact this)
      have C2 := Lib.hid (show (cano ((rs.drop h).map RD.zs)).length ≤ n - h by have := (cano_size ((rs.drop h).map RD.zs)).1; rw [List.length_map, L2.out] at this; exact this)
      have HE := Lib.hid (show mergeL (cano ((rs.take h).map RD.zs)) (cano ((rs.drop h).map RD.zs)) = cano (rs.map RD.zs) by rw [cano_merge, ← List.map_append, List.take_append_drop])
      obtain ⟨X1, hX1⟩ : ∃ X, X = cano ((rs.take h).map RD.zs) := ⟨_, rfl⟩
      obtain ⟨X2, hX2⟩ : ∃ X, X = cano ((rs.drop h).map RD.zs) := ⟨_, rfl⟩
      obtain ⟨X, hX⟩ : ∃ X, X = cano (rs.map RD.zs) := ⟨_, rfl⟩
      rw [← hX1] at S1 Z1 C1 HE
      rw [← hX2] at S2 Z2 C2 HE
      rw [← hX] at HE
      rw [← hX]
      clear hX1 hX2 hX
      have hch : ¬ c = h := by omega
      have h0i : (0 : Int) ≤ (h : Int) := by omega
      have hhi : (h : Int) ≤ (n : Int) := by omega
      have hhc : (h : Int) ≤ (c : Int) := by omega
      clear ih hat hok Z0 hh
      go_enter Try.func15, Try.ntmps15
      go_upto_region 4 with fail
      rw [HDIV.out]
      have hd0 : Below w.heap.size w w.drew := (Below.refl _ _).drew
      go_region_held3 (fun _ => True) ((first | exact trivial)) ((first
        | (go_at_call 15; refine (S2.out _ hbw1).mono ?_; rintro e w2 ⟨A2, c2, rs2, rfl, hz2, hr2, hb2⟩; have hr1' := hr1.below hb2; have hbw2 := hbw1.trans (hb2.mono hbw1.size))
        | (go_at_call 15; refine (S1.out _ hd0).mono ?_; rintro e w1 ⟨A1, c1, rs1, rfl, hz1, hr1, hb1⟩; have hbw1 := hd0.trans (hb1.mono (Nat.le_refl _)))
        | (go_at_call 31; refine (merge_any A1 _ c1 rs1 A2 _ c2 rs2 _ hr1'.len hr2.len ((at_of hr1')) ((at_of hr2)) (rows_ok hr1' (by rw [hz1]; exact Z1.out)) (rows_ok hr2 (by rw [hz2]; exact Z2.out)) (ss_cap hr1') (ss_cap hr2) (by have h1 := C1.out; have h2 := C2.out; omega)).mono ?_; rintro e w3 ⟨A3, c3, rs3, rfl, hz3, hr3, hb3⟩)))
      have h4 := ss_mono (e := .returned (.slice A3 (mergeL (rs1.map RD.zs) (rs2.map RD.zs)).length c3)) ⟨A3, c3, rs3, rfl, hz3, hr3, hb3⟩ hbw2 hbw2.size hbw2.size
      have he4 : mergeL (rs1.map RD.zs) (rs2.map RD.zs) = X := by rw [hz1, hz2, HE.out]
      rw [he4] at h4
      rw [HE.out]
      have H4 := Lib.hid h4
      clear h4 he4 hz1 hz2 hr1 hr2 hr1' hb1 hb2 hz3 hr3 hb3
      go_wp2
      go_ret
      exact H4.out
end Go.Proofs.Ytioofakdklghpaa.Sps
