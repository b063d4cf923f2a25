/- GatherPiles of the program. -/
import Derived.Test.YtpfbjbakcfmngaaGlb
import Derived.Test.YtpfbjbakcfmngaaCaw
import Derived.Test.YtpfbjbakcfmngaaPlk
import Derived.Test.YtpfbjbakcfmngaaPok
set_option linter.unusedVariables false
set_option linter.unusedSimpArgs false
set_option maxRecDepth 20000
namespace Go.Proofs.Ytpfbjbakcfmngaa.Gat
open Go.RowKit Fr _root_.Go.Proofs.Ytpfbjbakcfmngaa.Own Pk Ins Pfn Rws Lb Plk Glb

/-- which pile comes at place k -/
def idxAt (ch pl k : Nat) : Nat := if k = pl then ch else if k < pl then (if k < ch then k else k + 1) else (if k - 1 < ch then k - 1 else k)
def gatF (zss : List (List Int)) (ch pl : Nat) : List Int := Cat.cat (fun k => zss.getD (idxAt ch pl k) []) zss.length
def placeB (n ch pl : Int) : Bool := decide (2 ≤ n ∧ n ≤ 4) && (inB ch n && inB pl n)
def gatB (zss : List (List Int)) (ch pl : Int) : Bool := placeB zss.length ch pl && Pok.okB (gatF zss ch.toNat pl.toNat)
def gatL (zss : List (List Int)) (ch pl : Int) : List Int := if gatB zss ch pl then gatF zss ch.toNat pl.toNat else []
theorem gat_no {zss : List (List Int)} {ch pl : Int} (h : gatB zss ch pl = false) : gatL zss ch pl = [] := by unfold gatL; rw [h]; rfl
theorem gat_yes {zss : List (List Int)} {ch pl : Int} (h : gatB zss ch pl = true) : gatL zss ch pl = gatF zss ch.toNat pl.toNat := by unfold gatL; rw [h]; rfl
theorem place_no {zss : List (List Int)} {ch pl : Int} (h : placeB zss.length ch pl = false) : gatB zss ch pl = false := by unfold gatB; rw [h]; rfl
theorem place_parts {n : Nat} {ch pl : Int} (h : placeB n ch pl = true) : (n = 2 ∨ n = 3 ∨ n = 4) ∧ ∃ c p : Nat, ch = c ∧ pl = p ∧ c < n ∧ p < n := by
  unfold placeB inB at h
  simp only [Bool.and_eq_true, decide_eq_true_eq] at h
  obtain ⟨h1, ⟨h2, h3⟩, h4, h5⟩ := h
  exact ⟨by omega, ch.toNat, pl.toNat, by omega, by omega, by omega, by omega⟩
theorem idx_lt {n ch pl k : Nat} (h1 : ch < n) (h2 : pl < n) (hk : k < n) : idxAt ch pl k < n := by
  unfold idxAt
  split
  · exact h1
  · split
    · split <;> omega
    · split <;> omega
theorem put_len {α : Type} {V : List α} {n ch pl : Nat} {x : α} (hn : V.length = n) (h1 : ch < n) (h2 : pl < n) : (putIn (cutOut V ch) pl x).length = n := by
  simp only [putIn, cutOut, List.length_append, List.length_cons, List.length_take, List.length_drop]
  omega
theorem put_get {α : Type} (d : α) {V : List α} {n ch pl : Nat} (hn : V.length = n) (h4 : n = 2 ∨ n = 3 ∨ n = 4) (h1 : ch < n) (h2 : pl < n) (k : Nat) (hk : k < n) :
    (putIn (cutOut V ch) pl (V.getD ch d)).getD k d = V.getD (idxAt ch pl k) d := by
  rcases h4 with rfl | rfl | rfl
  · match V, hn with
    | [a, b], _ =>
      rcases (show ch = 0 ∨ ch = 1 by omega) with rfl | rfl <;> rcases (show pl = 0 ∨ pl = 1 by omega) with rfl | rfl <;> rcases (show k = 0 ∨ k = 1 by omega) with rfl | rfl <;> rfl
  · match V, hn with
    | [a, b, c], _ =>
      rcases (show ch = 0 ∨ ch = 1 ∨ ch = 2 by omega) with rfl | rfl | rfl <;> rcases (show pl = 0 ∨ pl = 1 ∨ pl = 2 by omega) with rfl | rfl | rfl <;> rcases (show k = 0 ∨ k = 1 ∨ k = 2 by omega) with rfl | rfl | rfl <;> rfl
  · match V, hn with
    | [a, b, c, e], _ =>
      rcases (show ch = 0 ∨ ch = 1 ∨ ch = 2 ∨ ch = 3 by omega) with rfl | rfl | rfl | rfl <;> rcases (show pl = 0 ∨ pl = 1 ∨ pl = 2 ∨ pl = 3 by omega) with rfl | rfl | rfl | rfl <;> rcases (show k = 0 ∨ k = 1 ∨ k = 2 ∨ k = 3 by omega) with rfl | rfl | rfl | rfl <;> rfl
theorem put_map {rs : List RD} {ch pl : Nat} {x : RD} : (putIn (cutOut rs ch) pl x).map RD.v = putIn (cutOut (rs.map RD.v) ch) pl x.v := by
  simp [putIn, cutOut, List.map_take, List.map_drop]
theorem cat_congr {f g : Nat → List Int} : ∀ n, (∀ k, k < n → f k = g k) → Cat.cat f n = Cat.cat g n
  | 0, _ => rfl
  | n + 1, h => by rw [Cat.cat, Cat.cat, cat_congr n (fun k hk => h k (by omega)), h n (by omega)]
theorem cat_le {f : Nat → List Int} {B : Nat} : ∀ n, (∀ k, k < n → (f k).length ≤ B) → (Cat.cat f n).length ≤ B * n
  | 0, _ => Nat.zero_le _
  | n + 1, h => by
    rw [Cat.cat, List.length_append, Nat.mul_succ]
    have h1 := cat_le (B := B) n (fun k hk => h k (by omega))
    have h2 := h n (by omega)
    omega
theorem cat_fits {f : Nat → List Int} : ∀ n, (∀ k, k < n → Fits (f k)) → Fits (Cat.cat f n)
  | 0, _ => fun i hi => by simp [Cat.cat] at hi
  | n + 1, h => by
    intro i hi
    rw [Cat.cat] at hi ⊢
    rw [List.length_append] at hi
    by_cases h1 : i < (Cat.cat f n).length
    · have := cat_fits n (fun k hk => h k (by omega)) i h1
      rw [List.getD_eq_getElem?_getD, List.getElem?_append_left h1, ← List.getD_eq_getElem?_getD]
      exact this
    · have := h n (by omega) (i - (Cat.cat f n).length) (by omega)
      rw [List.getD_eq_getElem?_getD, List.getElem?_append_right (by omega), ← List.getD_eq_getElem?_getD]
      exact this
theorem gat_short (zss : List (List Int)) (ch pl : Int) : (gatL zss ch pl).length ≤ 1048576 := by
  cases h : gatB zss ch pl with
  | false => rw [gat_no h]; exact Nat.zero_le _
  | true =>
    rw [gat_yes h]
    unfold gatB at h
    rw [Bool.and_eq_true] at h
    have h2 := h.2
    unfold Pok.okB at h2
    rw [Bool.and_eq_true, decide_eq_true_eq] at h2
    omega
theorem row_vals {rs : List RD} : ∀ u ∈ rs.map RD.v, u.oneCell' = true := by
  intro u hu
  obtain ⟨r, _, rfl⟩ := List.mem_map.1 hu
  rfl
theorem fits_get {zss : List (List Int)} (h : ∀ l ∈ zss, Fits l) (i : Nat) : Fits (zss.getD i []) := by
  by_cases hi : i < zss.length
  · rw [List.getD_eq_getElem?_getD, List.getElem?_eq_getElem hi]
    exact h _ (List.getElem_mem _)
  · rw [List.getD_eq_getElem?_getD, List.getElem?_eq_none (by omega)]
    exact fun i hi => by simp at hi
theorem zs_get {rs : List RD} {zss : List (List Int)} (h : rs.map RD.zs = zss) (i : Nat) : (rs.getD i rd0).zs = zss.getD i [] := by
  rw [← h]
  by_cases hi : i < rs.length
  · simp [List.getD_eq_getElem?_getD, List.getElem?_eq_getElem hi]
  · simp [List.getD_eq_getElem?_getD, List.getElem?_eq_none (show rs.length ≤ i by omega), rd0]
def NoIL (w : World) (e : Ending) (w' : World) : Prop := IsILB w.heap.size [] false w e w'
theorem no_ilb (w : World) : IsILB w.heap.size [] false w (.returned (.tuple #[.slice none 0 0, .bool false])) w := ⟨none, 0, rfl, World.ownsRow_nil _ _ _ _, Below.refl _ _⟩
set_option maxHeartbeats 1000000 in
theorem gather_no (A : Option Addr) (n c : Nat) (ch pl : Int) (w : World) (hn : n ≤ 1048576) (h : placeB n ch pl = false) :
    Calls Try.prog 20 #[.slice A n c, .int .i64 ch, .int .i64 pl] w (IsILB w.heap.size [] false w) := by
  by_cases h1 : n < 2
  · clear h
    go_enter Try.func20, Try.ntmps20
    go_wp2
    go_ret2
    exact no_ilb w
  · by_cases h2 : 4 < n
    · clear h
      go_enter Try.func20, Try.ntmps20
      go_wp2
      go_ret2
      exact no_ilb w
    · have h3 : decide ((n : Int) < 2) = false := decide_eq_false (by omega)
      have h4 : decide ((4 : Int) < n) = false := decide_eq_false (by omega)
      have HI := Lib.hid fun a W => impl_in a n W
      cases h5 : inB ch n with
      | false =>
        have H5 := Lib.hid h5
        clear h h5
        go_enter Try.func20, Try.ntmps20
        go_wp2_with fail
        refine (HI.out _ _).mono ?_
        rintro e w1 ⟨rfl, rfl⟩
        rw [H5.out]
        go_wp2
        go_ret2
        exact no_ilb w
      | true =>
        have H5 := Lib.hid h5
        have H6 := Lib.hid (show inB pl n = false by
          unfold placeB at h
          rw [decide_eq_true ⟨by omega, by omega⟩, h5] at h
          simpa using h)
        clear h h5
        go_enter Try.func20, Try.ntmps20
        go_wp2_with fail
        refine (HI.out _ _).mono ?_
        rintro e w1 ⟨rfl, rfl⟩
        rw [H5.out]
        go_wp2_with fail
        refine (HI.out _ _).mono ?_
        rintro e w1 ⟨rfl, rfl⟩
        rw [H6.out]
        go_wp2
        go_ret2
        exact no_ilb w
/-- what lies in the row of n lists that are put together -/
def partA (G : List RD) (k : Nat) : Option Addr := (G.getD k rd0).A
set_option maxHeartbeats 4000000 in
theorem gather_all (lo hi : Nat) (A : Option Addr) (n c : Nat) (ch pl : Nat) (rs : List RD) (zss : List (List Int)) (b : Bool) (w : World) (hz : rs.map RD.zs = zss) (hr : SSRow w lo hi A n c rs) (h4 : n = 2 ∨ n = 3 ∨ n = 4) (hch : ch < n) (hpl : pl < n)
    (hlen : ∀ l ∈ zss, l.length ≤ 1048576) (hfit : ∀ l ∈ zss, Fits l) (hok : Pok.okB (gatF zss ch pl) = b) :
    Calls Try.prog 20 #[.slice A n c, .int .i64 (ch : Int), .int .i64 (pl : Int)] w (IsILB w.heap.size (if b then gatF zss ch pl else []) b w) := by
  have hrl : rs.length = n := hr.len
  have hzl : zss.length = n := by rw [← hz, List.length_map, hrl]
  obtain ⟨gA, rfl, _⟩ := hr.cell 0 (by omega)
  have hgA : gA < w.heap.size := (own_lo hr.1 gA rfl).2
  have hcA : ∀ j, j < n → w.cell? ⟨gA, j, none⟩ = some (rs.getD j rd0).v := fun j hj => by
    obtain ⟨g2, h1, h2⟩ := hr.cell j hj
    have e : g2 = gA := by injection h1 with h; injection h with h; exact h.symm
    rw [← e]
    exact h2
  have HCL := Lib.hid (clone_rows gA 0 n c (rs.map RD.v) w (by rw [List.length_map, hrl]) (by omega) (by omega) hgA (fun j u hu => by
    have hj : j < rs.length := by have := (List.getElem?_eq_some_iff.1 hu).1; rw [List.length_map] at this; exact this
    rw [Nat.zero_add, hcA j (by omega), ← hu]
    simp [List.getD_eq_getElem?_getD, List.getElem?_eq_getElem hj]) row_vals)
  have HI1 := Lib.hid fun W => impl_in (ch : Int) n W
  have HI2 := Lib.hid fun W => impl_in (pl : Int) n W
  have e1 : inB (ch : Int) n = true := decide_eq_true ⟨by omega, by omega⟩
  have e2 : inB (pl : Int) n = true := decide_eq_true ⟨by omega, by omega⟩
  rw [e1] at HI1
  rw [e2] at HI2
  have h3 : decide ((n : Int) < 2) = false := decide_eq_false (by omega)
  have h5 : decide ((4 : Int) < n) = false := decide_eq_false (by omega)
  obtain ⟨x, hx⟩ : ∃ x, x = rs.getD ch rd0 := ⟨_, rfl⟩
  obtain ⟨G, hG⟩ : ∃ G, G = putIn (cutOut rs ch) pl x := ⟨_, rfl⟩
  have hGl : G.length = n := by rw [hG]; exact put_len hrl hch hpl
  have hGk : ∀ k, k < n → G.getD k rd0 = rs.getD (idxAt ch pl k) rd0 := fun k hk => by rw [hG, hx]; exact put_get rd0 hrl h4 hch hpl k hk
  have HGV := Lib.hid (show putIn (cutOut (rs.map RD.v) ch) pl x.v = G.map RD.v by rw [hG, put_map])
  have HCAT := Lib.hid (show Cat.cat (fun k => (G.getD k rd0).zs) n = gatF zss ch pl by
    unfold gatF
    rw [hzl]
    exact cat_congr n (fun k hk => by rw [hGk k hk]; exact zs_get hz _))
  have HIN := Lib.hid fun k (hk : k < n) => (show (G.getD k rd0).zs.length ≤ 1048576 ∧ ((G.getD k rd0).A = none → (G.getD k rd0).c = 0) ∧ (∀ a, (G.getD k rd0).A = some a → a.spot = none) ∧ IntsAt w w.heap.size .i64 (G.getD k rd0).A (G.getD k rd0).zs from by
    have hi2 := idx_lt hch hpl hk
    rw [hGk k hk]
    have hrow := hr.2.1 (idxAt ch pl k) (by omega)
    refine ⟨?_, ?_, ?_, hrow.at_⟩
    · rw [zs_get hz]
      exact hlen _ (by rw [List.getD_eq_getElem?_getD, List.getElem?_eq_getElem (by omega)]; exact List.getElem_mem _)
    · rcases own_full hrow.1 with ⟨q1, _, q3⟩ | ⟨g, _, q1, _⟩
      · exact fun _ => q3
      · intro h; rw [q1] at h; cases h
    · rcases own_full hrow.1 with ⟨q1, _, q3⟩ | ⟨g, _, q1, _⟩
      · intro a h; rw [q1] at h; cases h
      · intro a h; rw [q1] at h; injection h with h; rw [← h])
  obtain ⟨R, hR⟩ : ∃ R, R = gatF zss ch pl := ⟨_, rfl⟩
  have HRF := Lib.hid (show Fits R ∧ R.length ≤ 4194304 by
    rw [hR, gatF]
    refine ⟨cat_fits _ (fun k _ => fits_get hfit _), Nat.le_trans (cat_le (B := 1048576) _ (fun k _ => ?_)) (by rw [hzl]; omega)⟩
    by_cases hi : idxAt ch pl k < zss.length
    · exact hlen _ (by rw [List.getD_eq_getElem?_getD, List.getElem?_eq_getElem hi]; exact List.getElem_mem _)
    · rw [List.getD_eq_getElem?_getD, List.getElem?_eq_none (by omega)]; exact Nat.zero_le _)
  rw [← hR] at HCAT hok ⊢
  obtain ⟨R2, hR2⟩ : ∃ R2, R2 = if b then R else [] := ⟨_, rfl⟩
  rw [← hR2]
  have HR2 := Lib.hid hR2
  clear hR2
  have HOK := Lib.hid hok
  have hcx : w.cell? ⟨gA, ch, none⟩ = some (.slice x.A x.zs.length x.c) := by rw [hcA ch hch, hx]; rfl
  have HV := Lib.hid (show (rs.map RD.v).length = n by rw [List.length_map, hrl])
  have HGL := Lib.hid hGl
  have hn2 : 2 ≤ n := by omega
  have hn4 : n ≤ 4 := by omega
  have hw1 : IntKind.i64.wrap ((ch : Int) + 1) = (ch : Int) + 1 := by rw [IntKind.wrap_i64]; omega
  have HCX := Lib.hid hcx
  clear hrl hzl hr hcA hx hG hGl hGk hR hok hz hlen hfit h4 hcx e1 e2
  go_enter Try.func20, Try.ntmps20
  go_wp2_with fail
  refine (HI1.out _).mono ?_
  rintro e w1 ⟨rfl, rfl⟩
  go_wp2_with fail
  refine (HI2.out _).mono ?_
  rintro e w1 ⟨rfl, rfl⟩
  go_wp2_with fail
  refine HCL.out.mono ?_
  rintro e w1 ⟨g, c1, rfl, ho1, hb1⟩
  have HB1 := Lib.hid hb1
  have HDEL := Lib.hid (del_rows w.heap.size g n c1 ch (rs.map RD.v) w1 hch hn2 ho1 row_vals)
  have hgw := own_lo ho1 g rfl
  clear hb1
  go_wp2_with fail
  refine HDEL.out.mono ?_
  rintro e w2 ⟨rfl, ho2, hg2⟩
  have HB2 := Lib.hid (HB1.out.grown hg2 HB1.out.size (fun k hk => by injection hk with hk; omega))
  have hcx2 : w2.cell? ⟨gA, ch, none⟩ = some (.slice x.A x.zs.length x.c) := (HB2.out.cell (p := ⟨gA, ch, none⟩) hgA).trans HCX.out
  have hroom : n - 1 + 1 ≤ c1 := by
    rcases own_full ho1 with ⟨q, _⟩ | ⟨_, _, _, _, _, q, _⟩
    · cases q
    · omega
  obtain ⟨W3, hW3⟩ : ∃ W3, w2.alloc (.cells #[.slice x.A x.zs.length x.c] 25) = W3 := ⟨_, rfl⟩
  have hb3 : Below w2.heap.size w2 W3 := by rw [← hW3]; exact (Below.refl w2.heap.size w2).alloc (Nat.le_refl _) _
  have hh3 : W3.heap[w2.heap.size]? = some (.cells #[.slice x.A x.zs.length x.c] 25 (0, 0)) := by rw [← hW3]; exact heap_alloc_new w2 _
  have hg2w := own_lo ho2 g rfl
  have HINS := Lib.hid (ins_rows w.heap.size g (n - 1) c1 pl w2.heap.size 1 (cutOut (rs.map RD.v) ch) (.slice x.A x.zs.length x.c) W3 (by omega) hroom (own_below ho2 hb3) (fun u hu => by
    unfold cutOut at hu
    rcases List.mem_append.1 hu with hu | hu
    · exact row_vals u (List.mem_of_mem_take hu)
    · exact row_vals u (List.mem_of_mem_drop hu)) rfl hh3 (by omega))
  have HB3 := Lib.hid (HB2.out.trans (hb3.mono HB2.out.size))
  clear hb3 hh3 ho2 hg2 ho1 hcx2
  have hcx2 : w2.cell? ⟨gA, ch, none⟩ = some (.slice x.A x.zs.length x.c) := (HB2.out.cell (p := ⟨gA, ch, none⟩) hgA).trans HCX.out
  have hchn : (ch : Int) < (n : Int) := by omega
  have hn1 : n - 1 + 1 = n := by omega
  rw [hn1] at HINS
  go_wp2_with fail
  refine HINS.out.mono ?_
  rintro e w4 ⟨rfl, ho4, hg4⟩
  have HB4 := Lib.hid (HB3.out.grown hg4 HB3.out.size (fun k hk => by injection hk with hk; omega))
  have ho5 : OwnV w4 w.heap.size g n c1 (G.map RD.v) := by rw [← HGV.out]; exact ho4
  have HCC := Lib.hid (Caw.concat_wide g n c1 (fun k => (G.getD k rd0).A) (fun k => (G.getD k rd0).zs.length) (fun k => (G.getD k rd0).c) (fun k => (G.getD k rd0).zs) w4 hn4 (fun k hk => by
      rw [ho5.cellAt k (by omega), List.getElem?_map, List.getElem?_eq_getElem (by rw [HGL.out]; exact hk)]
      simp [List.getD_eq_getElem?_getD, List.getElem?_eq_getElem (show k < G.length by rw [HGL.out]; exact hk), RD.v]) (own_lo ho5 g rfl).2 (fun k _ => rfl) (fun k hk => (HIN.out k hk).1) (fun k hk => (HIN.out k hk).2.1) (fun k hk => (HIN.out k hk).2.2.1)
      (fun k hk => ((HIN.out k hk).2.2.2.below HB4.out).more HB4.out.size))
  rw [HCAT.out] at HCC
  clear ho4 hg4 ho5 hW3 hcx2
  go_wp2_with fail
  refine HCC.out.mono ?_
  rintro e w5 ⟨A5, c5, rfl, ho5, hb5⟩
  have HB5 := Lib.hid (HB4.out.trans (hb5.mono HB4.out.size))
  have HO5 := Lib.hid (own_mono ho5 HB4.out.size)
  have HPK := Lib.hid (Pok.impl_ok A5 R.length c5 R w5 rfl (by have := HRF.out.2; omega) HRF.out.1 (ints_of ho5))
  rw [HOK.out] at HPK
  clear ho5 hb5
  go_wp2_with fail
  refine HPK.out.mono ?_
  rintro e w6 ⟨rfl, hb6⟩
  have HB6 := Lib.hid (HB5.out.trans (hb6.mono HB5.out.size))
  have HO6 := Lib.hid (own_below HO5.out hb6)
  clear hb6
  cases b
  · go_wp2
    go_ret2
    have e := HR2.out
    simp only [Bool.false_eq_true, if_false] at e
    subst e
    exact ⟨none, 0, rfl, World.ownsRow_nil _ _ _ _, HB6.out⟩
  · go_wp2
    go_ret2
    have e := HR2.out
    simp only [if_true] at e
    subst e
    exact ⟨A5, c5, rfl, HO6.out, HB6.out⟩
end Go.Proofs.Ytpfbjbakcfmngaa.Gat
