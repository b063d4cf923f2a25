/- UnshuffleTo of the program and of the model: the lists from the order itself on. -/
import Derived.Test.YtceolmihglhijaaRsu
import Derived.Test.YtceolmihglhijaaBig
import Derived.Test.YtceolmihglhijaaShelf
set_option linter.unusedVariables false
set_option maxRecDepth 20000
namespace Go.Proofs.Ytceolmihglhijaa.Rsz
open Go.RowKit Fr _root_.Go.Proofs.Ytceolmihglhijaa.Own Pk Ins Pl Prm Pfn Rws Orb Cyc Big Rsm Rsc Rss Rsh Rsw Rsb Rsu

def unK (zs : List Int) : Nat := leastN (cntS zs)
def unF (zs : List Int) : List (List Int) := if permB zs = true ∧ zs ≠ [] then (List.range (unK zs + 1)).map fun j => backN (unK zs - j) zs else []
def unB (zs : List Int) : Bool := permB zs && decide (zs ≠ [])
theorem un_yes {zs : List Int} (h : permB zs = true) (h0 : zs ≠ []) : unF zs = ((List.range (unK zs + 1)).map fun j => backN (unK zs - j) zs) ∧ unB zs = true := by
  unfold unF unB
  rw [if_pos ⟨h, h0⟩, h, decide_eq_true h0]
  exact ⟨rfl, rfl⟩
theorem un_no {zs : List Int} (h : permB zs = false ∨ zs = []) : unF zs = [] ∧ unB zs = false := by
  unfold unF unB
  rcases h with h | h
  · rw [if_neg (fun q => by rw [h] at q; cases q.1), h]; exact ⟨rfl, rfl⟩
  · rw [if_neg (fun q => q.2 h), decide_eq_false (fun q => q h), Bool.and_false]; exact ⟨rfl, rfl⟩
theorem fits_perm {zs : List Int} (h : permB zs = true) : Fits zs := by
  intro i hi
  have h1 := (permB_yes h).1
  have h2 := (bij_of h).lt i hi
  rw [fOf_get h hi]
  omega
theorem un_big (zs : List Int) : BigSS (unF zs) := by
  by_cases h : permB zs = true ∧ zs ≠ []
  · have hK : unK zs ≤ 4 := least_le _
    have h12 := (permB_yes h.1).1
    rw [(un_yes h.1 h.2).1]
    refine big_small (by simp; omega) fun x hx => ?_
    obtain ⟨j, _, rfl⟩ := List.mem_map.1 hx
    rw [backN_len]
    omega
  · unfold unF
    rw [if_neg h]
    exact big_small (Nat.zero_le _) (fun x hx => by cases hx)
/-! ### rows -/
theorem getD_set_self' {rs : List RD} {j : Nat} {r : RD} (h : j < rs.length) : (rs.set j r).getD j rd0 = r := by
  simp [List.getD_eq_getElem?_getD, h]
theorem getD_set_other {rs : List RD} {i j : Nat} {r : RD} (h : i ≠ j) : (rs.set j r).getD i rd0 = rs.getD i rd0 := by
  simp only [List.getD_eq_getElem?_getD]
  rw [List.getElem?_set_ne (fun e => h e.symm)]
theorem setat {W : World} {lo b0 g n c j : Nat} {rs : List RD} {A1 : Option Addr} {c1 : Nat} {zs : List Int}
    (h : SSRow W lo b0 (some ⟨g, 0, none⟩) n c rs) (hlo : lo ≤ b0) (hin : W.ownsRow b0 3 1 (.slice A1 zs.length c1) zs.length (zs.map (Value.int .i64))) (hj : j < n) :
    SSRow (W.setCell ⟨g, j, none⟩ (.slice A1 zs.length c1)) lo (W.setCell ⟨g, j, none⟩ (.slice A1 zs.length c1)).heap.size (some ⟨g, 0, none⟩) n c (rs.set j ⟨A1, c1, zs⟩) := by
  have hl := h.len
  have hst := h.1.stored j (.slice A1 zs.length c1)
  have hgs : W.grownBy (W.setCell ⟨g, j, none⟩ (.slice A1 zs.length c1)) (some g) := hst.2
  have hs := hgs.size
  have hb0 := h.2.2.2.2
  have hgl := (own_lo h.1 g rfl).2
  have hA := fun k hk => own_lo hin k hk
  refine ⟨?_, ?_, ?_, ?_, Nat.le_refl _⟩
  · have e : (rs.map RD.v).set j (.slice A1 zs.length c1) = (rs.set j (⟨A1, c1, zs⟩ : RD)).map RD.v := by rw [List.map_set]; rfl
    rw [← e]
    exact hst.1
  · intro i hi
    rw [List.length_set] at hi
    by_cases e : i = j
    · subst e
      rw [getD_set_self' hi]
      refine ⟨own_mono (own_gr hin hgs fun k hk e2 => own_diff hin h.1 (by decide) k hk e2) hlo, fun a ha => ?_, Nat.le_refl _⟩
      have := hA a.block (by rw [show A1 = some a from ha]; rfl)
      omega
    · rw [getD_set_other e]
      have hr := h.2.1 i hi
      refine ⟨own_gr hr.1 hgs fun k hk e2 => own_diff hr.1 h.1 (by decide) k hk e2, fun a ha => ?_, Nat.le_refl _⟩
      have := hr.2.1 a ha
      omega
  · intro i k hi hk hne b hb
    rw [List.length_set] at hi hk
    by_cases ei : i = j
    · subst ei
      rw [getD_set_self' hi] at hb
      rw [getD_set_other (fun e => hne e.symm)]
      intro e2
      have h1 := (h.2.1 k hk).hi b e2
      have h2 := (hA b hb).1
      omega
    · rw [getD_set_other ei] at hb
      by_cases ek : k = j
      · subst ek
        rw [getD_set_self' hk]
        intro e2
        have h1 := (h.2.1 i hi).hi b hb
        have h2 := (hA b e2).1
        omega
      · rw [getD_set_other ek]
        exact h.2.2.1 i k hi hk hne b hb
  · intro a ha
    simp only [Option.some.injEq] at ha
    subst ha
    show g < _
    omega
/-- one list ahead of the others -/
theorem cons_row {W W' : World} {lo b0 n c : Nat} {A A1 A' : Option Addr} {rs : List RD} {c1 c' : Nat} {zs : List Int}
    (h : SSRow W lo b0 A n c rs) (hlo : lo ≤ b0) (hin : W.ownsRow b0 3 1 (.slice A1 zs.length c1) zs.length (zs.map (Value.int .i64)))
    (ho : W'.ownsRow lo 24 1 (.slice A' (n + 1) c') (n + 1) (.slice A1 zs.length c1 :: rs.map RD.v)) (hb : Below W.heap.size W W') :
    SSRow W' lo W'.heap.size A' (n + 1) c' (⟨A1, c1, zs⟩ :: rs) := by
  have hs := hb.size
  have hb0 := h.2.2.2.2
  have hA := fun k hk => own_lo hin k hk
  refine ⟨ho, ?_, ?_, ?_, Nat.le_refl _⟩
  · intro i hi
    cases i with
    | zero =>
      refine ⟨own_mono (own_below hin hb) hlo, fun a ha => ?_, Nat.le_refl _⟩
      have := hA a.block (by rw [show A1 = some a from ha]; rfl)
      omega
    | succ i =>
      have hr := h.2.1 i (by simpa using hi)
      refine ⟨own_below hr.1 hb, fun a ha => ?_, Nat.le_refl _⟩
      have := hr.2.1 a ha
      omega
  · intro i j hi hj hne b hb2
    cases i with
    | zero =>
      cases j with
      | zero => exact absurd rfl hne
      | succ j =>
        intro e2
        have h1 := (h.2.1 j (by simpa using hj)).hi b e2
        have h2 := (hA b hb2).1
        omega
    | succ i =>
      cases j with
      | zero =>
        intro e2
        have h1 := (h.2.1 i (by simpa using hi)).hi b hb2
        have h2 := (hA b e2).1
        omega
      | succ j => exact h.2.2.1 i j (by simpa using hi) (by simpa using hj) (by omega) b hb2
  · intro a ha
    exact (ho.lt a.block (by subst ha; rfl)).2
/-- append of many to a list of one that the call itself wrote down -/
theorem app_rows {P : Program} {w : World} {ops : Array Oper} {rest : List Oper} {o : Oper} {a : Act} {Q : Exit → Act → World → Prop} (hgd : o.guard = none) (s x : Operand) (t : TypeId)
    (ho : o.op = .call { callee := .builtin .append, args := #[s, x], argTypes := #[t, t] })
    (e : TypeId) (i : TypeInfo) (z : Value) (bytes : Nat) (ht : P.underlying t = some (.slice e)) (hi : P.info? e = some i) (hz : i.zero = some z) (hsize : i.size = 1) (hby : i.bytes = bytes) (hby2 : bytes ≤ 32) (hzs : z.cells.size = 1)
    (y : Value) (N : Nat) (hs : a.eval s = .slice (some ⟨N, 0, none⟩) 1 1) (hN : N = w.heap.size) (ad : Addr) (m c : Nat) (news : List Value) (hx : a.eval x = .slice (some ad) m c) (hl : news.length = m)
    (hnews : ∀ j u, news[j]? = some u → (w.alloc (.cells #[y] e)).cell? (ad.add j) = some u) (h1 : ∀ u ∈ news, u.oneCell' = true) (hm : m ≤ 4294967296)
    (h : ∀ g c' w', w'.ownsRow w.heap.size e 1 (.slice (some ⟨g, 0, none⟩) (1 + m) c') (1 + m) ([y] ++ news) → Below w.heap.size w w' → wpList P ops Q rest (a.put o.dst (.slice (some ⟨g, 0, none⟩) (1 + m) c')) w') :
    wpList P ops Q (o :: rest) a (w.alloc (.cells #[y] e)) := by
  subst hN
  have hown : (w.alloc (.cells #[y] e)).ownsRow w.heap.size e 1 (.slice (some ⟨w.heap.size, 0, none⟩) 1 1) 1 [y] := World.ownsRow_lit w _ 1 (Nat.le_refl _) (by decide) rfl
  refine wpList_append_own _ hgd s x t ho w.heap.size e i z 1 bytes ht hi hz hsize hby hzs (by decide) _ 1 [y] hs hown ad m c news hx (by omega) hnews h1 ?_ ?_ ?_ ?_
  · unfold maxLen; omega
  · have : (1 + m) * bytes ≤ (1 + 4294967296) * 32 := Nat.mul_le_mul (by omega) hby2
    omega
  · simp
  · intro v' w' hown' hgrow _
    have hb : Below w.heap.size w w' := ((Below.refl w.heap.size w).alloc (Nat.le_refl _) (.cells #[y] e)).grown hgrow (by simp) (fun k hk => by cases hk; exact Nat.le_refl _)
    rcases hown'.2 with ⟨_, h0⟩ | ⟨g, cap, cur, hv, _⟩
    · omega
    · subst hv
      exact h g cap w' hown' hb
theorem own_slice' {W : World} {B : Nat} {e : TypeId} {v : Value} {n : Nat} {xs : List Value} (h : W.ownsRow B e 1 v n xs) : ∃ A c, v = .slice A n c := by
  rcases h.2 with ⟨h1, h2⟩ | ⟨g, cap, cur, hv, _⟩
  · exact ⟨none, 0, by rw [h1, h2]⟩
  · exact ⟨_, _, hv⟩
/-- the lists from place j on are there -/
def ptl (zs : List Int) (K j : Nat) : List (List Int) := (List.range (K + 1)).map fun t => if t < j then [] else backN (K - t) zs
theorem ptl_len (zs : List Int) (K j : Nat) : (ptl zs K j).length = K + 1 := by simp [ptl]
theorem ptl_all (zs : List Int) (K : Nat) : ptl zs K (K + 1) = List.replicate (K + 1) [] := by
  unfold ptl
  rw [show List.replicate (K + 1) ([] : List Int) = (List.range (K + 1)).map (fun _ => []) by rw [List.map_const', List.length_range]]
  refine List.map_congr_left fun t ht => ?_
  rw [if_pos (List.mem_range.1 ht)]
theorem ptl_set (zs : List Int) (K j : Nat) (h : j ≤ K) : (ptl zs K (j + 1)).set j (backN (K - j) zs) = ptl zs K j := by
  refine List.ext_getElem (by simp [ptl]) fun i h1 h2 => ?_
  simp only [ptl, List.getElem_set, List.getElem_map, List.getElem_range]
  by_cases e : j = i
  · subst e
    rw [if_pos rfl, if_neg (by omega)]
  · rw [if_neg e]
    by_cases q : i < j
    · rw [if_pos (by omega), if_pos q]
    · rw [if_neg (by omega), if_neg q]
theorem ptl_get {zs : List Int} {K j : Nat} (h : j ≤ K) : (ptl zs K j).getD j [] = backN (K - j) zs := by
  unfold ptl
  have hj : j < K + 1 := by omega
  simp [List.getD_eq_getElem?_getD, hj]
theorem ptl_zero {zs : List Int} (h : permB zs = true) (h0 : zs ≠ []) : ptl zs (unK zs) 0 = unF zs := by
  rw [(un_yes h h0).1]
  unfold ptl
  exact List.map_congr_left fun t _ => by rw [if_neg (Nat.not_lt_zero _)]
theorem get_zs' (rs : List RD) (i : Nat) : (rs.map RD.zs).getD i [] = (rs.getD i rd0).zs := by
  simp only [List.getD_eq_getElem?_getD, List.getElem?_map]
  cases rs[i]? <;> rfl
set_option maxHeartbeats 4000000 in
theorem impl_un (A : Option Addr) (n c : Nat) (zs : List Int) (w : World) (hn : zs.length = n) (hn2 : n ≤ 9223372036854775807) (hz : Fits zs) (hss : IntsAt w w.heap.size .i64 A zs) :
    Calls Try.prog 13 #[.slice A n c] w (IsSSB w.heap.size (unF zs) (unB zs) w) := by
  have hlf : leastF zs = if cntS zs = 0 then -1 else ((unK zs : Nat) : Int) := rfl
  by_cases h0 : permB zs = false ∨ zs = []
  · rw [if_pos ((cnt_zero zs).2 h0)] at hlf
    have HLF := Lib.hid hlf
    have HU := Lib.hid (un_no h0)
    clear hlf h0
    go_enter Try.func13, Try.ntmps13
    go_wp2_with fail
    refine (impl_least A n c zs w hn hn2 hz hss).mono ?_
    rintro e w1 ⟨rfl, hb1⟩
    rw [HLF.out]
    go_wp2
    go_ret2
    rw [HU.out.1, HU.out.2]
    exact ⟨none, 0, [], rfl, rfl, SSRow.empty (World.ownsRow_nil _ _ _ _), hb1⟩
  · obtain ⟨i1, hj, hy0, hy1, hy2⟩ := infos_parts
    have hp : permB zs = true := by cases q : permB zs with
      | true => rfl
      | false => exact absurd (Or.inl q) h0
    have hne : zs ≠ [] := fun q => h0 (Or.inr q)
    rw [if_neg (fun q => h0 ((cnt_zero zs).1 q))] at hlf
    have hK4 : unK zs ≤ 4 := least_le _
    have h12 := (permB_yes hp).1
    have h1 : 0 < n := by
      rcases Nat.eq_zero_or_pos n with q | q
      · exact absurd (List.length_eq_zero_iff.1 (by omega)) hne
      · exact q
    rw [hn] at h12
    obtain ⟨b, o, hA, hbb, _⟩ := hss 0 (by omega)
    subst hA
    have HZ0 := Lib.hid (ptl_zero hp hne)
    have HUB := Lib.hid (un_yes hp hne).2
    have HPK := Lib.hid (backN_perm hp)
    have HLK := Lib.hid (backN_len zs)
    have HLF := Lib.hid hlf
    have HN := Lib.hid hn
    clear hlf h0 hp hne hn
    generalize unK zs = K at *
    go_enter Try.func13, Try.ntmps13
    go_wp2_with fail
    refine (impl_least _ n c zs w HN.out hn2 hz hss).mono ?_
    rintro e w1 ⟨rfl, hb1⟩
    rw [HLF.out]
    have hdk : decide ((K : Int) < 0) = false := decide_eq_false (by omega)
    have hs1 := hb1.size
    have hss1 := (hss.below hb1).more hs1
    have HB1 := Lib.hid hb1
    clear hb1
    go_wp2_with (refine wpList_make_full _ rfl (.tmp 12) (.tmp 12) 26 rfl w.heap.size 24 i1 (.slice none 0 0) 1 Try.underlying26 hj hy0 hy1 .i64 .i64 ((K : Int) + 1) ((K : Int) + 1) (K + 1) rfl rfl (by omega) (by omega) (by rw [hy2]; omega) (by unfold maxLen; omega) hs1 ?_)
    intro w2 hown hgrow
    have hb2 : Below w.heap.size w w2 := HB1.out.grown hgrow hs1 (fun k hk => by cases hk)
    have hrow2 : SSRow w2 w.heap.size w2.heap.size (some ⟨w1.heap.size, 0, none⟩) (K + 1) (K + 1) (List.replicate (K + 1) rd0) := by
      refine ⟨?_, ?_, ?_, ?_, Nat.le_refl _⟩
      · have e : (madeCells #[Value.slice none 0 0] (K + 1)).toList = (List.replicate (K + 1) rd0).map RD.v := by
          rw [List.map_replicate, toList_madeCells_one]
          rfl
        have h := hown
        rw [e] at h
        exact h
      · intro i hi
        have e : (List.replicate (K + 1) rd0).getD i rd0 = rd0 := by
          rw [List.getD_eq_getElem?_getD, List.getElem?_eq_getElem hi, List.getElem_replicate]; rfl
        rw [e]
        exact ⟨World.ownsRow_nil _ _ _ _, (fun a ha => by cases ha), Nat.le_refl _⟩
      · intro i j hi hj _ b hb
        have e : (List.replicate (K + 1) rd0).getD i rd0 = rd0 := by
          rw [List.getD_eq_getElem?_getD, List.getElem?_eq_getElem hi, List.getElem_replicate]; rfl
        rw [e] at hb
        cases hb
      · intro a ha
        simp only [Option.some.injEq] at ha
        subst ha
        exact (own_lo hown _ rfl).2
    have hs2 := hb2.size
    have hss2 := (hss.below hb2).more hs2
    have HB2 := Lib.hid hb2
    have HR2 := Lib.hid hrow2
    have hzr : (List.replicate (K + 1) rd0).map RD.zs = ptl zs K (K + 1) := by rw [ptl_all, List.map_replicate]; rfl
    have HZR := Lib.hid hzr
    obtain ⟨g0, hg0⟩ : ∃ g, g = w1.heap.size := ⟨_, rfl⟩
    rw [← hg0] at HR2
    have hg0w : w.heap.size ≤ g0 := by omega
    clear hb2 hrow2 hown hgrow hzr
    rw [← hg0]
    clear hg0
    have HCL : Hid (∀ j, j < zs.length → w2.cell? ⟨b, o + j, none⟩ = some (.int .i64 (zs.getD j 0))) := fun j hj => by
      obtain ⟨b2, o2, e2, _, hc⟩ := hss2 j hj
      simp only [Option.some.injEq, Addr.mk.injEq, and_true] at e2
      rw [e2.1, e2.2]
      exact hc
    go_wp2_with fail
    refine (Try.slices_Clone_int b o n c zs w2 (Nat.le_of_eq HN.out.symm) (by omega) HCL.out).mono ?_
    rintro e w3 ⟨v, rfl, ho3, _, hb3⟩
    obtain ⟨A3, c3, rfl⟩ := own_slice' ho3
    rw [List.take_of_length_le (by rw [HN.out]; exact Nat.le_refl _)] at ho3
    have hr3 := (HR2.out.under hb3).higher hb3.size (Nat.le_refl _)
    have hc3 := (HR2.out.under hb3).1.cellAt K (by omega)
    rw [List.getElem?_map, List.getElem?_eq_getElem (by simp), List.getElem_replicate] at hc3
    simp only [Option.map_some, RD.v, rd0] at hc3
    have hf3 := (HR2.out.under hb3).1.frozenAt K
    have hin3 : w3.ownsRow w2.heap.size 3 1 (.slice A3 zs.length c3) zs.length (zs.map (Value.int .i64)) := by rw [HN.out]; exact ho3
    have hst := setat (j := K) (HR2.out.under hb3) (by omega) hin3 (by omega)
    rw [HN.out] at hst
    have HST := Lib.hid hst
    have HB3 := Lib.hid ((HB2.out.trans (hb3.mono hs2)).setCell (p := ⟨g0, K, none⟩) hg0w (.slice A3 n c3))
    have HZ3 : Hid (((List.replicate (K + 1) rd0).set K ⟨A3, c3, zs⟩).map RD.zs = ptl zs K K) := by
      show _ = _
      rw [List.map_set, HZR.out, ← ptl_set zs K K (Nat.le_refl _), Nat.sub_self]
      rfl
    clear hb3 ho3 hr3 hin3 hst HR2 HZR
    go_wp2
    go_loopw [6] (fun i wr => ∃ j : Nat, j ≤ K ∧ i = .int .i64 (j : Int) ∧ (∃ rs, SSRow wr w.heap.size wr.heap.size (some ⟨g0, 0, none⟩) (K + 1) (K + 1) rs ∧ Hid (rs.map RD.zs = ptl zs K j)) ∧ Below w.heap.size w wr) (fun i _ => (intOf i).toNat)
    case atStart => exact ⟨K, Nat.le_refl _, rfl, ⟨_, HST.out, HZ3.out⟩, HB3.out⟩
    case round =>
      obtain ⟨j, hj2, rfl, ⟨rs, hrow, HRS⟩, hbw⟩ := hrel
      clear HST HB3 HZ3
      have hszw := hbw.size
      by_cases hj0 : 0 < j
      · obtain ⟨q, rfl⟩ : ∃ q, j = q + 1 := ⟨j - 1, by omega⟩
        obtain ⟨g', hg', hc⟩ := hrow.cell (q + 1) (by omega)
        simp only [Option.some.injEq, Addr.mk.injEq, and_true] at hg'
        subst hg'
        have hin := (hrow.2.1 (q + 1) (by rw [hrow.len]; omega)).at_
        have hzj : (rs.getD (q + 1) rd0).zs = backN (K - (q + 1)) zs := by rw [← get_zs', HRS.out, ptl_get (by omega)]
        simp only [RD.v] at hc
        rw [hzj] at hc hin
        have hlk := HLK.out (K - (q + 1))
        rw [HN.out] at hlk
        rw [hlk] at hc
        have hpk := HPK.out (K - (q + 1))
        obtain ⟨ys, hys⟩ : ∃ ys, ys = backN (K - (q + 1)) zs := ⟨_, rfl⟩
        have hnx : backF ys = backN (K - q) zs := by
          rw [hys, show K - q = (K - (q + 1)) + 1 by omega]
          rfl
        rw [← hys] at hin hlk hpk
        have HNX := Lib.hid hnx
        have HLY := Lib.hid hlk
        have HPY := Lib.hid hpk
        have HROW := Lib.hid hrow
        have HBW := Lib.hid hbw
        generalize (rs.getD (q + 1) rd0).A = A5 at hc hin
        generalize (rs.getD (q + 1) rd0).c = c5 at hc
        clear hys hzj hrow hbw hnx hlk hpk
        go_wp2_with fail
        refine (impl_back A5 n c5 ys wr HLY.out HPY.out (fits_perm HPY.out) hin).mono ?_
        rintro e w5 ⟨A6, c6, rfl, ho6, hb6⟩
        have hbl : (backF ys).length = n := by rw [back_len]; exact HLY.out
        have hr6 := HROW.out.under hb6
        have hcq := hr6.1.cellAt q (by omega)
        have hqv : ∃ v, (rs.map RD.v)[q]? = some v := ⟨_, List.getElem?_eq_getElem (by rw [List.length_map, HROW.out.len]; omega)⟩
        obtain ⟨vq, hvq⟩ := hqv
        rw [hvq] at hcq
        have hfq := hr6.1.frozenAt q
        have hst := setat (j := q) hr6 hszw ho6 (by omega)
        rw [hbl] at hst ho6
        rw [hbl]
        have HST := Lib.hid hst
        have HB6 := Lib.hid ((HBW.out.trans (hb6.mono hszw)).setCell (p := ⟨g0, q, none⟩) hg0w (.slice A6 n c6))
        have HZ6 : Hid ((rs.set q ⟨A6, c6, backF ys⟩).map RD.zs = ptl zs K q) := by
          show _ = _
          rw [List.map_set, HRS.out, ← ptl_set zs K q (by omega)]
          show (ptl zs K (q + 1)).set q (backF ys) = _
          rw [HNX.out]
        clear hr6 hst ho6 hb6 hvq hbl
        go_wp2
        go_roundw
        case rel => exact ⟨q, by omega, by go_num, ⟨_, HST.out, HZ6.out⟩, HB6.out⟩
        case measure => simp [intOf]; try omega
      · have hj1 : j = 0 := by omega
        subst hj1
        have HROW := Lib.hid hrow
        have HBW := Lib.hid hbw
        have hl : (unF zs).length = K + 1 := by rw [← HZ0.out, ptl_len]
        have HL := Lib.hid hl
        have HZF : Hid (rs.map RD.zs = unF zs) := by show _ = _; rw [HRS.out]; exact HZ0.out
        clear hrow hbw hl
        go_wp2
        go_ret2
        rw [HUB.out]
        refine ⟨some ⟨g0, 0, none⟩, K + 1, rs, by rw [HL.out]; rfl, HZF.out, ?_, HBW.out⟩
        rw [HL.out]
        exact HROW.out
def upl (zs : List Int) (d : Nat) : List (List Int) := (List.range (d + 1)).map fun t => backN (d - t) zs
theorem upl_zero (zs : List Int) : upl zs 0 = [zs] := rfl
theorem upl_len (zs : List Int) (d : Nat) : (upl zs d).length = d + 1 := by simp [upl]
theorem upl_succ (zs : List Int) (d : Nat) : backF (backN d zs) :: upl zs d = upl zs (d + 1) := by
  unfold upl
  rw [List.range_succ_eq_map (n := d + 1), List.map_cons, List.map_map]
  congr 1
  refine List.map_congr_left fun t _ => ?_
  show backN (d - t) zs = backN (d + 1 - (t + 1)) zs
  rw [Nat.add_sub_add_right]
theorem upl_get (zs : List Int) (d : Nat) : (upl zs d).getD 0 [] = backN d zs := by
  unfold upl
  rw [List.range_succ_eq_map]
  rfl
theorem upl_all {zs : List Int} (h : permB zs = true) (h0 : zs ≠ []) : upl zs (unK zs) = unF zs := by rw [(un_yes h h0).1]; rfl
set_option maxHeartbeats 4000000 in
theorem spec_un (A : Option Addr) (n c : Nat) (zs : List Int) (w : World) (hn : zs.length = n) (hnc : n ≤ c) (hn2 : n ≤ 9223372036854775807) (hz : Fits zs) (hss : IntsAt w w.heap.size .i64 A zs) :
    Calls Try.prog 35 #[.slice A n c] w (IsSSB w.heap.size (unF zs) (unB zs) w) := by
  cases hp : permB zs with
  | false =>
    have HU := Lib.hid (un_no (Or.inl hp))
    have HP := Lib.hid hp
    clear hp
    go_enter Try.func35, Try.ntmps35
    go_wp2_with fail
    refine (spec_perm A n c zs _ hn hnc hn2 hz hss).mono ?_
    rintro e w1 ⟨rfl, rfl⟩
    rw [HP.out]
    go_wp2
    go_ret2
    rw [HU.out.1, HU.out.2]
    exact ⟨none, 0, [], rfl, rfl, SSRow.empty (World.ownsRow_nil _ _ _ _), Below.refl _ _⟩
  | true =>
    by_cases h0 : n = 0
    · have HU := Lib.hid (un_no (Or.inr (List.length_eq_zero_iff.1 (show zs.length = 0 by omega))))
      have HP := Lib.hid hp
      have H0 := Lib.hid h0
      clear hp h0
      go_enter Try.func35, Try.ntmps35
      go_wp2_with fail
      refine (spec_perm A n c zs _ hn hnc hn2 hz hss).mono ?_
      rintro e w1 ⟨rfl, rfl⟩
      rw [HP.out]
      have h0 := H0.out
      have hd0 : decide ((n : Int) = 0) = true := decide_eq_true (by omega)
      have hd1 : (n : Int) = 0 := by omega
      go_wp2
      go_ret2
      rw [HU.out.1, HU.out.2]
      exact ⟨none, 0, [], rfl, rfl, SSRow.empty (World.ownsRow_nil _ _ _ _), Below.refl _ _⟩
    · obtain ⟨i0, hi, hz0, hz1, hz2⟩ := info_parts infoInt
      obtain ⟨i1, hj, hy0, hy1, hy2⟩ := infos_parts
      have hne : zs ≠ [] := fun q => by rw [q] at hn; exact h0 hn.symm
      have hcz : cntS zs ≠ 0 := fun q => by
        rcases (cnt_zero zs).1 q with h | h
        · rw [hp] at h; cases h
        · exact hne h
      have hlf : leastF zs = ((unK zs : Nat) : Int) := by unfold leastF; rw [if_neg hcz]; rfl
      have hK4 : unK zs ≤ 4 := least_le _
      have h12 := (permB_yes hp).1
      rw [hn] at h12
      obtain ⟨b, o, hA, hbb, _⟩ := hss 0 (by omega)
      subst hA
      have HUA := Lib.hid (upl_all hp hne)
      have HUB := Lib.hid (un_yes hp hne).2
      have HPK := Lib.hid (backN_perm hp)
      have HLK := Lib.hid (backN_len zs)
      have HLF := Lib.hid hlf
      have HN := Lib.hid hn
      have HP := Lib.hid hp
      have hd0 : decide ((n : Int) = 0) = false := decide_eq_false (by omega)
      have hd1 : ¬ (n : Int) = 0 := by omega
      clear hlf hp hne hn hcz
      generalize unK zs = K at *
      go_enter Try.func35, Try.ntmps35
      go_wp2_with fail
      refine (spec_perm _ n c zs _ HN.out hnc hn2 hz hss).mono ?_
      rintro e w1 ⟨rfl, rfl⟩
      rw [HP.out]
      have HLIT := Lib.hid (World.ownsRow_lit (base := w.heap.size) (e := 3) (size := 1) w #[] 0 (Nat.le_refl _) (Nat.zero_le _) rfl)
      have HBA := Lib.hid ((Below.refl w.heap.size w).alloc (Nat.le_refl _) (.cells #[] 3))
      have HSA := Lib.hid ((hss.below HBA.out).more HBA.out.size)
      have hsa : w.heap.size ≤ (w.alloc (.cells #[] 3)).heap.size := HBA.out.size
      go_wp2_with (at_builtin; refine app_list rfl (.tmp 14) (.tmp 15) 24 rfl w.heap.size 3 i0 8 Try.underlying24 hi hz0 hz1 hz2 (by decide) _ _ 0 [] rfl HLIT.out b o n c zs rfl HN.out _ HSA.out (by omega) (by omega) hsa ?_; intro A2 c2 w2 hown2 hgr2)
      rw [Nat.zero_add, List.nil_append] at hown2
      have hb2 : Below w.heap.size w w2 := HBA.out.grown hgr2 hsa (fun k hk => by cases hk; exact Nat.le_refl _)
      have hs2 := hb2.size
      have hrow3 : SSRow (w2.alloc (.cells #[.slice A2 n c2] 24)) w.heap.size (w2.alloc (.cells #[.slice A2 n c2] 24)).heap.size (some ⟨w2.heap.size, 0, none⟩) (0 + 1) 1 [⟨A2, c2, zs⟩] := by
        refine cons_row (W := w2) (b0 := w.heap.size) (A := none) (c := 0) (rs := []) ⟨World.ownsRow_nil _ _ _ _, fun i hi => absurd hi (Nat.not_lt_zero _), fun i j hi => absurd hi (Nat.not_lt_zero _), (fun a h => by cases h), hs2⟩ (Nat.le_refl _) (by rw [HN.out]; exact hown2) ?_ ((Below.refl w2.heap.size w2).alloc (Nat.le_refl _) _)
        rw [HN.out]
        exact World.ownsRow_lit w2 _ 1 hs2 (by decide) rfl
      rw [Nat.zero_add] at hrow3
      have hb3 := hb2.alloc hs2 (.cells #[.slice A2 n c2] 24)
      have hs3 := hb3.size
      have hss3 := (hss.below hb3).more hs3
      have HR3 := Lib.hid hrow3
      have HB3 := Lib.hid hb3
      clear hown2 hgr2 hb2 hrow3 hb3 HLIT HBA HSA hsa
      refine (spec_least _ n c zs _ HN.out hnc hn2 hz hss3).mono ?_
      rintro e w4 ⟨rfl, hb4⟩
      rw [HLF.out]
      have HR4 := Lib.hid ((HR3.out.below hb4).higher hb4.size (Nat.le_refl _))
      have HB4 := Lib.hid (HB3.out.trans (hb4.mono hs3))
      clear hb4 HR3 HB3
      go_wp2
      go_loopw [4, 5] (fun v i wr => ∃ j d : Nat, j + d = K ∧ i = .int .i64 (j : Int) ∧ (∃ A c rs, v = .slice A (d + 1) c ∧ SSRow wr w.heap.size wr.heap.size A (d + 1) c rs ∧ Hid (rs.map RD.zs = upl zs d)) ∧ Below w.heap.size w wr) (fun _ i _ => (intOf i).toNat)
      case atStart => exact ⟨K, 0, rfl, rfl, ⟨_, _, _, rfl, HR4.out, rfl⟩, HB4.out⟩
      case round =>
        obtain ⟨j, d, hjd, rfl, ⟨A5, c5, rs, rfl, hrow, HRS⟩, hbw⟩ := hrel
        clear HR4 HB4
        have hszw := hbw.size
        by_cases hj0 : 0 < j
        · obtain ⟨q, rfl⟩ : ∃ q, j = q + 1 := ⟨j - 1, by omega⟩
          obtain ⟨g', rfl, hc⟩ := hrow.cell 0 (by omega)
          have hr0 := hrow.2.1 0 (by rw [hrow.len]; omega)
          have hin := hr0.at_
          have hcap := own_cap hr0.1
          have hzj : (rs.getD 0 rd0).zs = backN d zs := by rw [← get_zs', HRS.out, upl_get]
          simp only [RD.v] at hc
          rw [hzj] at hc hin hcap
          have hlk := HLK.out d
          rw [HN.out] at hlk
          rw [hlk] at hc hcap
          have hpk := HPK.out d
          have hup := upl_succ zs d
          obtain ⟨ys, hys⟩ : ∃ ys, ys = backN d zs := ⟨_, rfl⟩
          rw [← hys] at hin hlk hpk hup
          have HUP := Lib.hid hup
          have HLY := Lib.hid hlk
          have HPY := Lib.hid hpk
          have HROW := Lib.hid hrow
          have HBW := Lib.hid hbw
          generalize (rs.getD 0 rd0).A = A6 at hc hin
          generalize (rs.getD 0 rd0).c = c6 at hc hcap
          clear hys hzj hr0 hrow hbw hlk hpk hup
          go_wp2_with fail
          refine (spec_back A6 n c6 ys wr HLY.out hcap HPY.out (fits_perm HPY.out) hin).mono ?_
          rintro e w5 ⟨A7, c7, rfl, ho7, hb7⟩
          have hbl : (backF ys).length = n := by rw [back_len]; exact HLY.out
          have hr7 := HROW.out.below hb7
          have hs7 := hb7.size
          have HBL := Lib.hid hbl
          have HO7 := Lib.hid ho7
          have HR7 := Lib.hid hr7
          have HB7 := Lib.hid (HBW.out.trans (hb7.mono hszw))
          have HLR := Lib.hid (show (rs.map RD.v).length = d + 1 by rw [List.length_map]; exact HROW.out.len)
          have HNW : Hid (∀ j u, (rs.map RD.v)[j]? = some u → (w5.alloc (.cells #[.slice A7 n c7] 24)).cell? (Addr.add ⟨g', 0, none⟩ j) = some u) := by
            intro j u hu
            rw [Go.WideShapes.add_plain, Nat.zero_add]
            have hj2 : j < d + 1 := by have := (List.getElem?_eq_some_iff.1 hu).1; rwa [HLR.out] at this
            have hgl := (own_lo HR7.out.1 g' rfl).2
            rw [((Below.refl w5.heap.size w5).alloc (Nat.le_refl _) (.cells #[.slice A7 n c7] 24)).cell (p := ⟨g', j, none⟩) hgl, HR7.out.1.cellAt j (by omega), hu]
          have HON : Hid (∀ u ∈ rs.map RD.v, u.oneCell' = true) := by
            intro u hu
            obtain ⟨r, _, rfl⟩ := List.mem_map.1 hu
            rfl
          rw [hbl]
          clear hbl hr7 ho7 hb7
          go_wp2_with (at_builtin; refine app_rows rfl (.tmp 28) (.tmp 29) 26 rfl 24 i1 (.slice none 0 0) 24 Try.underlying26 hj hy0 hy1 hy2 (by decide) rfl (.slice A7 n c7) _ rfl rfl ⟨g', 0, none⟩ (d + 1) c5 (rs.map RD.v) rfl HLR.out HNW.out HON.out (by omega) ?_; intro g8 c8 w8 ho8 hb8)
          have hs8 := hb8.size
          have hcr := cons_row (W' := w8) (A' := some ⟨g8, 0, none⟩) (c' := c8) HR7.out hszw HO7.out (by
            rw [HBL.out]
            have h9 := own_mono ho8 (Nat.le_trans hszw hs7)
            rw [show 1 + (d + 1) = (d + 1) + 1 by omega] at h9
            exact h9) hb8
          have HCR := Lib.hid hcr
          have HB8 := Lib.hid (HB7.out.trans (hb8.mono HB7.out.size))
          have HZ8 : Hid ((⟨A7, c7, backF ys⟩ :: rs).map RD.zs = upl zs (d + 1)) := by
            show _ = _
            rw [List.map_cons, HRS.out]
            exact HUP.out
          clear hcr ho8 hb8
          go_roundw
          case rel => exact ⟨q, d + 1, by omega, by go_num, ⟨_, _, _, by rw [show d + 1 + 1 = 1 + (d + 1) by omega], HCR.out, HZ8.out⟩, HB8.out⟩
          case measure => simp [intOf]; try omega
        · have hj1 : j = 0 := by omega
          subst hj1
          have hdk : d = K := by omega
          subst hdk
          have HROW := Lib.hid hrow
          have HBW := Lib.hid hbw
          have hl : (unF zs).length = d + 1 := by rw [← HUA.out, upl_len]
          have HL := Lib.hid hl
          have HZF : Hid (rs.map RD.zs = unF zs) := by show _ = _; rw [HRS.out]; exact HUA.out
          clear hrow hbw hl
          go_wp2
          go_ret2
          rw [HUB.out]
          refine ⟨A5, c5, rs, by rw [HL.out]; rfl, HZF.out, ?_, HBW.out⟩
          rw [HL.out]
          exact HROW.out
end Go.Proofs.Ytceolmihglhijaa.Rsz
