/- One riffle back as the program has it: beforeRiffle. -/
import Derived.Test.YtceolmihglhijaaRsw
import Derived.ArgAppend
set_option linter.unusedVariables false
set_option maxRecDepth 20000
namespace Go.Proofs.Ytceolmihglhijaa.Rsb
open Go.RowKit Fr _root_.Go.Proofs.Ytceolmihglhijaa.Own Pk Ins Pl Prm Pfn Rws Orb Cyc Rsm Rsc Rss Rsh Rsw

/-! ### how many cards the even sequences have -/
def seqN (zs : List Int) (i : Nat) : List Nat := (rsF (nb zs) zs.length).getD i []
theorem seqN_mem {zs : List Int} (i v : Nat) : v ∈ seqN zs i ↔ v < zs.length ∧ sqF (nb zs) v = i := by
  unfold seqN
  cases zs with
  | nil => simp [rsF]
  | cons z t =>
    have := (rsF_spec (nb_zero (z :: t)) t.length).2.2.2.2 i v
    simp only [List.length_cons]
    rw [this]
    omega
theorem seqN_nodup (zs : List Int) (i : Nat) : (seqN zs i).Nodup := by
  unfold seqN
  cases zs with
  | nil => simp [rsF]
  | cons z t => exact (rsF_spec (nb_zero (z :: t)) t.length).2.2.2.1 i
def flatE (zs : List Int) (j : Nat) : List Nat := (List.range j).flatMap fun i => if i % 2 = 0 then seqN zs i else []
theorem flatE_succ (zs : List Int) (j : Nat) : flatE zs (j + 1) = flatE zs j ++ (if j % 2 = 0 then seqN zs j else []) := by
  unfold flatE
  rw [List.range_succ, List.flatMap_append]
  simp
theorem flatE_mem (zs : List Int) (j v : Nat) : v ∈ flatE zs j ↔ v < zs.length ∧ sqF (nb zs) v % 2 = 0 ∧ sqF (nb zs) v < j := by
  unfold flatE
  rw [List.mem_flatMap]
  constructor
  · rintro ⟨i, hi, hv⟩
    have hi' := List.mem_range.1 hi
    split at hv
    next he => have := (seqN_mem i v).1 hv; omega
    next => cases hv
  · rintro ⟨h1, h2, h3⟩
    refine ⟨sqF (nb zs) v, List.mem_range.2 h3, ?_⟩
    rw [if_pos h2]
    exact (seqN_mem _ _).2 ⟨h1, rfl⟩
theorem flatE_nodup (zs : List Int) (j : Nat) : (flatE zs j).Nodup := by
  induction j with
  | zero => simp [flatE]
  | succ j ih =>
    rw [flatE_succ, List.nodup_append]
    refine ⟨ih, ?_, ?_⟩
    · split
      · exact seqN_nodup zs j
      · simp
    · intro a ha c hc e
      subst e
      have h1 := (flatE_mem zs j a).1 ha
      split at hc
      · have := (seqN_mem j a).1 hc; omega
      · cases hc
theorem flatE_all {zs : List Int} (h : permB zs = true) : (flatE zs (cntS zs)).length = (zs.filter (evB zs)).length := by
  have hp : ((flatE zs (cntS zs)).map (fun v : Nat => (v : Int))).Perm (zs.filter (evB zs)) := by
    refine (List.perm_ext_iff_of_nodup ?_ ?_).2 fun x => ?_
    · rw [List.nodup_iff_pairwise_ne, List.pairwise_map]
      have := flatE_nodup zs (cntS zs)
      rw [List.nodup_iff_pairwise_ne] at this
      exact this.imp fun hne e => hne (by omega)
    · exact (perm_nodup h).sublist List.filter_sublist
    · rw [List.mem_map, List.mem_filter]
      constructor
      · rintro ⟨v, hv, rfl⟩
        obtain ⟨h1, h2, h3⟩ := (flatE_mem _ _ _).1 hv
        refine ⟨(perm_mem h _).2 ⟨by omega, by omega⟩, ?_⟩
        unfold evB
        simpa using h2
      · rintro ⟨h1, h2⟩
        have hx := (perm_mem h x).1 h1
        refine ⟨x.toNat, (flatE_mem _ _ _).2 ⟨by omega, by unfold evB at h2; simpa using h2, ?_⟩, by omega⟩
        have hm := sqF_mono (nb zs) (show x.toNat ≤ zs.length - 1 by omega)
        unfold cntS
        rw [if_pos ⟨h, by intro e; subst e; simp at hx; omega⟩]
        omega
  have := hp.length_eq
  rwa [List.length_map] at this
/-! ### lists in one row, filled from two places on -/
def padL (s : Nat) (l : List Int) : List Int := l ++ List.replicate (s - l.length) 0
theorem padL_len {s : Nat} {l : List Int} (h : l.length ≤ s) : (padL s l).length = s := by simp [padL]; omega
theorem padL_set {s : Nat} {l : List Int} (h : l.length < s) (x : Int) : (padL s l).set l.length x = padL s (l ++ [x]) := by
  unfold padL
  obtain ⟨d, hd⟩ : ∃ d, s - l.length = d + 1 := ⟨s - l.length - 1, by omega⟩
  rw [hd, List.set_append_right _ _ (Nat.le_refl _), Nat.sub_self, List.replicate_succ, List.set_cons_zero, List.length_append, List.length_singleton, show s - (l.length + 1) = d by omega]
  simp
theorem padL_full {s : Nat} {l : List Int} (h : l.length = s) : padL s l = l := by simp [padL, h]
def rowL (n s : Nat) (e o : List Int) : List Int := padL s e ++ padL (n - s) o
theorem rowL_len {n s : Nat} {e o : List Int} (h1 : e.length ≤ s) (h2 : o.length ≤ n - s) (h3 : s ≤ n) : (rowL n s e o).length = n := by
  unfold rowL; rw [List.length_append, padL_len h1, padL_len h2]; omega
theorem rowL_e {n s : Nat} {e o : List Int} (h1 : e.length < s) (x : Int) : (rowL n s e o).set e.length x = rowL n s (e ++ [x]) o := by
  unfold rowL
  rw [List.set_append_left _ _ (by rw [padL_len (by omega)]; exact h1), padL_set h1]
theorem rowL_o {n s : Nat} {e o : List Int} (h1 : e.length ≤ s) (h2 : o.length < n - s) (x : Int) : (rowL n s e o).set (s + o.length) x = rowL n s e (o ++ [x]) := by
  unfold rowL
  rw [List.set_append_right _ _ (by rw [padL_len h1]; omega), padL_len h1, show s + o.length - s = o.length by omega, padL_set h2]
theorem filt_snoc (p : Int → Bool) (zs : List Int) {k : Nat} (hk : k < zs.length) : (zs.take (k + 1)).filter p = (zs.take k).filter p ++ (if p (zs.getD k 0) then [zs.getD k 0] else []) := by
  rw [List.take_add_one, List.filter_append]
  rw [List.getElem?_eq_getElem hk]
  simp only [Option.toList_some]
  rw [List.getD_eq_getElem?_getD, List.getElem?_eq_getElem hk, Option.getD_some]
  cases hp : p zs[k] <;> simp [hp]
theorem filt_le (p : Int → Bool) (zs : List Int) (k : Nat) : ((zs.take k).filter p).length ≤ (zs.filter p).length := by
  have : (zs.take k).Sublist zs := List.take_sublist _ _
  exact (this.filter p).length_le
theorem filt_two (p : Int → Bool) (zs : List Int) : (zs.filter p).length + (zs.filter (fun x => !p x)).length = zs.length := by
  have := (List.filter_append_perm p zs).length_eq
  simpa using this
theorem rowL_ge {n s : Nat} {e o : List Int} {j : Nat} (h : j < e.length) : (vals (rowL n s e o))[j]? = (vals e)[j]? := by
  unfold rowL padL vals
  rw [List.map_append, List.map_append, List.append_assoc, List.getElem?_append_left (by simpa using h)]
theorem rowL_go {n s : Nat} {e o : List Int} {j : Nat} (h1 : e.length ≤ s) (h : j < o.length) : (vals (rowL n s e o))[s + j]? = (vals o)[j]? := by
  unfold rowL vals
  rw [List.map_append, List.getElem?_append_right (by rw [List.length_map, padL_len h1]; omega), List.length_map, padL_len h1, show s + j - s = j by omega]
  unfold padL
  rw [List.map_append, List.getElem?_append_left (by simpa using h)]
/-- append of one element where there is room -/
theorem app_in {P : Program} {w : World} {ops : Array Oper} {rest : List Oper} {o : Oper} {a : Act} {Q : Exit → Act → World → Prop} (hgd : o.guard = none) (s x : Operand) (t : TypeId)
    (ho : o.op = .call { callee := .builtin .append, args := #[s, x], argTypes := #[t, t] })
    (e : TypeId) (i : TypeInfo) (z : Value) (bytes : Nat) (ht : P.underlying t = some (.slice e)) (hi : P.info? e = some i) (hz : i.zero = some z) (hsize : i.size = 1) (hby : i.bytes = bytes) (hby2 : bytes ≤ 32) (hzs : z.cells.size = 1)
    (b off n cap : Nat) (olds : List Value) (hs : a.eval s = .slice (some ⟨b, off, none⟩) n cap) (hlo : olds.length = n) (holds : ∀ j u, olds[j]? = some u → w.cell? ⟨b, off + j, none⟩ = some u)
    (y : Value) (hy : y.oneCell' = true) (N : Nat) (hx : a.eval x = .slice (some ⟨N, 0, none⟩) 1 1) (hN : N = w.heap.size) (hroom : n + 1 ≤ cap) (hn : n ≤ 4294967296)
    (hcell : (w.cell? ⟨b, off + n, none⟩).isSome = true) (hfz : w.frozen? ⟨b, off + n, none⟩ = false) (hb : b < w.heap.size)
    (h : wpList P ops Q rest (a.put o.dst (.slice (some ⟨b, off, none⟩) (n + 1) cap)) ((w.alloc (.cells #[y] e)).setCell ⟨b, off + n, none⟩ y)) : wpList P ops Q (o :: rest) a (w.alloc (.cells #[y] e)) := by
  subst hN
  have hbl := (Below.refl w.heap.size w).alloc (Nat.le_refl _) (.cells #[y] e)
  have hh : (w.alloc (.cells #[y] e)).heap[w.heap.size]? = some (.cells #[y] e (0, 0)) := heap_alloc_new w _
  refine wpList_append_arg _ hgd s x t ho e i z 1 bytes ht hi hz hsize hby hzs (by decide) b off n cap olds hs (by omega) ?_ ⟨w.heap.size, 0, none⟩ 1 1 [y] hx rfl ?_ ?_ ?_ ?_ ?_ ?_ ?_
  · intro j u hu
    rw [hbl.cell (p := ⟨b, off + j, none⟩) hb]
    exact holds j u hu
  · intro j u hj
    match j, hj with
    | 0, hj =>
      simp at hj; subst hj
      show (w.alloc (.cells #[y] e)).cell? ⟨w.heap.size, 0, none⟩ = _
      unfold World.cell?
      rw [hh]; rfl
  · intro u hu; simp at hu; subst hu; exact hy
  · intro _ j hj
    have : j = 0 := by simpa using hj
    subst this
    rw [Nat.mul_one, Nat.add_zero, hbl.cell (p := ⟨b, off + n, none⟩) hb, hbl.frozen (p := ⟨b, off + n, none⟩) hb]
    exact ⟨hcell, hfz⟩
  · unfold maxLen; omega
  · have : (n + 1) * bytes ≤ (4294967296 + 1) * 32 := Nat.mul_le_mul (by omega) hby2
    omega
  · intro _
    rw [Nat.mul_one]
    exact h
  · intro hlt; omega
theorem seq_zs {zs : List Int} {rs : List RD} (h : permB zs = true) (hz : rs.map RD.zs = riseI zs) (k : Nat) : (rs.getD k rd0).zs = ints (seqN zs k) := by
  have e : (rs.getD k rd0).zs = (rs.map RD.zs).getD k [] := by
    simp only [List.getD_eq_getElem?_getD, List.getElem?_map]
    cases rs[k]? <;> rfl
  rw [e, hz, riseI_yes h]
  unfold seqN
  simp only [List.getD_eq_getElem?_getD, List.getElem?_map]
  cases (rsF (nb zs) zs.length)[k]? <;> rfl
theorem flatE_le (zs : List Int) (j : Nat) : (flatE zs j).length ≤ zs.length := by
  have := (flatE_nodup zs j).length_le_of_subset (l₂ := List.range zs.length) (fun v hv => List.mem_range.2 ((flatE_mem zs j v).1 hv).1)
  rwa [List.length_range] at this
theorem seqN_le (zs : List Int) (j : Nat) : (seqN zs j).length ≤ zs.length := by
  have := (seqN_nodup zs j).length_le_of_subset (l₂ := List.range zs.length) (fun v hv => List.mem_range.2 ((seqN_mem j v).1 hv).1)
  rwa [List.length_range] at this
set_option maxHeartbeats 4000000 in
theorem impl_back (A : Option Addr) (n c : Nat) (zs : List Int) (w : World) (hn : zs.length = n) (hp : permB zs = true) (hz : Fits zs) (hss : IntsAt w w.heap.size .i64 A zs) :
    Calls Try.prog 40 #[.slice A n c] w (IsIL w.heap.size (backF zs) w) := by
  obtain ⟨i0, hi, hz0, hz1, hz2⟩ := info_parts infoInt
  have h12 := (permB_yes hp).1
  rw [hn] at h12
  obtain ⟨sq, hsq⟩ : ∃ sq, sq = sqF (nb zs) := ⟨_, rfl⟩
  obtain ⟨m, hm⟩ : ∃ m, m = cntS zs := ⟨_, rfl⟩
  have hm12 : m ≤ 12 := by rw [hm]; exact cnt_le zs
  have HMEM := Lib.hid (fun i v => seqN_mem (zs := zs) i v)
  have HSQ := Lib.hid hsq
  have HM := Lib.hid hm
  have HN := Lib.hid hn
  have HP := Lib.hid hp
  clear hn hp hsq hm
  go_enter Try.func40, Try.ntmps40
  obtain ⟨w1, hw1⟩ : ∃ w1, w1 = w.alloc (.cells #[.bool false, .bool false, .bool false, .bool false, .bool false, .bool false, .bool false, .bool false, .bool false, .bool false, .bool false, .bool false] 55) := ⟨_, rfl⟩
  have hs1 : w1.heap.size = w.heap.size + 1 := by rw [hw1]; simp
  have HB1 : Hid (Below w.heap.size w w1) := by rw [hw1]; exact (Below.refl _ w).alloc (Nat.le_refl _) _
  have hss1 := (hss.below HB1.out).more HB1.out.size
  have HSEEN : Hid (w1.ownsRow w.heap.size 55 1 (.slice (some ⟨w.heap.size, 0, none⟩) 12 12) 12 (brow 12 (fun _ => false))) := by
    rw [brow_none, hw1]
    exact World.ownsRow_lit w _ 12 (Nat.le_refl _) (by unfold maxLen; omega) rfl
  have HW1 := Lib.hid hw1
  clear hw1
  go_wp2_with fail
  rw [← HW1.out]
  refine (impl_rise A n c zs w1 HN.out (by omega) hz hss1).mono ?_
  rintro e w2 ⟨A2, c2, rs, rfl, hrz, hrow, hb2⟩
  rw [rise_len] at hrow
  rw [rise_len, ← HM.out]
  rw [← HM.out] at hrow
  have HZK := Lib.hid (fun k => seq_zs HP.out hrz k)
  obtain ⟨b1, hb1⟩ : ∃ b, b = w1.heap.size := ⟨_, rfl⟩
  obtain ⟨b3, hb3⟩ : ∃ b, b = w2.heap.size := ⟨_, rfl⟩
  have hS2 := hb2.size
  rw [← hb1, ← hb3] at hrow
  rw [← hb1] at hs1 hb2
  have HSEEN2 := Lib.hid (own_below HSEEN.out (by rw [← hb1]; exact hb2))
  have HBW2 := Lib.hid (HB1.out.trans (hb2.mono (by omega)))
  have HROW0 := Lib.hid hrow
  have HB3 := Lib.hid hb3
  have HFL := Lib.hid (flatE_le zs)
  have HSL := Lib.hid (seqN_le zs)
  have HFS := Lib.hid (flatE_succ zs)
  clear hb1 hb2 hb3 hrow hrz HSEEN HB1
  go_wp2
  go_loopw [4, 17] (fun sz i wr => ∃ k : Nat, k ≤ m ∧ i = .int .i64 (k : Int) ∧ sz = .int .i64 (((flatE zs k).length : Nat) : Int) ∧ (∃ f : Nat → Bool, wr.ownsRow w.heap.size 55 1 (.slice (some ⟨w.heap.size, 0, none⟩) 12 12) 12 (brow 12 f) ∧ Hid (∀ v, v < n → f v = (decide (sq v < k) && decide (sq v % 2 = 1)))) ∧ SSRow wr b1 b3 A2 m c2 rs ∧ Below w.heap.size w wr) (fun _ i _ => m - (intOf i).toNat)
  case atStart => exact ⟨0, Nat.zero_le _, rfl, rfl, ⟨_, HSEEN2.out, fun v _ => by simp⟩, HROW0.out, HBW2.out⟩
  case round =>
    obtain ⟨k, hk, rfl, rfl, ⟨f, hseen, HFV⟩, hrow, hbw⟩ := hrel
    have hszk := hbw.size
    clear HSEEN2 HROW0 HBW2
    by_cases hlt : k < m
    · obtain ⟨g, rfl, hc⟩ := hrow.cell k hlt
      have hin := (hrow.2.1 k (by rw [hrow.len]; exact hlt)).at_
      have hzk := HZK.out k
      simp only [RD.v] at hc
      rw [hzk] at hc hin
      have hsl := HSL.out k
      have hfl := HFL.out k
      have hfs := HFS.out k
      have HROW := Lib.hid hrow
      have HSEEN := Lib.hid hseen
      have HBW := Lib.hid hbw
      rw [HN.out] at hsl hfl
      rcases Nat.mod_two_eq_zero_or_one k with he | he
      · rw [if_pos he] at hfs
        have hfs2 := congrArg List.length hfs
        rw [List.length_append] at hfs2
        have HFS2 := Lib.hid hfs2
        rw [ints_len] at hc
        have hmod : (k : Int).tmod 2 = 0 := by rw [Int.tmod_eq_emod_of_nonneg (by omega)]; omega
        generalize (seqN zs k).length = l at *
        generalize (flatE zs k).length = F at *
        generalize (rs.getD k rd0).A = A3 at hc
        generalize (rs.getD k rd0).c = c3 at hc
        clear hin hfs hfs2 hzk hrow hseen hbw
        go_wp2
        go_roundw
        case rel =>
          refine ⟨k + 1, by omega, by go_num, by rw [HFS2.out]; go_num, ⟨f, HSEEN.out, ?_⟩, HROW.out, HBW.out⟩
          intro v hv
          rw [HFV.out v hv]
          by_cases h1 : sq v % 2 = 1
          · rw [decide_eq_true h1, Bool.and_true, Bool.and_true]; exact decide_eq_decide.2 (by omega)
          · rw [decide_eq_false h1, Bool.and_false, Bool.and_false]
        case measure => simp [intOf]; omega
      · rw [if_neg (by omega)] at hfs
        have hfs2 := congrArg List.length hfs
        rw [List.append_nil] at hfs2
        have HFS2 := Lib.hid hfs2
        rw [ints_len] at hc
        have hmod : (k : Int).tmod 2 = 1 := by rw [Int.tmod_eq_emod_of_nonneg (by omega)]; omega
        have HMEMK := Lib.hid (fun v => HMEM.out k v)
        obtain ⟨sk, hsk⟩ : ∃ sk, sk = seqN zs k := ⟨_, rfl⟩
        have HZK2 : Hid ((rs.getD k rd0).zs = ints sk) := by show _ = _; rw [hsk]; exact hzk
        rw [← hsk] at HMEMK hc hsl
        generalize (flatE zs k).length = F at *
        obtain ⟨A3, hA3⟩ : ∃ A3, A3 = (rs.getD k rd0).A := ⟨_, rfl⟩
        rw [← hA3] at hc
        generalize (rs.getD k rd0).c = c3 at hc
        obtain ⟨l, hl⟩ : ∃ l, l = sk.length := ⟨_, rfl⟩
        rw [← hl] at hc hsl
        have HL := Lib.hid hl
        have HA3 := Lib.hid hA3
        clear hin hfs hfs2 hzk hrow hseen hbw hsk hl hA3
        go_wp2
        go_loopw [31] (fun x wt => ∃ t : Nat, t ≤ l ∧ x = .int .i64 (t : Int) ∧ (∃ f : Nat → Bool, wt.ownsRow w.heap.size 55 1 (.slice (some ⟨w.heap.size, 0, none⟩) 12 12) 12 (brow 12 f) ∧ Hid (∀ v, v < n → f v = ((decide (sq v < k) && decide (sq v % 2 = 1)) || decide (v ∈ sk.take t)))) ∧ SSRow wt b1 b3 (some ⟨g, 0, none⟩) m c2 rs ∧ Below w.heap.size w wt) (fun x _ => l - (intOf x).toNat)
        case atStart => exact ⟨0, Nat.zero_le _, rfl, ⟨f, HSEEN.out, fun v hv => by rw [HFV.out v hv]; simp⟩, HROW.out, HBW.out⟩
        case round =>
          obtain ⟨t, ht, rfl, ⟨f2, hseen2, HFV2⟩, hrow2, hbw2⟩ := hrel
          by_cases htl : t < l
          · have hin2 := (hrow2.2.1 k (by rw [hrow2.len]; exact hlt)).at_
            rw [HZK2.out] at hin2
            obtain ⟨b, o, hA, hbb, hcx⟩ := hin2 t (by rw [ints_len, ← HL.out]; exact htl)
            have hA' := HA3.out.trans hA
            subst hA'
            obtain ⟨x, hx⟩ : ∃ x, x = sk.getD t 0 := ⟨_, rfl⟩
            have htl2 : t < sk.length := by rw [← HL.out]; exact htl
            have hxe : sk[t]? = some x := by rw [hx, List.getD_eq_getElem?_getD, List.getElem?_eq_getElem htl2]; rfl
            have hxi : (ints sk).getD t 0 = (x : Int) := by
              unfold ints
              rw [List.getD_eq_getElem?_getD, List.getElem?_map, hxe]
              rfl
            rw [hxi] at hcx
            have hxm := (HMEMK.out x).1 (List.mem_of_getElem? hxe)
            have hxn : x < n := by rw [← HN.out]; exact hxm.1
            have HTK : Hid (sk.take (t + 1) = sk.take t ++ [x]) := by show _ = _; rw [List.take_add_one, hxe]; rfl
            have hcell : wr.cell? ⟨w.heap.size, x, none⟩ = some (.bool (f2 x)) := by rw [hseen2.cellAt x (by omega)]; exact brow_get (by omega)
            generalize f2 x = old at hcell
            have hst := hseen2.stored x (.bool true)
            rw [brow_set] at hst
            have hfz := hseen2.frozenAt x
            have HST := Lib.hid hst.1
            have HROW3 := Lib.hid (hrow2.other hseen2 (by decide) (by decide) hst.2)
            have HBW3 := Lib.hid (hbw2.setCell (p := ⟨w.heap.size, x, none⟩) (Nat.le_refl _) (.bool true))
            clear hst hseen2 hrow2 hbw2 hin2 hxm hxi hxe htl2 hx
            go_wp2
            go_roundw
            case rel =>
              refine ⟨t + 1, by omega, by go_num, ⟨_, HST.out, ?_⟩, HROW3.out, HBW3.out⟩
              intro v hv
              rw [HFV2.out v hv, HTK.out, Bool.or_assoc]
              congr 1
              rw [← Bool.decide_or]
              exact decide_eq_decide.2 (by rw [List.mem_append, List.mem_singleton])
            case measure => simp [intOf]; omega
          · have htl' : t = l := by omega
            subst htl'
            have HT2 := Lib.hid hseen2
            have HR2 := Lib.hid hrow2
            have HW2 := Lib.hid hbw2
            clear hseen2 hrow2 hbw2
            go_wp2
            go_roundw
            case rel =>
              refine ⟨k + 1, by omega, by go_num, by rw [HFS2.out], ⟨f2, HT2.out, ?_⟩, HR2.out, HW2.out⟩
              intro v hv
              rw [HFV2.out v hv, HL.out, List.take_length]
              have hm2 := HMEMK.out v
              rw [HN.out, ← HSQ.out] at hm2
              rw [Bool.eq_iff_iff]
              simp only [Bool.or_eq_true, Bool.and_eq_true, decide_eq_true_eq]
              rw [hm2]
              omega
            case measure => simp [intOf]; omega
    · have hkm : k = m := by omega
      subst hkm
      obtain ⟨s, hs⟩ : ∃ s, s = (zs.filter (evB zs)).length := ⟨_, rfl⟩
      have hfa : (flatE zs k).length = s := by rw [hs, HM.out]; exact flatE_all HP.out
      have hs2 := filt_two (evB zs) zs
      rw [← hs, HN.out] at hs2
      have HO2 := Lib.hid hs2
      have hsn : s ≤ n := by omega
      have HSS := Lib.hid hs
      have HF2 : Hid (∀ v, v < n → f v = !evB zs (v : Int)) := by
        intro v hv
        rw [HFV.out v hv]
        have hlt2 : sq v < k := by
          have h1 := sqF_mono (nb zs) (show v ≤ zs.length - 1 by rw [HN.out]; omega)
          have h2 := HM.out
          unfold cntS at h2
          rw [if_pos ⟨HP.out, by intro e; have := HN.out; rw [e] at this; simp at this; omega⟩] at h2
          rw [HSQ.out]
          omega
        rw [decide_eq_true hlt2, Bool.true_and]
        unfold evB
        rw [Int.toNat_natCast, ← HSQ.out]
        rcases Nat.mod_two_eq_zero_or_one (sq v) with h | h <;> simp [h]
      rw [hfa]
      have HSEEN := Lib.hid hseen
      have HBW := Lib.hid hbw
      have HSZK := Lib.hid hszk
      clear hseen hrow hbw HFV hs2 hfa hs HFL HSL HFS HZK HMEM
      go_wp2_with (refine wpList_make_full _ rfl (.tmp 40) (.tmp 40) 24 rfl wr.heap.size 3 i0 (.int .i64 0) 1 Try.underlying24 hi hz0 hz1 .i64 .i64 n n n rfl rfl rfl rfl (by rw [hz2]; omega) (by unfold maxLen; omega) (Nat.le_refl _) ?_)
      intro w4 hown hgrow
      have hown0 : w4.ownsRow wr.heap.size 3 1 (.slice (some ⟨wr.heap.size, 0, none⟩) n n) n (vals (rowL n s [] [])) := by
        have e : (madeCells #[Value.int .i64 0] n).toList = vals (rowL n s [] []) := by
          rw [toList_madeCells_one]
          unfold rowL padL
          rw [show List.replicate n (Value.int .i64 0) = vals (List.replicate n 0) from (vals_rep n).symm]
          congr 1
          simp only [List.length_nil, Nat.sub_zero, List.nil_append]
          rw [List.replicate_append_replicate]
          congr 1
          omega
        rw [← e]
        simpa using hown
      have HOWN := Lib.hid hown0
      have HSEEN4 := Lib.hid (HSEEN.out.kept hgrow (Or.inr (fun e => by cases e)))
      have HBW4 := Lib.hid (HBW.out.grown hgrow HSZK.out (fun k hk => by cases hk))
      have hsz4 := hgrow.size
      clear hown hgrow hown0
      go_wp2
      go_quiet (fail)
      obtain ⟨AR, hAR⟩ : ∃ AR : Option Addr, AR = (if n = s then some ⟨wr.heap.size, 0, none⟩ else some ⟨wr.heap.size, s, none⟩) := ⟨_, rfl⟩
      rw [← hAR]
      have HAR : Hid (s < n → AR = some ⟨wr.heap.size, s, none⟩) := fun h => by rw [hAR, if_neg (by omega)]
      obtain ⟨gB, hgB⟩ : ∃ g, g = wr.heap.size := ⟨_, rfl⟩
      rw [← hgB] at HAR HOWN hsz4
      rw [← hgB]
      have HSZG := Lib.hid (show w.heap.size ≤ gB by rw [hgB]; exact HSZK.out)
      obtain ⟨W, hW⟩ : ∃ W, W = w4.drewN nq := ⟨_, rfl⟩
      rw [← hW]
      have hbW : Below w4.heap.size w4 W := by rw [hW]; exact below_drewN (Below.refl _ w4) nq
      have HOWNW := Lib.hid (own_below HOWN.out hbW)
      have HSEENW := Lib.hid (own_below HSEEN4.out hbW)
      have HBWW := Lib.hid (HBW4.out.trans (hbW.mono HBW4.out.size))
      have HZK := Lib.hid (fun j (hj : j < n) => fOf_get HP.out (x := j) (by rw [HN.out]; exact hj))
      have HZL : Hid (∀ j, j < n → fOf zs j < n) := fun j hj => by have := (bij_of HP.out).lt j (by rw [HN.out]; exact hj); rwa [HN.out] at this
      have HFE := Lib.hid (fun j (hj : j < n) => filt_snoc (evB zs) zs (k := j) (by rw [HN.out]; exact hj))
      have HFO := Lib.hid (fun j (hj : j < n) => filt_snoc (fun x => !evB zs x) zs (k := j) (by rw [HN.out]; exact hj))
      have HLE : Hid (∀ j, ((zs.take j).filter (evB zs)).length ≤ s) := fun j => by rw [HSS.out]; exact filt_le _ _ _
      have HLO : Hid (∀ j, ((zs.take j).filter (fun x => !evB zs x)).length ≤ n - s) := fun j => by have h1 := filt_le (fun x => !evB zs x) zs j; have h2 := HO2.out; omega
      clear hW hbW hAR hgB HOWN HSEEN4 HBW4 HSEEN HBW
      go_wp2
      go_loopw [10, 11, 53] (fun v1 v2 i wr => ∃ j : Nat, j ≤ n ∧ i = .int .i64 (j : Int) ∧ v1 = .slice (some ⟨gB, 0, none⟩) ((zs.take j).filter (evB zs)).length s ∧ v2 = .slice AR ((zs.take j).filter (fun x => !evB zs x)).length (n - s) ∧ wr.ownsRow gB 3 1 (.slice (some ⟨gB, 0, none⟩) n n) n (vals (rowL n s ((zs.take j).filter (evB zs)) ((zs.take j).filter (fun x => !evB zs x)))) ∧ wr.ownsRow w.heap.size 55 1 (.slice (some ⟨w.heap.size, 0, none⟩) 12 12) 12 (brow 12 f) ∧ Below w.heap.size w wr) (fun _ _ i _ => n - (intOf i).toNat)
      case atStart => exact ⟨0, Nat.zero_le _, rfl, rfl, rfl, HOWNW.out, HSEENW.out, HBWW.out⟩
      case round =>
        obtain ⟨j, hj, rfl, rfl, rfl, hown, hseen, hbw⟩ := hrel
        clear HOWNW HSEENW HBWW
        have hszj := hbw.size
        by_cases hjl : j < n
        · obtain ⟨b, o, rfl, hbb, hc0⟩ := hss j (by rw [HN.out]; exact hjl)
          have hc := (hbw.cell (p := ⟨b, o + j, none⟩) hbb).trans hc0
          have hfe := HFE.out j hjl
          have hfo := HFO.out j hjl
          have hle := HLE.out (j + 1)
          have hlo := HLO.out (j + 1)
          have hle0 := HLE.out j
          have hlo0 := HLO.out j
          rw [HZK.out j hjl] at hc hfe hfo
          have hy := HZL.out j hjl
          generalize fOf zs j = y at hc hfe hfo hy
          have hfy := HF2.out y hy
          have hcell : wr.cell? ⟨w.heap.size, y, none⟩ = some (.bool (f y)) := by rw [hseen.cellAt y (by omega)]; exact brow_get (by omega)
          have hgl := (own_lo hown gB rfl).2
          rw [hfe] at hle
          rw [hfo] at hlo
          have HFE1 := Lib.hid hfe
          have HFO1 := Lib.hid hfo
          generalize (zs.take j).filter (evB zs) = E at *
          generalize (zs.take j).filter (fun x => !evB zs x) = O at *
          have HHOWN := Lib.hid hown
          have HSEENJ := Lib.hid hseen
          have HBWJ := Lib.hid hbw
          clear hfe hfo hown hseen hbw
          cases hev : evB zs (y : Int) with
          | true =>
            rw [hev] at hfy hle
            rw [hfy] at hcell
            simp only [if_true, List.length_append, List.length_singleton] at hle
            have HE : Hid (((zs.take (j + 1)).filter (evB zs)) = E ++ [(y : Int)]) := by show _ = _; rw [HFE1.out, hev]; rfl
            have HO : Hid (((zs.take (j + 1)).filter (fun x => !evB zs x)) = O) := by show _ = _; rw [HFO1.out, hev]; simp
            have HH1 : Hid (∀ j u, (vals E)[j]? = some u → wr.cell? ⟨gB, 0 + j, none⟩ = some u) := by
              intro j u hu
              have hj2 : j < E.length := by have := (List.getElem?_eq_some_iff.1 hu).1; rwa [vals_len] at this
              rw [Nat.zero_add, HHOWN.out.cellAt j (by omega), rowL_ge hj2, hu]
            have hlr := rowL_len (n := n) hle0 hlo0 hsn
            have HH2 : Hid ((wr.cell? ⟨gB, 0 + E.length, none⟩).isSome = true) := by
              show _ = _
              rw [HHOWN.out.cellAt (0 + E.length) (by omega), vals_get (by omega)]
              rfl
            have HH3 := Lib.hid (HHOWN.out.frozenAt (0 + E.length))
            have hst := HHOWN.out.stored (0 + E.length) (.int .i64 (y : Int))
            rw [vals_set, Nat.zero_add, rowL_e (by omega)] at hst
            have HST := Lib.hid (hst.1.alloc (.cells #[.int .i64 (y : Int)] 3))
            have HSN := Lib.hid ((own_gr HSEENJ.out hst.2 (fun k hk e => own_diff HSEENJ.out HHOWN.out (by decide) k hk e)).alloc (.cells #[.int .i64 (y : Int)] 3))
            have HBN := Lib.hid ((HBWJ.out.setCell (p := ⟨gB, E.length, none⟩) HSZG.out (.int .i64 (y : Int))).alloc (by simpa using hszj) (.cells #[.int .i64 (y : Int)] 3))
            clear hst hlr hfy
            go_wp2_with (at_builtin; refine app_in rfl (.tmp 64) (.tmp 66) 24 rfl 3 i0 (.int .i64 0) 8 Try.underlying24 hi hz0 hz1 hz2 (by decide) rfl gB 0 E.length s (vals E) rfl (vals_len E) HH1.out (.int .i64 (y : Int)) rfl _ rfl rfl (by omega) (by omega) HH2.out HH3.out hgl ?_; rw [Nat.zero_add])
            go_roundw
            case rel => exact ⟨j + 1, by omega, by go_num, by rw [HE.out, List.length_append]; rfl, by rw [HO.out], by rw [HE.out, HO.out]; exact HST.out, HSN.out, HBN.out⟩
            case measure => simp [intOf]; omega
          | false =>
            rw [hev] at hfy hlo
            rw [hfy] at hcell
            simp only [Bool.not_false, if_true, List.length_append, List.length_singleton] at hlo
            have hAR := HAR.out (by omega)
            subst hAR
            have HE : Hid (((zs.take (j + 1)).filter (evB zs)) = E) := by show _ = _; rw [HFE1.out, hev]; simp
            have HO : Hid (((zs.take (j + 1)).filter (fun x => !evB zs x)) = O ++ [(y : Int)]) := by show _ = _; rw [HFO1.out, hev]; rfl
            have HH1 : Hid (∀ j u, (vals O)[j]? = some u → wr.cell? ⟨gB, s + j, none⟩ = some u) := by
              intro j u hu
              have hj2 : j < O.length := by have := (List.getElem?_eq_some_iff.1 hu).1; rwa [vals_len] at this
              rw [HHOWN.out.cellAt (s + j) (by omega), rowL_go hle0 hj2, hu]
            have hlr := rowL_len (n := n) hle0 hlo0 hsn
            have HH2 : Hid ((wr.cell? ⟨gB, s + O.length, none⟩).isSome = true) := by
              show _ = _
              rw [HHOWN.out.cellAt (s + O.length) (by omega), vals_get (by omega)]
              rfl
            have HH3 := Lib.hid (HHOWN.out.frozenAt (s + O.length))
            have hst := HHOWN.out.stored (s + O.length) (.int .i64 (y : Int))
            rw [vals_set, rowL_o hle0 (by omega)] at hst
            have HST := Lib.hid (hst.1.alloc (.cells #[.int .i64 (y : Int)] 3))
            have HSN := Lib.hid ((own_gr HSEENJ.out hst.2 (fun k hk e => own_diff HSEENJ.out HHOWN.out (by decide) k hk e)).alloc (.cells #[.int .i64 (y : Int)] 3))
            have HBN := Lib.hid ((HBWJ.out.setCell (p := ⟨gB, s + O.length, none⟩) HSZG.out (.int .i64 (y : Int))).alloc (by simpa using hszj) (.cells #[.int .i64 (y : Int)] 3))
            clear hst hlr hfy
            go_wp2_with (at_builtin; refine app_in rfl (.tmp 60) (.tmp 62) 24 rfl 3 i0 (.int .i64 0) 8 Try.underlying24 hi hz0 hz1 hz2 (by decide) rfl gB s O.length (n - s) (vals O) rfl (vals_len O) HH1.out (.int .i64 (y : Int)) rfl _ rfl rfl (by omega) (by omega) HH2.out HH3.out hgl ?_)
            go_roundw
            case rel => exact ⟨j + 1, by omega, by go_num, by rw [HE.out], by rw [HO.out, List.length_append]; rfl, by rw [HE.out, HO.out]; exact HST.out, HSN.out, HBN.out⟩
            case measure => simp [intOf]; omega
        · have hjn : j = n := by omega
          subst hjn
          have htk : zs.take j = zs := by rw [← HN.out]; exact List.take_length
          rw [htk] at hown
          have hrl : rowL j s (zs.filter (evB zs)) (zs.filter (fun x => !evB zs x)) = backF zs := by
            unfold rowL backF
            rw [padL_full HSS.out.symm, padL_full (by have := HO2.out; omega)]
          rw [hrl] at hown
          have HOF := Lib.hid (own_mono hown HSZG.out)
          have HBL := Lib.hid (show (backF zs).length = j by rw [back_len]; exact HN.out)
          clear hown hseen hrl htk
          go_wp2
          go_ret
          refine ⟨some ⟨gB, 0, none⟩, j, by rw [HBL.out]; rfl, ?_, hbw⟩
          rw [HBL.out]
          exact HOF.out
end Go.Proofs.Ytceolmihglhijaa.Rsb
