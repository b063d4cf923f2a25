/- shortestLists at ints, for rounds of piles. -/
import Derived.Test.YtpfbjbakcfmngaaBfm
import Derived.Test.YtpfbjbakcfmngaaMap
import Derived.Test.YtpfbjbakcfmngaaQue
set_option linter.unusedVariables false
set_option maxRecDepth 20000
namespace Go.Proofs.Ytpfbjbakcfmngaa.Shm
open Go.RowKit Go.Maps Fr _root_.Go.Proofs.Ytpfbjbakcfmngaa.Own Pk Ins Pok Pfn Rws Lb Bfm Map

def lenV : Value → Nat
  | .slice _ n _ => n
  | _ => 0
def kvI (V : List Int) (RS : List RD) : List (Value × Value) := (V.map (Value.int .i64)).zip (RS.map RD.v)
/-- the lists of steps lie in rows of the call's own, none of them in the queue's block -/
def Rows (lo g : Nat) (W : World) (RS : List RD) : Prop := ∀ r ∈ RS, W.ownsRow lo 3 1 r.v r.zs.length (vals r.zs) ∧ r.b ≠ some g
theorem kv_fst {V : List Int} {RS : List RD} (h : V.length = RS.length) : (kvI V RS).map Prod.fst = V.map (Value.int .i64) := by
  unfold kvI
  rw [List.map_fst_zip (by simp [h])]
theorem kv_len {V : List Int} {RS : List RD} (h : V.length = RS.length) : (kvI V RS).length = V.length := by
  unfold kvI
  simp [h]
theorem kv_nodup {V : List Int} {RS : List RD} (h : V.length = RS.length) (hd : V.Nodup) : ((kvI V RS).map Prod.fst).Nodup := by
  rw [kv_fst h]
  exact List.Pairwise.map _ (fun a b (hab : a ≠ b) e => hab (by injection e)) hd
theorem kv_mem {V : List Int} {RS : List RD} (h : V.length = RS.length) {x : Int} : Value.int .i64 x ∈ (kvI V RS).map Prod.fst ↔ x ∈ V := by
  rw [kv_fst h, List.mem_map]
  exact ⟨fun ⟨y, hy, e⟩ => by injection e with _ e2; exact e2 ▸ hy, fun hx => ⟨x, hx, rfl⟩⟩
theorem kv_snoc {V : List Int} {RS : List RD} (h : V.length = RS.length) (x : Int) (r : RD) : kvI V RS ++ [(.int .i64 x, r.v)] = kvI (V ++ [x]) (RS ++ [r]) := by
  unfold kvI
  rw [List.map_append, List.map_append, List.zip_append (by simp [h])]
  rfl
theorem kv_at {V : List Int} {RS : List RD} (h : V.length = RS.length) {t : Nat} (ht : t < V.length) : (Value.int .i64 (V.getD t 0), (RS.getD t rd0).v) ∈ kvI V RS := by
  have h2 : t < RS.length := by omega
  refine List.mem_iff_getElem?.2 ⟨t, ?_⟩
  unfold kvI
  simp [List.getD_eq_getElem?_getD, List.getElem?_eq_getElem ht, List.getElem?_eq_getElem h2, List.getElem?_zip_eq_some]
theorem Rows.kept {lo g : Nat} {W W' : World} {RS : List RD} {row : Option Nat} (h : Rows lo g W RS) (hg : W.grownBy W' row) (hr : ∀ r ∈ RS, ∀ k, row = some k → r.b ≠ some k) : Rows lo g W' RS := by
  intro r hr'
  obtain ⟨h1, h2⟩ := h r hr'
  exact ⟨own_gr h1 hg (fun k hk e => hr r hr' k e hk), h2⟩
theorem Rows.below {lo g : Nat} {W W' : World} {RS : List RD} (h : Rows lo g W RS) (hb : Below W.heap.size W W') : Rows lo g W' RS := fun r hr => ⟨own_below (h r hr).1 hb, (h r hr).2⟩
theorem map_ne {W : World} {b lo m : Nat} {kv : List (Value × Value)} {e : TypeId} {r : RD} {xs : List Value} (h : MapE Try.prog 3 W b kv) (ho : W.ownsRow lo e 1 r.v m xs) : r.b ≠ some b := by
  intro hb
  rcases ho.2 with ⟨h2, _⟩ | ⟨g, cap, cur, hv, _, hh, _⟩
  · unfold RD.v at h2
    simp only [Value.slice.injEq] at h2
    unfold RD.b at hb
    rw [h2.1] at hb
    cases hb
  · unfold RD.v at hv
    simp only [Value.slice.injEq] at hv
    unfold RD.b at hb
    rw [hv.1] at hb
    simp only [Option.map_some, Option.some.injEq] at hb
    subst hb
    obtain ⟨es, clock, hbb, _⟩ := h
    rw [hh] at hbb
    cases hbb
/-- the search as it lies in memory: b the map's block, d: so many have left the queue -/
def Sea (w : World) (b : Nat) (V : List Int) (W : List (List Int)) (d : Nat) (s6 : Value) (wr : World) : Prop :=
  ∃ g off c RS, s6 = .slice (some ⟨g, off, none⟩) (V.length - d) c ∧ MapE Try.prog 3 wr b (kvI V RS) ∧ RS.map RD.zs = W ∧ Rows w.heap.size g wr RS ∧ Que.QW wr w.heap.size 1 g off (V.length - d) c (vals (V.drop d)) ∧ g ≠ b ∧ Below w.heap.size w wr
theorem rd_own {W : World} {lo : Nat} {r : RD} {xs : List Value} (h : W.ownsRow lo 3 1 r.v r.zs.length xs) : ∀ k, r.b = some k → lo ≤ k ∧ k < W.heap.size := own_lo h
theorem sea_put {w w3 w4 w5 : World} {b g g' off' c' d : Nat} {V : List Int} {W : List (List Int)} {RS : List RD} {x : Int} {r : RD} (HL : V.length = RS.length) (hz : RS.map RD.zs = W) (hM3 : MapE Try.prog 3 w3 b (kvI V RS)) (hR3 : Rows w.heap.size g w3 RS)
    (hnew : w3.ownsRow w.heap.size 3 1 r.v r.zs.length (vals r.zs)) (hrg : r.b ≠ some g) (hM4 : MapE Try.prog 3 w4 b (kvI V RS ++ [(.int .i64 x, r.v)])) (hg4 : w3.grownBy w4 (some b)) (hg5 : w4.grownBy w5 (some g)) (hgb : g ≠ b)
    (hg' : g' = g ∨ w4.heap.size ≤ g') (hB3 : Below w.heap.size w w3) (hb : w.heap.size ≤ b) (hg0 : w.heap.size ≤ g) (hd : d ≤ V.length) (hq5 : Que.QW w5 w.heap.size 1 g' off' (V.length - d + 1) c' (vals (V.drop d) ++ [.int .i64 x])) :
    Sea w b (V ++ [x]) (W ++ [r.zs]) d (.slice (some ⟨g', off', none⟩) (V.length - d + 1) c') w5 := by
  have e1 : (V ++ [x]).length - d = V.length - d + 1 := by rw [List.length_append, List.length_singleton]; omega
  have hsz4 := hg4.size
  have key : ∀ s ∈ RS ++ [r], w3.ownsRow w.heap.size 3 1 s.v s.zs.length (vals s.zs) ∧ s.b ≠ some g := by
    intro s hs
    rcases List.mem_append.1 hs with hs | hs
    · exact hR3 s hs
    · rw [List.mem_singleton.1 hs]; exact ⟨hnew, hrg⟩
  refine ⟨g', off', c', RS ++ [r], by rw [e1], ?_, by rw [List.map_append, hz]; rfl, fun s hs => ?_, ?_, ?_, ?_⟩
  · rw [← kv_snoc HL]
    exact hM4.grown hg5 (fun e => hgb (by injection e))
  · obtain ⟨k1, k2⟩ := key s hs
    have k3 : w4.ownsRow w.heap.size 3 1 s.v s.zs.length (vals s.zs) := own_gr k1 hg4 (fun k hk e => by injection e with e; subst e; exact map_ne hM3 k1 hk)
    have k4 : w5.ownsRow w.heap.size 3 1 s.v s.zs.length (vals s.zs) := own_gr k3 hg5 (fun k hk e => by injection e with e; subst e; exact k2 hk)
    refine ⟨k4, fun e => ?_⟩
    rcases hg' with rfl | hg'
    · exact k2 e
    · have := (rd_own k3 g' e).2
      omega
  · rw [e1, List.drop_append_of_le_length hd]
    simpa [vals] using hq5
  · rcases hg' with rfl | hg'
    · exact hgb
    · have := hM4.lt; omega
  · have hb4 := hB3.grown hg4 hB3.size (fun k hk => by injection hk with hk; omega)
    exact hb4.grown hg5 hb4.size (fun k hk => by injection hk with hk; omega)

theorem new_v (A : Option Addr) (c : Nat) (zs : List Int) (x : Int) : (RD.mk A c (zs ++ [x])).v = .slice A (zs.length + 1) c := by simp [RD.v]
theorem new_row {W : World} {lo c : Nat} {A : Option Addr} {zs : List Int} {x : Int} (h : W.ownsRow lo 3 1 (.slice A (zs.length + 1) c) (zs.length + 1) (zs.map (Value.int .i64) ++ [.int .i64 x])) :
    W.ownsRow lo 3 1 (RD.mk A c (zs ++ [x])).v (RD.mk A c (zs ++ [x])).zs.length (vals (RD.mk A c (zs ++ [x])).zs) := by
  rw [new_v]
  simpa [vals] using h
theorem zero_run (W : World) : (zeroValue 25).run Try.prog W = .ok (.slice none 0 0) W := by kernel_rfl
theorem Sea.below {w wr w' : World} {b d : Nat} {V : List Int} {W : List (List Int)} {s6 : Value} (h : Sea w b V W d s6 wr) (hb : Below wr.heap.size wr w') : Sea w b V W d s6 w' := by
  obtain ⟨g, off, c, RS, e, hM, hz, hR, hQ, hgb, hbw⟩ := h
  exact ⟨g, off, c, RS, e, hM.below hb hM.lt, hz, hR.below hb, Que.q_below hQ hb, hgb, hbw.trans (hb.mono hbw.size)⟩
theorem sea_bel {w wr : World} {b d : Nat} {V : List Int} {W : List (List Int)} {s6 : Value} (h : Sea w b V W d s6 wr) : Below w.heap.size w wr := by
  obtain ⟨g, off, c, RS, e, hM, hz, hR, hQ, hgb, hbw⟩ := h
  exact hbw
set_option maxHeartbeats 4000000 in
theorem impl_lists (a : Int) (n pp p1 p2 : Nat) (nx : Nat → Int → Int) (w : World) (h2 : n ≤ 12) (hpp : 2 ≤ pp) (hpp4 : pp ≤ 4) (ha0 : 0 ≤ a) (ha : a < n) (hrun : Run nx 0 a pp n (goodI n)) (hnx : ∀ (k : Nat) (x : Int), k < pp → 0 ≤ x → x < n → 0 ≤ nx k x ∧ nx k x < n)
    (hcall : ∀ (W : World), Below w.heap.size w W → ∀ (k : Nat) (x : Int), k < pp → 0 ≤ x → x < n → Calls Try.prog 63 #[.int .i64 x, .int .i64 (k : Int), .pointer (some ⟨p1, 0, none⟩), .pointer (some ⟨p2, 0, none⟩)] W fun e w' => e = .returned (.int .i64 (nx k x)) ∧ Below W.heap.size W w') :
    Calls Try.prog 62 #[.int .i64 a, .int .i64 (pp : Int), .func (.func 63) #[] #[.pointer (some ⟨p1, 0, none⟩), .pointer (some ⟨p2, 0, none⟩)]] w fun e w' =>
      ∃ b RS, e = .returned (.map (some b)) ∧ MapE Try.prog 3 w' b (kvI (runB nx 0 a pp n).1 RS) ∧ RS.map RD.zs = (runB nx 0 a pp n).2 ∧ (∀ r ∈ RS, w'.ownsRow w.heap.size 3 1 r.v r.zs.length (vals r.zs)) ∧ Below w.heap.size w w' := by
  obtain ⟨i0, hi, hz0, hz1, hz2⟩ := info_parts infoInt
  have hmm := @run_makeMap Try.prog
  have HRUN := Lib.hid hrun
  have hka := key_int (a := a) (by omega) (by omega)
  have HM0 := Lib.hid (MapE.new Try.prog 3 w)
  have HCALL := Lib.hid hcall
  have HNX := Lib.hid hnx
  have hpp0 : 0 < pp := by omega
  go_enter Try.func62, Try.ntmps62
  go_wp2_with (refine wpList_put rfl (.tmp 14) (.tmp 15) (.const (.slice none 0 0)) 70 (Or.inr rfl) Pok.keyed Try.underlying70 w.heap.size [] HM0.out rfl (.int .i64 a) (.slice none 0 0) _ rfl rfl hka (by simp) ?_; intro w1 hm1 hg1 hs1)
  have hsz1 : w1.heap.size = w.heap.size + 1 := by rw [hs1]; simp
  have HB1 := Lib.hid (((Below.refl w.heap.size w).alloc (Nat.le_refl _) (.map #[] 0)).grown hg1 (by simp) (fun k hk => by injection hk with hk; omega))
  have HSEA0 := Lib.hid (show Sea w w.heap.size (runB nx 0 a pp 0).1 (runB nx 0 a pp 0).2 0 (.slice (some ⟨w.heap.size + 1, 0, none⟩) 1 1) (w1.alloc (.cells #[.int .i64 a] 3)) from by
    have hl := World.ownsRow_lit (base := w.heap.size) (e := 3) (size := 1) w1 #[.int .i64 a] 1 (by omega) (by decide) rfl
    rw [hsz1] at hl
    refine ⟨w.heap.size + 1, 0, 1, [rd0], rfl, ?_, rfl, fun r hr => ?_, Que.q_of_own hl, by omega, HB1.out.alloc (by omega) _⟩
    · exact hm1.grown (World.grownBy_alloc w1 _ none) (fun e => by cases e)
    · rw [List.mem_singleton.1 hr]
      exact ⟨World.ownsRow_nil _ _ _ _, fun e => by cases e⟩)
  have hn12 : n ≤ 12 := h2
  clear hcall hnx hrun hm1 hg1 hs1 HM0 hka hmm ha ha0 h2
  go_loopw [8] (fun s6 wr => ∃ t : Nat, t ≤ n ∧ Hid (Sea w w.heap.size (runB nx 0 a pp t).1 (runB nx 0 a pp t).2 t s6 wr)) (fun s6 wr => n + lenV s6 - msz wr w.heap.size)
  case atStart => exact ⟨0, Nat.zero_le _, HSEA0⟩
  case round =>
    obtain ⟨t, ht, HSEA⟩ := hrel
    clear HSEA0 HB1 hsz1
    by_cases hlt : t < n
    · obtain ⟨hst, htl⟩ := HRUN.out.st hpp0 (k := 0) hlt (by omega)
      obtain ⟨g, off, c, RS, rfl, hM, hz, hR, hQ, hgb, hbw⟩ := HSEA.out
      obtain ⟨V, hV⟩ : ∃ V, V = (runB nx 0 a pp t).1 := ⟨_, rfl⟩
      obtain ⟨W, hW⟩ : ∃ W, W = (runB nx 0 a pp t).2 := ⟨_, rfl⟩
      have hst0 : stH nx 0 a pp t 0 = runB nx 0 a pp t := rfl
      rw [hst0, ← hV] at htl
      rw [hst0] at hst
      have hgd := hst.good
      have hfew := hst.few
      rw [← hV] at hM hQ hgd hfew
      rw [← hW] at hz
      obtain ⟨x0, hx0⟩ : ∃ x, x = V.getD t 0 := ⟨_, rfl⟩
      have hmem : V.getD t 0 ∈ V := by
        rw [List.getD_eq_getElem?_getD, List.getElem?_eq_getElem htl]
        exact List.getElem_mem htl
      have hx0r := good_iff.1 (hgd _ hmem)
      rw [← hx0] at hx0r
      have hx01 := hx0r.1
      have hx02 := hx0r.2
      have HGET := Lib.hid (show ∀ k, k ≤ pp → (stH nx 0 a pp t k).1.getD t 0 = x0 from fun k hk => by
        induction k with
        | zero => rw [hst0, ← hV, hx0]
        | succ k ih =>
          obtain ⟨q1, q2⟩ := HRUN.out.st hpp0 (k := k) hlt (by omega)
          rw [show stH nx 0 a pp t (k + 1) = half nx 0 (stH nx 0 a pp t k) t k from rfl, (half_keep nx 0 _ t k t q2 (by rw [q1.same]; exact q2)).1]
          exact ih (by omega))
      obtain ⟨m, hm⟩ : ∃ m, V.length - t = m + 1 := ⟨V.length - t - 1, by omega⟩
      have hc0 : wr.cell? ⟨g, off, none⟩ = some (.int .i64 x0) := by
        have h0 : (vals (V.drop t))[0]? = some (.int .i64 x0) := by
          rw [hx0, vals_get (by rw [List.length_drop]; omega)]
          simp [List.getD_eq_getElem?_getD]
        exact hQ.2.2.2.2 0 _ h0
      have hnc := hQ.2.2.1
      have hmt : V.length - (t + 1) = m := by omega
      have hmle : m ≤ 12 := by omega
      have hmc : m + 1 ≤ c := by omega
      rw [← hV, hm]
      have hq1 : vals (V.drop (t + 1)) = (vals (V.drop t)).drop 1 := by simp [vals, List.drop_drop]
      have HS1 := Lib.hid (show c ≠ 1 → Sea w w.heap.size (stH nx 0 a pp t 0).1 (stH nx 0 a pp t 0).2 (t + 1) (.slice (some ⟨g, off + 1, none⟩) m (c - 1)) wr from fun _ => by
        refine ⟨g, off + 1, c - 1, RS, by rw [hst0, ← hV, hmt], by rw [hst0, ← hV]; exact hM, by rw [hst0, ← hW]; exact hz, hR, ?_, hgb, hbw⟩
        rw [hst0, ← hV, hmt, hq1]
        rw [hm] at hQ
        exact Que.q_pop hQ)
      have HS2 := Lib.hid (show c = 1 → m = 0 ∧ Sea w w.heap.size (stH nx 0 a pp t 0).1 (stH nx 0 a pp t 0).2 (t + 1) (.slice (some ⟨g, off, none⟩) 0 0) wr from fun hc1 => by
        have hm0 : m = 0 := by omega
        refine ⟨hm0, g, off, 0, RS, by rw [hst0, ← hV, hmt, hm0], by rw [hst0, ← hV]; exact hM, by rw [hst0, ← hW]; exact hz, hR, ?_, hgb, hbw⟩
        rw [hst0, ← hV, hmt, hm0, List.drop_of_length_le (by omega)]
        exact Que.q_end hQ)
      have hmsz := hM.msz
      have hVR : V.length = RS.length := by
        have h := congrArg List.length hz
        rw [List.length_map, hW, hst.same, ← hV] at h
        exact h.symm
      rw [kv_len hVR] at hmsz
      have HMSZ := Lib.hid hmsz
      have HVL := Lib.hid (show V.length = t + (m + 1) by omega)
      clear hM hz hR hQ hst hgd hfew hV hW hx0 hmem hx0r hq1 hmt hmsz hst0 HSEA hgb hm htl hnc hVR
      by_cases hc1 : c = 1
      · obtain ⟨hm0, hsea⟩ := HS2.out hc1
        subst hc1 hm0
        have HSI := Lib.hid hsea
        clear hsea HS1 HS2
        go_wp2
        go_loopw [8, 28] (fun s6 s25 wr => ∃ k : Nat, k ≤ pp ∧ s25 = .int .i64 (k : Int) ∧ Hid (Sea w w.heap.size (stH nx 0 a pp t k).1 (stH nx 0 a pp t k).2 (t + 1) s6 wr)) (fun _ s25 _ => pp - (intOf s25).toNat)
        case atStart => exact ⟨0, by omega, rfl, HSI⟩
        case round =>
          obtain ⟨k, hk, rfl, HSK⟩ := hrel
          clear HSI
          by_cases hk2 : k < pp
          · obtain ⟨hst, htl⟩ := HRUN.out.st hpp0 (k := k) hlt (by omega)
            have hget := HGET.out k hk
            have HCK := Lib.hid (HCALL.out wr (sea_bel HSK.out) k x0 (by omega) hx01 hx02)
            have hk0' : (k : Int) < (pp : Int) := by omega
            have hsl : ∃ (A0 : Option Addr) (n0 c0 : Nat), u8 = .slice A0 n0 c0 := by
              obtain ⟨g, off, c, RS, e, _⟩ := HSK.out
              exact ⟨_, _, _, e⟩
            obtain ⟨A0, n0, c0, rfl⟩ := hsl
            go_wp2_with fail
            refine HCK.out.mono ?_
            rintro e wq ⟨rfl, hbq⟩
            replace HSK := Lib.hid (HSK.out.below hbq)
            clear HCK hbq hk0'
            obtain ⟨g2, off2, c2, RS2, esl, hM, hz, hR, hQ, hgb, hbw2⟩ := HSK.out
            simp only [Value.slice.injEq] at esl
            obtain ⟨rfl, rfl, hcc⟩ := esl
            replace hcc := hcc.symm
            subst hcc
            have HHALF := Lib.hid (show stH nx 0 a pp t (k + 1) = half nx 0 (stH nx 0 a pp t k) t k from rfl)
            obtain ⟨y, hy⟩ : ∃ y, y = nx k x0 := ⟨_, rfl⟩
            have hyr := HNX.out k x0 (by omega) hx01 hx02
            rw [← hy] at hyr
            have HYN := Lib.hid hy
            rw [← hy]
            have hky := key_int (a := y) (by omega) (by omega)
            have hk1' : (k : Int) < (pp : Int) := by omega
            have hbg : w.heap.size ≤ g2 := hQ.1.1
            have hsamelen := hst.same
            have hfew := hst.few
            have hnd := hst.nodup
            have hsh := hst.short
            have hhalf : stH nx 0 a pp t (k + 1) = half nx 0 (stH nx 0 a pp t k) t k := rfl
            have hold : y ∈ (stH nx 0 a pp t k).1 → stH nx 0 a pp t (k + 1) = stH nx 0 a pp t k := fun h => by rw [hhalf]; exact half_old (by rw [hget, ← hy]; exact h)
            have hnew : y ∉ (stH nx 0 a pp t k).1 → (stH nx 0 a pp t (k + 1)).1 = (stH nx 0 a pp t k).1 ++ [y] ∧ (stH nx 0 a pp t (k + 1)).2 = (stH nx 0 a pp t k).2 ++ [(stH nx 0 a pp t k).2.getD t [] ++ [(k : Int)]] := fun h => by
              rw [hhalf, half_new (by rw [hget, ← hy]; exact h), hget, ← hy]
              exact ⟨rfl, rfl⟩
            generalize hV2 : (stH nx 0 a pp t k).1 = V2 at *
            generalize hW2 : (stH nx 0 a pp t k).2 = W2 at *
            have hVR : V2.length = RS2.length := by
              have h := congrArg List.length hz
              rw [List.length_map, hsamelen] at h
              exact h.symm
            have HND := Lib.hid (kv_nodup hVR hnd)
            by_cases hin : y ∈ V2
            · have HOLD := Lib.hid (hold hin)
              obtain ⟨i, hi, hiy⟩ := List.mem_iff_getElem.1 hin
              have HIN := Lib.hid (show (Value.int .i64 y, (RS2.getD i rd0).v) ∈ kvI V2 RS2 from by
                have h := kv_at hVR hi
                rw [List.getD_eq_getElem?_getD (l := V2), List.getElem?_eq_getElem hi, Option.getD_some, hiy] at h
                exact h)
              have HM2 := Lib.hid hM
              have HSK2 : Hid (Sea w w.heap.size (stH nx 0 a pp t (k + 1)).1 (stH nx 0 a pp t (k + 1)).2 (t + 1) (.slice (some ⟨g2, off2, none⟩) (V2.length - (t + 1)) c2) wq) := by
                rw [HOLD.out, hV2, hW2]
                exact HSK
              clear hM hz hR hQ hgb hbw2 hst hget hnew hold hhalf hnd hsh hsamelen hfew hVR hin hi hiy HOLD HSK hy
              go_wp2_with (at_lookup; refine wpList_hit rfl (.tmp 36) (.tmp 37) 70 true rfl Pok.keyed Try.underlying70 w.heap.size _ HM2.out rfl (.int .i64 y) _ _ rfl hky HND.out HIN.out ?_)
              first
                | refine ⟨⟨_, _, _, _, _, _, _, _, _, _, _, _, _, _, _, _, _, _, _, _, _, _, _, _, _, _, _, _, _, _, _, _, _, _, ⟨k + 1, by omega, by go_num, HSK2⟩, rfl⟩, ?_⟩
                | refine ⟨⟨k + 1, by omega, by go_num, HSK2⟩, ?_⟩
                | (trace_state; refine ⟨by (repeat' (first | exact ⟨⟨k + 1, by omega, by go_num, HSK2⟩, rfl⟩ | refine Exists.intro _ ?_)), ?_⟩)
              simp [intOf]; omega
            · obtain ⟨HV3, HW3⟩ := hnew hin
              have htR : t < RS2.length := by omega
              obtain ⟨r, hr⟩ : ∃ r, r = RS2.getD t rd0 := ⟨_, rfl⟩
              have hrm : r ∈ RS2 := by
                rw [hr, List.getD_eq_getElem?_getD, List.getElem?_eq_getElem htR]
                exact List.getElem_mem htR
              have hrz : r.zs = W2.getD t [] := by
                rw [hr, ← hz]
                simp [List.getD_eq_getElem?_getD, List.getElem?_eq_getElem htR]
              have hrl : r.zs.length ≤ 12 := hsh _ (by rw [← hz]; exact List.mem_map.2 ⟨r, hrm, rfl⟩)
              obtain ⟨hro, hrg⟩ := hR r hrm
              have HIN := Lib.hid (show (Value.int .i64 x0, (Value.slice r.A r.zs.length r.c)) ∈ kvI V2 RS2 from by
                have h := kv_at hVR htl
                rw [hget, ← hr] at h
                exact h)
              have HNO := Lib.hid (show Value.int .i64 y ∉ (kvI V2 RS2).map Prod.fst from fun h => hin ((kv_mem hVR).1 h))
              have HRA := Lib.hid (ints_of hro)
              have hkx := key_int (a := x0) (by omega) (by omega)
              have hzr := zero_run wq
              have HM2 := Lib.hid hM
              have HR2 := Lib.hid hR
              have HQ2 := Lib.hid hQ
              have HZ2 := Lib.hid hz
              have HVR := Lib.hid hVR
              have HB2 := Lib.hid hbw2
              have hszw := hbw2.size
              have hq2s : V2.length - (t + 1) ≤ 1048576 := by omega
              have htl2 : t + 1 ≤ V2.length := htl
              have hgsz := hQ.1.2
              have HRZ := Lib.hid hrz
              clear hrz
              clear hM hz hR hQ hbw2 hst hnew hold hhalf hnd hsh hsamelen hfew hVR HSK hy hr hrm hro hget htR hV2 hW2
              go_wp2_with (first | (at_lookup; refine wpList_miss rfl (.tmp 36) (.tmp 37) 70 true rfl Pok.keyed Try.underlying70 w.heap.size _ HM2.out rfl hzr (.int .i64 y) _ rfl hky HNO.out ?_) | (at_lookup; refine wpList_hit rfl (.tmp 45) (.tmp 46) 70 false rfl Pok.keyed Try.underlying70 w.heap.size _ HM2.out rfl (.int .i64 x0) _ _ rfl hkx HND.out HIN.out ?_) | fail)
              refine (clone_any r.A r.zs.length r.c r.zs _ rfl (by omega) HRA.out).mono ?_
              rintro e w2 ⟨A5, c5, rfl, ho5, hb5⟩
              go_wp2_with (first | (at_builtin; refine app_one rfl (.tmp 48) (.tmp 50) 25 rfl wq.heap.size 3 i0 (.int .i64 0) 8 Try.underlying25 hi hz0 hz1 hz2 (by decide) rfl _ _ _ rfl ho5 (.int .i64 (k : Int)) rfl rfl (by omega) hb5.size ?_; intro g5 c6 w3 hown3 hb3; have hb3' := hb5.trans hb3; have HM3 := Lib.hid (HM2.out.below hb3' HM2.out.lt); have HR3 := Lib.hid (HR2.out.below hb3'); have HQ3 := Lib.hid (Que.q_below HQ2.out hb3'); have HB3 := Lib.hid (HB2.out.trans (hb3'.mono hszw)); have HNEW := Lib.hid (new_row (own_mono hown3 hszw)); have hg5 := (own_lo hown3 g5 rfl).1; clear hown3 hb3 hb3' ho5 hb5) | (at_mapUpdate; refine wpList_put rfl (.tmp 43) (.tmp 44) (.tmp 51) 70 (Or.inl rfl) Pok.keyed Try.underlying70 w.heap.size _ HM3.out rfl (.int .i64 y) (.slice (some ⟨g5, 0, none⟩) (r.zs.length + 1) c6) _ rfl rfl hky HNO.out ?_; intro w4 hm4 hg4 hs4; have HM4 := Lib.hid hm4; have HG4 := Lib.hid hg4; have HQ4 := Lib.hid (Que.q_kept HQ3.out hg4 (fun e => by injection e with e; exact hgb e.symm)); have hsz4 : w.heap.size ≤ w4.heap.size := Nat.le_trans HB3.out.size hg4.size; clear hm4 hg4 hs4) | (at_builtin; refine Que.app_q rfl (.tmp 52) (.tmp 54) 25 rfl w.heap.size 3 i0 (.int .i64 0) 1 8 Try.underlying25 hi hz0 hz1 hz2 (by decide) rfl (by decide) g2 off2 _ c2 _ rfl HQ4.out #[.int .i64 y] rfl (by intro u hu; simp at hu; subst hu; rfl) _ rfl rfl hq2s hsz4 ?_; intro g' off' c' w5 hq5 hg5' hgg; skip) | fail)
              have HSN := Lib.hid (sea_put (r := ⟨some ⟨g5, 0, none⟩, c6, r.zs ++ [(k : Int)]⟩) HVR.out HZ2.out HM3.out HR3.out HNEW.out (by intro e; have e2 : g5 = g2 := (by injection e); omega) (by rw [new_v]; exact HM4.out) HG4.out hg5' hgb hgg HB3.out (Nat.le_refl _) hbg htl2 hq5)
              have HSF := Lib.hid (show Sea w w.heap.size (stH nx 0 a pp t (k + 1)).1 (stH nx 0 a pp t (k + 1)).2 (t + 1) (.slice (some ⟨g', off', none⟩) (V2.length - (t + 1) + 1) c') w5 by rw [HV3, HW3, ← HRZ.out]; exact HSN.out)
              clear HSN hq5 hg5' hgg
              first
                | refine ⟨⟨_, _, _, _, _, _, ⟨k + 1, by omega, rfl, HSF⟩, rfl, rfl, rfl, rfl, rfl, by go_num⟩, ?_⟩
                | refine ⟨⟨k + 1, by omega, by go_num, HSF⟩, ?_⟩
              simp [intOf]; omega
          · have hk2' : pp = k := by omega
            subst hk2'
            obtain ⟨hst, htl⟩ := HRUN.out.st hpp0 (k := pp) hlt (by omega)
            obtain ⟨g2, off2, c2, RS2, rfl, hM, hz, hR, hQ, hgb, hbw2⟩ := HSK.out
            have hVR : (stH nx 0 a pp t pp).1.length = RS2.length := by
              have h := congrArg List.length hz
              rw [List.length_map, hst.same] at h
              exact h.symm
            have hms := hM.msz
            rw [kv_len hVR] at hms
            obtain ⟨L, hL⟩ : ∃ L, L = (stH nx 0 a pp t pp).1.length := ⟨_, rfl⟩
            have HSN := Lib.hid (show Sea w w.heap.size (runB nx 0 a pp (t + 1)).1 (runB nx 0 a pp (t + 1)).2 (t + 1) _ _ from HSK.out)
            rw [← hL] at hms htl HSN
            have HM3 := Lib.hid hms
            clear hM hz hR hQ hgb hbw2 hst hVR HSK hms
            rw [← hL]
            clear hL
            go_wp2
            refine ⟨⟨t + 1, by omega, HSN⟩, ?_⟩
            have e1 := HMSZ.out
            have e2 := HM3.out
            have e3 := HVL.out
            simp [lenV, e1, e2]
            omega
      · have HSI := Lib.hid (HS1.out hc1)
        have hcc1 : ¬ c = 1 := hc1
        have hcc2 : ¬ (c : Int) = 1 := by omega
        have hcm : m ≤ c - 1 := by omega
        clear HS1 HS2 hc1
        go_wp2
        go_loopw [8, 28] (fun s6 s25 wr => ∃ k : Nat, k ≤ pp ∧ s25 = .int .i64 (k : Int) ∧ Hid (Sea w w.heap.size (stH nx 0 a pp t k).1 (stH nx 0 a pp t k).2 (t + 1) s6 wr)) (fun _ s25 _ => pp - (intOf s25).toNat)
        case atStart => exact ⟨0, by omega, rfl, HSI⟩
        case round =>
          obtain ⟨k, hk, rfl, HSK⟩ := hrel
          clear HSI
          by_cases hk2 : k < pp
          · obtain ⟨hst, htl⟩ := HRUN.out.st hpp0 (k := k) hlt (by omega)
            have hget := HGET.out k hk
            have HCK := Lib.hid (HCALL.out wr (sea_bel HSK.out) k x0 (by omega) hx01 hx02)
            have hk0' : (k : Int) < (pp : Int) := by omega
            have hsl : ∃ (A0 : Option Addr) (n0 c0 : Nat), u8 = .slice A0 n0 c0 := by
              obtain ⟨g, off, c, RS, e, _⟩ := HSK.out
              exact ⟨_, _, _, e⟩
            obtain ⟨A0, n0, c0, rfl⟩ := hsl
            go_wp2_with fail
            refine HCK.out.mono ?_
            rintro e wq ⟨rfl, hbq⟩
            replace HSK := Lib.hid (HSK.out.below hbq)
            clear HCK hbq hk0'
            obtain ⟨g2, off2, c2, RS2, esl, hM, hz, hR, hQ, hgb, hbw2⟩ := HSK.out
            simp only [Value.slice.injEq] at esl
            obtain ⟨rfl, rfl, hcc⟩ := esl
            replace hcc := hcc.symm
            subst hcc
            have HHALF := Lib.hid (show stH nx 0 a pp t (k + 1) = half nx 0 (stH nx 0 a pp t k) t k from rfl)
            obtain ⟨y, hy⟩ : ∃ y, y = nx k x0 := ⟨_, rfl⟩
            have hyr := HNX.out k x0 (by omega) hx01 hx02
            rw [← hy] at hyr
            have HYN := Lib.hid hy
            rw [← hy]
            have hky := key_int (a := y) (by omega) (by omega)
            have hk1' : (k : Int) < (pp : Int) := by omega
            have hbg : w.heap.size ≤ g2 := hQ.1.1
            have hsamelen := hst.same
            have hfew := hst.few
            have hnd := hst.nodup
            have hsh := hst.short
            have hhalf : stH nx 0 a pp t (k + 1) = half nx 0 (stH nx 0 a pp t k) t k := rfl
            have hold : y ∈ (stH nx 0 a pp t k).1 → stH nx 0 a pp t (k + 1) = stH nx 0 a pp t k := fun h => by rw [hhalf]; exact half_old (by rw [hget, ← hy]; exact h)
            have hnew : y ∉ (stH nx 0 a pp t k).1 → (stH nx 0 a pp t (k + 1)).1 = (stH nx 0 a pp t k).1 ++ [y] ∧ (stH nx 0 a pp t (k + 1)).2 = (stH nx 0 a pp t k).2 ++ [(stH nx 0 a pp t k).2.getD t [] ++ [(k : Int)]] := fun h => by
              rw [hhalf, half_new (by rw [hget, ← hy]; exact h), hget, ← hy]
              exact ⟨rfl, rfl⟩
            generalize hV2 : (stH nx 0 a pp t k).1 = V2 at *
            generalize hW2 : (stH nx 0 a pp t k).2 = W2 at *
            have hVR : V2.length = RS2.length := by
              have h := congrArg List.length hz
              rw [List.length_map, hsamelen] at h
              exact h.symm
            have HND := Lib.hid (kv_nodup hVR hnd)
            by_cases hin : y ∈ V2
            · have HOLD := Lib.hid (hold hin)
              obtain ⟨i, hi, hiy⟩ := List.mem_iff_getElem.1 hin
              have HIN := Lib.hid (show (Value.int .i64 y, (RS2.getD i rd0).v) ∈ kvI V2 RS2 from by
                have h := kv_at hVR hi
                rw [List.getD_eq_getElem?_getD (l := V2), List.getElem?_eq_getElem hi, Option.getD_some, hiy] at h
                exact h)
              have HM2 := Lib.hid hM
              have HSK2 : Hid (Sea w w.heap.size (stH nx 0 a pp t (k + 1)).1 (stH nx 0 a pp t (k + 1)).2 (t + 1) (.slice (some ⟨g2, off2, none⟩) (V2.length - (t + 1)) c2) wq) := by
                rw [HOLD.out, hV2, hW2]
                exact HSK
              clear hM hz hR hQ hgb hbw2 hst hget hnew hold hhalf hnd hsh hsamelen hfew hVR hin hi hiy HOLD HSK hy
              go_wp2_with (at_lookup; refine wpList_hit rfl (.tmp 36) (.tmp 37) 70 true rfl Pok.keyed Try.underlying70 w.heap.size _ HM2.out rfl (.int .i64 y) _ _ rfl hky HND.out HIN.out ?_)
              first
                | refine ⟨⟨_, _, _, _, _, _, _, _, _, _, _, _, _, _, _, _, _, _, _, _, _, _, _, _, _, _, _, _, _, _, _, _, _, _, ⟨k + 1, by omega, by go_num, HSK2⟩, rfl⟩, ?_⟩
                | refine ⟨⟨k + 1, by omega, by go_num, HSK2⟩, ?_⟩
                | (trace_state; refine ⟨by (repeat' (first | exact ⟨⟨k + 1, by omega, by go_num, HSK2⟩, rfl⟩ | refine Exists.intro _ ?_)), ?_⟩)
              simp [intOf]; omega
            · obtain ⟨HV3, HW3⟩ := hnew hin
              have htR : t < RS2.length := by omega
              obtain ⟨r, hr⟩ : ∃ r, r = RS2.getD t rd0 := ⟨_, rfl⟩
              have hrm : r ∈ RS2 := by
                rw [hr, List.getD_eq_getElem?_getD, List.getElem?_eq_getElem htR]
                exact List.getElem_mem htR
              have hrz : r.zs = W2.getD t [] := by
                rw [hr, ← hz]
                simp [List.getD_eq_getElem?_getD, List.getElem?_eq_getElem htR]
              have hrl : r.zs.length ≤ 12 := hsh _ (by rw [← hz]; exact List.mem_map.2 ⟨r, hrm, rfl⟩)
              obtain ⟨hro, hrg⟩ := hR r hrm
              have HIN := Lib.hid (show (Value.int .i64 x0, (Value.slice r.A r.zs.length r.c)) ∈ kvI V2 RS2 from by
                have h := kv_at hVR htl
                rw [hget, ← hr] at h
                exact h)
              have HNO := Lib.hid (show Value.int .i64 y ∉ (kvI V2 RS2).map Prod.fst from fun h => hin ((kv_mem hVR).1 h))
              have HRA := Lib.hid (ints_of hro)
              have hkx := key_int (a := x0) (by omega) (by omega)
              have hzr := zero_run wq
              have HM2 := Lib.hid hM
              have HR2 := Lib.hid hR
              have HQ2 := Lib.hid hQ
              have HZ2 := Lib.hid hz
              have HVR := Lib.hid hVR
              have HB2 := Lib.hid hbw2
              have hszw := hbw2.size
              have hq2s : V2.length - (t + 1) ≤ 1048576 := by omega
              have htl2 : t + 1 ≤ V2.length := htl
              have hgsz := hQ.1.2
              have HRZ := Lib.hid hrz
              clear hrz
              clear hM hz hR hQ hbw2 hst hnew hold hhalf hnd hsh hsamelen hfew hVR HSK hy hr hrm hro hget htR hV2 hW2
              go_wp2_with (first | (at_lookup; refine wpList_miss rfl (.tmp 36) (.tmp 37) 70 true rfl Pok.keyed Try.underlying70 w.heap.size _ HM2.out rfl hzr (.int .i64 y) _ rfl hky HNO.out ?_) | (at_lookup; refine wpList_hit rfl (.tmp 45) (.tmp 46) 70 false rfl Pok.keyed Try.underlying70 w.heap.size _ HM2.out rfl (.int .i64 x0) _ _ rfl hkx HND.out HIN.out ?_) | fail)
              refine (clone_any r.A r.zs.length r.c r.zs _ rfl (by omega) HRA.out).mono ?_
              rintro e w2 ⟨A5, c5, rfl, ho5, hb5⟩
              go_wp2_with (first | (at_builtin; refine app_one rfl (.tmp 48) (.tmp 50) 25 rfl wq.heap.size 3 i0 (.int .i64 0) 8 Try.underlying25 hi hz0 hz1 hz2 (by decide) rfl _ _ _ rfl ho5 (.int .i64 (k : Int)) rfl rfl (by omega) hb5.size ?_; intro g5 c6 w3 hown3 hb3; have hb3' := hb5.trans hb3; have HM3 := Lib.hid (HM2.out.below hb3' HM2.out.lt); have HR3 := Lib.hid (HR2.out.below hb3'); have HQ3 := Lib.hid (Que.q_below HQ2.out hb3'); have HB3 := Lib.hid (HB2.out.trans (hb3'.mono hszw)); have HNEW := Lib.hid (new_row (own_mono hown3 hszw)); have hg5 := (own_lo hown3 g5 rfl).1; clear hown3 hb3 hb3' ho5 hb5) | (at_mapUpdate; refine wpList_put rfl (.tmp 43) (.tmp 44) (.tmp 51) 70 (Or.inl rfl) Pok.keyed Try.underlying70 w.heap.size _ HM3.out rfl (.int .i64 y) (.slice (some ⟨g5, 0, none⟩) (r.zs.length + 1) c6) _ rfl rfl hky HNO.out ?_; intro w4 hm4 hg4 hs4; have HM4 := Lib.hid hm4; have HG4 := Lib.hid hg4; have HQ4 := Lib.hid (Que.q_kept HQ3.out hg4 (fun e => by injection e with e; exact hgb e.symm)); have hsz4 : w.heap.size ≤ w4.heap.size := Nat.le_trans HB3.out.size hg4.size; clear hm4 hg4 hs4) | (at_builtin; refine Que.app_q rfl (.tmp 52) (.tmp 54) 25 rfl w.heap.size 3 i0 (.int .i64 0) 1 8 Try.underlying25 hi hz0 hz1 hz2 (by decide) rfl (by decide) g2 off2 _ c2 _ rfl HQ4.out #[.int .i64 y] rfl (by intro u hu; simp at hu; subst hu; rfl) _ rfl rfl hq2s hsz4 ?_; intro g' off' c' w5 hq5 hg5' hgg; skip) | fail)
              have HSN := Lib.hid (sea_put (r := ⟨some ⟨g5, 0, none⟩, c6, r.zs ++ [(k : Int)]⟩) HVR.out HZ2.out HM3.out HR3.out HNEW.out (by intro e; have e2 : g5 = g2 := (by injection e); omega) (by rw [new_v]; exact HM4.out) HG4.out hg5' hgb hgg HB3.out (Nat.le_refl _) hbg htl2 hq5)
              have HSF := Lib.hid (show Sea w w.heap.size (stH nx 0 a pp t (k + 1)).1 (stH nx 0 a pp t (k + 1)).2 (t + 1) (.slice (some ⟨g', off', none⟩) (V2.length - (t + 1) + 1) c') w5 by rw [HV3, HW3, ← HRZ.out]; exact HSN.out)
              clear HSN hq5 hg5' hgg
              first
                | refine ⟨⟨_, _, _, _, _, _, ⟨k + 1, by omega, rfl, HSF⟩, rfl, rfl, rfl, rfl, rfl, by go_num⟩, ?_⟩
                | refine ⟨⟨k + 1, by omega, by go_num, HSF⟩, ?_⟩
              simp [intOf]; omega
          · have hk2' : pp = k := by omega
            subst hk2'
            obtain ⟨hst, htl⟩ := HRUN.out.st hpp0 (k := pp) hlt (by omega)
            obtain ⟨g2, off2, c2, RS2, rfl, hM, hz, hR, hQ, hgb, hbw2⟩ := HSK.out
            have hVR : (stH nx 0 a pp t pp).1.length = RS2.length := by
              have h := congrArg List.length hz
              rw [List.length_map, hst.same] at h
              exact h.symm
            have hms := hM.msz
            rw [kv_len hVR] at hms
            obtain ⟨L, hL⟩ : ∃ L, L = (stH nx 0 a pp t pp).1.length := ⟨_, rfl⟩
            have HSN := Lib.hid (show Sea w w.heap.size (runB nx 0 a pp (t + 1)).1 (runB nx 0 a pp (t + 1)).2 (t + 1) _ _ from HSK.out)
            rw [← hL] at hms htl HSN
            have HM3 := Lib.hid hms
            clear hM hz hR hQ hgb hbw2 hst hVR HSK hms
            rw [← hL]
            clear hL
            go_wp2
            refine ⟨⟨t + 1, by omega, HSN⟩, ?_⟩
            have e1 := HMSZ.out
            have e2 := HM3.out
            have e3 := HVL.out
            simp [lenV, e1, e2]
            omega
    · have htn : t = n := by omega
      subst htn
      obtain ⟨g, off, c, RS, rfl, hM, hz, hR, hQ, hgb, hbw⟩ := HSEA.out
      have hlen0 : (runB nx 0 a pp t).1.length - t = 0 := by rw [HRUN.out.len]; omega
      have HFIN := Lib.hid (show _ ∧ _ ∧ _ ∧ _ from ⟨hM, hz, fun r hr => (hR r hr).1, hbw⟩)
      clear hM hz hR hQ hbw HSEA HRUN HCALL HNX
      rw [hlen0]
      go_wp2
      go_ret
      exact ⟨w.heap.size, RS, rfl, HFIN.out.1, HFIN.out.2.1, HFIN.out.2.2.1, HFIN.out.2.2.2⟩
end Go.Proofs.Ytpfbjbakcfmngaa.Shm
