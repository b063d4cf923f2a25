/- PlacesFor of the model. -/
import Derived.Test.YtpfbjbakcfmngaaPlf
import Derived.Test.YtpfbjbakcfmngaaIxs
import Derived.Test.YtpfbjbakcfmngaaCat
import Derived.Test.YtpfbjbakcfmngaaAat
set_option linter.unusedVariables false
set_option maxRecDepth 20000
namespace Go.Proofs.Ytpfbjbakcfmngaa.Pls
open Go.RowKit Go.Maps Fr _root_.Go.Proofs.Ytpfbjbakcfmngaa.Own Pk Ins Pok Pfn Rws Lb Cat Plk Ixa Ixs Bfm Map Shm Plf

theorem own_shape {w : World} {B : Nat} {e : TypeId} {s : Nat} {A : Option Addr} {n c : Nat} {xs : List Value} (h : w.ownsRow B e s (.slice A n c) n xs) (hn : 0 < n) : ∃ g, A = some ⟨g, 0, none⟩ := by
  rcases h.2 with ⟨h1, h2⟩ | ⟨g, cap, cur, hv, _⟩
  · omega
  · simp only [Value.slice.injEq] at hv
    exact ⟨g, hv.1⟩
theorem row_nil {w : World} {B : Nat} {A : Option Addr} {n c : Nat} {xs : List Value} (h : w.ownsRow B 3 1 (.slice A n c) n xs) : A = none → c = 0 := (Dls.own_nil h).1
theorem row_spot {w : World} {B : Nat} {A : Option Addr} {n c : Nat} {xs : List Value} (h : w.ownsRow B 3 1 (.slice A n c) n xs) : ∀ a, A = some a → a.spot = none := (Dls.own_nil h).2
theorem spec_next (n m k : Nat) (x : Int) (W : World) (hm : m = 2 ∨ m = 3 ∨ m = 4) (h1 : m ≤ n) (h2 : n ≤ 12) (h3 : n % m = 0) (hk : k < m) (hx0 : 0 ≤ x) (hx : x < n) :
    Calls Try.prog 39 #[.int .i64 (n : Int), .int .i64 (m : Int), .int .i64 x, .int .i64 (k : Int)] W fun e w' => e = .returned (.int .i64 (nxP n m k x)) ∧ Below W.heap.size W w' := by
  have HC := spec_idx n m x k W (by omega) (by omega) (by omega) (by omega)
  have e : idxA n m x k = nxP n m k x := by
    have hb : idxB n m x k = true := by
      unfold idxB
      rw [ok_yes hm h1 h2 h3, show inB x n = true from decide_eq_true ⟨hx0, hx⟩, show inB (k : Int) m = true from decide_eq_true ⟨by omega, by omega⟩]
      rfl
    rw [idx_yes hb]
    rfl
  rw [e] at HC
  exact HC
/-- rows that lie apart from one row -/
def RowsA (lo : Nat) (A9 : Option Addr) (W : World) (RS : List RD) : Prop := ∀ r ∈ RS, W.ownsRow lo 3 1 r.v r.zs.length (vals r.zs) ∧ ∀ k, A9.map (·.block) = some k → r.b ≠ some k
def Spl (w : World) (V : List Int) (W : List (List Int)) (s8 s9 : Value) (wr : World) : Prop :=
  ∃ A8 c8 A9 c9 RS, s8 = .slice A8 V.length c8 ∧ s9 = .slice A9 V.length c9 ∧ wr.ownsRow w.heap.size 25 1 (.slice A8 V.length c8) V.length (RS.map RD.v) ∧ RS.map RD.zs = W ∧ wr.ownsRow w.heap.size 3 1 (.slice A9 V.length c9) V.length (vals V) ∧
    RowsA w.heap.size A9 wr RS ∧ Below w.heap.size w wr
theorem RowsA.below {lo : Nat} {A9 : Option Addr} {W W' : World} {RS : List RD} (h : RowsA lo A9 W RS) (hb : Below W.heap.size W W') : RowsA lo A9 W' RS := fun r hr => ⟨own_below (h r hr).1 hb, (h r hr).2⟩
theorem spl_start (w : World) (f : Int) : Spl w [f] [[]] (.slice (some ⟨w.heap.size + 1, 0, none⟩) 1 1) (.slice (some ⟨w.heap.size + 1 + 1, 0, none⟩) 1 1)
    (((w.alloc (.cells #[] 3)).alloc (.cells #[.slice (some ⟨w.heap.size, 0, none⟩) 0 0] 25)).alloc (.cells #[.int .i64 f] 3)) := by
  have s1 : (w.alloc (.cells #[] 3)).heap.size = w.heap.size + 1 := by simp
  have l0 := World.ownsRow_lit (base := w.heap.size) (e := 3) (size := 1) w #[] 0 (Nat.le_refl _) (by decide) rfl
  have b0 := (Below.refl w.heap.size w).alloc (Nat.le_refl _) (.cells #[] 3)
  generalize w.alloc (.cells #[] 3) = w1 at *
  have l1 := World.ownsRow_lit (base := w.heap.size) (e := 25) (size := 1) w1 #[.slice (some ⟨w.heap.size, 0, none⟩) 0 0] 1 (by omega) (by decide) rfl
  have s2 : (w1.alloc (.cells #[.slice (some ⟨w.heap.size, 0, none⟩) 0 0] 25)).heap.size = w.heap.size + 1 + 1 := by simp [s1]
  have b1 := b0.alloc (by omega) (.cells #[.slice (some ⟨w.heap.size, 0, none⟩) 0 0] 25)
  have l2 := l0.alloc (.cells #[.slice (some ⟨w.heap.size, 0, none⟩) 0 0] 25)
  generalize w1.alloc (.cells #[.slice (some ⟨w.heap.size, 0, none⟩) 0 0] 25) = w2 at *
  have l3 := World.ownsRow_lit (base := w.heap.size) (e := 3) (size := 1) w2 #[.int .i64 f] 1 (by omega) (by decide) rfl
  rw [s2] at l3
  rw [s1] at l1
  refine ⟨_, 1, _, 1, [⟨some ⟨w.heap.size, 0, none⟩, 0, []⟩], rfl, rfl, l1.alloc _, rfl, l3, fun r hr => ?_, b1.alloc (by omega) _⟩
  rw [List.mem_singleton.1 hr]
  exact ⟨l2.alloc _, fun k hk e => by simp [RD.b] at hk e; omega⟩
theorem spl_below {w wr w' : World} {V : List Int} {W : List (List Int)} {s8 s9 : Value} (h : Spl w V W s8 s9 wr) (hb : Below wr.heap.size wr w') : Spl w V W s8 s9 w' := by
  obtain ⟨A8, c8, A9, c9, RS, e1, e2, h8, hz, h9, hR, hbw⟩ := h
  exact ⟨A8, c8, A9, c9, RS, e1, e2, own_below h8 hb, hz, own_below h9 hb, hR.below hb, hbw.trans (hb.mono hbw.size)⟩
/-- one more state -/
theorem spl_put {w w1 w2 w4 w5 : World} {V : List Int} {W : List (List Int)} {RS : List RD} {A8 A9 : Option Addr} {c8 c9 g8 c8' g9 c9' : Nat} {y : Int} {r : RD} (HL : V.length = RS.length) (hz : RS.map RD.zs = W) (hB1 : Below w.heap.size w w1)
    (h8 : w1.ownsRow w.heap.size 25 1 (.slice A8 V.length c8) V.length (RS.map RD.v)) (h9 : w1.ownsRow w.heap.size 3 1 (.slice A9 V.length c9) V.length (vals V)) (hR : RowsA w.heap.size A9 w1 RS)
    (h9' : w2.ownsRow w.heap.size 3 1 (.slice (some ⟨g9, 0, none⟩) (V.length + 1) c9') (V.length + 1) (vals V ++ [.int .i64 y])) (hg2 : w1.grownBy w2 (A9.map (·.block))) (hat : A9.map (·.block) = some g9 ∨ w1.heap.size ≤ g9)
    (hb4 : Below w2.heap.size w2 w4) (hr : w4.ownsRow w2.heap.size 3 1 r.v r.zs.length (vals r.zs))
    (h8' : w5.ownsRow w.heap.size 25 1 (.slice (some ⟨g8, 0, none⟩) (V.length + 1) c8') (V.length + 1) (RS.map RD.v ++ [r.v])) (hg5 : w4.grownBy w5 (A8.map (·.block))) :
    Spl w (V ++ [y]) (W ++ [r.zs]) (.slice (some ⟨g8, 0, none⟩) (V.length + 1) c8') (.slice (some ⟨g9, 0, none⟩) (V.length + 1) c9') w5 := by
  have e1 : (V ++ [y]).length = V.length + 1 := by simp
  have h8d := own_diff h8 h9 (by decide)
  have h82 : w2.ownsRow w.heap.size 25 1 (.slice A8 V.length c8) V.length (RS.map RD.v) := own_gr h8 hg2 (fun k hk e => h8d k hk e)
  have h84 := own_below h82 hb4
  have h94 := own_below h9' hb4
  have hB2 := hB1.grown hg2 hB1.size (fun k hk => (own_lo h9 k hk).1)
  have hB4 := hB2.trans (hb4.mono hB2.size)
  have hB5 := hB4.grown hg5 hB4.size (fun k hk => (own_lo h84 k hk).1)
  have old : ∀ s ∈ RS, w5.ownsRow w.heap.size 3 1 s.v s.zs.length (vals s.zs) ∧ s.b ≠ some g9 := by
    intro s hs
    obtain ⟨k1, k2⟩ := hR s hs
    have k3 : w2.ownsRow w.heap.size 3 1 s.v s.zs.length (vals s.zs) := own_gr k1 hg2 (fun k hk e => k2 k e hk)
    have k4 := own_below k3 hb4
    refine ⟨own_gr k4 hg5 (fun k hk e => own_diff h84 k4 (by decide) k e hk), fun e => ?_⟩
    rcases hat with hat | hat
    · exact k2 g9 hat e
    · have := (rd_own k1 g9 e).2
      omega
  refine ⟨_, c8', _, c9', RS ++ [r], by rw [e1], by rw [e1], by rw [e1, List.map_append]; exact h8', by rw [List.map_append, hz]; rfl, ?_, ?_, hB5⟩
  · rw [e1]
    have := own_gr h94 hg5 (fun k hk e => own_diff h84 h94 (by decide) k e hk)
    simpa [vals] using this
  · intro s hs
    rcases List.mem_append.1 hs with hs | hs
    · obtain ⟨k1, k2⟩ := old s hs
      exact ⟨k1, fun k hk e => by simp only [Option.map_some, Option.some.injEq] at hk; subst hk; exact k2 e⟩
    · rw [List.mem_singleton.1 hs]
      refine ⟨own_mono (own_gr hr hg5 (fun k hk e => own_diff h84 hr (by decide) k e hk)) hB2.size, fun k hk e => ?_⟩
      simp only [Option.map_some, Option.some.injEq] at hk
      subst hk
      have a1 := (rd_own hr g9 e).1
      have a2 := (own_lo h9' g9 rfl).2
      omega

theorem idx_nd {l : List Int} (hd : l.Nodup) {j : Nat} (hj : j < l.length) : l.idxOf (l.getD j 0) = j := by
  rw [List.getD_eq_getElem?_getD, List.getElem?_eq_getElem hj, Option.getD_some]
  have h1 : l[j] ∈ l := List.getElem_mem hj
  have h2 := List.idxOf_lt_length_of_mem h1
  exact (List.getElem?_inj h2 hd).1 (by rw [List.getElem?_eq_getElem h2, List.getElem?_eq_getElem hj]; simp)
theorem own_addr {w : World} {B : Nat} {e : TypeId} {s : Nat} {A : Option Addr} {n c : Nat} {xs : List Value} (h : w.ownsRow B e s (.slice A n c) n xs) (hn : 0 < n) : ∃ g, A = some ⟨g, 0, none⟩ := by
  rcases h.2 with ⟨_, h0⟩ | ⟨g, cap, cur, hv, _⟩
  · omega
  · simp only [Value.slice.injEq] at hv
    exact ⟨g, hv.1⟩
set_option maxHeartbeats 4000000 in
theorem spec_plc_yes (m pp : Nat) (f t : Int) (w : World) (hm : pp = 2 ∨ pp = 3 ∨ pp = 4) (q1 : pp ≤ m) (q2 : m ≤ 12) (q3 : m % pp = 0) (p4 : 0 ≤ f) (p5 : f < m) (p6 : 0 ≤ t) (p7 : t < m) :
    Calls Try.prog 42 #[.int .i64 (m : Int), .int .i64 (pp : Int), .int .i64 f, .int .i64 t] w (IsILB w.heap.size (found (nxP m pp) 0 f pp m t) true w) := by
    obtain ⟨i0, hi, hz0, hz1, hz2⟩ := info_parts infoInt
    obtain ⟨i1, hj, hy0, hy1, hy2⟩ := infos_parts
    have HRUN := Lib.hid (run_piles hm q1 q2 q3 p4 p5)
    have HIN := Lib.hid (all_found HRUN.out.len HRUN.out.fin.nodup HRUN.out.fin.good p6 p7)
    have HS := Lib.hid (ok_yes hm q1 q2 q3)
    have HOK := Lib.hid fun W => spec_ok (m : Int) (pp : Int) W (by omega) (by omega) (by omega) (by omega)
    rw [HS.out] at HOK
    have hw1 : IntKind.i64.wrap ((m : Int) - 1) = (m : Int) - 1 := IntWalk.i64_in _ (by omega)
    have HF := Lib.hid (show 0 ≤ f ∧ f ≤ (m : Int) - 1 by omega)
    have HT := Lib.hid (show 0 ≤ t ∧ t ≤ (m : Int) - 1 by omega)
    have HNX := Lib.hid (fun (k : Nat) (x : Int) (hk : k < pp) (hx0 : 0 ≤ x) (hx : x < m) => nxP_lt hm q1 q2 q3 hk hx0 hx)
    have HCALL := Lib.hid (fun (W : World) (k : Nat) (x : Int) (hk : k < pp) (hx0 : 0 ≤ x) (hx : x < m) => spec_next m pp k x W hm q1 q2 q3 hk hx0 hx)
    obtain ⟨R, hR⟩ : ∃ R, R = found (nxP m pp) 0 f pp m t := ⟨_, rfl⟩
    rw [← hR]
    have HFND := Lib.hid hR
    generalize nxP m pp = nx at *
    have HSP0 := Lib.hid (spl_start w f)
    have hm12 : m ≤ 12 := q2
    have hpp0 : 0 < pp := by omega
    have hpp4 : pp ≤ 4 := by omega
    clear hR hm q1 q2 q3 p4 p5 p6 p7
    go_enter Try.func42, Try.ntmps42
    go_wp2_with fail
    refine (HOK.out _).mono ?_
    rintro e w1 ⟨rfl, rfl⟩
    go_wp2_with fail
    refine (in_yes f 0 ((m : Int) - 1) _ HF.out.1 HF.out.2).mono ?_
    rintro e w' ⟨rfl, rfl⟩
    go_wp2_with fail
    refine (in_yes t 0 ((m : Int) - 1) _ HT.out.1 HT.out.2).mono ?_
    rintro e w' ⟨rfl, rfl⟩
    go_wp2
    go_loopw [10, 11, 12] (fun s8 s9 s10 wr => ∃ j : Nat, j ≤ m ∧ s10 = .int .i64 (j : Int) ∧ Hid (Spl w (runB nx 0 f pp j).1 (runB nx 0 f pp j).2 s8 s9 wr) ∧ Hid (∀ i, i < j → (runB nx 0 f pp m).1.getD i 0 ≠ t)) (fun _ _ s10 _ => m - (intOf s10).toNat)
    case atStart => exact ⟨0, Nat.zero_le _, rfl, HSP0, (fun i hi => absurd hi (Nat.not_lt_zero _))⟩
    case round =>
      obtain ⟨j, hjm, rfl, HSP, HNE⟩ := hrel
      clear HSP0
      by_cases hlt : j < m
      · obtain ⟨hst, htl⟩ := HRUN.out.st hpp0 (k := 0) hlt (by omega)
        obtain ⟨hfix1, hfix2⟩ := HRUN.out.fix j hlt
        obtain ⟨A8, c8, A9, c9, RS, rfl, rfl, h8, hz, h9, hRA, hbw⟩ := HSP.out
        obtain ⟨V, hV⟩ : ∃ V, V = (runB nx 0 f pp j).1 := ⟨_, rfl⟩
        obtain ⟨W, hW⟩ : ∃ W, W = (runB nx 0 f pp j).2 := ⟨_, rfl⟩
        have hst0 : stH nx 0 f pp j 0 = runB nx 0 f pp j := rfl
        rw [hst0] at hst htl
        have hgd := hst.good
        have hfew := hst.few
        have hsame := hst.same
        have hsh := hst.short
        rw [← hV] at h8 h9 hgd hfew htl hsame hfix1 HSP
        rw [← hW] at hz hsame hfix2 HSP hsh
        rw [← hV]
        obtain ⟨x0, hx0⟩ : ∃ x, x = V.getD j 0 := ⟨_, rfl⟩
        have hmem : V.getD j 0 ∈ V := by
          rw [List.getD_eq_getElem?_getD, List.getElem?_eq_getElem htl]
          exact List.getElem_mem htl
        have hx0r := good_iff.1 (hgd _ hmem)
        rw [← hx0] at hx0r hfix1
        have hx01 := hx0r.1
        have hx02 := hx0r.2
        have HGET := Lib.hid (show ∀ k, k ≤ pp → (stH nx 0 f pp j k).1.getD j 0 = x0 from fun k hk => by
          induction k with
          | zero => rw [hst0, ← hV, hx0]
          | succ k ih =>
            obtain ⟨q1, q2⟩ := HRUN.out.st hpp0 (k := k) hlt (by omega)
            rw [show stH nx 0 f pp j (k + 1) = half nx 0 (stH nx 0 f pp j k) j k from rfl, (half_keep nx 0 _ j k j q2 (by rw [q1.same]; exact q2)).1]
            exact ih (by omega))
        obtain ⟨g, hgA⟩ := own_shape h9 (by omega)
        subst hgA
        have hc0 : wr.cell? ⟨g, j, none⟩ = some (.int .i64 x0) := by rw [h9.cellAt j (by omega), vals_get htl, hx0]
        have hjV : (j : Int) < (V.length : Int) := by omega
        have hVR : V.length = RS.length := by
          have h := congrArg List.length hz
          rw [List.length_map, hsame] at h
          exact h.symm
        have hjR : j < RS.length := by omega
        obtain ⟨g8, hg8⟩ := own_addr h8 (by omega)
        subst hg8
        by_cases hx : x0 = t
        · obtain ⟨r, hr⟩ : ∃ r, r = RS.getD j rd0 := ⟨_, rfl⟩
          have hrm : r ∈ RS := by
            rw [hr, List.getD_eq_getElem?_getD, List.getElem?_eq_getElem hjR]
            exact List.getElem_mem hjR
          have hrz : r.zs = W.getD j [] := by
            rw [hr, ← hz]
            simp [List.getD_eq_getElem?_getD, List.getElem?_eq_getElem hjR]
          have hid : (runB nx 0 f pp m).1.idxOf t = j := by
            rw [← hx, hfix1]
            exact idx_nd HRUN.out.fin.nodup (by rw [HRUN.out.len]; exact hlt)
          have HR := Lib.hid (show R = r.zs by
            rw [HFND.out, hrz, hfix2]
            unfold found
            rw [hid])
          have hrl : r.zs.length ≤ 4294967296 := by
            have := hsh r.zs (by rw [← hz]; exact List.mem_map.2 ⟨r, hrm, rfl⟩)
            omega
          obtain ⟨hro, _⟩ := hRA r hrm
          have hc8 : (wr.alloc (.cells #[] 3)).cell? ⟨g8, j, none⟩ = some (.slice r.A r.zs.length r.c) := by
            rw [(h8.alloc (.cells #[] 3)).cellAt j (by omega), List.getElem?_map, List.getElem?_eq_getElem hjR, hr, List.getD_eq_getElem?_getD, List.getElem?_eq_getElem hjR]
            rfl
          have hnil := row_nil hro
          have hspot := row_spot hro
          have HLIT := Lib.hid (World.ownsRow_lit (base := wr.heap.size) (e := 3) (size := 1) wr #[] 0 (Nat.le_refl _) (by decide) rfl)
          have HQA := Lib.hid (ints_of (hro.alloc (.cells #[] 3)))
          have HBA := Lib.hid (hbw.alloc hbw.size (.cells #[] 3))
          have hsa : wr.heap.size ≤ (wr.alloc (.cells #[] 3)).heap.size := by simp
          have hz0n : 0 + r.zs.length = r.zs.length := Nat.zero_add _
          have hszw := hbw.size
          clear h8 h9 hz hRA hbw hst hgd hfew hsame hsh hV hW hx0 hmem hx0r hst0 hfix1 hfix2 HSP HNE HGET hVR hr hrm hrz hid hro HFND HRUN HIN HCALL HNX
          go_wp2_with (at_builtin; refine app_any rfl (.tmp 49) (.tmp 53) 25 rfl wr.heap.size 3 i0 8 Try.underlying25 hi hz0 hz1 hz2 (by decide) _ 0 0 [] rfl HLIT.out r.A r.zs.length r.c r.zs rfl rfl hnil _ HQA.out (by decide) hrl hsa hspot ?_; intro A5 c5 w5 hown5 hgr5; have HB5 := Lib.hid (HBA.out.grown hgr5 HBA.out.size (fun b h => by have := (own_lo HLIT.out b h).1; omega)); have HO5 := Lib.hid (show w5.ownsRow w.heap.size 3 1 (.slice A5 r.zs.length c5) r.zs.length (vals r.zs) by rw [← hz0n]; exact own_mono hown5 hszw); rw [hz0n]; clear hown5 hgr5)
          go_ret2
          exact ⟨A5, c5, by rw [HR.out]; rfl, by rw [HR.out]; exact HO5.out, HB5.out⟩
        · have HXT := Lib.hid hx
          have hxb : (x0 == t) = false := beq_eq_false_iff_ne.2 hx
          have HNE2 := Lib.hid (show ∀ i, i < j + 1 → (runB nx 0 f pp m).1.getD i 0 ≠ t from fun i hi => by
            by_cases e : i = j
            · rw [e, ← hfix1]; exact hx
            · exact HNE.out i (by omega))
          have HSI : Hid (Spl w (stH nx 0 f pp j 0).1 (stH nx 0 f pp j 0).2 (.slice (some ⟨g8, 0, none⟩) V.length c8) (.slice (some ⟨g, 0, none⟩) V.length c9) wr) := by
            rw [hst0, ← hV, ← hW]
            exact HSP
          clear h8 h9 hz hRA hbw hst hgd hfew hsame hsh hV hW hx0 hmem hx0r hst0 hfix1 hfix2 HSP HNE hVR HFND HIN hx hjR
          go_wp2
          go_loopw [10, 11, 13] (fun s8 s9 s11 wr => ∃ k : Nat, k ≤ pp ∧ s11 = .int .i64 (k : Int) ∧ Hid (Spl w (stH nx 0 f pp j k).1 (stH nx 0 f pp j k).2 s8 s9 wr)) (fun _ _ s11 _ => pp - (intOf s11).toNat)
          case atStart => exact ⟨0, by omega, rfl, HSI⟩
          case round =>
            obtain ⟨k, hk, rfl, HSK⟩ := hrel
            clear HSI hc0
            by_cases hk2 : k < pp
            · obtain ⟨hst, htl⟩ := HRUN.out.st hpp0 (k := k) hlt (by omega)
              have hget := HGET.out k hk
              obtain ⟨A82, c82, A92, c92, RS2, rfl, rfl, h8, hz, h9, hRA, hbw⟩ := HSK.out
              obtain ⟨y, hy⟩ : ∃ y, y = nx k x0 := ⟨_, rfl⟩
              have hyr := HNX.out k x0 (by omega) hx01 hx02
              rw [← hy] at hyr
              have HCK := Lib.hid (fun W => HCALL.out W k x0 (by omega) hx01 hx02)
              rw [← hy] at HCK
              have hk1' : (k : Int) < (pp : Int) := by omega
              have hsamelen := hst.same
              have hfew := hst.few
              have hsh := hst.short
              have hhalf : stH nx 0 f pp j (k + 1) = half nx 0 (stH nx 0 f pp j k) j k := rfl
              have hold : y ∈ (stH nx 0 f pp j k).1 → stH nx 0 f pp j (k + 1) = stH nx 0 f pp j k := fun h => by rw [hhalf]; exact half_old (by rw [hget, ← hy]; exact h)
              have hnew : y ∉ (stH nx 0 f pp j k).1 → (stH nx 0 f pp j (k + 1)).1 = (stH nx 0 f pp j k).1 ++ [y] ∧ (stH nx 0 f pp j (k + 1)).2 = (stH nx 0 f pp j k).2 ++ [(stH nx 0 f pp j k).2.getD j [] ++ [(k : Int)]] := fun h => by
                rw [hhalf, half_new (by rw [hget, ← hy]; exact h), hget, ← hy]
                exact ⟨rfl, rfl⟩
              generalize hV2 : (stH nx 0 f pp j k).1 = V2 at *
              generalize hW2 : (stH nx 0 f pp j k).2 = W2 at *
              have hVR : V2.length = RS2.length := by
                have h := congrArg List.length hz
                rw [List.length_map, hsamelen] at h
                exact h.symm
              have hjR : j < RS2.length := by omega
              obtain ⟨g2, hg2⟩ := own_shape h9 (by omega)
              subst hg2
              obtain ⟨g82, hg82⟩ := own_addr h8 (by omega)
              subst hg82
              have hc0 : wr.cell? ⟨g2, j, none⟩ = some (.int .i64 x0) := by rw [h9.cellAt j (by omega), vals_get htl, hget]
              have hjV2 : (j : Int) < (V2.length : Int) := by omega
              have hszw := hbw.size
              by_cases hin : y ∈ V2
              · have HSK2 : Hid (Spl w (stH nx 0 f pp j (k + 1)).1 (stH nx 0 f pp j (k + 1)).2 (.slice (some ⟨g82, 0, none⟩) V2.length c82) (.slice (some ⟨g2, 0, none⟩) V2.length c92) wr) := by
                  rw [hold hin, hV2, hW2]
                  exact HSK
                have HHAS := Lib.hid (show Pok.hasB V2 y = true from decide_eq_true hin)
                have H9 := Lib.hid h9
                have h13 : V2.length ≤ 12 := by omega
                clear h8 h9 hz hRA hbw hst hget hnew hold hhalf hsamelen hfew hsh hVR hin HSK hy
                go_wp2_with fail
                refine (HCK.out _).mono ?_
                rintro e w2 ⟨rfl, hb2⟩
                have HSL := Lib.hid (spl_below HSK2.out hb2)
                have H92 := Lib.hid (own_below H9.out hb2)
                clear hb2
                go_wp2_with fail
                refine (Pok.has_any _ _ _ V2 y _ rfl (by omega) (ints_of H92.out)).mono ?_
                rintro e w3 ⟨rfl, rfl⟩
                rw [HHAS.out]
                go_wp2
                refine ⟨⟨k + 1, by omega, by go_num, HSL⟩, ?_⟩
                simp [intOf]; omega
              · obtain ⟨HV3, HW3⟩ := hnew hin
                have HHAS := Lib.hid (show Pok.hasB V2 y = false from decide_eq_false hin)
                obtain ⟨r, hr⟩ : ∃ r, r = RS2.getD j rd0 := ⟨_, rfl⟩
                have hrm : r ∈ RS2 := by
                  rw [hr, List.getD_eq_getElem?_getD, List.getElem?_eq_getElem hjR]
                  exact List.getElem_mem hjR
                have hrz : r.zs = W2.getD j [] := by
                  rw [hr, ← hz]
                  simp [List.getD_eq_getElem?_getD, List.getElem?_eq_getElem hjR]
                have HRZ := Lib.hid hrz
                have hrl : r.zs.length ≤ 12 := hsh r.zs (by rw [← hz]; exact List.mem_map.2 ⟨r, hrm, rfl⟩)
                have HRV := Lib.hid (show (RS2.map RD.v)[j]? = some (.slice r.A r.zs.length r.c) by
                  rw [List.getElem?_map, List.getElem?_eq_getElem hjR, hr, List.getD_eq_getElem?_getD, List.getElem?_eq_getElem hjR]
                  rfl)
                have HRM := Lib.hid hrm
                have H8 := Lib.hid h8
                have H9 := Lib.hid h9
                have HZ2 := Lib.hid hz
                have HRA := Lib.hid hRA
                have HVR := Lib.hid hVR
                have HBW := Lib.hid hbw
                have h13 : V2.length ≤ 12 := by omega
                have h1m : V2.length ≤ 1048576 := by omega
                have hz0n : 0 + r.zs.length = r.zs.length := Nat.zero_add _
                have hrl2 : r.zs.length ≤ 4294967296 := by omega
                clear h8 h9 hz hRA hbw hst hget hnew hold hhalf hsamelen hfew hsh hVR hin HSK hy hr hrm hrz
                go_wp2_with fail
                refine (HCK.out _).mono ?_
                rintro e w2 ⟨rfl, hb2⟩
                have HB2 := Lib.hid (HBW.out.trans (hb2.mono HBW.out.size))
                have H82 := Lib.hid (own_below H8.out hb2)
                have H92 := Lib.hid (own_below H9.out hb2)
                have HRA2 := Lib.hid (HRA.out.below hb2)
                have hsz2 := HB2.out.size
                clear hb2 H8 H9 HRA HBW
                go_wp2_with fail
                refine (Pok.has_any _ _ _ V2 y _ rfl (by omega) (ints_of H92.out)).mono ?_
                rintro e w3 ⟨rfl, rfl⟩
                rw [HHAS.out]
                clear HHAS
                go_wp2_with (first | (at_builtin; refine Aat.app_at rfl (.tmp 72) (.tmp 74) 25 rfl w.heap.size 3 i0 (.int .i64 0) 8 Try.underlying25 hi hz0 hz1 hz2 (by decide) rfl (some ⟨g2, 0, none⟩) c92 V2.length (vals V2) rfl H92.out (.int .i64 y) rfl _ rfl rfl h1m hsz2 ?_; intro g9 c9' w3 hown9 hgr9 hat9; have HO9 := Lib.hid hown9; have HG9 := Lib.hid hgr9; have HAT := Lib.hid hat9; have H83 := Lib.hid (own_gr H82.out hgr9 (fun k hk e => own_diff H82.out H92.out (by decide) k hk e)); have HR3 := Lib.hid (own_gr (HRA2.out r HRM.out).1 hgr9 (fun k hk e => (HRA2.out r HRM.out).2 k e hk)); have HB3 := Lib.hid (HB2.out.grown hgr9 hsz2 (fun k hk => (own_lo H92.out k hk).1)); have hsz3 := HB3.out.size; have hcr : (w3.alloc (.cells #[] 3)).cell? ⟨g82, j, none⟩ = some (.slice r.A r.zs.length r.c) := ((H83.out.alloc (.cells #[] 3)).cellAt j (by omega)).trans HRV.out; have hnil := row_nil HR3.out; have hspot := row_spot HR3.out; have HLIT := Lib.hid (World.ownsRow_lit (base := w3.heap.size) (e := 3) (size := 1) w3 #[] 0 (Nat.le_refl _) (by decide) rfl); have HQA := Lib.hid (ints_of (HR3.out.alloc (.cells #[] 3))); have hsa : w3.heap.size ≤ (w3.alloc (.cells #[] 3)).heap.size := (Below.refl w3.heap.size w3 |>.alloc (Nat.le_refl _) _).size; clear hown9 hgr9 hat9) | (at_builtin; refine app_any rfl (.tmp 77) (.tmp 81) 25 rfl w3.heap.size 3 i0 8 Try.underlying25 hi hz0 hz1 hz2 (by decide) _ 0 0 [] rfl HLIT.out r.A r.zs.length r.c r.zs rfl rfl hnil _ HQA.out (by decide) hrl2 hsa hspot ?_; intro A5 c5 w5 hown5 hgr5; have HB5 := Lib.hid (((Below.refl w3.heap.size w3).alloc (Nat.le_refl _) (.cells #[] 3)).grown hgr5 hsa (fun b h => (own_lo HLIT.out b h).1)); have HO5 := Lib.hid (show w5.ownsRow w3.heap.size 3 1 (.slice A5 r.zs.length c5) r.zs.length (vals r.zs) by rw [← hz0n]; exact hown5); rw [hz0n]; clear hown5 hgr5) | (at_builtin; refine app_one rfl (.tmp 82) (.tmp 84) 25 rfl w3.heap.size 3 i0 (.int .i64 0) 8 Try.underlying25 hi hz0 hz1 hz2 (by decide) rfl _ _ _ rfl HO5.out (.int .i64 (k : Int)) rfl rfl (by omega) HB5.out.size ?_; intro g6 c6 w6 hown6 hb6; have HB6 := Lib.hid (HB5.out.trans hb6); have HO6 := Lib.hid (new_row hown6); have H86 := Lib.hid (own_below H83.out (HB5.out.trans hb6)); have hsz6 : w.heap.size ≤ w6.heap.size := Nat.le_trans hsz3 (HB5.out.trans hb6).size; clear hown6 hb6) | (at_builtin; refine Aat.app_at rfl (.tmp 76) (.tmp 86) 28 rfl w.heap.size 25 i1 (.slice none 0 0) 24 Try.underlying28 hj hy0 hy1 hy2 (by decide) rfl (some ⟨g82, 0, none⟩) c82 V2.length (RS2.map RD.v) rfl H86.out (.slice (some ⟨g6, 0, none⟩) (r.zs.length + 1) c6) rfl _ rfl rfl h1m hsz6 ?_; intro g8' c8' w7 hown8 hgr8 hat8; skip) | fail)
                have HSN := Lib.hid (spl_put (r := ⟨some ⟨g6, 0, none⟩, c6, r.zs ++ [(k : Int)]⟩) HVR.out HZ2.out HB2.out H82.out H92.out HRA2.out HO9.out HG9.out HAT.out HB6.out HO6.out (by rw [new_v]; exact hown8) hgr8)
                have HSF := Lib.hid (show Spl w (stH nx 0 f pp j (k + 1)).1 (stH nx 0 f pp j (k + 1)).2 (.slice (some ⟨g8', 0, none⟩) (V2.length + 1) c8') (.slice (some ⟨g9, 0, none⟩) (V2.length + 1) c9') w7 by rw [HV3, HW3, ← HRZ.out]; exact HSN.out)
                clear HSN hown8 hgr8 hat8
                refine ⟨⟨k + 1, by omega, by go_num, HSF⟩, ?_⟩
                simp [intOf]; omega
            · have hk2' : pp = k := by omega
              subst hk2'
              have HSN := Lib.hid (show Spl w (runB nx 0 f pp (j + 1)).1 (runB nx 0 f pp (j + 1)).2 _ _ _ from HSK.out)
              clear HSK
              go_wp2
              refine ⟨⟨j + 1, by omega, by go_num, HSN, HNE2⟩, ?_⟩
              simp [intOf]; omega
      · have hjm' : j = m := by omega
        subst hjm'
        exfalso
        obtain ⟨q1, q2⟩ := idx_lt HIN.out
        rw [HRUN.out.len] at q1
        exact HNE.out _ q1 q2
theorem spec_plc (n m i t : Int) (w : World) (n1 : -9223372036854775808 ≤ n) (n2 : n ≤ 9223372036854775807) (m1 : -9223372036854775808 ≤ m) (m2 : m ≤ 9223372036854775807) :
    Calls Try.prog 42 #[.int .i64 n, .int .i64 m, .int .i64 i, .int .i64 t] w (IsILB w.heap.size (plcL n m i t) (plcB n m i t) w) := by
  have HI := Lib.hid fun (a b c : Int) W => in_any a b c W
  have HQ := Lib.hid fun W => spec_ok n m W n1 n2 m1 m2
  cases h1 : okB n m with
  | false =>
    have hbb : plcB n m i t = false := by unfold plcB; rw [h1]; rfl
    rw [plc_no hbb, hbb]
    rw [h1] at HQ
    clear h1 hbb
    go_enter Try.func42, Try.ntmps42
    go_wp2_with fail
    refine (HQ.out _).mono ?_
    rintro e w1 ⟨rfl, rfl⟩
    go_wp2
    go_ret2
    exact ⟨none, 0, rfl, World.ownsRow_nil _ _ _ _, Below.refl _ _⟩
  | true =>
    rw [h1] at HQ
    obtain ⟨N, M, rfl, rfl, hm, q1, q2, q3⟩ := ok_parts h1
    have hw1 : IntKind.i64.wrap ((N : Int) - 1) = (N : Int) - 1 := IntWalk.i64_in _ (by omega)
    cases h2 : inB i N with
    | false =>
      have hbb : plcB N M i t = false := by unfold plcB; rw [h1, h2]; rfl
      rw [plc_no hbb, hbb]
      have H2 := Lib.hid (show decide (0 ≤ i ∧ i ≤ (N : Int) - 1) = false from decide_eq_false (by have := of_decide_eq_false h2; omega))
      clear h1 hbb h2
      go_enter Try.func42, Try.ntmps42
      go_wp2_with fail
      refine (HQ.out _).mono ?_
      rintro e w1 ⟨rfl, rfl⟩
      go_wp2_with fail
      refine (HI.out _ _ _ _).mono ?_
      rintro e w1 ⟨rfl, rfl⟩
      rw [H2.out]
      go_wp2
      go_ret2
      exact ⟨none, 0, rfl, World.ownsRow_nil _ _ _ _, Below.refl _ _⟩
    | true =>
      have H2 := Lib.hid (show decide (0 ≤ i ∧ i ≤ (N : Int) - 1) = true from decide_eq_true (by have := of_decide_eq_true h2; omega))
      cases h3 : inB t N with
      | false =>
        have hbb : plcB N M i t = false := by unfold plcB; rw [h1, h2, h3]; rfl
        rw [plc_no hbb, hbb]
        have H3 := Lib.hid (show decide (0 ≤ t ∧ t ≤ (N : Int) - 1) = false from decide_eq_false (by have := of_decide_eq_false h3; omega))
        clear h1 hbb h2 h3
        go_enter Try.func42, Try.ntmps42
        go_wp2_with fail
        refine (HQ.out _).mono ?_
        rintro e w1 ⟨rfl, rfl⟩
        go_wp2_with fail
        refine (HI.out _ _ _ _).mono ?_
        rintro e w1 ⟨rfl, rfl⟩
        rw [H2.out]
        go_wp2_with fail
        refine (HI.out _ _ _ _).mono ?_
        rintro e w1 ⟨rfl, rfl⟩
        rw [H3.out]
        go_wp2
        go_ret2
        exact ⟨none, 0, rfl, World.ownsRow_nil _ _ _ _, Below.refl _ _⟩
      | true =>
        have hbb : plcB N M i t = true := by unfold plcB; rw [h1, h2, h3]; rfl
        have e2 := of_decide_eq_true h2
        have e3 := of_decide_eq_true h3
        rw [plc_yes hbb, hbb]
        exact spec_plc_yes N M i t w hm q1 q2 q3 e2.1 e2.2 e3.1 e3.2
end Go.Proofs.Ytpfbjbakcfmngaa.Pls
