/- The law of the shortest lists of perfect shuffles holds: the list moves the card, and no shorter one does. No condition. -/
import Derived.Deep.RegionHeld3
import Derived.Deep.RegionWith
import Derived.Deep.Cut
import Derived.BigQuiet
import Derived.Test.YtpbpgpccjabghaaFfx
import Derived.Test.YtpbpgpccjabghaaSho
import Derived.Test.YtpbpgpccjabghaaSrt
import Derived.Test.YtpbpgpccjabghaaFgi
import Derived.Test.YtpbpgpccjabghaaSip
import Derived.Test.YtpbpgpccjabghaaCur
import Derived.Test.YtpbpgpccjabghaaFrame
set_option linter.unusedVariables false
set_option maxRecDepth 20000
namespace Go.Proofs.Ytpbpgpccjabghaa.Stf
open Go.RowKit Own Pk Pok Arr Prm Pfn Ins Nwp Rws Mvp Pf Pa Pal Fsz Fpm Fto Frn Cen Grp Ffx Bfs Sho

/-- all packets behind so many perfect shuffles -/
def levP (n : Nat) : Nat → List (List Int)
  | 0 => [imarks 0 n]
  | k + 1 => (levP n k).flatMap fun p => [faroL p 0, faroL p 1]
theorem lev_mem {n k : Nat} {p : List Int} (h : p ∈ levP n k) {x : Nat} (hx : x ≤ 1) : faroL p x ∈ levP n (k + 1) := by
  rw [levP]
  refine List.mem_flatMap.2 ⟨p, h, ?_⟩
  have : x = 0 ∨ x = 1 := by omega
  rcases this with rfl | rfl <;> simp
theorem lev_good {n : Nat} (h1 : 2 ≤ n) (h2 : n ≤ 12) : ∀ (k : Nat) (p : List Int), p ∈ levP n k → p.length = n ∧ okB p = true
  | 0, p, h => by
    rw [levP] at h
    have e := List.mem_singleton.1 h
    subst e
    exact ⟨imarks_length 0 n, new_ok n h2⟩
  | k + 1, p, h => by
    rw [levP] at h
    obtain ⟨q, hq, hp⟩ := List.mem_flatMap.1 h
    obtain ⟨q1, q2⟩ := lev_good h1 h2 k q hq
    have f0 := faro_len (q := q) (k := 0) (by omega) (by omega) (by omega) q2
    have f1 := faro_len (q := q) (k := 1) (by omega) (by omega) (by omega) q2
    simp only [List.mem_cons, List.not_mem_nil, or_false] at hp
    rcases hp with rfl | rfl
    · exact ⟨f0.1.trans q1, f0.2⟩
    · exact ⟨f1.1.trans q1, f1.2⟩
def okS (n a b : Nat) : Bool :=
  shB n a b && decide ((shF n a b).length ≤ n) && (shF n a b).all (fun k => decide (0 ≤ k ∧ k ≤ 1)) && decide ((faL (shF n a b) (imarks 0 n)).getD b 0 = (a : Int)) &&
    (List.range (shF n a b).length).all fun k => (levP n k).all fun p => decide (p.getD b 0 ≠ (a : Int))
set_option maxHeartbeats 4000000 in
theorem chk2 : ((List.range 2).all fun a => (List.range 2).all fun b => okS 2 a b) = true := by kernel_rfl
set_option maxHeartbeats 4000000 in
theorem chk4 : ((List.range 4).all fun a => (List.range 4).all fun b => okS 4 a b) = true := by kernel_rfl
set_option maxHeartbeats 4000000 in
theorem chk6 : ((List.range 6).all fun a => (List.range 6).all fun b => okS 6 a b) = true := by kernel_rfl
set_option maxHeartbeats 4000000 in
theorem chk8 : ((List.range 8).all fun a => (List.range 8).all fun b => okS 8 a b) = true := by kernel_rfl
theorem okS_at {n a b : Nat} (h1 : 2 ≤ n) (h2 : n ≤ 8) (h3 : n % 2 = 0) (ha : a < n) (hb : b < n) : okS n a b = true := by
  have g : ∀ m, ((List.range m).all fun a => (List.range m).all fun b => okS m a b) = true → n = m → okS n a b = true := by
    intro m hc e
    subst e
    exact List.all_eq_true.1 (List.all_eq_true.1 hc a (List.mem_range.2 ha)) b (List.mem_range.2 hb)
  have : n = 2 ∨ n = 4 ∨ n = 6 ∨ n = 8 := by omega
  rcases this with e | e | e | e
  · exact g 2 chk2 e
  · exact g 4 chk4 e
  · exact g 6 chk6 e
  · exact g 8 chk8 e
theorem short_at {n a b : Nat} (h1 : 2 ≤ n) (h2 : n ≤ 8) (h3 : n % 2 = 0) (ha : a < n) (hb : b < n) :
    shB n a b = true ∧ (shF n a b).length ≤ n ∧ frB (imarks 0 n) (shF n a b) = true ∧ (frF (imarks 0 n) (shF n a b)).length = n ∧ (frF (imarks 0 n) (shF n a b)).getD b 0 = (a : Int) ∧
      ∀ k, k < (shF n a b).length → ∀ p ∈ levP n k, p.getD b 0 ≠ (a : Int) := by
  have h := okS_at h1 h2 h3 ha hb
  unfold okS at h
  simp only [Bool.and_eq_true, decide_eq_true_eq, List.all_eq_true, List.mem_range] at h
  obtain ⟨⟨⟨⟨c1, c2⟩, c3⟩, c4⟩, c5⟩ := h
  have hs : szB (n : Int) = true := decide_eq_true (by omega)
  obtain ⟨q1, q2, q3⟩ := run_yes (ks := shF n a b) (new_ok n (by omega)) (by rw [imarks_length]; exact hs) c3 (by omega)
  rw [imarks_length] at q3
  exact ⟨c1, c2, q1, by rw [q2, q3], by rw [q2]; exact c4, c5⟩
theorem step_at {n k : Nat} {p : List Int} (h1 : 2 ≤ n) (h2 : n ≤ 8) (h3 : n % 2 = 0) (hp : p ∈ levP n k) :
    p.length = n ∧ Fits p ∧ (∀ x : Nat, x ≤ 1 → perfB p 4 (x : Int) = true ∧ perfF p 4 (x : Int) = faroL p x ∧ faroL p x ∈ levP n (k + 1) ∧ (faroL p x).length = n) := by
  obtain ⟨p1, p2⟩ := lev_good h1 (by omega) k p hp
  refine ⟨p1, ok_fits p2, fun x hx => ?_⟩
  obtain ⟨e1, e2⟩ := faro_perf (q := p) (x := (x : Int)) p2 (by rw [p1]; exact decide_eq_true (by omega))
  exact ⟨e1.trans (decide_eq_true (by omega)), e2 (by omega), lev_mem hp hx, (faro_len (by omega) (by omega) hx p2).1.trans p1⟩

theorem SSRow.mono {W : World} {lo lo' hi : Nat} {A : Option Addr} {n c : Nat} {rs : List RD} (h : SSRow W lo hi A n c rs) (hl : lo' ≤ lo) : SSRow W lo' hi A n c rs :=
  ⟨own_mono h.1 hl, fun i hi => ⟨own_mono (h.2.1 i hi).1 hl, (h.2.1 i hi).2.1, (h.2.1 i hi).2.2⟩, h.2.2.1, h.2.2.2.1, h.2.2.2.2⟩
section
variable {W W' : World} {lo hi : Nat} {A : Option Addr} {n c : Nat} {rs : List RD}
/-- two more lists are appended -/
theorem SSRow.snoc2 {b0 b1 : Nat} {A1 A2 A' : Option Addr} {c1 c2 c' : Nat} {zs ys : List Int} (h : SSRow W lo b0 A n c rs) (hlo : lo ≤ b0) (hin : W.ownsRow b0 3 1 (.slice A1 zs.length c1) zs.length (zs.map (Value.int .i64))) (h1 : ∀ k, A1.map (·.block) = some k → k < b1) (hb1 : b0 ≤ b1)
    (hin2 : W.ownsRow b1 3 1 (.slice A2 ys.length c2) ys.length (ys.map (Value.int .i64)))
    (ho : W'.ownsRow lo 24 1 (.slice A' (n + 2) c') (n + 2) (rs.map RD.v ++ [.slice A1 zs.length c1, .slice A2 ys.length c2])) (hg : W.grownBy W' (A.map (·.block))) : SSRow W' lo W'.heap.size A' (n + 2) c' (rs ++ [(⟨A1, c1, zs⟩ : RD), ⟨A2, c2, ys⟩]) := by
  have hl := h.len
  have hold : ∀ i, i < rs.length → (rs ++ [(⟨A1, c1, zs⟩ : RD), ⟨A2, c2, ys⟩]).getD i rd0 = rs.getD i rd0 := by
    intro i hi
    simp only [List.getD_eq_getElem?_getD]
    rw [List.getElem?_append_left hi]
  have hnew : (rs ++ [(⟨A1, c1, zs⟩ : RD), ⟨A2, c2, ys⟩]).getD rs.length rd0 = ⟨A1, c1, zs⟩ := by
    simp [List.getD_eq_getElem?_getD]
  have hnew2 : (rs ++ [(⟨A1, c1, zs⟩ : RD), ⟨A2, c2, ys⟩]).getD (rs.length + 1) rd0 = ⟨A2, c2, ys⟩ := by
    simp [List.getD_eq_getElem?_getD]
  have hin' := own_lo hin
  have hin2' := own_lo hin2
  have hlt : ∀ i, i < rs.length → ∀ b, (rs.getD i rd0).b = some b → b < b0 := fun i hi b hb => (h.2.1 i hi).hi b hb
  have hsz := hg.size
  -- the place that a row's block lies in, by its number
  have hpl : ∀ i, i < rs.length + 2 → ∀ b, ((rs ++ [(⟨A1, c1, zs⟩ : RD), ⟨A2, c2, ys⟩]).getD i rd0).b = some b → (i < rs.length ∧ b < b0) ∨ (i = rs.length ∧ b0 ≤ b ∧ b < b1) ∨ (i = rs.length + 1 ∧ b1 ≤ b) := by
    intro i hi b hb
    by_cases e : i < rs.length
    · rw [hold i e] at hb
      exact Or.inl ⟨e, hlt i e b hb⟩
    · have : i = rs.length ∨ i = rs.length + 1 := by omega
      rcases this with rfl | rfl
      · rw [hnew] at hb
        exact Or.inr (Or.inl ⟨rfl, (hin' b hb).1, h1 b hb⟩)
      · rw [hnew2] at hb
        exact Or.inr (Or.inr ⟨rfl, (hin2' b hb).1⟩)
  refine ⟨?_, ?_, ?_, ?_, Nat.le_refl _⟩
  · rw [List.map_append]; exact ho
  · intro i hi
    simp only [List.length_append, List.length_cons, List.length_nil] at hi
    by_cases e : i < rs.length
    · rw [hold i e]
      have hr := h.2.1 i e
      exact ⟨own_gr hr.1 hg fun k hk e2 => own_diff hr.1 h.1 (by decide) k hk e2, fun a ha => by have h5 := hr.2.1 a ha; have h6 := hr.2.2; omega, Nat.le_refl _⟩
    · have : i = rs.length ∨ i = rs.length + 1 := by omega
      rcases this with rfl | rfl
      · rw [hnew]
        refine ⟨own_mono (own_gr hin hg fun k hk e2 => own_diff hin h.1 (by decide) k hk e2) hlo, fun a ha => ?_, Nat.le_refl _⟩
        have h5 := hin' a.block (by rw [show A1 = some a from ha]; rfl)
        omega
      · rw [hnew2]
        refine ⟨own_mono (own_gr hin2 hg fun k hk e2 => own_diff hin2 h.1 (by decide) k hk e2) (by omega), fun a ha => ?_, Nat.le_refl _⟩
        have h5 := hin2' a.block (by rw [show A2 = some a from ha]; rfl)
        omega
  · intro i j hi hj hne b hb hb2
    simp only [List.length_append, List.length_cons, List.length_nil] at hi hj
    by_cases e : i < rs.length ∧ j < rs.length
    · rw [hold i e.1] at hb
      rw [hold j e.2] at hb2
      exact h.2.2.1 i j e.1 e.2 hne b hb hb2
    · have p1 := hpl i (by omega) b hb
      have p2 := hpl j (by omega) b hb2
      omega
  · intro a ha
    exact (ho.lt a.block (by subst ha; rfl)).2
end
/-- an append of two elements -/
theorem app_two {P : Program} {w : World} {ops : Array Oper} {rest : List Oper} {o : Oper} {a : Act} {Q : Exit → Act → World → Prop} (hgd : o.guard = none) (s x : Operand) (t : TypeId)
    (ho : o.op = .call { callee := .builtin .append, args := #[s, x], argTypes := #[t, t] })
    (B : Nat) (e : TypeId) (i : TypeInfo) (z : Value) (bytes : Nat) (ht : P.underlying t = some (.slice e)) (hi : P.info? e = some i) (hz : i.zero = some z)
    (hsize : i.size = 1) (hby : i.bytes = bytes) (hby2 : bytes ≤ 32) (hzs : z.cells.size = 1) (A : Option Addr) (c : Nat) (n : Nat) (xs : List Value) (hs : a.eval s = .slice A n c) (hown : w.ownsRow B e 1 (.slice A n c) n xs)
    (y1 y2 : Value) (hy1 : y1.oneCell' = true) (hy2 : y2.oneCell' = true) (N : Nat) (hx : a.eval x = .slice (some ⟨N, 0, none⟩) 2 2) (hN : N = w.heap.size) (hn : n ≤ 4294967296) (hB : B ≤ w.heap.size)
    (h : ∀ g c' w', w'.ownsRow B e 1 (.slice (some ⟨g, 0, none⟩) (n + 2) c') (n + 2) (xs ++ [y1, y2]) → w.grownBy w' (A.map (·.block)) → wpList P ops Q rest (a.put o.dst (.slice (some ⟨g, 0, none⟩) (n + 2) c')) w') :
    wpList P ops Q (o :: rest) a (w.alloc (.cells #[y1, y2] e)) := by
  subst hN
  have hh : (w.alloc (.cells #[y1, y2] e)).heap[w.heap.size]? = some (.cells #[y1, y2] e (0, 0)) := heap_alloc_new w _
  refine wpList_append_own _ hgd s x t ho B e i z 1 bytes ht hi hz hsize hby hzs (by decide) _ n xs hs (hown.alloc _) ⟨w.heap.size, 0, none⟩ 2 2 [y1, y2] hx rfl ?_ ?_ ?_ ?_ ?_ ?_
  · intro j u hj
    rw [Go.WideShapes.add_plain]
    unfold World.cell?
    rw [hh, Nat.zero_add]
    simpa using hj
  · intro u hu
    simp only [List.mem_cons, List.not_mem_nil, or_false] at hu
    rcases hu with rfl | rfl
    · exact hy1
    · exact hy2
  · unfold maxLen; omega
  · have : (n + 2) * bytes ≤ (4294967296 + 2) * 32 := Nat.mul_le_mul (by omega) hby2
    omega
  · simp; omega
  · intro v' w' hown' hgrow _
    have hgr : w.grownBy w' (A.map (·.block)) := by
      have hb := (Below.refl w.heap.size w).alloc (Nat.le_refl _) (.cells #[y1, y2] e)
      have hrow : ∀ k, k < w.heap.size → some k ≠ A.map (·.block) → some k ≠ (Value.slice A n c).ownBlock := by
        intro k _ hk
        cases A with
        | none => exact fun e => by cases e
        | some a => exact hk
      exact ⟨hgrow.os.trans hb.os, hgrow.tape.trans hb.tape, hgrow.output.trans hb.output, Nat.le_trans hb.size hgrow.size, fun k hk hne => (hgrow.block k (Nat.lt_of_lt_of_le hk hb.size) (hrow k hk hne)).trans (hb.block k hk)⟩
    rcases hown'.2 with ⟨_, h0⟩ | ⟨g, cap, cur, hv, _⟩
    · omega
    · subst hv
      exact h g cap w' hown' hgr
end Go.Proofs.Ytpbpgpccjabghaa.Stf
set_option maxRecDepth 512
namespace Go.Proofs.Ytpbpgpccjabghaa.LawShortest
open Go.ChangeShapes Go.WideShapes Go.ChangeAt Go.RowKit Fr Cur _root_.Go.Proofs.Ytpbpgpccjabghaa.Own Ins Prm Rws Pfn Pok Nwp Sv Fsz Pa Pf Mvp Fpm Fto Frn Cen Ffx Srt Sho Stf

theorem bytes_more {w : World} {B B2 : Nat} {A : Option Addr} {n : Nat} (h : BytesAt w B A n) (hB : B ≤ B2) : BytesAt w B2 A n := fun i hi => by
  obtain ⟨b, o, k, h1, h2, r⟩ := h i hi
  exact ⟨b, o, k, h1, by omega, r⟩
theorem rem_at {y : Int} {m : Nat} (hy : 0 ≤ y) (hm : 0 < m) : ∃ a : Nat, y.tmod (m : Int) = (a : Int) ∧ a < m := by
  have h1 := Int.emod_nonneg y (show (m : Int) ≠ 0 by omega)
  have h2 := Int.emod_lt_of_pos y (show (0 : Int) < (m : Int) by omega)
  exact ⟨(y % (m : Int)).toNat, by rw [Int.tmod_eq_emod_of_nonneg hy]; omega, by omega⟩
theorem grp_at {m : Nat} (h1 : 2 ≤ m) (h2 : m ≤ 8) (h3 : m % 2 = 0) : ∃ g : Nat, Fgi.fgF (m : Int) = (g : Int) ∧ m ≤ g ∧ g ≤ 24 := by
  have hb : Fgi.fgB (m : Int) = true := by
    unfold Fgi.fgB szB
    rw [decide_eq_true (by omega), decide_eq_true (by omega)]; rfl
  refine ⟨_, Fgi.fgF_yes hb, ?_⟩
  have : m = 2 ∨ m = 4 ∨ m = 6 ∨ m = 8 := by omega
  rcases this with rfl | rfl | rfl | rfl <;> decide
theorem big_at {rs : List RD} {m k : Nat} (h1 : 2 ≤ m) (h2 : m ≤ 8) (h : ∀ p ∈ rs.map RD.zs, p ∈ levP m k) (i : Nat) : (rs.getD i rd0).zs.length ≤ 1048576 := by
  by_cases hi : i < rs.length
  · have hm : (rs.getD i rd0).zs ∈ rs.map RD.zs := by
      rw [List.getD_eq_getElem?_getD, List.getElem?_eq_getElem hi]
      exact List.mem_map.2 ⟨rs[i], List.getElem_mem _, rfl⟩
    have := (lev_good h1 (by omega) k _ (h _ hm)).1
    omega
  · rw [List.getD_eq_getElem?_getD, List.getElem?_eq_none (by omega)]
    exact Nat.zero_le _
theorem cano_lev {rs r2 : List RD} {m k N : Nat} (e : r2.map RD.zs = cano (rs.map RD.zs)) (hN : rs.length = N) (h : ∀ p ∈ rs.map RD.zs, p ∈ levP m k) : (∀ p ∈ r2.map RD.zs, p ∈ levP m k) ∧ (cano (rs.map RD.zs)).length ≤ N := by
  refine ⟨fun p hp => ?_, ?_⟩
  · rw [e] at hp
    exact h p ((cano_mem _ p).1 hp)
  · have := (cano_size (rs.map RD.zs)).1
    rw [List.length_map, hN] at this
    exact this
theorem ss_one {w : World} {lo A1 c1} {zs : List Int} (hlo : lo ≤ w.heap.size) (h : w.ownsRow lo 3 1 (.slice A1 zs.length c1) zs.length (zs.map (Value.int .i64))) :
    SSRow (w.alloc (.cells #[.slice A1 zs.length c1] 24)) lo (w.alloc (.cells #[.slice A1 zs.length c1] 24)).heap.size (some ⟨w.heap.size, 0, none⟩) 1 1 [(⟨A1, c1, zs⟩ : RD)] := by
  refine ⟨World.ownsRow_lit w #[.slice A1 zs.length c1] 1 hlo (by decide) rfl, ?_, ?_, ?_, Nat.le_refl _⟩
  · intro i hi
    have e : i = 0 := by simp at hi; omega
    subst e
    exact ⟨h.alloc _, fun a ha => by have := (own_lo h a.block (by rw [show A1 = some a from ha]; rfl)).2; simp; omega, Nat.le_refl _⟩
  · intro i j hi hj hne
    simp at hi hj
    omega
  · intro a ha
    simp only [Option.some.injEq] at ha
    subst ha
    simp
set_option maxHeartbeats 4000000 in
set_option maxRecDepth 20000 in
theorem walk (A : Option Addr) (n c : Nat) (zs : List Int) (w : World) (hn : zs.length = n) (hm : n ≤ maxLen) (hs : ∀ z ∈ zs, (Lit.int .u8 z).wf = true) (ha : Fr.IntsAt w w.heap.size .u8 A zs) :
    Calls Try.prog 4 #[.slice A n c] w fun e w' => e = .returned (.bool true) ∧ Below w.heap.size w w' := by
  have hm0 : n ≤ 9223372036854775807 := by unfold maxLen at hm; omega
  have hby := Cur.bytes_of hn hs ha
  clear hn hs ha zs hm
  obtain ⟨i1, hj1, hy0, hy1, hy2⟩ := infos_parts
  by_cases h1 : n ≤ 1048576
  · have h1' : decide ((1048576 : Int) < (n : Int)) = false := decide_eq_false (by omega)
    go_enter Try.func4, Try.ntmps4
    go_wp2_with fail
    refine (Cur.num_any A n c 1 _ h1 (by omega) hby).mono ?_
    rintro e w1 ⟨x, rfl, hx0, hx1, T⟩
    have s1 := T.size
    obtain ⟨m, hm⟩ : ∃ m : Nat, 2 + 2 * (x % 4) = (m : Int) := ⟨(2 + 2 * (x % 4)).toNat, by omega⟩
    have hm2 : 2 ≤ m := by omega
    have hm8 : m ≤ 8 := by omega
    have hme : m % 2 = 0 := by omega
    have hwr : IntKind.i64.wrap (2 * (x % 4)) = 2 * (x % 4) := IntWalk.i64_in _ (by omega)
    have hwr2 : IntKind.i64.wrap (2 + 2 * (x % 4)) = 2 + 2 * (x % 4) := IntWalk.i64_in _ (by omega)
    replace hby := BytesAt.below hby T
    go_wp2_with fail
    refine (Cur.num_any A n c 3 _ h1 (by omega) (bytes_more hby s1)).mono ?_
    rintro e w2 ⟨y, rfl, hy0, hy1, hb⟩
    replace T := T.trans (hb.mono s1)
    replace hby := BytesAt.below hby (hb.mono s1)
    have s2 : w.heap.size ≤ w2.heap.size := T.size
    obtain ⟨a, htm, ham⟩ := rem_at hy0 (show 0 < m by omega)
    have hmne : ((m : Int) == 0) = false := beq_eq_false_iff_ne.2 (by omega)
    have hm0' : 0 < m := by omega
    have hmz : ¬ (m : Int) = 0 := by omega
    have hmz2 : ¬ m = 0 := by omega
    clear hm hx0 hx1 hwr hwr2 hb
    go_wp2_with fail
    refine (Cur.num_any A n c 5 _ h1 (by omega) (bytes_more hby s2)).mono ?_
    rintro e w3 ⟨z, rfl, hz0, hz1, hb⟩
    replace T := T.trans (hb.mono s2)
    have s3 : w.heap.size ≤ w3.heap.size := T.size
    obtain ⟨b, htm2, hbm⟩ := rem_at hz0 (show 0 < m by omega)
    obtain ⟨t1, t2, t3, t4, t5, t6⟩ := short_at hm2 hm8 hme ham hbm
    clear hby hb hz0 hz1 hy0 hy1
    obtain ⟨L, hL⟩ : ∃ L, L = shF (m : Int) a b := ⟨_, rfl⟩
    rw [← hL] at t2 t3 t4 t5 t6
    obtain ⟨d, hd⟩ : ∃ d, d = L.length := ⟨_, rfl⟩
    rw [← hd] at t2 t6
    obtain ⟨q, hq⟩ : ∃ q, q = frF (imarks 0 m) L := ⟨_, rfl⟩
    rw [← hq] at t4 t5
    have HL := Lib.hid hL.symm
    have HD := Lib.hid hd.symm
    have HQ := Lib.hid hq.symm
    have HT1 := Lib.hid t1
    have HT3 := Lib.hid t3
    have HT4 := Lib.hid t4
    have HT5 := Lib.hid t5
    have HSH := Lib.hid t6
    have HLI := Lib.hid (imarks_length 0 m)
    have HNEW := Lib.hid (Nwp.newF_yes m (by omega))
    clear hL hd hq t1 t3 t4 t5 t6
    go_wp2_with fail
    refine (impl_sho m a b _ (by omega) (by omega) (by omega) (by omega) (by omega) (by omega)).mono ?_
    rintro e w4 ⟨A4, c4, rfl, hown, hb⟩
    rw [HL.out, HD.out] at hown
    rw [HL.out, HD.out, HT1.out]
    replace T := T.trans (hb.mono s3)
    have s4 : w.heap.size ≤ w4.heap.size := T.size
    have HO4 := Lib.hid hown
    clear hb hown htm htm2
    go_wp2_with fail
    refine (Nwp.impl_new m _ (by omega) (by omega)).mono ?_
    rintro e w5 ⟨A5, c5, rfl, hown, hb⟩
    rw [HNEW.out, HLI.out] at hown
    rw [HNEW.out, HLI.out]
    replace T := T.trans (hb.mono s4)
    have s5 : w.heap.size ≤ w5.heap.size := T.size
    have HO5 := Lib.hid hown
    have HO4b := Lib.hid (own_below HO4.out hb)
    clear hb hown HO4
    go_wp2_with fail
    refine (impl_fr A5 m c5 (imarks 0 m) A4 d c4 L _ HLI.out (by omega) (ok_fits (new_ok m (by omega))) (ints_of HO5.out) HD.out (by omega) (ints_of HO4b.out)).mono ?_
    rintro e w6 ⟨A6, c6, rfl, hown, hb⟩
    rw [HQ.out, HT4.out] at hown
    rw [HQ.out, HT4.out, HT3.out]
    replace T := T.trans (hb.mono s5)
    have s6 : w.heap.size ≤ w6.heap.size := T.size
    obtain ⟨g6, hg6⟩ := own_shape hown (by omega)
    subst hg6
    have hc6 : w6.cell? ⟨g6, b, none⟩ = some (.int .i64 (a : Int)) := (hown.cellAt b (by omega)).trans ((vals_get (zs := q) (k := b) (by rw [HT4.out]; exact hbm)).trans (by rw [HT5.out]))
    have hmm : ((m : Int) != (m : Int)) = false := by simp
    have haa : ((a : Int) != (a : Int)) = false := by simp
    have hbm' : (b : Int) < (m : Int) := by omega
    have hdm : decide ((m : Int) < (d : Int)) = false := decide_eq_false (by omega)
    clear hb hown HO4b HO5 HL HQ HT1 HT3 HT4 HT5 HD hmne hmz hmz2
    go_wp2_with fail
    refine (Nwp.impl_new m _ (by omega) (by omega)).mono ?_
    rintro e w7 ⟨A7, c7, rfl, hown, hb⟩
    rw [HNEW.out, HLI.out] at hown
    rw [HNEW.out, HLI.out]
    replace T := T.trans (hb.mono s6)
    have s7 : w.heap.size ≤ w7.heap.size := T.size
    have HS1 := Lib.hid (ss_one (A1 := A7) (c1 := c7) (zs := imarks 0 m) s7 (by rw [HLI.out]; exact own_mono hown s6))
    have HTA := Lib.hid (T.alloc s7 (.cells #[.slice A7 m c7] 24))
    rw [HLI.out] at HS1
    clear hb hown T hc6 haa hdm
    go_wp2
    go_loopw [10, 11] (fun v i wr => ∃ k : Nat, k ≤ d ∧ i = .int .i64 (k : Int) ∧ (∃ A N c rs, v = .slice A N c ∧ N ≤ 2 ^ k ∧ SSRow wr w.heap.size wr.heap.size A N c rs ∧ Hid (∀ p ∈ rs.map RD.zs, p ∈ levP m k)) ∧ Hid (Below w.heap.size w wr)) (fun _ i _ => d - (intOf i).toNat)
    case atStart => exact ⟨0, Nat.zero_le _, rfl, ⟨_, _, _, _, rfl, by decide, HS1.out, by show ∀ p ∈ _, _; intro p hp; exact hp⟩, HTA⟩
    case round =>
      obtain ⟨k, hk, rfl, ⟨A8, N, c8, rs, rfl, hN, hrow, HRS⟩, HT⟩ := hrel
      clear HS1 HTA
      have hsz : w.heap.size ≤ wr.heap.size := HT.out.size
      by_cases hlt : k < d
      · have HNO := Lib.hid (HSH.out k hlt)
        obtain ⟨K, hK⟩ : ∃ K, K = 2 ^ k := ⟨_, rfl⟩
        have HKK := Lib.hid (show 2 ^ (k + 1) = 2 * K by rw [hK, Nat.pow_succ]; omega)
        have hK2 : K ≤ 256 := by rw [hK]; exact Nat.le_trans (Nat.pow_le_pow_right (by decide) (show k ≤ 8 by omega)) (by decide)
        rw [← hK] at hN
        have HLN := Lib.hid hrow.len
        obtain ⟨b0, hb0⟩ : ∃ b, b = wr.heap.size := ⟨_, rfl⟩
        have HNX := Lib.hid (SSRow.empty (World.ownsRow_lit (base := b0) (e := 24) (size := 1) wr #[] 0 (Nat.le_of_eq hb0) (Nat.zero_le _) rfl))
        have HAL := Lib.hid (hrow.below ((Below.refl wr.heap.size wr).alloc (Nat.le_refl _) (.cells #[] 24)))
        have HTB := Lib.hid (HT.out.alloc hsz (.cells #[] 24))
        have HB0 := Lib.hid (show b0 ≤ (wr.alloc (.cells #[] 24)).heap.size by rw [hb0]; simp)
        rw [← hb0] at hsz HAL
        clear hK hrow hb0 HT
        go_wp2
        go_loopw [12, 88] (fun v i wt => ∃ j : Nat, j ≤ N ∧ i = .int .i64 (j : Int) ∧ (∃ A6 M c6 rs6, v = .slice A6 M c6 ∧ M = 2 * j ∧ SSRow wt b0 wt.heap.size A6 M c6 rs6 ∧ Hid (∀ p ∈ rs6.map RD.zs, p ∈ levP m (k + 1))) ∧ SSRow wt w.heap.size b0 A8 N c8 rs ∧ Hid (Below w.heap.size w wt) ∧ b0 ≤ wt.heap.size) (fun _ i _ => N - (intOf i).toNat)
        case atStart => exact ⟨0, Nat.zero_le _, rfl, ⟨_, _, _, [], rfl, rfl, HNX.out, by show ∀ p ∈ _, _; intro p hp; exact absurd hp (List.not_mem_nil)⟩, HAL.out, HTB, HB0.out⟩
        case round =>
          obtain ⟨j, hj, rfl, ⟨A9, M, c9, rs9, rfl, hM, hr9, HR9⟩, hr8, HTT, hszt⟩ := hrel
          have hM2 : M ≤ 1000 := by omega
          have HM := Lib.hid hM
          clear HNX HAL HTB HB0 hM
          by_cases hlt2 : j < N
          · have hrp := hr8.2.1 j (by rw [HLN.out]; exact hlt2)
            obtain ⟨g, rfl, hcell⟩ := hr8.cell j hlt2
            have hpm : (rs.getD j rd0).zs ∈ rs.map RD.zs := by
              rw [List.getD_eq_getElem?_getD, List.getElem?_eq_getElem (by rw [HLN.out]; exact hlt2)]
              exact List.mem_map.2 ⟨_, List.getElem_mem _, rfl⟩
            have hpl := HRS.out _ hpm
            have hpb := HNO.out _ hpl
            obtain ⟨f1, f2, f3⟩ := step_at hm2 hm8 hme hpl
            have hJ := fun (wu : World) (h : SSRow wu w.heap.size b0 (some ⟨g, 0, none⟩) N c8 rs) => (h.2.1 j (by rw [HLN.out]; exact hlt2)).at_
            simp only [RD.v] at hcell
            have hcap := row_cap hrp.1
            have hrj := hrp.at_
            rw [f1] at hcell hcap
            generalize (rs.getD j rd0).A = A1 at *
            generalize (rs.getD j rd0).c = c1 at *
            generalize (rs.getD j rd0).zs = ps at *
            obtain ⟨u1, u2, u3, u4⟩ := f3 0 (by omega)
            obtain ⟨v1, v2, v3, v4⟩ := f3 1 (by omega)
            obtain ⟨P, hP⟩ : ∃ P, P = faroL ps 0 := ⟨_, rfl⟩
            obtain ⟨Q, hQ⟩ : ∃ Q, Q = faroL ps 1 := ⟨_, rfl⟩
            rw [← hP] at u2 u3 u4
            rw [← hQ] at v2 v3 v4
            have U1 := Lib.hid (show perfB ps 4 0 = true from u1)
            have U2 := Lib.hid (show perfF ps 4 0 = P from u2)
            have U3 := Lib.hid u3
            have U4 := Lib.hid u4
            have V1 := Lib.hid (show perfB ps 4 1 = true from v1)
            have V2 := Lib.hid (show perfF ps 4 1 = Q from v2)
            have V3 := Lib.hid v3
            have V4 := Lib.hid v4
            have F1 := Lib.hid f1
            have F2 := Lib.hid f2
            have HJ := Lib.hid hJ
            obtain ⟨bq, oq, rfl, hbq, hcq⟩ := hrj b (by rw [f1]; exact hbm)
            generalize ps.getD b 0 = x0 at hcq hpb
            have hxx : (x0 == (a : Int)) = false := beq_eq_false_iff_ne.2 hpb
            have H8 := Lib.hid hr8
            have H9 := Lib.hid hr9
            clear u1 u2 u3 u4 v1 v2 v3 v4 f1 f2 f3 hP hQ hJ hrp hpm hpl hpb hrj hr8 hr9
            go_wp2_with fail
            refine (impl_perform (some ⟨bq, oq, none⟩) m c1 4 0 ps _ F1.out hcap (by omega) F2.out (HJ.out _ H8.out)).mono ?_
            rintro e w10 ⟨A10, c10, rfl, hown, hb⟩
            rw [U2.out, U4.out] at hown
            rw [U2.out, U4.out, U1.out]
            obtain ⟨b1, hb1⟩ : ∃ b, b = wr.heap.size := ⟨_, rfl⟩
            have T10 := Lib.hid (HTT.out.trans (hb.mono (Nat.le_trans hsz hszt)))
            have s10 := hb.size
            have H8b := Lib.hid (H8.out.below hb)
            have h9 := H9.out.below hb
            rw [← hb1] at hown s10 hszt h9
            have H9b := Lib.hid h9
            have HX := Lib.hid hown
            clear hb hown hb1 h9 H8 H9 HTT hcell hcq hxx hbq
            go_wp2_with fail
            refine (impl_perform (some ⟨bq, oq, none⟩) m c1 4 1 ps _ F1.out hcap (by omega) F2.out (HJ.out _ H8b.out)).mono ?_
            rintro e w11 ⟨A11, c11, rfl, hown, hb⟩
            rw [V2.out, V4.out] at hown
            rw [V2.out, V4.out, V1.out]
            obtain ⟨b2, hb2⟩ : ∃ b, b = w10.heap.size := ⟨_, rfl⟩
            have T11 := Lib.hid (T10.out.trans (hb.mono (by omega)))
            have s11 := hb.size
            have H8c := Lib.hid (H8b.out.below hb)
            have H9c := Lib.hid (H9b.out.below hb)
            have HXc := Lib.hid (own_below HX.out hb)
            have HXH := Lib.hid (fun k hk => (own_lo HX.out k hk).2)
            rw [← hb2] at hown s10 s11 HXH
            have HY := Lib.hid hown
            clear hb hown hb2 H8b H9b HX T10
            go_wp2_with (at_builtin; refine app_two rfl (.tmp 122) (.tmp 125) 36 rfl b0 24 i1 (.slice none 0 0) 24 Try.underlying36 hj1 hy0 hy1 hy2 (by decide) rfl _ _ _ _ rfl H9c.out.1 (.slice A10 m c10) (.slice A11 m c11) rfl rfl _ rfl rfl (by omega) (by omega) ?_; intro g5 c5 w5 hown5 hgr5)
            have HSN := Lib.hid (SSRow.snoc2 (zs := P) (ys := Q) (b1 := b2) H9c.out hszt (by rw [U4.out]; exact HXc.out) HXH.out s10 (by rw [V4.out]; exact HY.out) (by rw [U4.out, V4.out]; exact hown5) hgr5)
            have H8d := Lib.hid (H8c.out.grown hgr5 (fun k hk => Or.inr (own_lo H9c.out.1 k hk).1))
            have TD := Lib.hid (T11.out.grown hgr5 (by omega) (fun k hk => by have := (own_lo H9c.out.1 k hk).1; omega))
            have s5' := hgr5.size
            have HME := Lib.hid (show ∀ p ∈ (rs9 ++ [(⟨A10, c10, P⟩ : RD), ⟨A11, c11, Q⟩]).map RD.zs, p ∈ levP m (k + 1) by
              intro p hp
              rw [List.map_append, List.mem_append] at hp
              rcases hp with hp | hp
              · exact HR9.out p hp
              · simp only [List.map_cons, List.map_nil, List.mem_cons, List.not_mem_nil, or_false] at hp
                rcases hp with rfl | rfl
                · exact U3.out
                · exact V3.out)
            have hb05 : b0 ≤ w5.heap.size := by omega
            have hM5 : M + 2 = 2 * (j + 1) := by have := HM.out; omega
            clear hown5 hgr5 H9c H8c HXc HY T11 HXH
            refine ⟨⟨j + 1, by omega, by go_num, ⟨_, _, _, _, rfl, hM5, HSN.out, HME.out⟩, H8d.out, TD.out, hb05⟩, ?_⟩
            simp [intOf]; omega
          · have hM3 : M ≤ 2 * K := by have := HM.out; omega
            have H9 := Lib.hid hr9
            clear hr8 hr9
            go_wp2_with fail
            refine (Sip.isort_any A9 M c9 rs9 _ H9.out.len (Sst.at_of H9.out) (fun i _ => big_at hm2 hm8 HR9.out i) (by omega)).mono ?_
            rintro e w12 ⟨A12, c12, rs12, rfl, hz, hss, hb⟩
            have T12 := Lib.hid (HTT.out.trans (hb.mono (Nat.le_trans hsz hszt)))
            have hss2 := SSRow.mono hss (Nat.le_trans hsz hszt)
            obtain ⟨q1, q2⟩ := cano_lev hz H9.out.len HR9.out
            generalize (cano (rs9.map RD.zs)).length = N2 at *
            have hN2 : N2 ≤ 2 ^ (k + 1) := by rw [HKK.out]; omega
            have HSS := Lib.hid hss2
            have HQ1 := Lib.hid q1
            clear hss hss2 hb hz q1 q2 H9 HTT HR9
            go_wp2
            go_roundw
            case rel => exact ⟨k + 1, by omega, by go_num, ⟨_, _, _, rs12, rfl, hN2, HSS.out, HQ1.out⟩, T12⟩
            case measure => simp [intOf]; omega
      · obtain ⟨G, hG, hG1, hG2⟩ := grp_at hm2 hm8 hme
        have HG := Lib.hid hG
        have hge : decide ((m : Int) ≤ (G : Int)) = true := decide_eq_true (by omega)
        clear hrow HRS hG
        go_wp2_with fail
        refine (Fgi.impl_fg m _ (by omega) (by omega)).mono ?_
        rintro e w9 ⟨rfl, hb⟩
        have T9 := HT.out.trans (hb.mono hsz)
        rw [HG.out]
        clear hb
        go_wp2
        go_ret
        exact ⟨by first | rfl | (rw [hge]), T9⟩
  · have h1' : (1048576 : Int) < (n : Int) := by omega
    go_enter Try.func4, Try.ntmps4
    go_wp2
    go_ret
    exact ⟨rfl, Below.refl _ w⟩

set_option maxRecDepth 100000 in
theorem lifted (os : Os) (started : os.Started) (H : Type) (enc : TypeId × Value → H) :
    ReturnsInHanded {} Try.checked os 4 .any (Rows.fnShortestSpec.pre6 enc Try.prog Try.f4 Rows.fnShortestRow.domain false) (Rows.fnShortestSpec.post enc Try.prog Try.f4 false true false false) := by
  refine returnsInHanded_of_change (C := Try.checked) Fr.own started (by kernel_rfl) Try.func4
    (ChangeSpec.witness6 (enc := enc) (C := Try.checked) false ⟨#[], #[.slice none 0 0], []⟩ 8 (by kernel_rfl) (by kernel_rfl) (by kernel_rfl) (by kernel_rfl)) ?_
  intro W base args ds gs before hval0 hW hcnd _
  have hval : ∀ (j : Nat) t v, Try.f4.params[j]? = some t → args[j]? = some v → Value.okWide Try.prog W .any base t v := hval0
  have hW' := hW
  obtain ⟨p, q, hA0, hV, rfl, hfz, hnd⟩ := hW
  have hA : DataW.TrodAll enc Try.prog W 0 (fun _ => true) true Try.f4.params.toList args.toList ds p := hA0
  have hAk := hA
  rw [Try.params4] at hA hval
  obtain ⟨v0, d0, rfl, rfl, h0⟩ := trodAll_one hA
  obtain ⟨rfl, rfl⟩ := trodVars_none hV
  have hlt : ∀ x ∈ p, x.block < W.heap.size := fun x hx => by simpa using hW'.lt x (List.mem_append_left _ hx)
  obtain ⟨A0, n0, c0, l0, rfl, hn0, hm0, hs0, ha0⟩ := Fr.view_nums Try.underlying22 Try.underlying5 (by kernel_rfl) (hval 0 22 v0 rfl rfl) h0 hlt
  clear hA0 hval0
  refine (walk A0 n0 c0 l0 W hn0 hm0 hs0 ha0).mono fun e W' ⟨he, hb⟩ => ?_
  subst he
  exact ⟨_, rfl, _, _, _, [], p, [], hW', trodAll_mk1 (shut_bool Try.underlying4 _), Fr.below_all Fr.laidOut hb _ _ _ _ (Fr.readB_all (by kernel_rfl)) hAk hlt, rfl, hb.frame _, fun h => by cases h⟩

theorem proved : Rows.FnShortestSaid :=
  OpenClaim.holds_of_wide 4 Try.f4 rfl rfl rfl rfl rfl rfl rfl ⟨rfl, rfl, rfl, rfl, rfl⟩ rfl rfl rfl rfl rfl (by kernel_rfl) Try.func4 (by kernel_rfl)
    (of_decide_eq_true (by kernel_rfl)) (by unfold Func.isWrapper; first | (rw [if_pos (by decide +kernel)]; kernel_rfl) | (rw [if_neg (by decide +kernel)]; exact ⟨rfl, rfl⟩))
    (fun os started H enc _ => lifted os started H enc)

end Go.Proofs.Ytpbpgpccjabghaa.LawShortest
