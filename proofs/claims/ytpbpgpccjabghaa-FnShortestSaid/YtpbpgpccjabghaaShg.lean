/- shortestLists at permutations as arrays. -/
import Derived.Test.YtpbpgpccjabghaaArd
import Derived.Deep.Cut
import Derived.Deep.CutRange
import Derived.Deep.RegionHeld
import Derived.BigQuiet
set_option linter.unusedVariables false
set_option maxRecDepth 20000
namespace Go.Proofs.Ytpbpgpccjabghaa.Shg
open Go.RowKit Go.Maps Fr Own Pk Pok Arr Ins Nwp Pfn Rws Lb Cat Mvp Mv1 Mv2 Mv3 Mv4 Mk Mok2 Pf Sv Sv2 Sv3 Do Pa Fsz Prm Fpm Bfs Fps Map Grf Shi Ard

def kvG (V : List (List Int)) (RS : List RD) : List (Value × Value) := (V.map enc).zip (RS.map RD.v)
def valsG (L : List (List Int)) : List Value := L.flatMap fun l => (cells8 l).toList
theorem kg_fst {V : List (List Int)} {RS : List RD} (h : V.length = RS.length) : (kvG V RS).map Prod.fst = V.map enc := by
  unfold kvG
  rw [List.map_fst_zip (by simp [h])]
theorem kg_len {V : List (List Int)} {RS : List RD} (h : V.length = RS.length) : (kvG V RS).length = V.length := by
  unfold kvG
  simp [h]
theorem kg_nodup {n : Nat} {V : List (List Int)} {RS : List RD} (h : V.length = RS.length) (hd : V.Nodup) (hl : ∀ x ∈ V, x.length = n) : ((kvG V RS).map Prod.fst).Nodup := by
  rw [kg_fst h]
  exact List.pairwise_map.2 (List.Pairwise.imp_of_mem (fun {a b} ha hb hab e => hab (enc_inj (hl a ha) (hl b hb) e)) hd)
theorem kg_mem {n : Nat} {V : List (List Int)} {RS : List RD} (h : V.length = RS.length) (hl : ∀ x ∈ V, x.length = n) {x : List Int} (hx : x.length = n) : enc x ∈ (kvG V RS).map Prod.fst ↔ x ∈ V := by
  rw [kg_fst h, List.mem_map]
  exact ⟨fun ⟨y, hy, e⟩ => enc_inj (hl y hy) hx e ▸ hy, fun hx => ⟨x, hx, rfl⟩⟩
theorem kg_snoc {V : List (List Int)} {RS : List RD} (h : V.length = RS.length) (x : List Int) (r : RD) : kvG V RS ++ [(enc x, r.v)] = kvG (V ++ [x]) (RS ++ [r]) := by
  unfold kvG
  rw [List.map_append, List.map_append, List.zip_append (by simp [h])]
  rfl
theorem kg_at {V : List (List Int)} {RS : List RD} (h : V.length = RS.length) {t : Nat} (ht : t < V.length) : (enc (V.getD t []), (RS.getD t rd0).v) ∈ kvG V RS := by
  have h2 : t < RS.length := by omega
  refine List.mem_iff_getElem?.2 ⟨t, ?_⟩
  unfold kvG
  simp [List.getD_eq_getElem?_getD, List.getElem?_eq_getElem ht, List.getElem?_eq_getElem h2, List.getElem?_zip_eq_some]
theorem vg_len : ∀ {L : List (List Int)}, (∀ x ∈ L, x.length ≤ 8) → (valsG L).length = L.length * 8
  | [], _ => rfl
  | x :: r, h => by
    have h1 := vg_len (L := r) (fun y hy => h y (List.mem_cons_of_mem _ hy))
    have h2 := cells8_size (h x (List.mem_cons_self ..))
    show ((cells8 x).toList ++ valsG r).length = (r.length + 1) * 8
    rw [List.length_append, h1, Array.length_toList, h2]
    omega
theorem vg_drop {L : List (List Int)} {t : Nat} (ht : t < L.length) : valsG (L.drop t) = (cells8 (L.getD t [])).toList ++ valsG (L.drop (t + 1)) := by
  rw [List.drop_eq_getElem_cons ht]
  show (cells8 L[t]).toList ++ _ = _
  rw [List.getD_eq_getElem?_getD, List.getElem?_eq_getElem ht]
  rfl
theorem vg_snoc (L : List (List Int)) (y : List Int) : valsG (L ++ [y]) = valsG L ++ (cells8 y).toList := by simp [valsG]
theorem mapg_ne {W : World} {b lo m : Nat} {kt : TypeId} {kv : List (Value × Value)} {e : TypeId} {r : RD} {xs : List Value} (h : MapE Try.prog kt W b kv) (ho : W.ownsRow lo e 1 r.v m xs) : r.b ≠ some b := by
  intro hb
  rcases ho.2 with ⟨h2, _⟩ | ⟨g, cap, cur, hv, _, hh, _⟩
  · unfold RD.v at h2
    simp only [Value.slice.injEq] at h2
    unfold RD.b at hb
    rw [h2.1] at hb
    cases hb
  · unfold RD.v at hv
    simp only [Value.slice.injEq] at hv
    unfold RD.b at hb
    rw [hv.1] at hb
    simp only [Option.map_some, Option.some.injEq] at hb
    subst hb
    obtain ⟨es, clock, hbb, _⟩ := h
    rw [hh] at hbb
    cases hbb
/-- the search as it lies in memory: b the map's block, d: so many have left the queue, the queue's block g -/
def SeaG (w : World) (b : Nat) (V : List (List Int)) (W : List (List Int)) (d g off c : Nat) (wr : World) : Prop :=
  ∃ RS, MapE Try.prog 73 wr b (kvG V RS) ∧ RS.map RD.zs = W ∧ Shi.Rows w.heap.size g wr RS ∧ Que.QW wr w.heap.size 8 g off (V.length - d) c (valsG (V.drop d)) ∧ g ≠ b ∧ Below w.heap.size w wr
theorem SeaG.below {w wr w' : World} {b d g off c : Nat} {V W : List (List Int)} (h : SeaG w b V W d g off c wr) (hb : Below wr.heap.size wr w') : SeaG w b V W d g off c w' := by
  obtain ⟨RS, h1, h2, h3, h4, h5, h6⟩ := h
  exact ⟨RS, h1.below hb h1.lt, h2, h3.below hb, Que.q_below h4 hb, h5, h6.trans (hb.mono h6.size)⟩
theorem seag_put {w w3 w4 w5 : World} {b g g' off' c' d : Nat} {V : List (List Int)} {W : List (List Int)} {RS : List RD} {x : List Int} {r : RD} (HL : V.length = RS.length) (hz : RS.map RD.zs = W) (hM3 : MapE Try.prog 73 w3 b (kvG V RS)) (hR3 : Shi.Rows w.heap.size g w3 RS)
    (hnew : w3.ownsRow w.heap.size 3 1 r.v r.zs.length (vals r.zs)) (hrg : r.b ≠ some g) (hM4 : MapE Try.prog 73 w4 b (kvG V RS ++ [(enc x, r.v)])) (hg4 : w3.grownBy w4 (some b)) (hg5 : w4.grownBy w5 (some g)) (hgb : g ≠ b)
    (hg' : g' = g ∨ w4.heap.size ≤ g') (hB3 : Below w.heap.size w w3) (hb : w.heap.size ≤ b) (hg0 : w.heap.size ≤ g) (hd : d ≤ V.length) (hq5 : Que.QW w5 w.heap.size 8 g' off' (V.length - d + 1) c' (valsG (V.drop d) ++ (cells8 x).toList)) :
    SeaG w b (V ++ [x]) (W ++ [r.zs]) d g' off' c' w5 := by
  have e1 : (V ++ [x]).length - d = V.length - d + 1 := by rw [List.length_append, List.length_singleton]; omega
  have hsz4 := hg4.size
  have key : ∀ s ∈ RS ++ [r], w3.ownsRow w.heap.size 3 1 s.v s.zs.length (vals s.zs) ∧ s.b ≠ some g := by
    intro s hs
    rcases List.mem_append.1 hs with hs | hs
    · exact hR3 s hs
    · rw [List.mem_singleton.1 hs]; exact ⟨hnew, hrg⟩
  refine ⟨RS ++ [r], ?_, by rw [List.map_append, hz]; rfl, fun s hs => ?_, ?_, ?_, ?_⟩
  · rw [← kg_snoc HL]
    exact hM4.grown hg5 (fun e => hgb (by injection e))
  · obtain ⟨k1, k2⟩ := key s hs
    have k3 : w4.ownsRow w.heap.size 3 1 s.v s.zs.length (vals s.zs) := own_gr k1 hg4 (fun k hk e => by injection e with e; subst e; exact mapg_ne hM3 k1 hk)
    have k4 : w5.ownsRow w.heap.size 3 1 s.v s.zs.length (vals s.zs) := own_gr k3 hg5 (fun k hk e => by injection e with e; subst e; exact k2 hk)
    refine ⟨k4, fun e => ?_⟩
    rcases hg' with rfl | hg'
    · exact k2 e
    · have := (rd_own k3 g' e).2
      omega
  · rw [e1, List.drop_append_of_le_length hd, vg_snoc]
    exact hq5
  · rcases hg' with rfl | hg'
    · exact hgb
    · have := hM4.lt; omega
  · have hb4 := hB3.grown hg4 hB3.size (fun k hk => by injection hk with hk; omega)
    exact hb4.grown hg5 hb4.size (fun k hk => by injection hk with hk; omega)

theorem lit8' (a b c d e f g i : Value) : Array.foldl (fun cs x => cs.setIfInBounds x.snd x.fst) #[Value.int .i64 0, .int .i64 0, .int .i64 0, .int .i64 0, .int .i64 0, .int .i64 0, .int .i64 0, .int .i64 0] (#[a, b, c, d, e, f, g, i] : Array Value).zipIdx 0 8 = #[a, b, c, d, e, f, g, i] := by kernel_rfl
theorem lit8 (C : Array Value) (h : C.size = 8) : Array.foldl (fun cs x => cs.setIfInBounds x.snd x.fst) #[Value.int .i64 0, .int .i64 0, .int .i64 0, .int .i64 0, .int .i64 0, .int .i64 0, .int .i64 0, .int .i64 0] C.zipIdx 0 8 = C := by
  obtain ⟨l⟩ := C
  match l, h with
  | [a, b, c, d, e, f, g, i], _ => exact lit8' a b c d e f g i
theorem drop8 {l : List Int} (h : l.length ≤ 8) (r : List Value) : ((cells8 l).toList ++ r).drop 8 = r := by
  have hl : (cells8 l).toList.length = 8 := by simp [cells8_size h]
  rw [List.drop_append_of_le_length (by omega), List.drop_of_length_le (by omega), List.nil_append]
/-- a new variable with a state in it -/
theorem new8 (W : World) (l : List Int) : ∃ W7, W7 = (W.alloc (.cells #[Value.int .i64 0, .int .i64 0, .int .i64 0, .int .i64 0, .int .i64 0, .int .i64 0, .int .i64 0, .int .i64 0] 73)).setRow W.heap.size (cells8 l) ∧ W7.heap[W.heap.size]? = some (.cells (cells8 l) 73 (0, 0)) ∧ Below W.heap.size W W7 ∧ W7.heap.size = W.heap.size + 1 := by
  have h := heap_alloc_new W (.cells Z8 73)
  exact ⟨_, rfl, setRow_heap _ _ Z8 (cells8 l) _ (0, 0) h, below_setRow ((Below.refl W.heap.size W).alloc (Nat.le_refl _) _) (Nat.le_refl _) _, by simp [World.setRow]⟩
theorem new8z (W : World) : (W.alloc (.cells #[Value.int .i64 0, .int .i64 0, .int .i64 0, .int .i64 0, .int .i64 0, .int .i64 0, .int .i64 0, .int .i64 0] 73)).heap[W.heap.size]? = some (.cells Z8 73 (0, 0)) := heap_alloc_new W (.cells Z8 73)
/-- what the statement that enters a new list leaves behind -/
def Cut12 (W9 : World) (b : Nat) (kv : List (Value × Value)) (y zs' : List Int) (wx : World) : Prop :=
  ∃ w3 r', r'.zs = zs' ∧ Below W9.heap.size W9 w3 ∧ w3.ownsRow W9.heap.size 3 1 (RD.v r') r'.zs.length (vals r'.zs) ∧ MapE Try.prog 73 wx b (kv ++ [(enc y, r'.v)]) ∧ w3.grownBy wx (some b)
/-- what is held through it -/
def S12 (b p9 p7 : Nat) (y x0 : List Int) (val : Value) (W : World) : Prop :=
  W.heap[p9]? = some (.cells (cells8 y) 73 (0, 0)) ∧ W.heap[p7]? = some (.cells (cells8 x0) 73 (0, 0)) ∧ ∃ kv', MapE Try.prog 73 W b kv' ∧ (kv'.map Prod.fst).Nodup ∧ (enc x0, val) ∈ kv'
section
variable {P : Program} {ops : Array Oper} {S : World → Prop} {o : Oper} {a : Act}
theorem y_of {v : Value} (hgd : o.guard = none) (h : ∀ w, S w → (execOp a.eval o).run P w = .ok (.value v) w) : YieldsIf P ops S o v a := .inl ⟨by simp [Region.wanted, hgd], h⟩
theorem y_move (hgd : o.guard = none) (x : Operand) (ho : o.op = .move x) : YieldsIf P ops S o (a.eval x) a := y_of hgd fun w _ => by simp [execOp, ho]
theorem y_load (hgd : o.guard = none) (x : Operand) (ho : o.op = .load 73 x) (g : Nat) (hx : a.eval x = .pointer (some ⟨g, 0, none⟩)) (cs : Array Value) (hS : ∀ w, S w → w.heap[g]? = some (.cells cs 73 (0, 0)))
    (hi : (Try.prog.info? 73).map (·.size) = some cs.size) : YieldsIf Try.prog ops S o (.agg cs) a := y_of hgd fun w hw => by
  have h := run_loadVar_row (P := Try.prog) w g _ 73 cs (0, 0) _ (hS w hw) Try.underlying73 rfl hi
  unfold execOp
  simp only [ho, hx, Instr.loadAt, Instr.sureAddr, Sem.run_bind, Sem.run_pure, Result.andThen_ok, h]
theorem y_look (hgd : o.guard = none) (m x : Operand) (ho : o.op = .lookup 74 m x false) (b : Nat) (hm : a.eval m = .map (some b)) {key val : Value} {kl : Lit} (hx : a.eval x = key) (hkey : keyOf Try.prog 73 key = some kl)
    (hS : ∀ w, S w → ∃ kv', MapE Try.prog 73 w b kv' ∧ (kv'.map Prod.fst).Nodup ∧ (key, val) ∈ kv') : YieldsIf Try.prog ops S o val a := y_of hgd fun w hw => by
  obtain ⟨kv', h1, h2, h3⟩ := hS w hw
  have hrun := h1.hit h2 keyedG Try.underlying74 false hkey h3
  simp [execOp, ho, hm, hx, hrun, Result.andThen]
end
theorem S12.below {b p9 p7 : Nat} {y x0 : List Int} {val : Value} {W W' : World} (h : S12 b p9 p7 y x0 val W) (hb : Below W.heap.size W W') (hlt : b < W.heap.size) : S12 b p9 p7 y x0 val W' := by
  obtain ⟨h1, h2, kv', h3, h4, h5⟩ := h
  exact ⟨(hb.block p9 (Array.getElem?_eq_some_iff.1 h1).1).trans h1, (hb.block p7 (Array.getElem?_eq_some_iff.1 h2).1).trans h2, kv', h3.below hb hlt, h4, h5⟩
theorem S12.put {b p9 p7 : Nat} {y x0 : List Int} {val v : Value} {W W' : World} {kv : List (Value × Value)} (h : S12 b p9 p7 y x0 val W) (hM : MapE Try.prog 73 W b kv) (hM2 : MapE Try.prog 73 W' b (kv ++ [(enc y, v)])) (hg : W.grownBy W' (some b)) (hd : (kv.map Prod.fst).Nodup) (hno : enc y ∉ kv.map Prod.fst) (hin : (enc x0, val) ∈ kv) : S12 b p9 p7 y x0 val W' := by
  obtain ⟨h1, h2, _⟩ := h
  obtain ⟨es, clock, hbb, _⟩ := hM
  have ne : ∀ q cs, W.heap[q]? = some (.cells cs 73 (0, 0)) → some q ≠ some b := fun q cs hq e => by
    injection e with e
    subst e
    rw [hq] at hbb
    cases hbb
  refine ⟨(hg.block p9 (Array.getElem?_eq_some_iff.1 h1).1 (ne _ _ h1)).trans h1, (hg.block p7 (Array.getElem?_eq_some_iff.1 h2).1 (ne _ _ h2)).trans h2, _, hM2, ?_, List.mem_append_left _ hin⟩
  rw [List.map_append]
  exact List.nodup_append.2 ⟨hd, by simp, fun a ha b hb e => by
    simp only [List.map_cons, List.map_nil, List.mem_singleton] at hb
    subst hb
    exact hno (e ▸ ha)⟩
/-- append of one int, as a step -/
theorem app_wp {w : World} {o : Oper} {a : Act} {K : Act → World → Prop} {Q : Exit → Act → World → Prop} (i : TypeInfo) (hi : Try.prog.info? 3 = some i) (hz : i.zero = some (.int .i64 0)) (hsize : i.size = 1) (hby : i.bytes = 8) (s x : Operand)
    (ho : o.op = .call { callee := .builtin .append, args := #[s, x], argTypes := #[24, 24] }) (A : Option Addr) (n c : Nat) (zs : List Int) (B : Nat) (hs : a.eval s = .slice A n c) (hown : w.ownsRow B 3 1 (.slice A n c) n (vals zs)) (y : Int) (N : Nat) (hx : a.eval x = .slice (some ⟨N, 0, none⟩) 1 1)
    (hc : w.cell? ⟨N, 0, none⟩ = some (.int .i64 y)) (hn : n ≤ 1048576) (hB : B ≤ w.heap.size)
    (h : ∀ g c' w', w'.ownsRow B 3 1 (.slice (some ⟨g, 0, none⟩) (n + 1) c') (n + 1) (vals zs ++ [.int .i64 y]) → w.grownBy w' (A.map (·.block)) → K (a.put o.dst (.slice (some ⟨g, 0, none⟩) (n + 1) c')) w') : o.wp Try.prog a w K Q := by
  refine wp_append_own w s x 24 ho B 3 i (.int .i64 0) 1 8 Try.underlying24 hi hz hsize hby rfl (by decide) _ n (vals zs) hs hown ⟨N, 0, none⟩ 1 1 [.int .i64 y] hx rfl (fun j u hj => ?_) (fun u hu => by simp at hu; subst hu; rfl) (by unfold maxLen; omega) (by omega) hB (fun v' w' hown' hgrow _ => ?_)
  · match j, hj with
    | 0, hj =>
      simp at hj; subst hj
      rw [Go.WideShapes.add_plain]
      exact hc
  · rcases hown'.2 with ⟨_, h0⟩ | ⟨g, cap, cur, hv, _⟩
    · omega
    · subst hv
      refine h g cap w' hown' ?_
      cases A <;> exact hgrow
theorem put_wp {w : World} {o : Oper} {a : Act} {K : Act → World → Prop} {Q : Exit → Act → World → Prop} (m x v : Operand) (ho : o.op = Op.mapUpdate 74 m x v) (b : Nat) (kv : List (Value × Value)) (h : MapE Try.prog 73 w b kv) (hm : a.eval m = .map (some b))
    (key val : Value) (kl : Lit) (hx : a.eval x = key) (hv : a.eval v = val) (hkey : keyOf Try.prog 73 key = some kl) (hno : key ∉ kv.map Prod.fst)
    (hK : ∀ w', MapE Try.prog 73 w' b (kv ++ [(key, val)]) → w.grownBy w' (some b) → w'.heap.size = w.heap.size → K (a.put o.dst undef) w') : o.wp Try.prog a w K Q := by
  obtain ⟨w', hrun, r1, r2, r3⟩ := h.put (val := val) keyedG Try.underlying74 hkey hno
  unfold Oper.wp
  simp [execOp, ho, hm, hx, hv, hrun, Result.andThen]
  exact hK w' r1 r2 r3
theorem keep12 {W W' : World} {b p9 p7 : Nat} {kv : List (Value × Value)} {c9 c7 : Array Value} (hM : MapE Try.prog 73 W b kv) (h1 : W.heap[p9]? = some (.cells c9 73 (0, 0))) (h2 : W.heap[p7]? = some (.cells c7 73 (0, 0))) (hg : W.grownBy W' (some b)) :
    W'.heap[p9]? = some (.cells c9 73 (0, 0)) ∧ W'.heap[p7]? = some (.cells c7 73 (0, 0)) := by
  obtain ⟨es, clock, hbb, _⟩ := hM
  have ne : ∀ q cs, W.heap[q]? = some (.cells cs 73 (0, 0)) → some q ≠ some b := fun q cs hq e => by
    injection e with e
    subst e
    rw [hq] at hbb
    cases hbb
  exact ⟨(hg.block p9 (Array.getElem?_eq_some_iff.1 h1).1 (ne _ _ h1)).trans h1, (hg.block p7 (Array.getElem?_eq_some_iff.1 h2).1 (ne _ _ h2)).trans h2⟩
theorem infoGrp : (Try.prog.info? 73).map (fun i => (i.zero, i.size, i.bytes)) = some (some (.agg Z8), 8, 64) := by kernel_rfl
theorem info_grp : ∃ i, Try.prog.info? 73 = some i ∧ i.zero = some (.agg Z8) ∧ i.size = 8 ∧ i.bytes = 64 := by
  have h := infoGrp
  cases hi : Try.prog.info? 73 with
  | none => rw [hi] at h; cases h
  | some i =>
    rw [hi] at h
    simp only [Option.map_some, Option.some.injEq, Prod.mk.injEq] at h
    exact ⟨i, rfl, h.1, h.2.1, h.2.2⟩
theorem cells8_mem (l : List Int) : ∀ u ∈ (cells8 l).toList, u.oneCell' = true := by
  rw [cells8_list]
  exact vals_one _
set_option maxHeartbeats 4000000 in
theorem impl_listsG (n p : Nat) (w : World) (h1 : 2 ≤ n) (h2 : n ≤ 8) (h3 : n % 2 = 0) (hP : Perms n p w.heap.size w) :
    Calls Try.prog 60 #[.agg (cells8 (iot n)), .func (.func 61) #[] #[.pointer (some ⟨p, 0, none⟩)]] w fun e w' =>
      ∃ b RS, e = .returned (.map (some b)) ∧ MapE Try.prog 73 w' b (kvG (runB (nxG n) [] (iot n) (gN n)).1 RS) ∧ (runB (nxG n) [] (iot n) (gN n)).1.length = RS.length ∧ Below w.heap.size w w' := by
  obtain ⟨i0, hi, hz0, hz1, hz2⟩ := info_parts infoInt
  have hmm := @run_makeMap Try.prog
  have hrun := run_grp h1 h2 h3
  have HRUN := Lib.hid hrun
  have hg0 := (hrun.mid 0 (by unfold gN; split; (· omega); split <;> omega)).1.good (iot n) (List.mem_singleton.2 rfl)
  obtain ⟨hl0, _, kl, hka⟩ := good_parts hg0
  have hl8 : (iot n).length ≤ 8 := by omega
  have HI8 := Lib.hid (info8 hl8)
  obtain ⟨wb, hwb⟩ : ∃ W, W = w.alloc (.cells (cells8 (iot n)) 73) := ⟨_, rfl⟩
  have s1 : wb.heap.size = w.heap.size + 1 := by rw [hwb]; simp
  have e1 : wb.heap[w.heap.size]? = some (.cells (cells8 (iot n)) 73 (0, 0)) := by rw [hwb]; exact heap_alloc_new w _
  have b1 : Below w.heap.size w wb := by rw [hwb]; exact (Below.refl w.heap.size w).alloc (Nat.le_refl _) _
  have HM0 := Lib.hid (MapE.new Try.prog 73 wb)
  rw [s1] at HM0
  have HBX1 := Lib.hid (show (wb.alloc (.map #[] 0)).heap[w.heap.size]? = _ from (((Below.refl wb.heap.size wb).alloc (Nat.le_refl _) (.map #[] 0)).block w.heap.size (by omega)).trans e1)
  have HB1 := Lib.hid (b1.alloc (by omega) (.map #[] 0))
  have HKA := Lib.hid hka
  have HS1 := Lib.hid s1
  clear hrun hg0 e1 b1 s1 hka
  subst hwb
  have HL8 := Lib.hid hl8
  have hsz8 := cells8_size hl8
  have hlit := lit8 (cells8 (iot n)) hsz8
  clear hl8 hl0
  generalize iot n = L0 at *
  have HCALL := Lib.hid (fun (W : World) (hb : Below w.heap.size w W) (k : Nat) (l : List Int) (hk : k ≤ 1) (hl : l.length = n) => clos_grp p n k w.heap.size l W h1 h2 h3 hk hl hb.size (hP.below hb))
  have hN24 := gN_few (n := n)
  have HGP := Lib.hid (fun (l : List Int) (h : goodG n l = true) => good_parts h)
  generalize nxG n = nx at *
  generalize gN n = N at *
  go_enter Try.func60, Try.ntmps60
  go_wp2_with (first | (refine wpList_load_row rfl 73 (.tmp 2) rfl w.heap.size rfl 73 (cells8 L0) (0, 0) _ HBX1.out Try.underlying73 rfl HI8.out ?_) | (refine wpList_put rfl (.tmp 12) (.tmp 13) (.const (.slice none 0 0)) 74 (Or.inr rfl) keyedG Try.underlying74 (w.heap.size + 1) [] HM0.out rfl (enc L0) (.slice none 0 0) _ rfl rfl HKA.out (by simp) ?_; intro w1 hm1 hg1 hs1; have HM1 := Lib.hid hm1; have HBX3 := Lib.hid ((hg1.block w.heap.size (by simp; omega) (by simp)).trans HBX1.out); have HS2 := Lib.hid (show w1.heap.size = w.heap.size + 2 by rw [hs1]; simp); have HB2 := Lib.hid (HB1.out.grown hg1 HB1.out.size (fun k hk => by injection hk with hk; omega)); clear hm1 hg1 hs1) | (refine wpList_load_row rfl 73 (.tmp 2) rfl w.heap.size rfl 73 (cells8 L0) (0, 0) _ HBX3.out Try.underlying73 rfl HI8.out ?_) | fail)
  have HSEA0 := Lib.hid (show SeaG w (w.heap.size + 1) (runB nx [] L0 0).1 (runB nx [] L0 0).2 0 w1.heap.size 0 1 (w1.alloc (.cells (cells8 L0) 73)) from by
    have hl := World.ownsRow_lit (base := w.heap.size) (e := 73) (size := 8) w1 (cells8 L0) 1 (by have := HS2.out; omega) (by decide) hsz8
    refine ⟨[rd0], HM1.out.grown (World.grownBy_alloc w1 _ none) (fun e => by cases e), rfl, fun r hr => ?_, ?_, by have := HS2.out; omega, HB2.out.alloc HB2.out.size _⟩
    · rw [List.mem_singleton.1 hr]
      exact ⟨World.ownsRow_nil _ _ _ _, fun e => by cases e⟩
    · have hq := Que.q_of_own hl
      simpa [valsG, runB] using hq)
  have HW1 := HS2.out
  clear hP HM1 HBX3 HB2 HBX1 HB1 HM0 HKA hmm hlit hsz8 HS1 HI8
  go_loopw [6] (fun s6 wr => ∃ t : Nat, t ≤ N ∧ ∃ g off c, s6 = .slice (some ⟨g, off, none⟩) ((runB nx [] L0 t).1.length - t) c ∧ Hid (SeaG w (w.heap.size + 1) (runB nx [] L0 t).1 (runB nx [] L0 t).2 t g off c wr)) (fun s6 wr => N + lenV s6 - msz wr (w.heap.size + 1))
  case atStart => exact ⟨0, Nat.zero_le _, _, 0, 1, by rw [HW1]; rfl, HSEA0⟩
  case round =>
    obtain ⟨t, ht, g, off, c, rfl, HSEA⟩ := hrel
    obtain ⟨wo, rfl⟩ : ∃ W2, W2 = wr := ⟨wr, rfl⟩
    clear HSEA0 HW1
    by_cases hlt : t < N
    · obtain ⟨hst, htl⟩ := HRUN.out.st (k := 0) hlt (by omega)
      obtain ⟨RS, hM, hz, hR, hQ, hgb, hbw⟩ := HSEA.out
      obtain ⟨V, hV⟩ : ∃ V, V = (runB nx [] L0 t).1 := ⟨_, rfl⟩
      obtain ⟨W, hW⟩ : ∃ W, W = (runB nx [] L0 t).2 := ⟨_, rfl⟩
      have hst0 : stH nx [] L0 t 0 = runB nx [] L0 t := rfl
      rw [hst0, ← hV] at htl
      rw [hst0] at hst
      have hgd := hst.good
      have hfew := hst.few
      rw [← hV] at hM hQ hgd hfew
      rw [← hW] at hz
      obtain ⟨x0, hx0⟩ : ∃ x, x = V.getD t [] := ⟨_, rfl⟩
      have hmem : V.getD t [] ∈ V := by
        rw [List.getD_eq_getElem?_getD, List.getElem?_eq_getElem htl]
        exact List.getElem_mem htl
      have HX0 := Lib.hid (HGP.out _ (hgd _ hmem))
      rw [← hx0] at HX0
      have hx8 : x0.length ≤ 8 := by rw [HX0.out.1]; exact h2
      have HGET := Lib.hid (show ∀ k, k ≤ 2 → (stH nx [] L0 t k).1.getD t [] = x0 from fun k hk => by
        induction k with
        | zero => rw [hst0, ← hV, hx0]
        | succ k ih =>
          obtain ⟨q1, q2⟩ := HRUN.out.st (k := k) hlt (by omega)
          rw [show stH nx [] L0 t (k + 1) = half nx [] (stH nx [] L0 t k) t k from rfl, (half_keep nx [] _ t k t q2 (by rw [q1.same]; exact q2)).1]
          exact ih (by omega))
      obtain ⟨m, hm⟩ : ∃ m, V.length - t = m + 1 := ⟨V.length - t - 1, by omega⟩
      have hvd := vg_drop htl
      rw [← hx0] at hvd
      have HRNG := Lib.hid (show wo.rangeAt g off (cells8 x0).toList from fun j v hv => hQ.2.2.2.2 j v (by
        rw [hvd, List.getElem?_append_left (List.getElem?_eq_some_iff.1 hv).1]
        exact hv))
      have hnc := hQ.2.2.1
      have hmt : V.length - (t + 1) = m := by omega
      have hmle : m ≤ 24 := by omega
      have hmc : m + 1 ≤ c := by omega
      rw [← hV, hm]
      have hq1 : valsG (V.drop (t + 1)) = (valsG (V.drop t)).drop 8 := by
        rw [hvd, drop8 hx8]
      have HS1 := Lib.hid (show c ≠ 1 → SeaG w (w.heap.size + 1) (stH nx [] L0 t 0).1 (stH nx [] L0 t 0).2 (t + 1) g (off + 8) (c - 1) wo from fun _ => by
        refine ⟨RS, by rw [hst0, ← hV]; exact hM, by rw [hst0, ← hW]; exact hz, hR, ?_, hgb, hbw⟩
        rw [hst0, ← hV, hmt, hq1]
        rw [hm] at hQ
        exact Que.q_pop hQ)
      have HS2b := Lib.hid (show c = 1 → m = 0 ∧ SeaG w (w.heap.size + 1) (stH nx [] L0 t 0).1 (stH nx [] L0 t 0).2 (t + 1) g off 0 wo from fun hc1 => by
        have hm0 : m = 0 := by omega
        refine ⟨hm0, RS, by rw [hst0, ← hV]; exact hM, by rw [hst0, ← hW]; exact hz, hR, ?_, hgb, hbw⟩
        rw [hst0, ← hV, hmt, hm0, List.drop_of_length_le (by omega)]
        exact Que.q_end hQ)
      have hmsz := hM.msz
      have hVR : V.length = RS.length := by
        have h := congrArg List.length hz
        rw [List.length_map, hW, hst.same, ← hV] at h
        exact h.symm
      rw [kg_len hVR] at hmsz
      have HMSZ := Lib.hid hmsz
      have HVL := Lib.hid (show V.length = t + (m + 1) by omega)
      have HL0 := Lib.hid (show (stH nx [] L0 t 0).1.length - (t + 1) = m by rw [hst0, ← hV]; exact hmt)
      have hglt := hQ.1.2
      have HIX := Lib.hid (info8 hx8)
      have HC1 := Lib.hid (cells8_one x0)
      have HZ8 := Lib.hid (show Z8.size = (cells8 x0).size by rw [cells8_size hx8]; rfl)
      clear hM hz hR hQ hst hgd hfew hV hW hx0 hmem hq1 hmt hmsz hst0 HSEA hgb hm htl hnc hVR hvd
      obtain ⟨W7, hW7, hc7, hb7, hs7⟩ := new8 wo x0
      have HN7 := Lib.hid (new8z wo)
      by_cases hc1 : c = 1
      · obtain ⟨hm0, hsea⟩ := HS2b.out hc1
        subst hc1 hm0
        have HSI := Lib.hid hsea
        clear hsea HS1 HS2b
        go_wp2_with (first | (refine wpList_load_mid rfl 73 (.tmp 21) rfl g off rfl (cells8 x0).toList _ HRNG.out Try.underlying73 rfl (by simpa using HIX.out) ?_) | (refine wpList_store_row rfl 73 (.tmp 7) (.tmp 22) rfl wo.heap.size (cells8 x0) rfl rfl 73 Z8 HN7.out HIX.out HZ8.out HC1.out ?_) | fail)
        rw [← hW7]
        have HC7 := Lib.hid hc7
        have HSJ := Lib.hid (HSI.out.below hb7)
        have hwlt : wo.heap.size < W7.heap.size := by omega
        have hgn : g ≠ wo.heap.size := by omega
        have HGN := Lib.hid hgn
        clear hc7 hb7 HSI HN7 hW7 hs7 HRNG hgn hglt
        go_loopw [6, 25] (fun s6 s25 wr => ∃ k : Nat, k ≤ 2 ∧ s25 = .int .i64 (k : Int) ∧ ∃ g off c, s6 = .slice (some ⟨g, off, none⟩) ((stH nx [] L0 t k).1.length - (t + 1)) c ∧ Hid (SeaG w (w.heap.size + 1) (stH nx [] L0 t k).1 (stH nx [] L0 t k).2 (t + 1) g off c wr) ∧ Hid (g ≠ wo.heap.size) ∧ Hid (wr.heap[wo.heap.size]? = some (.cells (cells8 x0) 73 (0, 0))) ∧ wo.heap.size < wr.heap.size) (fun _ s25 _ => 2 - (intOf s25).toNat)
        case atStart => exact ⟨0, by omega, rfl, g, _, _, by first | rfl | (rw [HL0.out]; rfl) | rw [HL0.out], HSJ, HGN, HC7, hwlt⟩
        case round =>
          obtain ⟨k, hk, rfl, g2, off2, c2, rfl, HSK, HGN2, HC7k, hwlt2⟩ := hrel
          clear HSJ HC7 HGN hwlt
          by_cases hk2 : k < 2
          · obtain ⟨hst, htl⟩ := HRUN.out.st (k := k) hlt (by omega)
            have hget := HGET.out k hk
            obtain ⟨RS2, hM, hz, hR, hQ, hgb, hbw2⟩ := HSK.out
            obtain ⟨y, hy⟩ : ∃ y, y = nx k x0 := ⟨_, rfl⟩
            have HCK := Lib.hid (HCALL.out wr hbw2 k x0 (by omega) HX0.out.1)
            rw [← hy] at HCK
            have hhalf : stH nx [] L0 t (k + 1) = half nx [] (stH nx [] L0 t k) t k := rfl
            have HY := Lib.hid (HGP.out y ((HRUN.out.st (k := k + 1) hlt (by omega)).1.good y (by
              have h := half_mem nx [] (stH nx [] L0 t k) t k
              rw [hget, ← hy] at h
              rw [hhalf]
              exact h)))
            have hy8 : y.length ≤ 8 := by rw [HY.out.1]; exact h2
            obtain ⟨ky, hky⟩ := HY.out.2.2
            have hk1' : (k : Int) < 2 := by omega
            have hbg : w.heap.size ≤ g2 := hQ.1.1
            have hsamelen := hst.same
            have hfew := hst.few
            have hnd := hst.nodup
            have hsh := hst.short
            have hgood := hst.good
            have hold : y ∈ (stH nx [] L0 t k).1 → stH nx [] L0 t (k + 1) = stH nx [] L0 t k := fun h => by rw [hhalf]; exact half_old (by rw [hget, ← hy]; exact h)
            have hnew : y ∉ (stH nx [] L0 t k).1 → (stH nx [] L0 t (k + 1)).1 = (stH nx [] L0 t k).1 ++ [y] ∧ (stH nx [] L0 t (k + 1)).2 = (stH nx [] L0 t k).2 ++ [(stH nx [] L0 t k).2.getD t [] ++ [(k : Int)]] := fun h => by
              rw [hhalf, half_new (by rw [hget, ← hy]; exact h), hget, ← hy]
              exact ⟨rfl, rfl⟩
            generalize hV2 : (stH nx [] L0 t k).1 = V2 at *
            generalize hW2 : (stH nx [] L0 t k).2 = W2 at *
            have hall : ∀ x ∈ V2, x.length = n := fun x hx => (HGP.out x (hgood x hx)).1
            have hVR : V2.length = RS2.length := by
              have h := congrArg List.length hz
              rw [List.length_map, hsamelen] at h
              exact h.symm
            have HND := Lib.hid (kg_nodup hVR hnd hall)
            have HIY := Lib.hid (info8 hy8)
            have HCY := Lib.hid (cells8_one y)
            have HZY := Lib.hid (show Z8.size = (cells8 y).size by rw [cells8_size hy8]; rfl)
            have HKY := Lib.hid hky
            clear hky
            by_cases hin : y ∈ V2
            · have HOLD := Lib.hid (hold hin)
              obtain ⟨i, hi, hiy⟩ := List.mem_iff_getElem.1 hin
              have HIN := Lib.hid (show (enc y, (RS2.getD i rd0).v) ∈ kvG V2 RS2 from by
                have h := kg_at hVR hi
                rw [List.getD_eq_getElem?_getD (l := V2), List.getElem?_eq_getElem hi, Option.getD_some, hiy] at h
                exact h)
              have HM2 := Lib.hid hM
              have HSK2 : Hid (SeaG w (w.heap.size + 1) (stH nx [] L0 t (k + 1)).1 (stH nx [] L0 t (k + 1)).2 (t + 1) g2 off2 c2 wr) := by
                rw [HOLD.out, hV2, hW2]
                exact HSK
              have HLEN := Lib.hid (show (stH nx [] L0 t (k + 1)).1.length = V2.length by rw [HOLD.out, hV2])
              clear hM hz hR hQ hgb hbw2 hst hget hnew hold hhalf hnd hsh hsamelen hfew hVR hin hi hiy HOLD HSK hy hgood hall htl
              go_wp2_with (first | (refine wpList_load_row rfl 73 (.tmp 7) rfl wo.heap.size rfl 73 (cells8 x0) (0, 0) _ HC7k.out Try.underlying73 rfl HIX.out ?_) | fail)
              refine HCK.out.mono ?_
              rintro e w2 ⟨rfl, hb2⟩
              obtain ⟨W9, hW9, hc9, hb9, hs9⟩ := new8 w2 y
              subst hW9
              have hb29 := hb2.trans (hb9.mono hb2.size)
              have HN9 := Lib.hid (new8z w2)
              have HC9 := Lib.hid hc9
              have HS9 := Lib.hid (HSK2.out.below hb29)
              have HM9 := Lib.hid (HM2.out.below hb29 HM2.out.lt)
              have HC79 := Lib.hid ((hb29.block wo.heap.size hwlt2).trans HC7k.out)
              have hwlt9 := Nat.lt_of_lt_of_le hwlt2 hb29.size
              clear hb2 hb9 hb29 hc9 hs9 HSK2 HM2
              go_wp2_with (first | (refine wpList_store_row rfl 73 (.tmp 9) (.tmp 31) rfl w2.heap.size (cells8 y) rfl rfl 73 Z8 HN9.out HIY.out HZY.out HCY.out ?_) | (refine wpList_load_row rfl 73 (.tmp 9) rfl w2.heap.size rfl 73 (cells8 y) (0, 0) _ HC9.out Try.underlying73 rfl HIY.out ?_) | (at_lookup; refine wpList_hit rfl (.tmp 33) (.tmp 34) 74 true rfl keyedG Try.underlying74 (w.heap.size + 1) _ HM9.out rfl (enc y) _ _ rfl HKY.out HND.out HIN.out ?_) | fail)
              refine ⟨⟨k + 1, by omega, by go_num, g2, off2, c2, by rw [HLEN.out], HS9, HGN2, HC79, hwlt9⟩, ?_⟩
              simp [intOf]; omega
            · obtain ⟨HV3, HW3⟩ := hnew hin
              have htR : t < RS2.length := by omega
              obtain ⟨r, hr⟩ : ∃ r, r = RS2.getD t rd0 := ⟨_, rfl⟩
              have hrm : r ∈ RS2 := by
                rw [hr, List.getD_eq_getElem?_getD, List.getElem?_eq_getElem htR]
                exact List.getElem_mem htR
              have hrz : r.zs = W2.getD t [] := by
                rw [hr, ← hz]
                simp [List.getD_eq_getElem?_getD, List.getElem?_eq_getElem htR]
              have hrl : r.zs.length ≤ 12 := hsh _ (by rw [← hz]; exact List.mem_map.2 ⟨r, hrm, rfl⟩)
              obtain ⟨hro, hrg⟩ := hR r hrm
              have HIN := Lib.hid (show (enc x0, (Value.slice r.A r.zs.length r.c)) ∈ kvG V2 RS2 from by
                have h := kg_at hVR htl
                rw [hget, ← hr] at h
                exact h)
              have HNO := Lib.hid (show enc y ∉ (kvG V2 RS2).map Prod.fst from fun h => hin ((kg_mem hVR hall HY.out.1).1 h))
              obtain ⟨kx, hkx⟩ := HX0.out.2.2
              have HKX := Lib.hid hkx
              have HRO := Lib.hid hro
              have HRZ := Lib.hid hrz
              have HM2 := Lib.hid hM
              have HR2 := Lib.hid hR
              have HQ2 := Lib.hid hQ
              have HZ2 := Lib.hid hz
              have HVR := Lib.hid hVR
              have HB2 := Lib.hid hbw2
              have hszw := hbw2.size
              have hq2s : V2.length - (t + 1) ≤ 1048576 := by omega
              have htl2 : t + 1 ≤ V2.length := htl
              have hgsz := hQ.1.2
              clear hM hz hR hQ hbw2 hst hnew hold hhalf hnd hsh hsamelen hfew hVR HSK hy hr hrm hro hget htR hV2 hW2 hgood hall hkx hrz
              go_wp2_with (first | (refine wpList_load_row rfl 73 (.tmp 7) rfl wo.heap.size rfl 73 (cells8 x0) (0, 0) _ HC7k.out Try.underlying73 rfl HIX.out ?_) | fail)
              refine HCK.out.mono ?_
              rintro e w2 ⟨rfl, hb2⟩
              obtain ⟨W9, hW9, hc9, hb9, hs9⟩ := new8 w2 y
              subst hW9
              have hb29 := hb2.trans (hb9.mono hb2.size)
              have HN9 := Lib.hid (new8z w2)
              have HC9 := Lib.hid hc9
              have HM9 := Lib.hid (HM2.out.below hb29 HM2.out.lt)
              have hzr := zero_run ((w2.alloc (.cells #[Value.int .i64 0, .int .i64 0, .int .i64 0, .int .i64 0, .int .i64 0, .int .i64 0, .int .i64 0, .int .i64 0] 73)).setRow w2.heap.size (cells8 y))
              have HBX := Lib.hid hb29
              have hsw2 := hb2.size
              clear hb2 hb9 hb29 hc9
              go_upto_region 12 with (first | (refine wpList_store_row rfl 73 (.tmp 9) (.tmp 31) rfl w2.heap.size (cells8 y) rfl rfl 73 Z8 HN9.out HIY.out HZY.out HCY.out ?_) | (refine wpList_load_row rfl 73 (.tmp 9) rfl w2.heap.size rfl 73 (cells8 y) (0, 0) _ HC9.out Try.underlying73 rfl HIY.out ?_) | (at_lookup; refine wpList_miss rfl (.tmp 33) (.tmp 34) 74 true rfl keyedG Try.underlying74 (w.heap.size + 1) _ HM9.out rfl hzr (enc y) _ rfl HKY.out HNO.out ?_) | fail)
              obtain ⟨Wr, hWr⟩ : ∃ W, W = (w2.alloc (.cells #[Value.int .i64 0, .int .i64 0, .int .i64 0, .int .i64 0, .int .i64 0, .int .i64 0, .int .i64 0, .int .i64 0] 73)).setRow w2.heap.size (cells8 y) := ⟨_, rfl⟩
              rw [← hWr] at HC9 HM9 HBX
              rw [← hWr]
              clear hWr HN9 hzr hs9
              have HC79 := Lib.hid ((HBX.out.block wo.heap.size hwlt2).trans HC7k.out)
              have hwlt9 := Nat.lt_of_lt_of_le hwlt2 HBX.out.size
              go_cut [48] from 40 to 48 (fun s wx => Cut12 Wr (w.heap.size + 1) (kvG V2 RS2) y (r.zs ++ [(k : Int)]) wx)
              case first =>
                have HS0 : Hid (S12 (w.heap.size + 1) w2.heap.size wo.heap.size y x0 (.slice r.A r.zs.length r.c) Wr.drew) := ⟨HC9.out, HC79.out, _, HM9.out, HND.out, HIN.out⟩
                refine wp_region_held_drew (S := S12 (w.heap.size + 1) w2.heap.size wo.heap.size y x0 (.slice r.A r.zs.length r.c)) (by kernel_rfl) HS0.out (fun _ => ?_)
                refine wpAnyH_take (i := 0) rfl (by kernel_rfl) (by kernel_rfl) (by kernel_rfl) (fun _ _ _ h => h) (y_move rfl _ rfl) HS0.out ?_
                refine wpAnyH_take (i := 1) rfl (by kernel_rfl) (by kernel_rfl) (by kernel_rfl) (fun _ _ _ h => h) (y_load rfl _ rfl w2.heap.size rfl (cells8 y) (fun w h => h.1) HIY.out) HS0.out ?_
                refine wpAnyH_take (i := 2) rfl (by kernel_rfl) (by kernel_rfl) (by kernel_rfl) (fun _ _ _ h => h) (y_move rfl _ rfl) HS0.out ?_
                refine wpAnyH_take (i := 3) rfl (by kernel_rfl) (by kernel_rfl) (by kernel_rfl) (fun _ _ _ h => h) (y_load rfl _ rfl wo.heap.size rfl (cells8 x0) (fun w h => h.2.1) HIX.out) HS0.out ?_
                refine wpAnyH_take (i := 4) rfl (by kernel_rfl) (by kernel_rfl) (by kernel_rfl) (fun _ _ _ h => h) (y_look (key := enc x0) (val := .slice r.A r.zs.length r.c) rfl _ _ rfl (w.heap.size + 1) rfl rfl HKX.out (fun w h => h.2.2)) HS0.out ?_
                refine wpAnyH_take (i := 6) rfl (by kernel_rfl) (by kernel_rfl) (by kernel_rfl) (fun _ _ _ h => h) (y_move rfl _ rfl) HS0.out ?_
                have HRA := Lib.hid (show IntsAt Wr Wr.heap.size .i64 r.A r.zs from ints_of (own_below HRO.out HBX.out))
                refine wpAnyH_ready (rs := [5, 7]) (by kernel_rfl) (by simp) (AllReadyH.cons rfl (fun K hK => ?_) (AllReadyH.cons rfl (fun K hK => ?_) AllReadyH.nil))
                · go_simp
                  refine (clone_any r.A r.zs.length r.c r.zs Wr.drew rfl (by omega) (HRA.out.below (Below.refl Wr.heap.size Wr).drew)).mono ?_
                  rintro e w3 ⟨A5, c5, rfl, ho3, hb3⟩
                  have HBD := (Below.refl Wr.heap.size Wr).drew.trans hb3
                  have HB4 := Lib.hid (HBD.alloc HBD.size (.cells #[.int .i64 (k : Int)] 3))
                  have HS3 : Hid (S12 (w.heap.size + 1) w2.heap.size wo.heap.size y x0 (.slice r.A r.zs.length r.c) w3) := S12.below ⟨HC9.out, HC79.out, _, HM9.out, HND.out, HIN.out⟩ HBD HM9.out.lt
                  have HS4 : Hid (S12 (w.heap.size + 1) w2.heap.size wo.heap.size y x0 (.slice r.A r.zs.length r.c) (w3.alloc (.cells #[.int .i64 (k : Int)] 3))) := S12.below ⟨HC9.out, HC79.out, _, HM9.out, HND.out, HIN.out⟩ HB4.out HM9.out.lt
                  have HO4 := Lib.hid (show (w3.alloc (.cells #[.int .i64 (k : Int)] 3)).ownsRow Wr.heap.size 3 1 (.slice A5 r.zs.length c5) r.zs.length (vals r.zs) from ho3.alloc _)
                  have HLC := Lib.hid (show (w3.alloc (.cells #[.int .i64 (k : Int)] 3)).cell? ⟨w3.heap.size, 0, none⟩ = some (.int .i64 (k : Int)) from by
                    unfold World.cell?
                    rw [heap_alloc_new]; rfl)
                  refine hK.out _ _ HS3.out (fun _ => ?_)
                  clear hK K ho3 hb3 HBD
                  refine wpAnyH_ready (rs := [7]) (by kernel_rfl) (by simp) (AllReadyH.cons rfl (fun K hK => ?_) AllReadyH.nil)
                  go_simp
                  refine hK.out _ _ HS4.out (fun _ => ?_)
                  clear hK K
                  refine wpAnyH_ready (rs := [8]) (by kernel_rfl) (by simp) (AllReadyH.cons rfl (fun K hK => ?_) AllReadyH.nil)
                  rw [if_pos (by rfl)]
                  refine app_wp i0 hi hz0 hz1 hz2 (.tmp 45) (.tmp 47) (by rfl) A5 r.zs.length c5 r.zs Wr.heap.size (by rfl) HO4.out (k : Int) _ (by rfl) HLC.out (by omega) HB4.out.size ?_
                  intro g5 c6 w5 ho5 hg5
                  have HB5 := Lib.hid (HB4.out.grown hg5 HB4.out.size (fun k hk => (own_lo HO4.out k hk).1))
                  have HM5 := Lib.hid (HM9.out.below HB5.out HM9.out.lt)
                  have HS5 : Hid (S12 (w.heap.size + 1) w2.heap.size wo.heap.size y x0 (.slice r.A r.zs.length r.c) w5) := S12.below ⟨HC9.out, HC79.out, _, HM9.out, HND.out, HIN.out⟩ HB5.out HM9.out.lt
                  have HN5 := Lib.hid (new_row ho5)
                  refine hK.out _ _ HS5.out (fun _ => ?_)
                  clear hK K ho5 hg5
                  refine wpAnyH_ready (rs := [9]) (by kernel_rfl) (by simp) (AllReadyH.cons rfl (fun K hK => ?_) AllReadyH.nil)
                  rw [if_pos (by rfl)]
                  refine put_wp (.tmp 40) (.tmp 41) (.tmp 48) (by rfl) (w.heap.size + 1) _ HM5.out (by rfl) (enc y) (.slice (some ⟨g5, 0, none⟩) (r.zs.length + 1) c6) _ (by rfl) (by rfl) HKY.out HNO.out ?_
                  intro w6 hm6 hg6 hs6
                  have HS6 : Hid (S12 (w.heap.size + 1) w2.heap.size wo.heap.size y x0 (.slice r.A r.zs.length r.c) w6) := HS5.out.put HM5.out hm6 hg6 HND.out HNO.out HIN.out
                  have HCUT : Hid (Cut12 Wr (w.heap.size + 1) (kvG V2 RS2) y (r.zs ++ [(k : Int)]) w6) := ⟨w5, ⟨some ⟨g5, 0, none⟩, c6, r.zs ++ [(k : Int)]⟩, rfl, HB5.out, HN5.out, by rw [new_v]; exact hm6, hg6⟩
                  refine hK.out _ _ HS6.out (fun _ => ?_)
                  clear hK K hm6 hg6 hs6
                  refine wpAnyH_done (by kernel_rfl) ?_ _
                  go_wp2_with fail
                  go_meet
                  exact HCUT.out
                · go_simp
                  have HB3 := Lib.hid ((Below.refl Wr.heap.size Wr).drew.alloc (Nat.le_refl _) (.cells #[.int .i64 (k : Int)] 3))
                  have hsN : (Wr.drew.alloc (.cells #[.int .i64 (k : Int)] 3)).heap.size = Wr.heap.size + 1 := by simp
                  have HLI := Lib.hid (show (Wr.drew.alloc (.cells #[.int .i64 (k : Int)] 3)).heap[Wr.heap.size]? = some (.cells #[.int .i64 (k : Int)] 3 (0, 0)) from heap_alloc_new Wr.drew _)
                  have HS3 : Hid (S12 (w.heap.size + 1) w2.heap.size wo.heap.size y x0 (.slice r.A r.zs.length r.c) (Wr.drew.alloc (.cells #[.int .i64 (k : Int)] 3))) := S12.below ⟨HC9.out, HC79.out, _, HM9.out, HND.out, HIN.out⟩ HB3.out HM9.out.lt
                  have HRA3 := Lib.hid (show IntsAt (Wr.drew.alloc (.cells #[.int .i64 (k : Int)] 3)) (Wr.drew.alloc (.cells #[.int .i64 (k : Int)] 3)).heap.size .i64 r.A r.zs from ints_of (own_below HRO.out (HBX.out.trans (HB3.out.mono HBX.out.size))))
                  refine hK.out _ _ HS3.out (fun _ => ?_)
                  clear hK K
                  refine wpAnyH_ready (rs := [5]) (by kernel_rfl) (by simp) (AllReadyH.cons rfl (fun K hK => ?_) AllReadyH.nil)
                  go_simp
                  refine (clone_any r.A r.zs.length r.c r.zs _ rfl (by omega) HRA3.out).mono ?_
                  rintro e w4 ⟨A5, c5, rfl, ho3, hb3⟩
                  have HB4 := Lib.hid (HB3.out.trans (hb3.mono HB3.out.size))
                  have HS4 : Hid (S12 (w.heap.size + 1) w2.heap.size wo.heap.size y x0 (.slice r.A r.zs.length r.c) w4) := S12.below ⟨HC9.out, HC79.out, _, HM9.out, HND.out, HIN.out⟩ HB4.out HM9.out.lt
                  have HO4 := Lib.hid (show w4.ownsRow Wr.heap.size 3 1 (.slice A5 r.zs.length c5) r.zs.length (vals r.zs) from own_mono ho3 HB3.out.size)
                  have HLC := Lib.hid (show w4.cell? ⟨Wr.heap.size, 0, none⟩ = some (.int .i64 (k : Int)) from by
                    unfold World.cell?
                    rw [(hb3.block Wr.heap.size (by omega)).trans HLI.out]; rfl)
                  refine hK.out _ _ HS4.out (fun _ => ?_)
                  clear hK K ho3 hb3
                  refine wpAnyH_ready (rs := [8]) (by kernel_rfl) (by simp) (AllReadyH.cons rfl (fun K hK => ?_) AllReadyH.nil)
                  rw [if_pos (by rfl)]
                  refine app_wp i0 hi hz0 hz1 hz2 (.tmp 45) (.tmp 47) (by rfl) A5 r.zs.length c5 r.zs Wr.heap.size (by rfl) HO4.out (k : Int) _ (by rfl) HLC.out (by omega) HB4.out.size ?_
                  intro g5 c6 w5 ho5 hg5
                  have HB5 := Lib.hid (HB4.out.grown hg5 HB4.out.size (fun k hk => (own_lo HO4.out k hk).1))
                  have HM5 := Lib.hid (HM9.out.below HB5.out HM9.out.lt)
                  have HS5 : Hid (S12 (w.heap.size + 1) w2.heap.size wo.heap.size y x0 (.slice r.A r.zs.length r.c) w5) := S12.below ⟨HC9.out, HC79.out, _, HM9.out, HND.out, HIN.out⟩ HB5.out HM9.out.lt
                  have HN5 := Lib.hid (new_row ho5)
                  refine hK.out _ _ HS5.out (fun _ => ?_)
                  clear hK K ho5 hg5
                  refine wpAnyH_ready (rs := [9]) (by kernel_rfl) (by simp) (AllReadyH.cons rfl (fun K hK => ?_) AllReadyH.nil)
                  rw [if_pos (by rfl)]
                  refine put_wp (.tmp 40) (.tmp 41) (.tmp 48) (by rfl) (w.heap.size + 1) _ HM5.out (by rfl) (enc y) (.slice (some ⟨g5, 0, none⟩) (r.zs.length + 1) c6) _ (by rfl) (by rfl) HKY.out HNO.out ?_
                  intro w6 hm6 hg6 hs6
                  have HS6 : Hid (S12 (w.heap.size + 1) w2.heap.size wo.heap.size y x0 (.slice r.A r.zs.length r.c) w6) := HS5.out.put HM5.out hm6 hg6 HND.out HNO.out HIN.out
                  have HCUT : Hid (Cut12 Wr (w.heap.size + 1) (kvG V2 RS2) y (r.zs ++ [(k : Int)]) w6) := ⟨w5, ⟨some ⟨g5, 0, none⟩, c6, r.zs ++ [(k : Int)]⟩, rfl, HB5.out, HN5.out, by rw [new_v]; exact hm6, hg6⟩
                  refine hK.out _ _ HS6.out (fun _ => ?_)
                  clear hK K hm6 hg6 hs6
                  refine wpAnyH_done (by kernel_rfl) ?_ _
                  go_wp2_with fail
                  go_meet
                  exact HCUT.out
              case rest =>
              obtain ⟨w3, r', hz', hb3, hown', hm', hg'⟩ := hcut
              have HM3 := Lib.hid (HM9.out.below hb3 HM9.out.lt)
              have HR3 := Lib.hid ((HR2.out.below HBX.out).below hb3)
              have HQ3 := Lib.hid (Que.q_below (Que.q_below HQ2.out HBX.out) hb3)
              have HB3 := Lib.hid ((HB2.out.trans (HBX.out.mono hszw)).trans (hb3.mono (Nat.le_trans hszw HBX.out.size)))
              have HNEW := Lib.hid (own_mono hown' (Nat.le_trans hszw HBX.out.size))
              have HRG := Lib.hid (show r'.b ≠ some g2 from fun e => by
                have := (rd_own hown' g2 e).1
                have := HBX.out.size
                omega)
              have HM4 := Lib.hid hm'
              have HG4 := Lib.hid hg'
              have HZ' := Lib.hid hz'
              obtain ⟨k9, k7⟩ := keep12 HM3.out ((hb3.block w2.heap.size (Array.getElem?_eq_some_iff.1 HC9.out).1).trans HC9.out) ((hb3.block wo.heap.size hwlt9).trans HC79.out) hg'
              have HK9 := Lib.hid k9
              have HK7 := Lib.hid k7
              have HQ4 := Lib.hid (Que.q_kept HQ3.out hg' (fun e => by injection e with e; exact hgb e.symm))
              have hsz4 : w.heap.size ≤ wc.heap.size := Nat.le_trans HB3.out.size hg'.size
              have hwlt4 : wo.heap.size < wc.heap.size := Nat.lt_of_lt_of_le (Nat.lt_of_lt_of_le hwlt9 hb3.size) hg'.size
              have hszy := cells8_size hy8
              have hlity := lit8 (cells8 y) hszy
              obtain ⟨ig, hig, hgz, hgs, hgb2⟩ := info_grp
              clear hz' hb3 hown' hm' hg' k9 k7 HQ2 HR2 HM2 HBX HC9 HC79 HM9 HIN HND HNO HRO
              go_wp2_with (first | (refine wpList_load_row rfl 73 (.tmp 9) rfl w2.heap.size rfl 73 (cells8 y) (0, 0) _ HK9.out Try.underlying73 rfl HIY.out ?_) | (at_builtin; refine Que.app_q rfl (.tmp 49) (.tmp 51) 97 rfl w.heap.size 73 ig _ 8 64 Try.underlying97 hig hgz hgs hgb2 (by decide) rfl (by decide) g2 off2 _ c2 _ rfl HQ4.out (cells8 y) hszy (cells8_mem y) _ rfl rfl hq2s hsz4 ?_; intro g' off' c' w5 hq5 hg5' hgg; skip) | fail)
              have HSN := Lib.hid (seag_put HVR.out HZ2.out HM3.out HR3.out HNEW.out HRG.out HM4.out HG4.out hg5' hgb hgg HB3.out (Nat.le_succ _) hbg htl2 hq5)
              have HSF := Lib.hid (show SeaG w (w.heap.size + 1) (stH nx [] L0 t (k + 1)).1 (stH nx [] L0 t (k + 1)).2 (t + 1) g' off' c' w5 by rw [HV3, HW3, ← HRZ.out, ← HZ'.out]; exact HSN.out)
              have HLN := Lib.hid (show V2.length - (t + 1) + 1 = (stH nx [] L0 t (k + 1)).1.length - (t + 1) by rw [HV3, List.length_append, List.length_singleton]; omega)
              have HGN5 := Lib.hid (show g' ≠ wo.heap.size from by
                rcases hgg with e | e
                · rw [e]; exact HGN2.out
                · omega)
              have HC5 := Lib.hid ((hg5'.block wo.heap.size hwlt4 (fun e => HGN2.out (by injection e with e; exact e.symm))).trans HK7.out)
              have hwlt5 : wo.heap.size < w5.heap.size := Nat.lt_of_lt_of_le hwlt4 hg5'.size
              clear HSN hq5 hg5' hgg
              first
                | refine ⟨⟨_, _, _, _, _, _, ⟨k + 1, by omega, rfl, g', off', c', by rw [← HLN.out], HSF, HGN5, HC5, hwlt5⟩, rfl, rfl, rfl, rfl, rfl, by go_num⟩, ?_⟩
                | refine ⟨⟨k + 1, by omega, by go_num, g', off', c', by rw [← HLN.out], HSF, HGN5, HC5, hwlt5⟩, ?_⟩
              simp [intOf]; omega
          · have hk2' : k = 2 := by omega
            subst hk2'
            obtain ⟨hst, htl⟩ := HRUN.out.st (k := 2) hlt (by omega)
            obtain ⟨RS2, hM, hz, hR, hQ, hgb, hbw2⟩ := HSK.out
            have hVR : (stH nx [] L0 t 2).1.length = RS2.length := by
              have h := congrArg List.length hz
              rw [List.length_map, hst.same] at h
              exact h.symm
            have hms := hM.msz
            rw [kg_len hVR] at hms
            obtain ⟨L, hL⟩ : ∃ L, L = (stH nx [] L0 t 2).1.length := ⟨_, rfl⟩
            have hL2 : (runB nx [] L0 (t + 1)).1.length = L := hL.symm
            have HSN := Lib.hid (show SeaG w (w.heap.size + 1) (runB nx [] L0 (t + 1)).1 (runB nx [] L0 (t + 1)).2 (t + 1) g2 off2 c2 wr from HSK.out)
            rw [← hL] at hms htl
            have HM3 := Lib.hid hms
            clear hM hz hR hQ hgb hbw2 hst hVR HSK hms
            rw [← hL]
            clear hL
            go_wp2
            first
              | refine ⟨⟨t + 1, by omega, g2, off2, c2, by rw [hL2], HSN⟩, ?_⟩
              | refine ⟨⟨_, _, _, _, _, _, _, _, _, _, _, _, _, _, _, _, _, _, _, _, _, _, _, _, _, _, _, _, _, _, _, _, _, _, _, _, _, _, _, _, _, _, _, ⟨t + 1, by omega, g2, off2, c2, by rw [hL2], HSN⟩, rfl⟩, ?_⟩
            have e1 := HMSZ.out
            have e2 := HM3.out
            have e3 := HVL.out
            simp [lenV, e1, e2]
            omega
      · have HSI := Lib.hid (HS1.out hc1)
        have hcc1 : ¬ c = 1 := hc1
        have hcc2 : ¬ (c : Int) = 1 := by omega
        have hcm : m ≤ c - 1 := by omega
        clear HS1 HS2b hc1
        go_wp2_with (first | (refine wpList_load_mid rfl 73 (.tmp 21) rfl g off rfl (cells8 x0).toList _ HRNG.out Try.underlying73 rfl (by simpa using HIX.out) ?_) | (refine wpList_store_row rfl 73 (.tmp 7) (.tmp 22) rfl wo.heap.size (cells8 x0) rfl rfl 73 Z8 HN7.out HIX.out HZ8.out HC1.out ?_) | fail)
        rw [← hW7]
        have HC7 := Lib.hid hc7
        have HSJ := Lib.hid (HSI.out.below hb7)
        have hwlt : wo.heap.size < W7.heap.size := by omega
        have hgn : g ≠ wo.heap.size := by omega
        have HGN := Lib.hid hgn
        clear hc7 hb7 HSI HN7 hW7 hs7 HRNG hgn hglt
        go_loopw [6, 25] (fun s6 s25 wr => ∃ k : Nat, k ≤ 2 ∧ s25 = .int .i64 (k : Int) ∧ ∃ g off c, s6 = .slice (some ⟨g, off, none⟩) ((stH nx [] L0 t k).1.length - (t + 1)) c ∧ Hid (SeaG w (w.heap.size + 1) (stH nx [] L0 t k).1 (stH nx [] L0 t k).2 (t + 1) g off c wr) ∧ Hid (g ≠ wo.heap.size) ∧ Hid (wr.heap[wo.heap.size]? = some (.cells (cells8 x0) 73 (0, 0))) ∧ wo.heap.size < wr.heap.size) (fun _ s25 _ => 2 - (intOf s25).toNat)
        case atStart => exact ⟨0, by omega, rfl, g, _, _, by first | rfl | (rw [HL0.out]; rfl) | rw [HL0.out], HSJ, HGN, HC7, hwlt⟩
        case round =>
          obtain ⟨k, hk, rfl, g2, off2, c2, rfl, HSK, HGN2, HC7k, hwlt2⟩ := hrel
          clear HSJ HC7 HGN hwlt
          by_cases hk2 : k < 2
          · obtain ⟨hst, htl⟩ := HRUN.out.st (k := k) hlt (by omega)
            have hget := HGET.out k hk
            obtain ⟨RS2, hM, hz, hR, hQ, hgb, hbw2⟩ := HSK.out
            obtain ⟨y, hy⟩ : ∃ y, y = nx k x0 := ⟨_, rfl⟩
            have HCK := Lib.hid (HCALL.out wr hbw2 k x0 (by omega) HX0.out.1)
            rw [← hy] at HCK
            have hhalf : stH nx [] L0 t (k + 1) = half nx [] (stH nx [] L0 t k) t k := rfl
            have HY := Lib.hid (HGP.out y ((HRUN.out.st (k := k + 1) hlt (by omega)).1.good y (by
              have h := half_mem nx [] (stH nx [] L0 t k) t k
              rw [hget, ← hy] at h
              rw [hhalf]
              exact h)))
            have hy8 : y.length ≤ 8 := by rw [HY.out.1]; exact h2
            obtain ⟨ky, hky⟩ := HY.out.2.2
            have hk1' : (k : Int) < 2 := by omega
            have hbg : w.heap.size ≤ g2 := hQ.1.1
            have hsamelen := hst.same
            have hfew := hst.few
            have hnd := hst.nodup
            have hsh := hst.short
            have hgood := hst.good
            have hold : y ∈ (stH nx [] L0 t k).1 → stH nx [] L0 t (k + 1) = stH nx [] L0 t k := fun h => by rw [hhalf]; exact half_old (by rw [hget, ← hy]; exact h)
            have hnew : y ∉ (stH nx [] L0 t k).1 → (stH nx [] L0 t (k + 1)).1 = (stH nx [] L0 t k).1 ++ [y] ∧ (stH nx [] L0 t (k + 1)).2 = (stH nx [] L0 t k).2 ++ [(stH nx [] L0 t k).2.getD t [] ++ [(k : Int)]] := fun h => by
              rw [hhalf, half_new (by rw [hget, ← hy]; exact h), hget, ← hy]
              exact ⟨rfl, rfl⟩
            generalize hV2 : (stH nx [] L0 t k).1 = V2 at *
            generalize hW2 : (stH nx [] L0 t k).2 = W2 at *
            have hall : ∀ x ∈ V2, x.length = n := fun x hx => (HGP.out x (hgood x hx)).1
            have hVR : V2.length = RS2.length := by
              have h := congrArg List.length hz
              rw [List.length_map, hsamelen] at h
              exact h.symm
            have HND := Lib.hid (kg_nodup hVR hnd hall)
            have HIY := Lib.hid (info8 hy8)
            have HCY := Lib.hid (cells8_one y)
            have HZY := Lib.hid (show Z8.size = (cells8 y).size by rw [cells8_size hy8]; rfl)
            have HKY := Lib.hid hky
            clear hky
            by_cases hin : y ∈ V2
            · have HOLD := Lib.hid (hold hin)
              obtain ⟨i, hi, hiy⟩ := List.mem_iff_getElem.1 hin
              have HIN := Lib.hid (show (enc y, (RS2.getD i rd0).v) ∈ kvG V2 RS2 from by
                have h := kg_at hVR hi
                rw [List.getD_eq_getElem?_getD (l := V2), List.getElem?_eq_getElem hi, Option.getD_some, hiy] at h
                exact h)
              have HM2 := Lib.hid hM
              have HSK2 : Hid (SeaG w (w.heap.size + 1) (stH nx [] L0 t (k + 1)).1 (stH nx [] L0 t (k + 1)).2 (t + 1) g2 off2 c2 wr) := by
                rw [HOLD.out, hV2, hW2]
                exact HSK
              have HLEN := Lib.hid (show (stH nx [] L0 t (k + 1)).1.length = V2.length by rw [HOLD.out, hV2])
              clear hM hz hR hQ hgb hbw2 hst hget hnew hold hhalf hnd hsh hsamelen hfew hVR hin hi hiy HOLD HSK hy hgood hall htl
              go_wp2_with (first | (refine wpList_load_row rfl 73 (.tmp 7) rfl wo.heap.size rfl 73 (cells8 x0) (0, 0) _ HC7k.out Try.underlying73 rfl HIX.out ?_) | fail)
              refine HCK.out.mono ?_
              rintro e w2 ⟨rfl, hb2⟩
              obtain ⟨W9, hW9, hc9, hb9, hs9⟩ := new8 w2 y
              subst hW9
              have hb29 := hb2.trans (hb9.mono hb2.size)
              have HN9 := Lib.hid (new8z w2)
              have HC9 := Lib.hid hc9
              have HS9 := Lib.hid (HSK2.out.below hb29)
              have HM9 := Lib.hid (HM2.out.below hb29 HM2.out.lt)
              have HC79 := Lib.hid ((hb29.block wo.heap.size hwlt2).trans HC7k.out)
              have hwlt9 := Nat.lt_of_lt_of_le hwlt2 hb29.size
              clear hb2 hb9 hb29 hc9 hs9 HSK2 HM2
              go_wp2_with (first | (refine wpList_store_row rfl 73 (.tmp 9) (.tmp 31) rfl w2.heap.size (cells8 y) rfl rfl 73 Z8 HN9.out HIY.out HZY.out HCY.out ?_) | (refine wpList_load_row rfl 73 (.tmp 9) rfl w2.heap.size rfl 73 (cells8 y) (0, 0) _ HC9.out Try.underlying73 rfl HIY.out ?_) | (at_lookup; refine wpList_hit rfl (.tmp 33) (.tmp 34) 74 true rfl keyedG Try.underlying74 (w.heap.size + 1) _ HM9.out rfl (enc y) _ _ rfl HKY.out HND.out HIN.out ?_) | fail)
              refine ⟨⟨k + 1, by omega, by go_num, g2, off2, c2, by rw [HLEN.out], HS9, HGN2, HC79, hwlt9⟩, ?_⟩
              simp [intOf]; omega
            · obtain ⟨HV3, HW3⟩ := hnew hin
              have htR : t < RS2.length := by omega
              obtain ⟨r, hr⟩ : ∃ r, r = RS2.getD t rd0 := ⟨_, rfl⟩
              have hrm : r ∈ RS2 := by
                rw [hr, List.getD_eq_getElem?_getD, List.getElem?_eq_getElem htR]
                exact List.getElem_mem htR
              have hrz : r.zs = W2.getD t [] := by
                rw [hr, ← hz]
                simp [List.getD_eq_getElem?_getD, List.getElem?_eq_getElem htR]
              have hrl : r.zs.length ≤ 12 := hsh _ (by rw [← hz]; exact List.mem_map.2 ⟨r, hrm, rfl⟩)
              obtain ⟨hro, hrg⟩ := hR r hrm
              have HIN := Lib.hid (show (enc x0, (Value.slice r.A r.zs.length r.c)) ∈ kvG V2 RS2 from by
                have h := kg_at hVR htl
                rw [hget, ← hr] at h
                exact h)
              have HNO := Lib.hid (show enc y ∉ (kvG V2 RS2).map Prod.fst from fun h => hin ((kg_mem hVR hall HY.out.1).1 h))
              obtain ⟨kx, hkx⟩ := HX0.out.2.2
              have HKX := Lib.hid hkx
              have HRO := Lib.hid hro
              have HRZ := Lib.hid hrz
              have HM2 := Lib.hid hM
              have HR2 := Lib.hid hR
              have HQ2 := Lib.hid hQ
              have HZ2 := Lib.hid hz
              have HVR := Lib.hid hVR
              have HB2 := Lib.hid hbw2
              have hszw := hbw2.size
              have hq2s : V2.length - (t + 1) ≤ 1048576 := by omega
              have htl2 : t + 1 ≤ V2.length := htl
              have hgsz := hQ.1.2
              clear hM hz hR hQ hbw2 hst hnew hold hhalf hnd hsh hsamelen hfew hVR HSK hy hr hrm hro hget htR hV2 hW2 hgood hall hkx hrz
              go_wp2_with (first | (refine wpList_load_row rfl 73 (.tmp 7) rfl wo.heap.size rfl 73 (cells8 x0) (0, 0) _ HC7k.out Try.underlying73 rfl HIX.out ?_) | fail)
              refine HCK.out.mono ?_
              rintro e w2 ⟨rfl, hb2⟩
              obtain ⟨W9, hW9, hc9, hb9, hs9⟩ := new8 w2 y
              subst hW9
              have hb29 := hb2.trans (hb9.mono hb2.size)
              have HN9 := Lib.hid (new8z w2)
              have HC9 := Lib.hid hc9
              have HM9 := Lib.hid (HM2.out.below hb29 HM2.out.lt)
              have hzr := zero_run ((w2.alloc (.cells #[Value.int .i64 0, .int .i64 0, .int .i64 0, .int .i64 0, .int .i64 0, .int .i64 0, .int .i64 0, .int .i64 0] 73)).setRow w2.heap.size (cells8 y))
              have HBX := Lib.hid hb29
              have hsw2 := hb2.size
              clear hb2 hb9 hb29 hc9
              go_upto_region 12 with (first | (refine wpList_store_row rfl 73 (.tmp 9) (.tmp 31) rfl w2.heap.size (cells8 y) rfl rfl 73 Z8 HN9.out HIY.out HZY.out HCY.out ?_) | (refine wpList_load_row rfl 73 (.tmp 9) rfl w2.heap.size rfl 73 (cells8 y) (0, 0) _ HC9.out Try.underlying73 rfl HIY.out ?_) | (at_lookup; refine wpList_miss rfl (.tmp 33) (.tmp 34) 74 true rfl keyedG Try.underlying74 (w.heap.size + 1) _ HM9.out rfl hzr (enc y) _ rfl HKY.out HNO.out ?_) | fail)
              obtain ⟨Wr, hWr⟩ : ∃ W, W = (w2.alloc (.cells #[Value.int .i64 0, .int .i64 0, .int .i64 0, .int .i64 0, .int .i64 0, .int .i64 0, .int .i64 0, .int .i64 0] 73)).setRow w2.heap.size (cells8 y) := ⟨_, rfl⟩
              rw [← hWr] at HC9 HM9 HBX
              rw [← hWr]
              clear hWr HN9 hzr hs9
              have HC79 := Lib.hid ((HBX.out.block wo.heap.size hwlt2).trans HC7k.out)
              have hwlt9 := Nat.lt_of_lt_of_le hwlt2 HBX.out.size
              go_cut [48] from 40 to 48 (fun s wx => Cut12 Wr (w.heap.size + 1) (kvG V2 RS2) y (r.zs ++ [(k : Int)]) wx)
              case first =>
                have HS0 : Hid (S12 (w.heap.size + 1) w2.heap.size wo.heap.size y x0 (.slice r.A r.zs.length r.c) Wr.drew) := ⟨HC9.out, HC79.out, _, HM9.out, HND.out, HIN.out⟩
                refine wp_region_held_drew (S := S12 (w.heap.size + 1) w2.heap.size wo.heap.size y x0 (.slice r.A r.zs.length r.c)) (by kernel_rfl) HS0.out (fun _ => ?_)
                refine wpAnyH_take (i := 0) rfl (by kernel_rfl) (by kernel_rfl) (by kernel_rfl) (fun _ _ _ h => h) (y_move rfl _ rfl) HS0.out ?_
                refine wpAnyH_take (i := 1) rfl (by kernel_rfl) (by kernel_rfl) (by kernel_rfl) (fun _ _ _ h => h) (y_load rfl _ rfl w2.heap.size rfl (cells8 y) (fun w h => h.1) HIY.out) HS0.out ?_
                refine wpAnyH_take (i := 2) rfl (by kernel_rfl) (by kernel_rfl) (by kernel_rfl) (fun _ _ _ h => h) (y_move rfl _ rfl) HS0.out ?_
                refine wpAnyH_take (i := 3) rfl (by kernel_rfl) (by kernel_rfl) (by kernel_rfl) (fun _ _ _ h => h) (y_load rfl _ rfl wo.heap.size rfl (cells8 x0) (fun w h => h.2.1) HIX.out) HS0.out ?_
                refine wpAnyH_take (i := 4) rfl (by kernel_rfl) (by kernel_rfl) (by kernel_rfl) (fun _ _ _ h => h) (y_look (key := enc x0) (val := .slice r.A r.zs.length r.c) rfl _ _ rfl (w.heap.size + 1) rfl rfl HKX.out (fun w h => h.2.2)) HS0.out ?_
                refine wpAnyH_take (i := 6) rfl (by kernel_rfl) (by kernel_rfl) (by kernel_rfl) (fun _ _ _ h => h) (y_move rfl _ rfl) HS0.out ?_
                have HRA := Lib.hid (show IntsAt Wr Wr.heap.size .i64 r.A r.zs from ints_of (own_below HRO.out HBX.out))
                refine wpAnyH_ready (rs := [5, 7]) (by kernel_rfl) (by simp) (AllReadyH.cons rfl (fun K hK => ?_) (AllReadyH.cons rfl (fun K hK => ?_) AllReadyH.nil))
                · go_simp
                  refine (clone_any r.A r.zs.length r.c r.zs Wr.drew rfl (by omega) (HRA.out.below (Below.refl Wr.heap.size Wr).drew)).mono ?_
                  rintro e w3 ⟨A5, c5, rfl, ho3, hb3⟩
                  have HBD := (Below.refl Wr.heap.size Wr).drew.trans hb3
                  have HB4 := Lib.hid (HBD.alloc HBD.size (.cells #[.int .i64 (k : Int)] 3))
                  have HS3 : Hid (S12 (w.heap.size + 1) w2.heap.size wo.heap.size y x0 (.slice r.A r.zs.length r.c) w3) := S12.below ⟨HC9.out, HC79.out, _, HM9.out, HND.out, HIN.out⟩ HBD HM9.out.lt
                  have HS4 : Hid (S12 (w.heap.size + 1) w2.heap.size wo.heap.size y x0 (.slice r.A r.zs.length r.c) (w3.alloc (.cells #[.int .i64 (k : Int)] 3))) := S12.below ⟨HC9.out, HC79.out, _, HM9.out, HND.out, HIN.out⟩ HB4.out HM9.out.lt
                  have HO4 := Lib.hid (show (w3.alloc (.cells #[.int .i64 (k : Int)] 3)).ownsRow Wr.heap.size 3 1 (.slice A5 r.zs.length c5) r.zs.length (vals r.zs) from ho3.alloc _)
                  have HLC := Lib.hid (show (w3.alloc (.cells #[.int .i64 (k : Int)] 3)).cell? ⟨w3.heap.size, 0, none⟩ = some (.int .i64 (k : Int)) from by
                    unfold World.cell?
                    rw [heap_alloc_new]; rfl)
                  refine hK.out _ _ HS3.out (fun _ => ?_)
                  clear hK K ho3 hb3 HBD
                  refine wpAnyH_ready (rs := [7]) (by kernel_rfl) (by simp) (AllReadyH.cons rfl (fun K hK => ?_) AllReadyH.nil)
                  go_simp
                  refine hK.out _ _ HS4.out (fun _ => ?_)
                  clear hK K
                  refine wpAnyH_ready (rs := [8]) (by kernel_rfl) (by simp) (AllReadyH.cons rfl (fun K hK => ?_) AllReadyH.nil)
                  rw [if_pos (by rfl)]
                  refine app_wp i0 hi hz0 hz1 hz2 (.tmp 45) (.tmp 47) (by rfl) A5 r.zs.length c5 r.zs Wr.heap.size (by rfl) HO4.out (k : Int) _ (by rfl) HLC.out (by omega) HB4.out.size ?_
                  intro g5 c6 w5 ho5 hg5
                  have HB5 := Lib.hid (HB4.out.grown hg5 HB4.out.size (fun k hk => (own_lo HO4.out k hk).1))
                  have HM5 := Lib.hid (HM9.out.below HB5.out HM9.out.lt)
                  have HS5 : Hid (S12 (w.heap.size + 1) w2.heap.size wo.heap.size y x0 (.slice r.A r.zs.length r.c) w5) := S12.below ⟨HC9.out, HC79.out, _, HM9.out, HND.out, HIN.out⟩ HB5.out HM9.out.lt
                  have HN5 := Lib.hid (new_row ho5)
                  refine hK.out _ _ HS5.out (fun _ => ?_)
                  clear hK K ho5 hg5
                  refine wpAnyH_ready (rs := [9]) (by kernel_rfl) (by simp) (AllReadyH.cons rfl (fun K hK => ?_) AllReadyH.nil)
                  rw [if_pos (by rfl)]
                  refine put_wp (.tmp 40) (.tmp 41) (.tmp 48) (by rfl) (w.heap.size + 1) _ HM5.out (by rfl) (enc y) (.slice (some ⟨g5, 0, none⟩) (r.zs.length + 1) c6) _ (by rfl) (by rfl) HKY.out HNO.out ?_
                  intro w6 hm6 hg6 hs6
                  have HS6 : Hid (S12 (w.heap.size + 1) w2.heap.size wo.heap.size y x0 (.slice r.A r.zs.length r.c) w6) := HS5.out.put HM5.out hm6 hg6 HND.out HNO.out HIN.out
                  have HCUT : Hid (Cut12 Wr (w.heap.size + 1) (kvG V2 RS2) y (r.zs ++ [(k : Int)]) w6) := ⟨w5, ⟨some ⟨g5, 0, none⟩, c6, r.zs ++ [(k : Int)]⟩, rfl, HB5.out, HN5.out, by rw [new_v]; exact hm6, hg6⟩
                  refine hK.out _ _ HS6.out (fun _ => ?_)
                  clear hK K hm6 hg6 hs6
                  refine wpAnyH_done (by kernel_rfl) ?_ _
                  go_wp2_with fail
                  go_meet
                  exact HCUT.out
                · go_simp
                  have HB3 := Lib.hid ((Below.refl Wr.heap.size Wr).drew.alloc (Nat.le_refl _) (.cells #[.int .i64 (k : Int)] 3))
                  have hsN : (Wr.drew.alloc (.cells #[.int .i64 (k : Int)] 3)).heap.size = Wr.heap.size + 1 := by simp
                  have HLI := Lib.hid (show (Wr.drew.alloc (.cells #[.int .i64 (k : Int)] 3)).heap[Wr.heap.size]? = some (.cells #[.int .i64 (k : Int)] 3 (0, 0)) from heap_alloc_new Wr.drew _)
                  have HS3 : Hid (S12 (w.heap.size + 1) w2.heap.size wo.heap.size y x0 (.slice r.A r.zs.length r.c) (Wr.drew.alloc (.cells #[.int .i64 (k : Int)] 3))) := S12.below ⟨HC9.out, HC79.out, _, HM9.out, HND.out, HIN.out⟩ HB3.out HM9.out.lt
                  have HRA3 := Lib.hid (show IntsAt (Wr.drew.alloc (.cells #[.int .i64 (k : Int)] 3)) (Wr.drew.alloc (.cells #[.int .i64 (k : Int)] 3)).heap.size .i64 r.A r.zs from ints_of (own_below HRO.out (HBX.out.trans (HB3.out.mono HBX.out.size))))
                  refine hK.out _ _ HS3.out (fun _ => ?_)
                  clear hK K
                  refine wpAnyH_ready (rs := [5]) (by kernel_rfl) (by simp) (AllReadyH.cons rfl (fun K hK => ?_) AllReadyH.nil)
                  go_simp
                  refine (clone_any r.A r.zs.length r.c r.zs _ rfl (by omega) HRA3.out).mono ?_
                  rintro e w4 ⟨A5, c5, rfl, ho3, hb3⟩
                  have HB4 := Lib.hid (HB3.out.trans (hb3.mono HB3.out.size))
                  have HS4 : Hid (S12 (w.heap.size + 1) w2.heap.size wo.heap.size y x0 (.slice r.A r.zs.length r.c) w4) := S12.below ⟨HC9.out, HC79.out, _, HM9.out, HND.out, HIN.out⟩ HB4.out HM9.out.lt
                  have HO4 := Lib.hid (show w4.ownsRow Wr.heap.size 3 1 (.slice A5 r.zs.length c5) r.zs.length (vals r.zs) from own_mono ho3 HB3.out.size)
                  have HLC := Lib.hid (show w4.cell? ⟨Wr.heap.size, 0, none⟩ = some (.int .i64 (k : Int)) from by
                    unfold World.cell?
                    rw [(hb3.block Wr.heap.size (by omega)).trans HLI.out]; rfl)
                  refine hK.out _ _ HS4.out (fun _ => ?_)
                  clear hK K ho3 hb3
                  refine wpAnyH_ready (rs := [8]) (by kernel_rfl) (by simp) (AllReadyH.cons rfl (fun K hK => ?_) AllReadyH.nil)
                  rw [if_pos (by rfl)]
                  refine app_wp i0 hi hz0 hz1 hz2 (.tmp 45) (.tmp 47) (by rfl) A5 r.zs.length c5 r.zs Wr.heap.size (by rfl) HO4.out (k : Int) _ (by rfl) HLC.out (by omega) HB4.out.size ?_
                  intro g5 c6 w5 ho5 hg5
                  have HB5 := Lib.hid (HB4.out.grown hg5 HB4.out.size (fun k hk => (own_lo HO4.out k hk).1))
                  have HM5 := Lib.hid (HM9.out.below HB5.out HM9.out.lt)
                  have HS5 : Hid (S12 (w.heap.size + 1) w2.heap.size wo.heap.size y x0 (.slice r.A r.zs.length r.c) w5) := S12.below ⟨HC9.out, HC79.out, _, HM9.out, HND.out, HIN.out⟩ HB5.out HM9.out.lt
                  have HN5 := Lib.hid (new_row ho5)
                  refine hK.out _ _ HS5.out (fun _ => ?_)
                  clear hK K ho5 hg5
                  refine wpAnyH_ready (rs := [9]) (by kernel_rfl) (by simp) (AllReadyH.cons rfl (fun K hK => ?_) AllReadyH.nil)
                  rw [if_pos (by rfl)]
                  refine put_wp (.tmp 40) (.tmp 41) (.tmp 48) (by rfl) (w.heap.size + 1) _ HM5.out (by rfl) (enc y) (.slice (some ⟨g5, 0, none⟩) (r.zs.length + 1) c6) _ (by rfl) (by rfl) HKY.out HNO.out ?_
                  intro w6 hm6 hg6 hs6
                  have HS6 : Hid (S12 (w.heap.size + 1) w2.heap.size wo.heap.size y x0 (.slice r.A r.zs.length r.c) w6) := HS5.out.put HM5.out hm6 hg6 HND.out HNO.out HIN.out
                  have HCUT : Hid (Cut12 Wr (w.heap.size + 1) (kvG V2 RS2) y (r.zs ++ [(k : Int)]) w6) := ⟨w5, ⟨some ⟨g5, 0, none⟩, c6, r.zs ++ [(k : Int)]⟩, rfl, HB5.out, HN5.out, by rw [new_v]; exact hm6, hg6⟩
                  refine hK.out _ _ HS6.out (fun _ => ?_)
                  clear hK K hm6 hg6 hs6
                  refine wpAnyH_done (by kernel_rfl) ?_ _
                  go_wp2_with fail
                  go_meet
                  exact HCUT.out
              case rest =>
              obtain ⟨w3, r', hz', hb3, hown', hm', hg'⟩ := hcut
              have HM3 := Lib.hid (HM9.out.below hb3 HM9.out.lt)
              have HR3 := Lib.hid ((HR2.out.below HBX.out).below hb3)
              have HQ3 := Lib.hid (Que.q_below (Que.q_below HQ2.out HBX.out) hb3)
              have HB3 := Lib.hid ((HB2.out.trans (HBX.out.mono hszw)).trans (hb3.mono (Nat.le_trans hszw HBX.out.size)))
              have HNEW := Lib.hid (own_mono hown' (Nat.le_trans hszw HBX.out.size))
              have HRG := Lib.hid (show r'.b ≠ some g2 from fun e => by
                have := (rd_own hown' g2 e).1
                have := HBX.out.size
                omega)
              have HM4 := Lib.hid hm'
              have HG4 := Lib.hid hg'
              have HZ' := Lib.hid hz'
              obtain ⟨k9, k7⟩ := keep12 HM3.out ((hb3.block w2.heap.size (Array.getElem?_eq_some_iff.1 HC9.out).1).trans HC9.out) ((hb3.block wo.heap.size hwlt9).trans HC79.out) hg'
              have HK9 := Lib.hid k9
              have HK7 := Lib.hid k7
              have HQ4 := Lib.hid (Que.q_kept HQ3.out hg' (fun e => by injection e with e; exact hgb e.symm))
              have hsz4 : w.heap.size ≤ wc.heap.size := Nat.le_trans HB3.out.size hg'.size
              have hwlt4 : wo.heap.size < wc.heap.size := Nat.lt_of_lt_of_le (Nat.lt_of_lt_of_le hwlt9 hb3.size) hg'.size
              have hszy := cells8_size hy8
              have hlity := lit8 (cells8 y) hszy
              obtain ⟨ig, hig, hgz, hgs, hgb2⟩ := info_grp
              clear hz' hb3 hown' hm' hg' k9 k7 HQ2 HR2 HM2 HBX HC9 HC79 HM9 HIN HND HNO HRO
              go_wp2_with (first | (refine wpList_load_row rfl 73 (.tmp 9) rfl w2.heap.size rfl 73 (cells8 y) (0, 0) _ HK9.out Try.underlying73 rfl HIY.out ?_) | (at_builtin; refine Que.app_q rfl (.tmp 49) (.tmp 51) 97 rfl w.heap.size 73 ig _ 8 64 Try.underlying97 hig hgz hgs hgb2 (by decide) rfl (by decide) g2 off2 _ c2 _ rfl HQ4.out (cells8 y) hszy (cells8_mem y) _ rfl rfl hq2s hsz4 ?_; intro g' off' c' w5 hq5 hg5' hgg; skip) | fail)
              have HSN := Lib.hid (seag_put HVR.out HZ2.out HM3.out HR3.out HNEW.out HRG.out HM4.out HG4.out hg5' hgb hgg HB3.out (Nat.le_succ _) hbg htl2 hq5)
              have HSF := Lib.hid (show SeaG w (w.heap.size + 1) (stH nx [] L0 t (k + 1)).1 (stH nx [] L0 t (k + 1)).2 (t + 1) g' off' c' w5 by rw [HV3, HW3, ← HRZ.out, ← HZ'.out]; exact HSN.out)
              have HLN := Lib.hid (show V2.length - (t + 1) + 1 = (stH nx [] L0 t (k + 1)).1.length - (t + 1) by rw [HV3, List.length_append, List.length_singleton]; omega)
              have HGN5 := Lib.hid (show g' ≠ wo.heap.size from by
                rcases hgg with e | e
                · rw [e]; exact HGN2.out
                · omega)
              have HC5 := Lib.hid ((hg5'.block wo.heap.size hwlt4 (fun e => HGN2.out (by injection e with e; exact e.symm))).trans HK7.out)
              have hwlt5 : wo.heap.size < w5.heap.size := Nat.lt_of_lt_of_le hwlt4 hg5'.size
              clear HSN hq5 hg5' hgg
              first
                | refine ⟨⟨_, _, _, _, _, _, ⟨k + 1, by omega, rfl, g', off', c', by rw [← HLN.out], HSF, HGN5, HC5, hwlt5⟩, rfl, rfl, rfl, rfl, rfl, by go_num⟩, ?_⟩
                | refine ⟨⟨k + 1, by omega, by go_num, g', off', c', by rw [← HLN.out], HSF, HGN5, HC5, hwlt5⟩, ?_⟩
              simp [intOf]; omega
          · have hk2' : k = 2 := by omega
            subst hk2'
            obtain ⟨hst, htl⟩ := HRUN.out.st (k := 2) hlt (by omega)
            obtain ⟨RS2, hM, hz, hR, hQ, hgb, hbw2⟩ := HSK.out
            have hVR : (stH nx [] L0 t 2).1.length = RS2.length := by
              have h := congrArg List.length hz
              rw [List.length_map, hst.same] at h
              exact h.symm
            have hms := hM.msz
            rw [kg_len hVR] at hms
            obtain ⟨L, hL⟩ : ∃ L, L = (stH nx [] L0 t 2).1.length := ⟨_, rfl⟩
            have hL2 : (runB nx [] L0 (t + 1)).1.length = L := hL.symm
            have HSN := Lib.hid (show SeaG w (w.heap.size + 1) (runB nx [] L0 (t + 1)).1 (runB nx [] L0 (t + 1)).2 (t + 1) g2 off2 c2 wr from HSK.out)
            rw [← hL] at hms htl
            have HM3 := Lib.hid hms
            clear hM hz hR hQ hgb hbw2 hst hVR HSK hms
            rw [← hL]
            clear hL
            go_wp2
            first
              | refine ⟨⟨t + 1, by omega, g2, off2, c2, by rw [hL2], HSN⟩, ?_⟩
              | refine ⟨⟨_, _, _, _, _, _, _, _, _, _, _, _, _, _, _, _, _, _, _, _, _, _, _, _, _, _, _, _, _, _, _, _, _, _, _, _, _, _, _, _, _, _, _, ⟨t + 1, by omega, g2, off2, c2, by rw [hL2], HSN⟩, rfl⟩, ?_⟩
            have e1 := HMSZ.out
            have e2 := HM3.out
            have e3 := HVL.out
            simp [lenV, e1, e2]
            omega
    · have htn : t = N := by omega
      subst htn
      obtain ⟨RS, hM, hz, hR, hQ, hgb, hbw⟩ := HSEA.out
      have hlen0 : (runB nx [] L0 t).1.length - t = 0 := by rw [HRUN.out.len]; omega
      have hVR : (runB nx [] L0 t).1.length = RS.length := by
        have h := congrArg List.length hz
        rw [List.length_map, HRUN.out.fin.same] at h
        exact h.symm
      have HFIN := Lib.hid (show _ ∧ _ ∧ _ from ⟨hM, hVR, hbw⟩)
      clear hM hz hR hQ hbw HSEA HRUN HCALL hVR
      rw [hlen0]
      go_wp2
      go_ret
      exact ⟨w.heap.size + 1, RS, rfl, HFIN.out.1, HFIN.out.2.1, HFIN.out.2.2⟩
end Go.Proofs.Ytpbpgpccjabghaa.Shg
