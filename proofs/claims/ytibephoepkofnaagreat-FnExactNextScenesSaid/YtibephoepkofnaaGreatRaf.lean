/- The program's makers of results: each choice's function that is ranged over. The program's ResultsAfter: what its loops carry. -/
import Derived.Test.YtibephoepkofnaaGreatItr
import Derived.Test.YtibephoepkofnaaGreatCat3
import Derived.Test.YtibephoepkofnaaGreatCk
import Derived.RangeFuncBox
import Derived.Test.YtibephoepkofnaaGreatMst
import Derived.Test.YtibephoepkofnaaGreatSip
set_option linter.unusedVariables false
set_option maxRecDepth 20000
namespace Go.Proofs.YtibephoepkofnaaGreat.Mkr
open Go.RowKit Fr _root_.Go.Proofs.YtibephoepkofnaaGreat.Own Pk Ins Pfn Rws Lb Mvp Pf Wv Rfn Cat3 Itr Ck

def rowsF (k : Int) (zs : List Int) : List (List Int) := if k = 1 then cutsF zs else if k = 2 then rifI zs else if k = 3 then cutsF (moveF 3 2 zs) else if k = 4 then picksF zs else [zs]
/-- a function that is ranged over and hands out these lists -/
def Makes (rows : List (List Int)) (w : World) (e : Ending) (w' : World) : Prop :=
  ∃ g bp A n c zs, e = .returned (.func (.func g) #[] #[.pointer (some ⟨bp, 0, none⟩)]) ∧ (∀ args w, (callFunc g args).run Tryz.prog w = .ok (.enter g args) w) ∧
    Iter g #[.pointer (some ⟨bp, 0, none⟩)] (KPb bp A n c zs) rows ∧ KPb bp A n c zs w' ∧ Below w.heap.size w w'
theorem kp_new {w : World} {A : Option Addr} {n c : Nat} {zs : List Int} (h : IntsAt w w.heap.size .i64 A zs) : KPb w.heap.size A n c zs (w.alloc (.cells #[.slice A n c] 22)) := by
  refine ⟨(Boxed.new w 22 (.slice A n c)).cell, ?_⟩
  have hb : Below w.heap.size w (w.alloc (.cells #[.slice A n c] 22)) := (Below.refl _ w).alloc (Nat.le_refl _) _
  exact (h.below hb).more hb.size
theorem alloc_below (w : World) (o : Obj) : Below w.heap.size w (w.alloc o) := (Below.refl _ w).alloc (Nat.le_refl _) _
theorem box_itself (A : Option Addr) (n c : Nat) (w : World) : Calls Tryz.prog 114 #[.slice A n c] w fun e w' => e = .returned (.func (.func 127) #[] #[.pointer (some ⟨w.heap.size, 0, none⟩)]) ∧ w' = w.alloc (.cells #[.slice A n c] 22) := by
  go_enter Tryz.func114, Tryz.ntmps114
  go_wp2
  go_ret
  exact ⟨rfl, rfl⟩
theorem ent_itself : ∀ args w, (callFunc 127 args).run Tryz.prog w = .ok (.enter 127 args) w := enters_of Tryz.func127 (by kernel_rfl) rfl
theorem box_cutsOf (A : Option Addr) (n c : Nat) (w : World) : Calls Tryz.prog 115 #[.slice A n c] w fun e w' => e = .returned (.func (.func 128) #[] #[.pointer (some ⟨w.heap.size, 0, none⟩)]) ∧ w' = w.alloc (.cells #[.slice A n c] 22) := by
  go_enter Tryz.func115, Tryz.ntmps115
  go_wp2
  go_ret
  exact ⟨rfl, rfl⟩
theorem ent_cutsOf : ∀ args w, (callFunc 128 args).run Tryz.prog w = .ok (.enter 128 args) w := enters_of Tryz.func128 (by kernel_rfl) rfl
theorem box_rifflesOf (A : Option Addr) (n c : Nat) (w : World) : Calls Tryz.prog 116 #[.slice A n c] w fun e w' => e = .returned (.func (.func 129) #[] #[.pointer (some ⟨w.heap.size, 0, none⟩)]) ∧ w' = w.alloc (.cells #[.slice A n c] 22) := by
  go_enter Tryz.func116, Tryz.ntmps116
  go_wp2
  go_ret
  exact ⟨rfl, rfl⟩
theorem ent_rifflesOf : ∀ args w, (callFunc 129 args).run Tryz.prog w = .ok (.enter 129 args) w := enters_of Tryz.func129 (by kernel_rfl) rfl
theorem box_picksOf (A : Option Addr) (n c : Nat) (w : World) : Calls Tryz.prog 118 #[.slice A n c] w fun e w' => e = .returned (.func (.func 131) #[] #[.pointer (some ⟨w.heap.size, 0, none⟩)]) ∧ w' = w.alloc (.cells #[.slice A n c] 22) := by
  go_enter Tryz.func118, Tryz.ntmps118
  go_wp2
  go_ret
  exact ⟨rfl, rfl⟩
theorem ent_picksOf : ∀ args w, (callFunc 131 args).run Tryz.prog w = .ok (.enter 131 args) w := enters_of Tryz.func131 (by kernel_rfl) rfl
theorem make_itself (A : Option Addr) (n c : Nat) (zs : List Int) (w : World) (hn : zs.length = n) (hnc : n ≤ c) (hpos : 1 ≤ n) (hn2 : n ≤ 12) (hat : IntsAt w w.heap.size .i64 A zs) :
    Calls Tryz.prog 114 #[.slice A n c] w (Makes ([zs]) w) := by
  refine (box_itself A n c w).mono ?_
  rintro e w' ⟨rfl, rfl⟩
  exact ⟨_, _, A, n, c, zs, rfl, ent_itself, itself_iter _ A n c zs hn hn2, kp_new hat, alloc_below _ _⟩
theorem make_cutsOf (A : Option Addr) (n c : Nat) (zs : List Int) (w : World) (hn : zs.length = n) (hnc : n ≤ c) (hpos : 1 ≤ n) (hn2 : n ≤ 12) (hok : Pok.okB zs = true) (hz : Fits zs) (hat : IntsAt w w.heap.size .i64 A zs) :
    Calls Tryz.prog 115 #[.slice A n c] w (Makes (cutsF zs) w) := by
  refine (box_cutsOf A n c w).mono ?_
  rintro e w' ⟨rfl, rfl⟩
  exact ⟨_, _, A, n, c, zs, rfl, ent_cutsOf, cuts_iter _ A n c zs hn hnc hok hz, kp_new hat, alloc_below _ _⟩
theorem make_rifflesOf (A : Option Addr) (n c : Nat) (zs : List Int) (w : World) (hn : zs.length = n) (hnc : n ≤ c) (hpos : 1 ≤ n) (hn2 : n ≤ 12) (hat : IntsAt w w.heap.size .i64 A zs) :
    Calls Tryz.prog 116 #[.slice A n c] w (Makes (rifI zs) w) := by
  refine (box_rifflesOf A n c w).mono ?_
  rintro e w' ⟨rfl, rfl⟩
  exact ⟨_, _, A, n, c, zs, rfl, ent_rifflesOf, riffles_iter _ A n c zs hn hpos hn2 (fun way hw W hW => Onc.riffled_any way A n c zs W hw hn hnc hpos hn2 hW), kp_new hat, alloc_below _ _⟩
theorem make_picksOf (A : Option Addr) (n c : Nat) (zs : List Int) (w : World) (hn : zs.length = n) (hnc : n ≤ c) (hpos : 1 ≤ n) (hn2 : n ≤ 12) (hat : IntsAt w w.heap.size .i64 A zs) :
    Calls Tryz.prog 118 #[.slice A n c] w (Makes (picksF zs) w) := by
  refine (box_picksOf A n c w).mono ?_
  rintro e w' ⟨rfl, rfl⟩
  exact ⟨_, _, A, n, c, zs, rfl, ent_picksOf, picks_iter _ A n c zs hn hnc hpos hn2, kp_new hat, alloc_below _ _⟩
set_option maxHeartbeats 1000000 in
theorem make_pairsOf (A : Option Addr) (n c : Nat) (zs : List Int) (w : World) (hn : zs.length = n) (hnc : n ≤ c) (hpos : 2 ≤ n) (hn2 : n ≤ 12) (hok : Pok.okB zs = true) (hat : IntsAt w w.heap.size .i64 A zs) :
    Calls Tryz.prog 117 #[.slice A n c] w (Makes (cutsF (moveF 3 2 zs)) w) := by
  have hz : Fits zs := ok_fits hok
  have hk1 : kOk 3 2 zs.length = true := by
    unfold kOk
    simp
    omega
  have hb : perfB zs 3 2 = true := by
    unfold perfB
    rw [hok]
    unfold mvB
    rw [decide_eq_true (show (1 : Int) ≤ zs.length ∧ (zs.length : Int) ≤ 12 by omega), decide_eq_true (by decide)]
    show (true && (true && true && kOk 3 2 zs.length)) = true
    rw [hk1]
    rfl
  have C1 := impl_perform A n c 3 2 zs w hn hnc (by omega) hz hat
  rw [perfF_yes hb, hb] at C1
  have hml : (moveF (3 : Int).toNat (2 : Int).toNat zs).length = n := by
    have := move_len hk1 (by omega) (by omega)
    rw [hn] at this
    exact this
  have hmo : Pok.okB (moveF (3 : Int).toNat (2 : Int).toNat zs) = true := move_ok hk1 (by omega) hok
  have hmf : Fits (moveF (3 : Int).toNat (2 : Int).toNat zs) := move_fits hk1 (by omega) hok
  have he : cutsF (moveF 3 2 zs) = cutsF (moveF (3 : Int).toNat (2 : Int).toNat zs) := rfl
  rw [he]
  generalize moveF (3 : Int).toNat (2 : Int).toNat zs = ys at *
  have H1 := Lib.hid (And.intro hml (And.intro hmo hmf))
  clear hml hmo hmf hb hk1 he
  go_enter Tryz.func117, Tryz.ntmps117
  go_wp2_with fail
  refine C1.mono ?_
  rintro e w1 ⟨A1, c1, rfl, hown, hb1⟩
  have hc1 : ys.length ≤ c1 := by
    rcases hown.2 with ⟨_, h0⟩ | ⟨g, cap, cur, hv, hg, hh, q1, q2, q3, q4⟩
    · omega
    · simp only [Value.slice.injEq] at hv
      omega
  have C2 := make_cutsOf A1 ys.length c1 ys w1 rfl hc1 (by have := H1.out.1; omega) (by have := H1.out.1; omega) H1.out.2.1 H1.out.2.2 (ints_of hown)
  clear hown
  have HB := Lib.hid hb1
  go_wp2_with fail
  refine C2.mono ?_
  rintro e w2 ⟨g, bp, A2, n2, c2, zs2, rfl, e1, e2, e3, e4⟩
  have HE := Lib.hid (And.intro e1 (And.intro e2 (And.intro e3 (HB.out.trans (e4.mono hb1.size)))))
  clear e1 e2 e3 e4
  go_wp2
  go_ret
  exact ⟨g, bp, A2, n2, c2, zs2, rfl, HE.out.1, HE.out.2.1, HE.out.2.2.1, HE.out.2.2.2⟩
/-- whichever of the five -/
theorem make_any (k : Int) (hk : 0 ≤ k ∧ k ≤ 4) (A : Option Addr) (n c : Nat) (zs : List Int) (w : World) (hn : zs.length = n) (hnc : n ≤ c) (hpos : leastN k ≤ n) (hok : Pok.okB zs = true) (hat : IntsAt w w.heap.size .i64 A zs) :
    Calls Tryz.prog (cFn k) #[.slice A n c] w (Makes (rowsF k zs) w) := by
  have hn2 : n ≤ 12 := by have := (ok_parts hok).1; omega
  have h1 : 1 ≤ n := by unfold leastN at hpos; split at hpos <;> omega
  rcases (show k = 0 ∨ k = 1 ∨ k = 2 ∨ k = 3 ∨ k = 4 by omega) with rfl | rfl | rfl | rfl | rfl
  · exact make_itself A n c zs w hn hnc h1 hn2 hat
  · exact make_cutsOf A n c zs w hn hnc h1 hn2 hok (ok_fits hok) hat
  · exact make_rifflesOf A n c zs w hn hnc h1 hn2 hat
  · exact make_pairsOf A n c zs w hn hnc (by have : leastN 3 = 2 := rfl; omega) hn2 hok hat
  · exact make_picksOf A n c zs w hn hnc h1 hn2 hat
end Go.Proofs.YtibephoepkofnaaGreat.Mkr

namespace Go.Proofs.YtibephoepkofnaaGreat.Raf
open Go.RowKit Go.Maps Fr _root_.Go.Proofs.YtibephoepkofnaaGreat.Own Pk Ins Pfn Rws Sst Lb Mvp Pf Wv Rfn Cat3 Itr Ck Mkr Mst Val Pkn Big Srt

def goodB (k : Int) (zs : List Int) : Bool := decide (0 ≤ k ∧ k ≤ 4) && Pok.okB zs && decide (leastN k ≤ zs.length)
def raF (k : Int) (l : List (List Int)) : List (List Int) := cano ((cano l).flatMap (rowsF k))
def raB (k : Int) (l : List (List Int)) : Bool := l.all (goodB k) && decide ((raF k l).length ≤ 3000)
def raR (k : Int) (l : List (List Int)) : List (List Int) := if raB k l then raF k l else []
theorem get_zs {ls : List RD} {i : Nat} (h : i < ls.length) : (ls.map RD.zs).getD i [] = (ls.getD i rd0).zs := by
  simp [List.getD_eq_getElem?_getD, List.getElem?_eq_getElem h]
theorem ra_bad {k : Int} {l : List (List Int)} {i : Nat} (hi : i < l.length) (h : goodB k (l.getD i []) = false) : raB k l = false := by
  unfold raB
  have : l.all (goodB k) = false := by
    rw [List.all_eq_false]
    refine ⟨l.getD i [], ?_, by rw [h]; simp⟩
    rw [List.getD_eq_getElem?_getD, List.getElem?_eq_getElem hi]
    exact List.getElem_mem _
  rw [this]
  rfl
theorem take_flat {l : List (List Int)} {f : List Int → List (List Int)} {i : Nat} (h : i < l.length) (z : List Int) : z ∈ (l.take (i + 1)).flatMap f ↔ z ∈ (l.take i).flatMap f ∨ z ∈ f (l.getD i []) := by
  rw [List.take_add_one, List.flatMap_append, List.mem_append, List.getElem?_eq_getElem h, List.getD_eq_getElem?_getD, List.getElem?_eq_getElem h]
  simp
theorem kind_all (k : Int) (w : World) : Calls Tryz.prog 73 #[.int .i64 k] w fun e w' => (∃ (nm : ByteArray) (lst : Int) (fv : Value), e = .returned (.tuple #[.agg #[.string nm, .int .i64 lst, fv], .bool (decide (0 ≤ k ∧ k ≤ 4))]) ∧ (fv.cells = #[fv] ∧ fv.oneCell' = true) ∧ ((0 ≤ k ∧ k ≤ 4) → lst = leastN k ∧ fv = .func (.func (cFn k)) #[] #[])) ∧ Below w.heap.size w w' := by
  by_cases h : 0 ≤ k ∧ k ≤ 4
  · rw [decide_eq_true h]
    refine (kind_yes k w h).mono ?_
    rintro e w' ⟨rfl, hb⟩
    exact ⟨⟨_, _, _, rfl, ⟨rfl, rfl⟩, fun _ => ⟨rfl, rfl⟩⟩, hb⟩
  · rw [decide_eq_false h]
    refine (kind_not k w h).mono ?_
    rintro e w' ⟨rfl, hb⟩
    exact ⟨⟨_, _, _, rfl, ⟨rfl, rfl⟩, fun q => absurd q h⟩, hb⟩
theorem cf_enters (k : Int) (hk : 0 ≤ k ∧ k ≤ 4) : ∀ args w, (callFunc (cFn k) args).run Tryz.prog w = .ok (.enter (cFn k) args) w := by
  rcases (show k = 0 ∨ k = 1 ∨ k = 2 ∨ k = 3 ∨ k = 4 by omega) with rfl | rfl | rfl | rfl | rfl
  · exact enters_of Tryz.func114 (by kernel_rfl) rfl
  · exact enters_of Tryz.func115 (by kernel_rfl) rfl
  · exact enters_of Tryz.func116 (by kernel_rfl) rfl
  · exact enters_of Tryz.func117 (by kernel_rfl) rfl
  · exact enters_of Tryz.func118 (by kernel_rfl) rfl
structure Env (w W : World) (b6 : Nat) (nm : ByteArray) (lst : Int) (fv : Value) : Prop where
  below : Below w.heap.size w W
  c4 : Boxed W w.heap.size 63 (.slice none 0 0)
  c5 : Boxed W (w.heap.size + 1) 4 (.bool false)
  lo : w.heap.size + 2 ≤ b6
  c6 : W.heap[b6]? = some (.cells #[.string nm, .int .i64 lst, fv] 112 (0, 0))
theorem Env.later {w W W' : World} {b6 : Nat} {nm : ByteArray} {lst : Int} {fv : Value} (h : Env w W b6 nm lst fv) (hb : Below W.heap.size W W') : Env w W' b6 nm lst fv :=
  ⟨h.below.trans (hb.mono h.below.size), (hb.block _ h.c4.lt).trans h.c4, (hb.block _ h.c5.lt).trans h.c5, h.lo, (hb.block _ (Array.getElem?_eq_some_iff.1 h.c6).1).trans h.c6⟩
theorem load_ss {W : World} {b : Nat} {v : Value} (h : W.cell? ⟨b, 0, none⟩ = some v) : (loadVar 63 ⟨b, 0, none⟩).run Tryz.prog W = .ok v W := by
  have hu := run_underlying Tryz.underlying63
  simp [go_sem, loadVar, isAgg, hu, h]
theorem load_b {W : World} {b : Nat} {v : Value} (h : W.cell? ⟨b, 0, none⟩ = some v) : (loadVar 4 ⟨b, 0, none⟩).run Tryz.prog W = .ok v W := by
  have hu := run_underlying Tryz.underlying4
  simp [go_sem, loadVar, isAgg, hu, h]
theorem results_cells {P : Program} {fn : Func} {a b : Tmp} {t u : TypeId} {p q : Addr} {x y : Value} {w : World} (h : fn.results = #[.cell a t, .cell b u]) (tmps : Array Value) (hp : tmps.getD a undef = .pointer (some p)) (hq : tmps.getD b undef = .pointer (some q))
    (hl : (loadVar t p).run P w = .ok x w) (hm : (loadVar u q).run P w = .ok y w) : (results fn tmps).run P w = .ok (.tuple #[x, y]) w := by
  have hp2 : tmps[a]?.getD undef = .pointer (some p) := by simpa using hp
  have hq2 : tmps[b]?.getD undef = .pointer (some q) := by simpa using hq
  simp [results, h, hp2, hq2, asAddr, hl, hm, Sem.run_bind, Result.andThen]
def marks (ms : List Nat) : List Deferred := ms.map fun D => { target := .collected D, args := #[] }
theorem leave_marks {n B : Nat} {fn : Func} {tmps : Array Value} {R : Ending → World → Prop} : ∀ (ms : List Nat) (W : World), ms.Nodup → (∀ D ∈ ms, B ≤ D ∧ W.heap[D]? = some (.deferred (some []))) →
    (∀ W', Grw B W W' → ∃ v, (results fn tmps).run Tryz.prog W' = .ok v W' ∧ R (.returned v) W') → LeavesInM Fence.wide n Tryz.prog fn tmps R (marks ms) .returning W
  | [], W, _, _, h => h W (Grw.refl B W)
  | D :: ms, W, hn, hd, h => by
    rw [List.nodup_cons] at hn
    obtain ⟨h1, h2⟩ := hd D (List.mem_cons_self ..)
    refine ⟨by simp, .inl ⟨D, _, rfl, run_takeDeferred h2, ?_⟩⟩
    have hg : Grw B W (W.putObj D (.deferred none)) := Grw.putObj _ h1 h2 rfl
    refine leave_marks ms _ hn.2 (fun E hE => ?_) (fun W' hg' => h W' (hg.trans hg'))
    obtain ⟨q1, q2⟩ := hd E (List.mem_cons_of_mem _ hE)
    exact ⟨q1, (World.putObj_heap_other (fun e => hn.1 (by rw [← e]; exact hE))).trans q2⟩
theorem ss_grw {W W' : World} {B lo hi : Nat} {A : Option Addr} {n c : Nat} {rs : List RD} (h : SSRow W lo hi A n c rs) (hg : Grw B W W') : SSRow W' lo hi A n c rs :=
  ⟨hg.own h.1, fun i hi' => ⟨hg.own (h.2.1 i hi').1, (h.2.1 i hi').2.1, Nat.le_trans (h.2.1 i hi').2.2 hg.size⟩, h.2.2.1, h.2.2.2.1, Nat.le_trans h.2.2.2.2 hg.size⟩
theorem Env.stored {w W : World} {b6 : Nat} {nm : ByteArray} {lst : Int} {fv : Value} (h : Env w W b6 nm lst fv) (v : Value) (b : Bool) : Below w.heap.size w ((W.setCell ⟨w.heap.size, 0, none⟩ v).setCell ⟨w.heap.size + 1, 0, none⟩ (.bool b)) ∧
    Boxed ((W.setCell ⟨w.heap.size, 0, none⟩ v).setCell ⟨w.heap.size + 1, 0, none⟩ (.bool b)) w.heap.size 63 v ∧ Boxed ((W.setCell ⟨w.heap.size, 0, none⟩ v).setCell ⟨w.heap.size + 1, 0, none⟩ (.bool b)) (w.heap.size + 1) 4 (.bool b) := by
  have h1 : Boxed (W.setCell ⟨w.heap.size, 0, none⟩ v) (w.heap.size + 1) 4 (.bool false) := h.c5.kept (grownBy_setCell' W w.heap.size v) (by simp)
  exact ⟨(h.below.setCell (p := ⟨w.heap.size, 0, none⟩) (Nat.le_refl _) v).setCell (p := ⟨w.heap.size + 1, 0, none⟩) (Nat.le_succ _) _, (h.c4.set v).kept (grownBy_setCell' _ _ _) (by simp), h1.set _⟩
theorem bad_end {w W : World} {ms : List Nat} {k : Int} {l : List (List Int)} {tmps : Array Value} {n : Nat} (hb : Below w.heap.size w W) (h4 : Boxed W w.heap.size 63 (.slice none 0 0)) (h5 : Boxed W (w.heap.size + 1) 4 (.bool false))
    (hm : ms.Nodup ∧ ∀ D ∈ ms, w.heap.size ≤ D ∧ W.heap[D]? = some (.deferred (some []))) (e4 : tmps.getD 4 undef = .pointer (some ⟨w.heap.size, 0, none⟩)) (e5 : tmps.getD 5 undef = .pointer (some ⟨w.heap.size + 1, 0, none⟩)) (hr : raB k l = false) :
    LeavesInM Fence.wide n Tryz.prog Tryz.f59 tmps (IsSSB w.heap.size (raR k l) (raB k l) w) (marks ms) .returning W := by
  refine leave_marks (B := w.heap.size) ms W hm.1 hm.2 fun W' hg => ?_
  refine ⟨_, results_cells rfl _ e4 e5 (load_ss (hg.cell h4.cell)) (load_b (hg.cell h5.cell)), ?_⟩
  have e1 : raR k l = [] := by unfold raR; rw [hr]; rfl
  rw [e1, hr]
  refine ⟨none, 0, [], rfl, rfl, ⟨World.ownsRow_nil _ _ _ _, fun i hi => absurd hi (Nat.not_lt_zero _), fun i j hi => absurd hi (Nat.not_lt_zero _), (fun a h => by cases h), Nat.le_refl _⟩, ?_⟩
  rcases hg.below with h | h
  · exact hb.trans h
  · have := hb.size; omega
theorem cards_mem {z : List Int} (h : ∀ x ∈ z, -12 ≤ x ∧ x ≤ 11) : Cards z := fun i hi => h _ (by
  rw [List.getD_eq_getElem?_getD, List.getElem?_eq_getElem hi]
  exact List.getElem_mem _)
theorem ok_mem {z : List Int} (h : Pok.okB z = true) : ∀ x ∈ z, -12 ≤ x ∧ x ≤ 11 := by
  intro x hx
  obtain ⟨i, hi, rfl⟩ := List.getElem_of_mem hx
  have := (ok_parts h).2.1 i hi
  rw [List.getD_eq_getElem?_getD, List.getElem?_eq_getElem hi] at this
  simp only [Option.getD_some] at this
  unfold cardF at this
  split at this
  · omega
  · split at this <;> omega
theorem rowsF_0 (zs : List Int) : rowsF 0 zs = [zs] := rfl
theorem rowsF_1 (zs : List Int) : rowsF 1 zs = cutsF zs := rfl
theorem rowsF_2 (zs : List Int) : rowsF 2 zs = rifI zs := rfl
theorem rowsF_3 (zs : List Int) : rowsF 3 zs = cutsF (moveF 3 2 zs) := rfl
theorem rowsF_4 (zs : List Int) : rowsF 4 zs = picksF zs := rfl
theorem good_parts {k : Int} {zs : List Int} (h : goodB k zs = true) : (0 ≤ k ∧ k ≤ 4) ∧ Pok.okB zs = true ∧ leastN k ≤ zs.length ∧ 1 ≤ zs.length ∧ zs.length ≤ 12 := by
  unfold goodB at h
  simp only [Bool.and_eq_true, decide_eq_true_eq] at h
  have := (ok_parts h.1.2).1
  refine ⟨h.1.1, h.1.2, h.2, ?_, this⟩
  have h2 := h.2
  unfold leastN at h2
  split at h2 <;> omega
theorem cuts_good {zs : List Int} (h : Pok.okB zs = true) (h1 : 1 ≤ zs.length) : ∀ z ∈ cutsF zs, Pok.okB z = true ∧ z.length = zs.length := by
  intro z hz
  unfold cutsF at hz
  obtain ⟨i, hi, rfl⟩ := List.mem_map.1 hz
  rw [List.mem_range] at hi
  have hk : kOk 1 i zs.length = true := by
    unfold kOk
    rw [if_pos (Or.inl rfl), decide_eq_true (by omega)]
  exact ⟨move_ok hk h1 h, move_len hk h1 (ok_parts h).1⟩
theorem pick_perm {zs : List Int} {i : Nat} (hi : i < zs.length) : (pickOf zs i).Perm zs := by
  unfold pickOf
  have e : zs = zs.take i ++ (zs.getD i 0 :: zs.drop (i + 1)) := by
    rw [List.getD_eq_getElem?_getD, List.getElem?_eq_getElem hi, Option.getD_some, ← List.drop_eq_getElem_cons hi, List.take_append_drop]
  exact (List.perm_middle.symm).trans (List.Perm.of_eq e.symm)
theorem flip_good {k : Int} {zs : List Int} (h : goodB k zs = true) (hk : k = 3) : Pok.okB (moveF 3 2 zs) = true ∧ (moveF 3 2 zs).length = zs.length ∧ 1 ≤ (moveF 3 2 zs).length := by
  obtain ⟨h1, h2, h3, h4, h5⟩ := good_parts h
  subst hk
  have e : leastN 3 = 2 := rfl
  have hk1 : kOk 3 2 zs.length = true := by
    unfold kOk
    simp
    omega
  have hl := move_len hk1 h4 h5
  exact ⟨move_ok hk1 h4 h2, hl, by omega⟩
/-- the results of a choice: cards, and not more than there were -/
theorem rows_card {k : Int} {zs : List Int} (h : goodB k zs = true) : ∀ z ∈ rowsF k zs, Cards z ∧ z.length ≤ 12 := by
  have hp := good_parts h
  obtain ⟨h1, h2, h3, h4, h5⟩ := hp
  have hm := ok_mem h2
  have perm : ∀ z : List Int, z.Perm zs → Cards z ∧ z.length ≤ 12 := fun z hz => ⟨cards_mem fun x hx => hm x (hz.mem_iff.1 hx), by rw [hz.length_eq]; exact h5⟩
  intro z hz
  rcases (show k = 0 ∨ k = 1 ∨ k = 2 ∨ k = 3 ∨ k = 4 by omega) with rfl | rfl | rfl | rfl | rfl
  · rw [rowsF_0, List.mem_singleton] at hz
    subst hz
    exact perm z (List.Perm.refl _)
  · rw [rowsF_1] at hz
    obtain ⟨q1, q2⟩ := cuts_good h2 h4 z hz
    exact ⟨cards_mem (ok_mem q1), by omega⟩
  · rw [rowsF_2] at hz
    unfold rifI at hz
    obtain ⟨i, hi, rfl⟩ := List.mem_map.1 hz
    exact perm _ (rif_perm (bitsN_len _ _))
  · rw [rowsF_3] at hz
    obtain ⟨f1, f2, f3⟩ := flip_good h rfl
    obtain ⟨q1, q2⟩ := cuts_good f1 f3 z hz
    exact ⟨cards_mem (ok_mem q1), by omega⟩
  · rw [rowsF_4] at hz
    unfold picksF at hz
    obtain ⟨i, hi, rfl⟩ := List.mem_map.1 hz
    rw [List.mem_range] at hi
    exact perm _ (pick_perm hi)
theorem rows_len {k : Int} {zs : List Int} (h : goodB k zs = true) : (rowsF k zs).length ≤ 4096 := by
  have hp := good_parts h
  obtain ⟨h1, h2, h3, h4, h5⟩ := hp
  rcases (show k = 0 ∨ k = 1 ∨ k = 2 ∨ k = 3 ∨ k = 4 by omega) with rfl | rfl | rfl | rfl | rfl
  · rw [rowsF_0]; simp
  · rw [rowsF_1]; simp [cutsF]; omega
  · rw [rowsF_2]
    simp only [rifI, List.length_map, List.length_range]
    exact Nat.pow_le_pow_right (by decide) h5
  · obtain ⟨f1, f2, f3⟩ := flip_good h rfl
    rw [rowsF_3]; simp [cutsF]; omega
  · rw [rowsF_4]; simp [picksF]; omega
/-- more than 3000 results -/
theorem ra_many {k : Int} {l : List (List Int)} {rs : List RD} (hd : (rs.map num).Nodup) (hm : ∀ z ∈ rs.map RD.zs, z ∈ raF k l) (h : 3000 < rs.length) : raB k l = false := by
  have h1 : (rs.map RD.zs).Nodup := by
    rw [List.nodup_iff_pairwise_ne, List.pairwise_map] at hd ⊢
    exact hd.imp fun {a b} hab e => hab (by unfold num; rw [e])
  have h2 := h1.length_le_of_subset hm
  rw [List.length_map] at h2
  unfold raB
  rw [decide_eq_false (show ¬ (raF k l).length ≤ 3000 by omega), Bool.and_false]
theorem Env.grw {w W W' : World} {b6 B : Nat} {nm : ByteArray} {lst : Int} {fv : Value} (h : Env w W b6 nm lst fv) (hg : Grw B W W') (hB : w.heap.size ≤ B) : Env w W' b6 nm lst fv := by
  have hc : ∀ {k : Nat} {cs : Array Value} {e : TypeId} {f : Nat × Nat}, W.heap[k]? = some (.cells cs e f) → W'.heap[k]? = some (.cells cs e f) := fun hk => (hg.block _ (Array.getElem?_eq_some_iff.1 hk).1 (Or.inr ⟨_, _, _, hk⟩)).trans hk
  exact ⟨⟨hg.os.trans h.below.os, hg.tape.trans h.below.tape, hg.output.trans h.below.output, Nat.le_trans h.below.size hg.size, fun k hk => (hg.block k (Nat.lt_of_lt_of_le hk h.below.size) (Or.inl (by omega))).trans (h.below.block k hk)⟩, hc h.c4, hc h.c5, h.lo, hc h.c6⟩
/-- between two rounds of the inner loop -/
structure RI (w W : World) (b6 b7 B : Nat) (nm : ByteArray) (lst : Int) (fv : Value) (g4 N4 c4 hi4 : Nat) (rs4 : List RD) (ms : List Nat) (acc : List (List Int)) (m : Nat) (bp : Nat) (A2 : Option Addr) (n2 c2 : Nat) (zs2 : List Int) : Prop where
  env : Env w W b6 nm lst fv
  box : Boxed W (b7 + 1) 115 (.map (some b7))
  st : ∃ rs, MS W w.heap.size b7 m rs ∧ rs.length ≤ 3000 ∧ ∀ z, z ∈ rs.map RD.zs ↔ z ∈ acc
  ss : SSRow W (b7 + 2) hi4 (some ⟨g4, 0, none⟩) N4 c4 rs4
  mks : ms.Nodup ∧ ∀ D ∈ ms, (w.heap.size ≤ D ∧ D < B) ∧ W.heap[D]? = some (.deferred (some []))
  kp : KPb bp A2 n2 c2 zs2 W
section
variable {w W W' : World} {b6 b7 B : Nat} {nm : ByteArray} {lst : Int} {fv : Value} {g4 N4 c4 hi4 : Nat} {rs4 : List RD} {ms : List Nat} {acc : List (List Int)} {m : Nat} {bp : Nat} {A2 : Option Addr} {n2 c2 : Nat} {zs2 : List Int}
theorem RI.grw (h : RI w W b6 b7 B nm lst fv g4 N4 c4 hi4 rs4 ms acc m bp A2 n2 c2 zs2) (hg : Grw B W W') (hB : w.heap.size ≤ B) (hb : b7 < B) : RI w W' b6 b7 B nm lst fv g4 N4 c4 hi4 rs4 ms acc m bp A2 n2 c2 zs2 := by
  obtain ⟨rs, h1, h2, h3⟩ := h.st
  refine ⟨h.env.grw hg hB, (hg.block _ h.box.lt (Or.inr ⟨_, _, _, h.box⟩)).trans h.box, ⟨rs, h1.grw hg hb, h2, h3⟩, ss_grw h.ss hg, ⟨h.mks.1, fun D hD => ?_⟩, hg.cell h.kp.1, (hg.ints h.kp.2).more hg.size⟩
  obtain ⟨q1, q2⟩ := h.mks.2 D hD
  exact ⟨q1, (hg.block D (Array.getElem?_eq_some_iff.1 q2).1 (Or.inl q1.2)).trans q2⟩
/-- the map's block alone is written -/
theorem RI.put (h : RI w W b6 b7 B nm lst fv g4 N4 c4 hi4 rs4 ms acc m bp A2 n2 c2 zs2) (hg : W.grownBy W' (some b7)) (hlo : w.heap.size ≤ b7) (hmap : ∃ es cl, W.heap[b7]? = some (.map es cl)) {rs : List RD} {acc' : List (List Int)} {m' : Nat} (hst : MS W' w.heap.size b7 m' rs) (hl : rs.length ≤ 3000) (hac : ∀ z, z ∈ rs.map RD.zs ↔ z ∈ acc') :
    RI w W' b6 b7 B nm lst fv g4 N4 c4 hi4 rs4 ms acc' m' bp A2 n2 c2 zs2 := by
  obtain ⟨es, cl, hmb⟩ := hmap
  have hne : ∀ {k : Nat} {o : Obj}, W.heap[k]? = some o → (∀ es cl, o ≠ .map es cl) → k ≠ b7 := fun hk ho e => by
    subst e
    rw [hmb] at hk
    cases hk
    exact ho _ _ rfl
  have hc : ∀ {k : Nat} {o : Obj}, W.heap[k]? = some o → (∀ es cl, o ≠ .map es cl) → W'.heap[k]? = some o := fun hk ho => (hg.block _ (Array.getElem?_eq_some_iff.1 hk).1 (fun e => hne hk ho (by cases e; rfl))).trans hk
  have hrow : ∀ {B' : Nat} {e : TypeId} {s n c mm : Nat} {A : Option Addr} {xs : List Value}, W.ownsRow B' e s (.slice A n c) mm xs → W'.ownsRow B' e s (.slice A n c) mm xs := fun ho => own_gr ho hg fun k hk e => by
    obtain ⟨cs, f, hcs⟩ := own_cells ho k hk
    cases e
    rw [hmb] at hcs
    cases hcs
  have hcell : ∀ {p : Addr} {v : Value}, W.cell? p = some v → W'.cell? p = some v := fun {p v} hp => hg.cell hp fun e => by
    simp only [Option.some.injEq] at e
    unfold World.cell? at hp
    rw [e, hmb] at hp
    cases hp
  refine ⟨⟨h.env.below.grown hg h.env.below.size (fun k e => by cases e; exact hlo), hc h.env.c4 (fun _ _ => by simp), hc h.env.c5 (fun _ _ => by simp), h.env.lo, hc h.env.c6 (fun _ _ => by simp)⟩, hc h.box (fun _ _ => by simp), ⟨rs, hst, hl, hac⟩,
    ⟨hrow h.ss.1, fun i hi => ⟨hrow (h.ss.2.1 i hi).1, (h.ss.2.1 i hi).2.1, Nat.le_trans (h.ss.2.1 i hi).2.2 hg.size⟩, h.ss.2.2.1, h.ss.2.2.2.1, Nat.le_trans h.ss.2.2.2.2 hg.size⟩,
    ⟨h.mks.1, fun D hD => ⟨(h.mks.2 D hD).1, hc (h.mks.2 D hD).2 (fun _ _ => by simp)⟩⟩, hcell h.kp.1, ?_⟩
  intro j hj
  obtain ⟨b, o, e, hlt, hcc⟩ := h.kp.2 j hj
  exact ⟨b, o, e, Nat.lt_of_lt_of_le hlt hg.size, hcell hcc⟩
end
/-- behind the way out with too many -/
structure IX (w W : World) (B : Nat) (ms : List Nat) : Prop where
  below : Below w.heap.size w W
  c4 : Boxed W w.heap.size 63 (.slice none 0 0)
  c5 : Boxed W (w.heap.size + 1) 4 (.bool false)
  mks : ms.Nodup ∧ ∀ D ∈ ms, (w.heap.size ≤ D ∧ D < B) ∧ W.heap[D]? = some (.deferred (some []))
theorem IX.grw {w W W' : World} {B : Nat} {ms : List Nat} (h : IX w W B ms) (hg : Grw B W W') (hB : w.heap.size ≤ B) : IX w W' B ms :=
  ⟨⟨hg.os.trans h.below.os, hg.tape.trans h.below.tape, hg.output.trans h.below.output, Nat.le_trans h.below.size hg.size, fun k hk => (hg.block k (Nat.lt_of_lt_of_le hk h.below.size) (Or.inl (by omega))).trans (h.below.block k hk)⟩,
    (hg.block _ h.c4.lt (Or.inr ⟨_, _, _, h.c4⟩)).trans h.c4, (hg.block _ h.c5.lt (Or.inr ⟨_, _, _, h.c5⟩)).trans h.c5, h.mks.1, fun D hD => ⟨(h.mks.2 D hD).1, (hg.block D (Array.getElem?_eq_some_iff.1 (h.mks.2 D hD).2).1 (Or.inl (h.mks.2 D hD).1.2)).trans (h.mks.2 D hD).2⟩⟩
theorem ss_set {W : World} {lo hi b n c : Nat} {A : Option Addr} {t : TypeId} {u v : Value} {rs : List RD} (h : SSRow W lo hi A n c rs) (hb : Boxed W b t u) (h1 : t ≠ 22) (h2 : t ≠ 3) : SSRow (W.setCell ⟨b, 0, none⟩ v) lo hi A n c rs := by
  have hg := grownBy_setCell' W b v
  have hrow : ∀ {B' : Nat} {e : TypeId} {s n c mm : Nat} {A : Option Addr} {xs : List Value}, t ≠ e → W.ownsRow B' e s (.slice A n c) mm xs → (W.setCell ⟨b, 0, none⟩ v).ownsRow B' e s (.slice A n c) mm xs := fun hne ho => own_gr ho hg fun k hk e => by
    obtain ⟨cs, f, hcs⟩ := own_cells ho k hk
    obtain rfl : k = b := by simpa using e.symm
    rw [show W.heap[k]? = _ from hb] at hcs
    simp only [Option.some.injEq, Obj.cells.injEq] at hcs
    exact hne hcs.2.1
  exact ⟨hrow h1 h.1, fun i hi => ⟨hrow h2 (h.2.1 i hi).1, (h.2.1 i hi).2.1, Nat.le_trans (h.2.1 i hi).2.2 hg.size⟩, h.2.2.1, h.2.2.2.1, Nat.le_trans h.2.2.2.2 hg.size⟩
theorem good_end {w W : World} {ms : List Nat} {k : Int} {l zss : List (List Int)} {tmps : Array Value} {n : Nat} {A : Option Addr} {c : Nat} {rs : List RD} (hb : Below w.heap.size w W) (h4 : Boxed W w.heap.size 63 (.slice A zss.length c)) (h5 : Boxed W (w.heap.size + 1) 4 (.bool true))
    (hm : ms.Nodup ∧ ∀ D ∈ ms, w.heap.size ≤ D ∧ W.heap[D]? = some (.deferred (some []))) (e4 : tmps.getD 4 undef = .pointer (some ⟨w.heap.size, 0, none⟩)) (e5 : tmps.getD 5 undef = .pointer (some ⟨w.heap.size + 1, 0, none⟩))
    (hz : rs.map RD.zs = zss) (hs : SSRow W w.heap.size W.heap.size A zss.length c rs) (hr : raB k l = true) (he : raF k l = zss) :
    LeavesInM Fence.wide n Tryz.prog Tryz.f59 tmps (IsSSB w.heap.size (raR k l) (raB k l) w) (marks ms) .returning W := by
  refine leave_marks (B := w.heap.size) ms W hm.1 hm.2 fun W' hg => ?_
  refine ⟨_, results_cells rfl _ e4 e5 (load_ss (hg.cell h4.cell)) (load_b (hg.cell h5.cell)), ?_⟩
  have e1 : raR k l = zss := by unfold raR; rw [hr, he]; rfl
  rw [e1, hr]
  refine ⟨A, c, rs, rfl, hz, (ss_grw hs hg).higher hg.size (Nat.le_refl _), ?_⟩
  rcases hg.below with h | h
  · exact hb.trans h
  · have := hb.size; omega
theorem snoc_mem (acc : List (List Int)) {rows : List (List Int)} {i : Nat} (h : i < rows.length) (z : List Int) : z ∈ acc ++ rows.take (i + 1) ↔ z ∈ acc ++ rows.take i ∨ z = rows.getD i [] := by
  rw [List.take_add_one, List.getElem?_eq_getElem h, List.getD_eq_getElem?_getD, List.getElem?_eq_getElem h]
  simp only [List.mem_append, Option.toList_some, List.mem_singleton, Option.getD_some, or_assoc]
theorem drew_grown (W : World) : W.grownBy W.drew none := ⟨rfl, rfl, rfl, Nat.le_refl _, fun _ _ _ => rfl⟩
end Go.Proofs.YtibephoepkofnaaGreat.Raf
