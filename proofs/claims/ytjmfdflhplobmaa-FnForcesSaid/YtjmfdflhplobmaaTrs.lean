/- A valid force as a tree of pointers in memory: what holds while it is built. -/
import Derived.Test.YtjmfdflhplobmaaTbk
import Derived.Test.YtjmfdflhplobmaaTcf
import Derived.Test.YtjmfdflhplobmaaFok
import Derived.Test.YtjmfdflhplobmaaAat
import Derived.RangeFuncWrites
import Derived.Deep.RegionLaw
set_option linter.unusedVariables false
set_option maxRecDepth 20000
namespace Go.Proofs.Ytjmfdflhplobmaa.Trs
open Go.Deep Go.RowKit Go.Shelf Fr _root_.Go.Proofs.Ytjmfdflhplobmaa.Own Pk Ins Rws Rfn Rfw Fpl Nod Nob Tbk Tcf Fok

attribute [local go_sem] Oper.semAt_some

/-- which pointers the list holds when the nodes from m on are trees, of which those in T have been taken -/
def fP (tp : Nat → Nat) (m : Nat) (T : List Int) (j : Nat) : Option Addr := if m ≤ j ∧ ¬ (j : Int) ∈ T then some ⟨tp j, 0, none⟩ else none
def frow (n : Nat) (tp : Nat → Nat) (m : Nat) (T : List Int) : List Value := (List.range n).map fun j => .pointer (fP tp m T j)
theorem frow_get {n j : Nat} (tp : Nat → Nat) (m : Nat) (T : List Int) (h : j < n) : (frow n tp m T)[j]? = some (.pointer (fP tp m T j)) := by simp [frow, h]
theorem frow_congr {n m m' : Nat} {tp tp' : Nat → Nat} {T T' : List Int} (h : ∀ j, j < n → fP tp m T j = fP tp' m' T' j) : frow n tp m T = frow n tp' m' T' := by
  unfold frow
  exact List.map_congr_left fun j hj => by rw [h j (List.mem_range.1 hj)]
theorem frow_set {n k : Nat} (tp : Nat → Nat) (m : Nat) (T : List Int) (p : Option Addr) {tp' : Nat → Nat} {m' : Nat} {T' : List Int} (hk : fP tp' m' T' k = p) (h : ∀ j, j < n → j ≠ k → fP tp' m' T' j = fP tp m T j) : (frow n tp m T).set k (.pointer p) = frow n tp' m' T' := by
  refine List.ext_getElem (by simp [frow]) fun i h1 h2 => ?_
  have hi : i < n := by simpa [frow] using h2
  rw [List.getElem_set]
  simp only [frow, List.getElem_map, List.getElem_range]
  split
  · rename_i e; subst e; rw [hk]
  · rename_i e; rw [h i hi (Ne.symm e)]
def kidsV (tp : Nat → Nat) (zs : List Int) : List Value := zs.map fun k => .pointer (some ⟨tp k.toNat, 0, none⟩)
/-- the tree of node i -/
def TreeAt (W : World) (lo : Nat) (L : List NV) (tp : Nat → Nat) (i : Nat) : Prop := ∃ A c, W.heap[tp i]? = some (.cells #[.int .i64 (i : Int), .int .i64 (fi L i), .slice A (nx L i).length c] 67 (0, 0)) ∧ lo ≤ tp i ∧
  W.ownsRow lo 59 1 (.slice A (nx L i).length c) (nx L i).length (kidsV tp (nx L i))
theorem TreeAt.grown {W W' : World} {lo i : Nat} {L : List NV} {tp : Nat → Nat} {row : Option Nat} (h : TreeAt W lo L tp i) (hg : W.grownBy W' row) (hr : ∀ k, row = some k → k < lo) : TreeAt W' lo L tp i := by
  obtain ⟨A, c, h1, h2, h3⟩ := h
  refine ⟨A, c, (hg.block _ (Array.getElem?_eq_some_iff.1 h1).1 (fun e => by have := hr _ e.symm; omega)).trans h1, h2, own_gr h3 hg fun k hk e => ?_⟩
  have h4 := (own_lo h3 k hk).1
  have := hr k e
  omega
theorem grw_heap {B k : Nat} {W W' : World} {cs : Array Value} {e : TypeId} {f : Nat × Nat} (h : Grw B W W') (hk : W.heap[k]? = some (.cells cs e f)) : W'.heap[k]? = some (.cells cs e f) :=
  (h.block k (Array.getElem?_eq_some_iff.1 hk).1 (Or.inr ⟨_, _, _, hk⟩)).trans hk
theorem TreeAt.grw {B : Nat} {W W' : World} {lo i : Nat} {L : List NV} {tp : Nat → Nat} (h : TreeAt W lo L tp i) (hg : Grw B W W') : TreeAt W' lo L tp i := by
  obtain ⟨A, c, h1, h2, h3⟩ := h
  exact ⟨A, c, grw_heap hg h1, h2, hg.own h3⟩
/-- the nodes from m on are as they must be -/
def PreHi (L : List NV) (m : Nat) : Prop := (low L m).Nodup ∧ ∀ j, m ≤ j → j < L.length → (∀ k ∈ nx L j, (j : Int) < k ∧ k < L.length) ∧ 0 ≤ fi L j ∧ (nx L j ≠ [] → fi L j = 0)
theorem dup_bad {L : List NV} {i t : Nat} (hi : i < L.length) (ht : t < (nx L i).length) (h : (nx L i).getD t 0 ∈ (nx L i).take t ++ low L (i + 1)) : ¬ OkF L := by
  intro ok
  have hn := ok.nodup
  rw [low_upto L i, List.nodup_append] at hn
  have h2 := hn.2.1
  rw [low_step hi, List.nodup_append] at h2
  rw [List.getD_eq_getElem?_getD, List.getElem?_eq_getElem ht] at h
  simp only [Option.getD_some] at h
  rcases List.mem_append.1 h with h | h
  · obtain ⟨j, hj, e⟩ := List.getElem_of_mem h
    rw [List.length_take] at hj
    rw [List.getElem_take] at e
    exact (List.pairwise_iff_getElem.1 h2.1) j t (by omega) ht (by omega) e
  · exact h2.2.2 _ (List.getElem_mem ht) _ h rfl
theorem end_ok {L : List NV} (h1 : 1 ≤ L.length) (h2 : L.length ≤ 40) (hp : PreHi L 0) (hc : ∀ k : Nat, 1 ≤ k → k < L.length → (k : Int) ∈ low L 0) : OkF L :=
  ⟨h1, h2, fun i hi => (hp.2 i (Nat.zero_le _) hi).1, fun i hi => (hp.2 i (Nat.zero_le _) hi).2, fun k h3 h4 => by
    have h5 := List.count_pos_iff.2 (hc k h3 h4)
    have h6 := (List.nodup_iff_count.1 hp.1) (k : Int)
    omega⟩
theorem end_bad {L : List NV} {k : Nat} (h1 : 1 ≤ k) (h2 : k < L.length) (h : ¬ (k : Int) ∈ low L 0) : ¬ OkF L := fun ok => by
  have := ok.one k h1 h2
  rw [List.count_eq_zero.2 h] at this
  omega
/-- what holds between two rounds -/
structure Est (w : World) (r1 r2 n c b o : Nat) (L : List NV) (tp : Nat → Nat) (m : Nat) (W : World) : Prop where
  low : Below w.heap.size w W
  res : W.heap[w.heap.size]? = some (.cells #[.pointer none] 59 (0, 0))
  row : W.ownsRow w.heap.size 59 1 (.slice (some ⟨r1, 0, none⟩) n n) n (frow n tp m (Fpl.low L m))
  box : W.heap[r2]? = some (.cells #[.slice (some ⟨r1, 0, none⟩) n n] 65 (0, 0))
  cap : W.cell? ⟨r2 + 1, 0, none⟩ = some (.slice (some ⟨b, o, none⟩) n c)
  sz : r2 + 2 ≤ W.heap.size
  tree : ∀ i, m ≤ i → i < n → TreeAt W (r2 + 2) L tp i
theorem Est.grw {w W W' : World} {r1 r2 n c b o m B : Nat} {L : List NV} {tp : Nat → Nat} (h : Est w r1 r2 n c b o L tp m W) (hg : Grw B W W') (hB : w.heap.size ≤ B) (hB2 : B ≤ W.heap.size) : Est w r1 r2 n c b o L tp m W' := by
  have hb : Below B W W' := by
    rcases hg.below with h | h
    · exact h
    · omega
  exact ⟨h.low.trans (hb.mono hB), grw_heap hg h.res, hg.own h.row, grw_heap hg h.box, hg.cell h.cap, Nat.le_trans h.sz hg.size, fun i h1 h2 => (h.tree i h1 h2).grw hg⟩
theorem est_start {w w1 : World} {r1 n c b o : Nat} {L : List NV} (hb1 : Below w.heap.size w w1) (hres : w1.heap[w.heap.size]? = some (.cells #[.pointer none] 59 (0, 0)))
    (hrow : w1.ownsRow w.heap.size 59 1 (.slice (some ⟨r1, 0, none⟩) n n) n (frow n (fun _ => 0) n (low L n))) :
    Est w r1 w1.heap.size n c b o L (fun _ => 0) n ((w1.alloc (.cells #[.slice (some ⟨r1, 0, none⟩) n n] 65)).alloc (.cells #[.slice (some ⟨b, o, none⟩) n c] 23)) ∧
    ((w1.alloc (.cells #[.slice (some ⟨r1, 0, none⟩) n n] 65)).alloc (.cells #[.slice (some ⟨b, o, none⟩) n c] 23)).heap.size = w1.heap.size + 2 := by
  obtain ⟨x0, x1, x2, x3⟩ := two_at w1 #[.slice (some ⟨r1, 0, none⟩) n n] #[.slice (some ⟨b, o, none⟩) n c] 65 23
  have hw := (Array.getElem?_eq_some_iff.1 hres).1
  refine ⟨⟨hb1.trans (x2.mono hb1.size), (x2.block _ hw).trans hres, own_below hrow x2, x0, ?_, by rw [x3]; exact Nat.le_refl _, fun i h1 h2 => by omega⟩, by rw [x3]⟩
  unfold World.cell?
  rw [x1]
  rfl
theorem gr_new {W0 W1 W2 : World} {r1 : Nat} {row : Option Nat} (h : W0.grownBy W1 (some r1)) (hg : W1.grownBy W2 row) (hr : ∀ k, row = some k → W0.heap.size ≤ k ∨ k = r1) : W0.grownBy W2 (some r1) :=
  ⟨hg.os.trans h.os, hg.tape.trans h.tape, hg.output.trans h.output, Nat.le_trans h.size hg.size, fun k hk hne => by
    refine (hg.block k (Nat.lt_of_lt_of_le hk h.size) fun e => ?_).trans (h.block k hk hne)
    rcases hr k e.symm with h1 | h1
    · omega
    · exact hne (by rw [h1])⟩
/-- a row's block is another one than a box of another type -/
theorem own_box {W : World} {B p : Nat} {e e2 : TypeId} {A : Option Addr} {n c m : Nat} {xs : List Value} {cs : Array Value} (h : W.ownsRow B e 1 (.slice A n c) m xs) (hp : W.heap[p]? = some (.cells cs e2 (0, 0))) (he : e ≠ e2) : A.map (·.block) ≠ some p := by
  intro hb
  rcases h.2 with ⟨h2, _⟩ | ⟨g, cap, cur, hv, hg, hh, r⟩
  · simp only [Value.slice.injEq] at h2
    rw [h2.1] at hb; cases hb
  · simp only [Value.slice.injEq] at hv
    rw [hv.1] at hb
    simp only [Option.map_some, Option.some.injEq] at hb
    subst hb
    rw [hh] at hp
    simp only [Option.some.injEq, Obj.cells.injEq] at hp
    exact he hp.2.1
/-- what holds in the round of node i when t of its followers have been taken -/
structure Ist (w W0 : World) (r1 n : Nat) (L : List NV) (tp : Nat → Nat) (i tb t : Nat) (A6 : Option Addr) (c6 : Nat) (W : World) : Prop where
  grown : W0.grownBy W (some r1)
  row : W.ownsRow w.heap.size 59 1 (.slice (some ⟨r1, 0, none⟩) n n) n (frow n tp (i + 1) ((nx L i).take t ++ low L (i + 1)))
  kid : W.ownsRow W0.heap.size 59 1 (.slice A6 t c6) t (kidsV tp ((nx L i).take t))
  tre : W.heap[tb]? = some (.cells #[.int .i64 (i : Int), .int .i64 (fi L i), .slice A6 t c6] 67 (0, 0))
theorem Ist.start {w W0 : World} {r1 r2 n c b o i : Nat} {L : List NV} {tp : Nat → Nat} (h : Est w r1 r2 n c b o L tp (i + 1) W0) :
    Ist w W0 r1 n L tp i W0.heap.size 0 none 0 (W0.alloc (.cells #[.int .i64 (i : Int), .int .i64 (fi L i), .slice none 0 0] 67)) := by
  have hb := box_below W0 (.cells #[.int .i64 (i : Int), .int .i64 (fi L i), .slice none 0 0] 67)
  exact ⟨⟨hb.os, hb.tape, hb.output, hb.size, fun k hk _ => hb.block k hk⟩, own_below h.row hb, World.ownsRow_nil _ _ _ _, heap_alloc_new W0 _⟩
/-- one follower more -/
theorem Ist.step {w W0 W W5 : World} {r1 n i tb t y g c' : Nat} {L : List NV} {tp : Nat → Nat} {A6 : Option Addr} {c6 : Nat} (h : Ist w W0 r1 n L tp i tb t A6 c6 W) (hr1 : r1 < W0.heap.size) (htb : W0.heap.size ≤ tb) (hy : y < n)
    (htk : (nx L i).take (t + 1) = (nx L i).take t ++ [(y : Int)])
    (ho : W5.ownsRow W0.heap.size 59 1 (.slice (some ⟨g, 0, none⟩) (t + 1) c') (t + 1) (kidsV tp ((nx L i).take t) ++ [.pointer (some ⟨tp y, 0, none⟩)])) (hg : W.grownBy W5 (A6.map (·.block))) :
    Ist w W0 r1 n L tp i tb (t + 1) (some ⟨g, 0, none⟩) c' ((W5.setCell ⟨tb, 2, none⟩ (.slice (some ⟨g, 0, none⟩) (t + 1) c')).setCell ⟨r1, y, none⟩ (.pointer none)) ∧
    W5.heap[tb]? = some (.cells #[.int .i64 (i : Int), .int .i64 (fi L i), .slice A6 t c6] 67 (0, 0)) ∧
    (W5.setCell ⟨tb, 2, none⟩ (.slice (some ⟨g, 0, none⟩) (t + 1) c')).ownsRow w.heap.size 59 1 (.slice (some ⟨r1, 0, none⟩) n n) n (frow n tp (i + 1) ((nx L i).take t ++ low L (i + 1))) ∧
    W0.grownBy (W5.setCell ⟨tb, 2, none⟩ (.slice (some ⟨g, 0, none⟩) (t + 1) c')) (some r1) := by
  have htw := (Array.getElem?_eq_some_iff.1 h.tre).1
  have hkb : ∀ k, A6.map (·.block) = some k → W0.heap.size ≤ k := fun k hk => (own_lo h.kid k hk).1
  have hkt : A6.map (·.block) ≠ some tb := own_box h.kid h.tre (by decide)
  have t5 := (hg.block tb htw (Ne.symm hkt)).trans h.tre
  have r5 := own_gr h.row hg (fun k hk e => by
    simp only [Option.map_some, Option.some.injEq] at hk
    have := hkb k e
    omega)
  have g5 := gr_new h.grown hg (fun k hk => Or.inl (hkb k hk))
  have hgt : (some g : Option Nat) ≠ some tb := own_box ho t5 (by decide)
  have s6 := set_gr W5 tb 2 (.slice (some ⟨g, 0, none⟩) (t + 1) c')
  have t6 := heap_setCell_same W5 tb 2 _ _ (.slice (some ⟨g, 0, none⟩) (t + 1) c') t5
  have r6 := own_gr r5 s6 (fun k hk e => by simp only [Option.map_some, Option.some.injEq] at hk e; omega)
  have k6 := own_gr ho s6 (fun k hk e => by simp only [Option.map_some, Option.some.injEq] at hk e; exact hgt (by rw [hk, e]))
  have g6 := gr_new g5 s6 (fun k hk => by simp only [Option.some.injEq] at hk; omega)
  have st := r6.stored y (.pointer none)
  have hgl := (own_lo k6 g rfl).1
  refine ⟨⟨gr_new g6 st.2 (fun k hk => by simp at hk; omega), ?_, ?_, ?_⟩, t5, r6, g6⟩
  · have e : frow n tp (i + 1) ((nx L i).take (t + 1) ++ low L (i + 1)) = (frow n tp (i + 1) ((nx L i).take t ++ low L (i + 1))).set y (.pointer none) := by
      rw [htk]
      symm
      refine frow_set tp (i + 1) _ none ?_ fun j hj hne => ?_
      · unfold fP; rw [if_neg (by simp)]
      · unfold fP
        have : (j : Int) ∈ (nx L i).take t ++ [(y : Int)] ++ low L (i + 1) ↔ (j : Int) ∈ (nx L i).take t ++ low L (i + 1) := by
          simp only [List.mem_append, List.mem_singleton]
          constructor
          · rintro ((h | h) | h)
            · exact Or.inl h
            · omega
            · exact Or.inr h
          · rintro (h | h)
            · exact Or.inl (Or.inl h)
            · exact Or.inr h
        simp only [this]
    rw [e]
    exact st.1
  · have e : kidsV tp ((nx L i).take (t + 1)) = kidsV tp ((nx L i).take t) ++ [.pointer (some ⟨tp y, 0, none⟩)] := by
      rw [htk]; simp [kidsV]
    rw [e]
    exact own_gr k6 st.2 (fun k hk e => by simp at hk e; omega)
  · exact (st.2.block tb (by rw [World.size_setCell]; exact (Array.getElem?_eq_some_iff.1 t5).1) (by simp; omega)).trans t6
/-- the round's end -/
theorem Ist.fin {w W0 W : World} {r1 r2 n c b o i tb : Nat} {L : List NV} {tp : Nat → Nat} {A6 : Option Addr} {c6 t : Nat} (h : Ist w W0 r1 n L tp i tb t A6 c6 W) (ht : t = (nx L i).length) (hE : Est w r1 r2 n c b o L tp (i + 1) W0) (hP : PreHi L (i + 1)) (hl : L.length = n) (hi : i < n)
    (hk : ∀ x ∈ nx L i, (i : Int) < x ∧ x < L.length) (hf : 0 ≤ fi L i ∧ (nx L i ≠ [] → fi L i = 0)) (hnd : ((nx L i) ++ low L (i + 1)).Nodup) (hr1 : w.heap.size < r1) (hr2 : r1 < r2) (htb : W0.heap.size ≤ tb) :
    ∃ tp', Est w r1 r2 n c b o L tp' i (W.setCell ⟨r1, i, none⟩ (.pointer (some ⟨tb, 0, none⟩))) ∧ PreHi L i := by
  obtain ⟨tp', hti, hto⟩ : ∃ tp' : Nat → Nat, tp' i = tb ∧ ∀ j, j ≠ i → tp' j = tp j := ⟨fun j => if j = i then tb else tp j, if_pos rfl, fun j hj => if_neg hj⟩
  have hsz := hE.sz
  have hlow : low L i = nx L i ++ low L (i + 1) := low_step (by rw [hl]; exact hi)
  have htk : (nx L i).take t = nx L i := by rw [ht, List.take_length]
  have hPi : PreHi L i := by
    refine ⟨by rw [hlow]; exact hnd, fun j h1 h2 => ?_⟩
    by_cases e : j = i
    · subst e; exact ⟨hk, hf⟩
    · exact hP.2 j (by omega) h2
  have st := h.row.stored i (.pointer (some ⟨tb, 0, none⟩))
  have hg := gr_new h.grown st.2 (fun k hk => by simp at hk; omega)
  have htr := (st.2.block tb (Array.getElem?_eq_some_iff.1 h.tre).1 (by simp; omega)).trans h.tre
  have hkd := own_gr h.kid st.2 (fun k hk e => by
    have := (own_lo h.kid k hk).1
    simp at e
    omega)
  refine ⟨tp', ⟨hE.low.grown hg (by omega) (fun k hk => by simp only [Option.some.injEq] at hk; omega), (hg.block _ (by omega) (by simp; omega)).trans hE.res, ?_, (hg.block _ (by omega) (by simp; omega)).trans hE.box, ?_, Nat.le_trans hE.sz hg.size, fun j h1 h2 => ?_⟩, hPi⟩
  · have e : frow n tp' i (low L i) = (frow n tp (i + 1) ((nx L i).take t ++ low L (i + 1))).set i (.pointer (some ⟨tb, 0, none⟩)) := by
      symm
      refine frow_set tp (i + 1) _ _ ?_ fun j hj hne => ?_
      · unfold fP
        have hno : ¬ (i : Int) ∈ low L i := fun hc => by
          obtain ⟨q, q1, q2, q3⟩ := mem_low hc
          have := (hPi.2 q q1 q2).1 _ q3
          omega
        rw [if_pos ⟨Nat.le_refl _, hno⟩, hti]
      · unfold fP
        rw [htk, ← hlow, hto j hne]
        by_cases h1 : i + 1 ≤ j
        · have h2 : i ≤ j := by omega
          simp only [h1, h2]
        · rw [if_neg (fun hc => by have := hc.1; omega), if_neg (fun hc => h1 hc.1)]
    rw [e]
    exact st.1
  · have := hE.cap
    exact hg.cell this (by simp; omega)
  · by_cases e : j = i
    · subst e
      refine ⟨A6, c6, ?_, ?_, ?_⟩
      · rw [hti, ← ht]; exact htr
      · rw [hti]; omega
      · have ek : kidsV tp' (nx L j) = kidsV tp (nx L j) := by
          unfold kidsV
          refine List.map_congr_left fun x hx => ?_
          have := hk x hx
          rw [hto _ (by omega)]
        rw [ek, ← ht]
        rw [htk] at hkd
        exact own_mono hkd hsz
    · obtain ⟨A, c2, h3, h4, h5⟩ := (hE.tree j (by omega) h2).grown hg (fun k hk => by simp only [Option.some.injEq] at hk; omega)
      refine ⟨A, c2, ?_, ?_, ?_⟩
      · rw [hto j e]; exact h3
      · rw [hto j e]; exact h4
      · have ek : kidsV tp' (nx L j) = kidsV tp (nx L j) := by
          unfold kidsV
          refine List.map_congr_left fun x hx => ?_
          have := (hP.2 j (by omega) (by omega)).1 x hx
          rw [hto _ (by omega)]
        rw [ek]; exact h5
def updT (T x : Array Value) (bn : Nat) : Array Value := (((T.setIfInBounds 22 (x.getD 0 undef)).setIfInBounds 23 (x.getD 1 undef)).setIfInBounds 4 (x.getD 0 undef)).setIfInBounds 5 (.pointer (some ⟨bn, 0, none⟩))
def cxN (x : Array Value) : Array Value := match x.getD 1 undef with | .agg fs => fs | _ => #[]
/-- what a range that was left early leaves -/
def LeftW (w : World) (L : List NV) (r2 : Nat) (W : World) : Prop := Below w.heap.size w W ∧ W.heap[w.heap.size]? = some (.cells #[.pointer none] 59 (0, 0)) ∧ ¬ OkF L ∧ r2 + 2 ≤ W.heap.size ∧ w.heap.size < r2
theorem LeftW.grw {w W W' : World} {L : List NV} {r2 B : Nat} (h : LeftW w L r2 W) (hg : Grw B W W') (hB : w.heap.size ≤ B) (hB2 : B ≤ r2 + 2) : LeftW w L r2 W' := by
  obtain ⟨h1, h2, h3, h4, h5⟩ := h
  have hb : Below B W W' := by
    rcases hg.below with h | h
    · exact h
    · omega
  exact ⟨h1.trans (hb.mono hB), grw_heap hg h2, h3, Nat.le_trans h4 hg.size, h5⟩
theorem load_p {W : World} {b : Nat} {v : Value} (h : W.heap[b]? = some (.cells #[v] 59 (0, 0))) : (loadVar 59 ⟨b, 0, none⟩).run Try.prog W = .ok v W := by
  have hc : W.cell? ⟨b, 0, none⟩ = some v := by unfold World.cell?; rw [h]; rfl
  have hu := run_underlying Try.underlying59
  simp [go_sem, loadVar, isAgg, hu, hc]
theorem left_store {w W : World} {L : List NV} {r2 : Nat} (hlow : Below w.heap.size w W) (hres : W.heap[w.heap.size]? = some (.cells #[.pointer none] 59 (0, 0))) (hno : ¬ OkF L) (hsz : r2 + 2 ≤ W.heap.size) (hw : w.heap.size < r2) :
    LeftW w L r2 (W.setCell ⟨w.heap.size, 0, none⟩ (.pointer none)) ∧ KeepsFrom (r2 + 2) W (W.setCell ⟨w.heap.size, 0, none⟩ (.pointer none)) :=
  ⟨⟨hlow.setCell (p := ⟨w.heap.size, 0, none⟩) (Nat.le_refl _) _, heap_setCell_same W w.heap.size 0 _ _ _ hres, hno, by rw [World.size_setCell]; exact hsz, hw⟩, (KeepsOthers.setCell W ⟨w.heap.size, 0, none⟩ (.pointer none)).from _⟩
theorem box_cell {W : World} {b : Nat} {v : Value} {e : TypeId} (h : W.heap[b]? = some (.cells #[v] e (0, 0))) : W.cell? ⟨b, 0, none⟩ = some v ∧ W.frozen? ⟨b, 0, none⟩ = false := by
  refine ⟨?_, frz h 0⟩
  unfold World.cell?; rw [h]; rfl
theorem ptr_parts : ∃ i, Try.prog.info? 59 = some i ∧ i.zero = some (.pointer none) ∧ i.size = 1 ∧ i.bytes = 8 := by
  have h : (Try.prog.info? 59).map (fun i => (i.zero, i.size, i.bytes)) = some (some (.pointer none), 1, 8) := by kernel_rfl
  cases hi : Try.prog.info? 59 with
  | none => rw [hi] at h; cases h
  | some i =>
    rw [hi] at h
    simp only [Option.map_some, Option.some.injEq, Prod.mk.injEq] at h
    exact ⟨i, rfl, h.1, h.2.1, h.2.2⟩
/-- append of one pointer at a region's step that draws -/
theorem app_run {W : World} {B t : Nat} {A6 : Option Addr} {c6 : Nat} {xs : List Value} {p : Option Addr} (h : W.ownsRow B 59 1 (.slice A6 t c6) t xs) (ht : t ≤ 1048576) (hB : B ≤ W.heap.size) :
    ∃ g c' W5, (Builtin.append_ #[65, 65] 65 #[.slice A6 t c6, .slice (some ⟨W.heap.size, 0, none⟩) 1 1]).run Try.prog (W.alloc (.cells #[.pointer p] 59)).drew = .ok (.slice (some ⟨g, 0, none⟩) (t + 1) c') W5 ∧
      W5.ownsRow B 59 1 (.slice (some ⟨g, 0, none⟩) (t + 1) c') (t + 1) (xs ++ [.pointer p]) ∧ W.grownBy W5 (A6.map (·.block)) := by
  obtain ⟨i0, hi, hz0, hz1, hz2⟩ := ptr_parts
  have hb : Below W.heap.size W (W.alloc (.cells #[.pointer p] 59)).drew := (box_below W _).drew
  obtain ⟨v', W5, hrun, h1, h2, h3, h4⟩ := run_append_own_at (P := Try.prog) (W.alloc (.cells #[.pointer p] 59)).drew B 65 65 59 i0 (.pointer none) 1 8 Try.underlying65 hi hz0 hz1 hz2 rfl (by decide)
    (.slice A6 t c6) t xs (own_below h hb) ⟨W.heap.size, 0, none⟩ 1 1 [.pointer p] rfl (fun j u hj => Wid.wide_cell W #[.pointer p] 59 j u (by simpa using hj)) (by intro u hu; simp at hu; subst hu; rfl) (by unfold maxLen; omega) (by omega) (Nat.le_trans hB hb.size)
  rcases h1.2 with ⟨_, h0⟩ | ⟨g, cap, cur, hv, _⟩
  · omega
  · subst hv
    have hg0 : W.grownBy (W.alloc (.cells #[.pointer p] 59)).drew (A6.map (·.block)) := ⟨hb.os, hb.tape, hb.output, hb.size, fun k hk _ => hb.block k hk⟩
    refine ⟨g, cap, W5, hrun, h1, hg0.trans ?_⟩
    cases A6 <;> exact h2
theorem TreeAt.mono {W : World} {lo lo' i : Nat} {L : List NV} {tp : Nat → Nat} (h : TreeAt W lo L tp i) (hl : lo' ≤ lo) : TreeAt W lo' L tp i := by
  obtain ⟨A, c, h1, h2, h3⟩ := h
  exact ⟨A, c, h1, Nat.le_trans hl h2, own_mono h3 hl⟩
theorem any_some {P : Nat → Option Addr} {m : Nat} (h : anyP P m = true) : ∃ j, j < m ∧ (P j).isSome = true := by
  unfold anyP at h
  rw [List.any_eq_true] at h
  obtain ⟨j, hj, he⟩ := h
  exact ⟨j, List.mem_range.1 hj, he⟩
theorem any_none {P : Nat → Option Addr} {m : Nat} (h : anyP P m = false) : ∀ j, j < m → P j = none := by
  unfold anyP at h
  rw [List.any_eq_false] at h
  intro j hj
  have := h j (List.mem_range.2 hj)
  cases hp : P j with
  | none => rfl
  | some a => rw [hp] at this; exact absurd rfl this
/-- what the last look at the list says -/
theorem last_bad {L : List NV} {tp : Nat → Nat} {n : Nat} (hl : L.length = n) (h : anyP (fun j => fP tp 0 (low L 0) (1 + j)) (n - 1) = true) : ¬ OkF L := by
  obtain ⟨j, hj, he⟩ := any_some h
  refine end_bad (k := 1 + j) (by omega) (by omega) fun hm => ?_
  unfold fP at he
  rw [if_neg (fun hc => hc.2 hm)] at he
  cases he
theorem last_ok {L : List NV} {tp : Nat → Nat} {n : Nat} (hl : L.length = n) (h1 : 1 ≤ n) (h2 : n ≤ 40) (hp : PreHi L 0) (h : anyP (fun j => fP tp 0 (low L 0) (1 + j)) (n - 1) = false) : OkF L ∧ fP tp 0 (low L 0) 0 = some ⟨tp 0, 0, none⟩ := by
  refine ⟨end_ok (by omega) (by omega) hp fun k h3 h4 => ?_, ?_⟩
  · have := any_none h (k - 1) (by omega)
    rw [show 1 + (k - 1) = k by omega] at this
    unfold fP at this
    by_cases hm : (k : Int) ∈ low L 0
    · exact hm
    · rw [if_pos ⟨Nat.zero_le _, hm⟩] at this
      cases this
  · unfold fP
    refine if_pos ⟨Nat.le_refl _, fun hm => ?_⟩
    obtain ⟨q, q1, q2, q3⟩ := mem_low hm
    have := (hp.2 q (Nat.zero_le _) q2).1 _ q3
    omega
theorem grw_below {w W W' : World} (hg : Grw w.heap.size W W') (hb : Below w.heap.size w W) : Below w.heap.size w W' := by
  rcases hg.below with h | h
  · exact hb.trans h
  · have := hb.size; omega
end Go.Proofs.Ytjmfdflhplobmaa.Trs
