/- How the laws draw a force (l13Draw, MakeForce): a tree of at most seven nodes. -/
import Derived.Test.YtjmfdflhplobmaaFeq
import Derived.Maps.AppendAt
set_option linter.unusedVariables false
set_option maxRecDepth 20000
namespace Go.Proofs.Ytjmfdflhplobmaa.Fdr
open Go.RowKit Fr _root_.Go.Proofs.Ytjmfdflhplobmaa.Own Pk Ins Pfn Rws Fpl Nod Nob Pfo Cur

/-! ### the drawn list, plain -/
structure GoodL (L : List NV) : Prop where
  pos : 1 ≤ L.length
  small : L.length ≤ 7
  down : ∀ i, i < L.length → ∀ k ∈ nx L i, (i : Int) < k ∧ k < L.length
  fin : ∀ i, i < L.length → (0 ≤ fi L i ∧ fi L i ≤ 2) ∧ (nx L i ≠ [] → fi L i = 0)
  one : ∀ k : Nat, 1 ≤ k → k < L.length → (low L 0).count (k : Int) = 1
  few : nsum L + 1 = L.length
theorem GoodL.ok {L : List NV} (h : GoodL L) : OkF L := ⟨h.pos, by have := h.small; omega, h.down, fun i hi => ⟨(h.fin i hi).1.1, (h.fin i hi).2⟩, h.one⟩
theorem GoodL.big {L : List NV} (h : GoodL L) : BigN L := by
  have h1 := h.small
  have h2 := h.few
  unfold BigN
  omega
theorem GoodL.fit {L : List NV} (h : GoodL L) : FitN L := by
  intro v hv
  obtain ⟨i, hi, rfl⟩ := List.getElem_of_mem hv
  have e : L[i] = L.getD i nv0 := by rw [List.getD_eq_getElem?_getD, List.getElem?_eq_getElem hi]; rfl
  rw [e]
  have h1 := (h.fin i hi).1
  unfold fi at h1
  refine ⟨fun j hj => ?_, by omega, by omega⟩
  have hm : (L.getD i nv0).next.getD j 0 ∈ nx L i := by
    unfold nx
    rw [List.getD_eq_getElem?_getD (l := (L.getD i nv0).next), List.getElem?_eq_getElem hj]
    exact List.getElem_mem _
  have := h.down i hi _ hm
  have := h.small
  omega
theorem low_flat (L : List NV) : low L 0 = L.flatMap NV.next := by unfold low; rw [List.drop_zero]
theorem get_set (L : List NV) (i : Nat) (v : NV) (j : Nat) (hi : i < L.length) : (L.set i v).getD j nv0 = if j = i then v else L.getD j nv0 := by
  by_cases h : j = i
  · subst h; rw [if_pos rfl, List.getD_eq_getElem?_getD, List.getElem?_set_self hi]; rfl
  · rw [if_neg h, List.getD_eq_getElem?_getD, List.getElem?_set_ne (fun e => h e.symm), ← List.getD_eq_getElem?_getD]
theorem get_app (L : List NV) (v : NV) (j : Nat) (h : j < L.length) : (L ++ [v]).getD j nv0 = L.getD j nv0 := by simp [List.getD_eq_getElem?_getD, List.getElem?_append_left h]
theorem get_new (L : List NV) (v : NV) : (L ++ [v]).getD L.length nv0 = v := by simp [List.getD_eq_getElem?_getD]
theorem flat_set (y : Int) (s : ByteArray) (f : Int) (q : Int) : ∀ (L : List NV) (i : Nat), i < L.length → ((L.set i ⟨s, nx L i ++ [y], f⟩).flatMap NV.next).count q = (L.flatMap NV.next).count q + if q = y then 1 else 0
  | [], i, h => by simp at h
  | v :: L, 0, h => by
    show (((v.next ++ [y]) ++ L.flatMap NV.next)).count q = (v.next ++ L.flatMap NV.next).count q + _
    rw [List.count_append, List.count_append, List.count_append, List.count_singleton]
    by_cases e : q = y
    · subst e; simp; omega
    · rw [if_neg e]
      have e2 : ¬ (y == q) = true := by simpa using fun h => e h.symm
      rw [if_neg e2]
      omega
  | v :: L, i + 1, h => by
    show (v.next ++ (L.set i ⟨s, nx L i ++ [y], f⟩).flatMap NV.next).count q = (v.next ++ L.flatMap NV.next).count q + _
    rw [List.count_append, List.count_append, flat_set y s f q L i (by simpa using h)]
    omega
theorem flat_same (v : NV) : ∀ (L : List NV) (i : Nat), i < L.length → v.next = nx L i → (L.set i v).flatMap NV.next = L.flatMap NV.next
  | [], i, h, _ => by simp at h
  | x :: L, 0, h, e => by show v.next ++ _ = x.next ++ _; rw [e]; rfl
  | x :: L, i + 1, h, e => by
    show x.next ++ (L.set i v).flatMap NV.next = x.next ++ _
    rw [flat_same v L i (by simpa using h) e]
    rfl
theorem nsum_flat : ∀ L : List NV, nsum L = (L.flatMap NV.next).length
  | [] => rfl
  | v :: L => by
    have := nsum_flat L
    simp only [nsum, List.flatMap_cons, List.length_append] at *
    omega
theorem flat_len (y : Int) (s : ByteArray) (f : Int) : ∀ (L : List NV) (i : Nat), i < L.length → ((L.set i ⟨s, nx L i ++ [y], f⟩).flatMap NV.next).length = (L.flatMap NV.next).length + 1
  | [], i, h => by simp at h
  | v :: L, 0, h => by
    show (((v.next ++ [y]) ++ L.flatMap NV.next)).length = (v.next ++ L.flatMap NV.next).length + 1
    simp only [List.length_append, List.length_singleton]
    omega
  | v :: L, i + 1, h => by
    show (v.next ++ (L.set i ⟨s, nx L i ++ [y], f⟩).flatMap NV.next).length = (v.next ++ L.flatMap NV.next).length + 1
    rw [List.length_append, List.length_append, flat_len y s f L i (by simpa using h)]
    omega
/-- one part changed -/
theorem GoodL.set_ {L : List NV} (h : GoodL L) {i : Nat} (hi : i < L.length) {v : NV} (e : v.next = nx L i) (hv : 0 ≤ v.fin ∧ v.fin ≤ 2) (h0 : nx L i ≠ [] → v.fin = 0) : GoodL (L.set i v) := by
  have hn : ∀ j, nx (L.set i v) j = nx L j := fun j => by
    unfold nx
    rw [get_set L i v j hi]
    split
    · rename_i hj; subst hj; exact e
    · rfl
  refine ⟨by rw [List.length_set]; exact h.pos, by rw [List.length_set]; exact h.small, fun j hj k hk => ?_, fun j hj => ?_, fun k h1 h2 => ?_, ?_⟩
  · rw [hn] at hk
    rw [List.length_set] at hj ⊢
    exact h.down j hj k hk
  · rw [hn]
    rw [List.length_set] at hj
    unfold fi
    rw [get_set L i v j hi]
    split
    · rename_i e2; subst e2; exact ⟨hv, h0⟩
    · exact h.fin j hj
  · rw [List.length_set] at h2
    rw [low_flat, flat_same v L i hi e, ← low_flat]
    exact h.one k h1 h2
  · rw [nsum_flat, flat_same v L i hi e, ← nsum_flat, List.length_set]
    exact h.few
/-- one node more, below node i -/
theorem GoodL.grow {L : List NV} (h : GoodL L) (hz : ∀ i, i < L.length → fi L i = 0) (h7 : L.length < 7) {i : Nat} (hi : i < L.length) (s : ByteArray) :
    GoodL (L.set i ⟨s, nx L i ++ [(L.length : Int)], 0⟩ ++ [⟨ByteArray.empty, [], 0⟩]) ∧ ∀ j, j < (L.set i ⟨s, nx L i ++ [(L.length : Int)], 0⟩ ++ [(⟨ByteArray.empty, [], 0⟩ : NV)]).length → fi (L.set i ⟨s, nx L i ++ [(L.length : Int)], 0⟩ ++ [⟨ByteArray.empty, [], 0⟩]) j = 0 := by
  have hl : (L.set i ⟨s, nx L i ++ [(L.length : Int)], 0⟩ ++ [(⟨ByteArray.empty, [], 0⟩ : NV)]).length = L.length + 1 := by rw [List.length_append, List.length_set]; rfl
  have hls : (L.set i (⟨s, nx L i ++ [(L.length : Int)], 0⟩ : NV)).length = L.length := List.length_set
  have hg : ∀ j, j < L.length + 1 → (L.set i ⟨s, nx L i ++ [(L.length : Int)], 0⟩ ++ [(⟨ByteArray.empty, [], 0⟩ : NV)]).getD j nv0 = if j = L.length then ⟨ByteArray.empty, [], 0⟩ else if j = i then ⟨s, nx L i ++ [(L.length : Int)], 0⟩ else L.getD j nv0 := fun j hj => by
    by_cases e : j = L.length
    · subst e
      rw [if_pos rfl]
      have := get_new (L.set i ⟨s, nx L i ++ [(L.length : Int)], 0⟩) ⟨ByteArray.empty, [], 0⟩
      rw [hls] at this
      exact this
    · rw [if_neg e, get_app _ _ _ (by rw [hls]; omega), get_set L i _ j hi]
  have hfin : ∀ j, j < L.length + 1 → fi (L.set i ⟨s, nx L i ++ [(L.length : Int)], 0⟩ ++ [⟨ByteArray.empty, [], 0⟩]) j = 0 := fun j hj => by
    unfold fi
    rw [hg j hj]
    split
    · rfl
    · split
      · rfl
      · exact hz j (by omega)
  refine ⟨⟨by rw [hl]; omega, by rw [hl]; omega, fun j hj k hk => ?_, fun j hj => ?_, fun k h1 h2 => ?_, ?_⟩, fun j hj => hfin j (by rw [hl] at hj; exact hj)⟩
  · rw [hl] at hj ⊢
    change k ∈ (List.getD _ j nv0).next at hk
    rw [hg j hj] at hk
    split at hk
    · cases hk
    · split at hk
      · rename_i e
        subst e
        rcases List.mem_append.1 hk with hk | hk
        · have := h.down j hi k hk
          omega
        · rw [List.mem_singleton] at hk
          subst hk
          omega
      · have := h.down j (by omega) k hk
        omega
  · rw [hl] at hj
    rw [hfin j hj]
    exact ⟨by omega, fun _ => rfl⟩
  · rw [hl] at h2
    rw [low_flat, List.flatMap_append, List.count_append, flat_set _ _ _ _ L i hi]
    show _ + 0 = 1
    rw [← low_flat]
    by_cases e : k = L.length
    · subst e
      rw [if_pos rfl]
      rw [List.count_eq_zero.2]
      intro hm
      obtain ⟨j, _, hj, hk⟩ := mem_low hm
      have := h.down j hj _ hk
      omega
    · rw [if_neg (by omega), h.one k h1 (by omega)]
  · rw [nsum_flat, List.flatMap_append, List.length_append, flat_len _ _ _ L i hi, ← nsum_flat, hl]
    have := h.few
    show nsum L + 1 + 0 + 1 = _
    omega
theorem good_first : GoodL [⟨ByteArray.empty, [], 0⟩] where
  pos := by decide
  small := by decide
  down := by
    intro i hi k hk
    obtain rfl : i = 0 := by simp at hi; exact hi
    cases hk
  fin := by
    intro i hi
    obtain rfl : i = 0 := by simp at hi; exact hi
    exact ⟨⟨Int.le_refl _, (by decide)⟩, fun _ => rfl⟩
  one := by
    intro k h1 h2
    simp at h2
    omega
  few := rfl
/-- a force that ends somewhere -/
theorem GoodL.ends {L : List NV} (h : GoodL L) : endsI L ≠ [] := by
  have hok := h.ok
  unfold endsI
  rw [ok_yes hok]
  show objs L ≠ []
  intro e
  have hpos := h.pos
  have hlast : nx L (L.length - 1) = [] := by
    cases hq : nx L (L.length - 1) with
    | nil => rfl
    | cons k l =>
      have := h.down (L.length - 1) (by omega) k (by rw [hq]; exact List.mem_cons_self)
      omega
  have hm : fi L (L.length - 1) ∈ leaves L L.length := by
    unfold leaves
    refine List.mem_map.2 ⟨L.length - 1, List.mem_filter.2 ⟨List.mem_range.2 (by omega), ?_⟩, rfl⟩
    rw [hlast]; rfl
  unfold objs at e
  have := (mem_sortU (fi L (L.length - 1)) (leaves L L.length)).2 hm
  rw [e] at this
  cases this
def OnceDrawn (c : Nat) (A : Option Addr) (n cap : Nat) (w : World) (e : Ending) (w' : World) : Prop :=
  ∃ b : Bool, e = .returned (.bool b) ∧ IsCur w' c A n cap ∧ Only c w w'
theorem once_any (B c : Nat) (A : Option Addr) (n cap : Nat) (m : Int) (w : World) (hm0 : 1 ≤ m) (hm1 : m ≤ 256) (hn : n ≤ 1048576) (hB : B ≤ c) (hcur : IsCur w c A n cap) (hbytes : BytesAt w B A n) :
    Calls Try.prog 68 #[.pointer (some ⟨c, 0, none⟩), .int .i64 m] w (OnceDrawn c A n cap w) := by
  go_enter Try.func68, Try.ntmps68
  go_wp2_with fail
  refine (below_any B c A n cap m _ hm0 hm1 hn hB hcur hbytes).mono ?_
  rintro e w2 ⟨x, rfl, _, _, hc2, ho2⟩
  go_wp2
  go_ret
  exact ⟨_, rfl, hc2, ho2⟩

/-! ### nodes in memory, one part changed -/
def comp (r : NR) (d : Nat) : Value := if d = 0 then .string r.say else if d = 1 then r.sv else .int .i64 r.fin
theorem lies_at {xs : List Value} {rs : List NR} (h : Lies3 xs rs) {j d : Nat} (hj : j < rs.length) (hd : d < 3) : xs[j * 3 + d]? = some (comp (rs.getD j nr0) d) := by
  obtain ⟨h0, h1, h2⟩ := h j hj
  have : d = 0 ∨ d = 1 ∨ d = 2 := by omega
  rcases this with e | e | e <;> subst e
  · exact h0
  · exact h1
  · exact h2
theorem lies_of {xs : List Value} {rs : List NR} (h : ∀ j d, j < rs.length → d < 3 → xs[j * 3 + d]? = some (comp (rs.getD j nr0) d)) : Lies3 xs rs := fun j hj => ⟨h j 0 hj (by omega), h j 1 hj (by omega), h j 2 hj (by omega)⟩
theorem rget_set (rs : List NR) (i : Nat) (r : NR) (j : Nat) (hi : i < rs.length) : (rs.set i r).getD j nr0 = if j = i then r else rs.getD j nr0 := by
  by_cases h : j = i
  · subst h; rw [if_pos rfl, List.getD_eq_getElem?_getD, List.getElem?_set_self hi]; rfl
  · rw [if_neg h, List.getD_eq_getElem?_getD, List.getElem?_set_ne (fun e => h e.symm), ← List.getD_eq_getElem?_getD]
theorem lies_put {xs : List Value} {rs : List NR} (h : Lies3 xs rs) (hx : xs.length = rs.length * 3) {i d : Nat} (hi : i < rs.length) (hd : d < 3) {r : NR} {v : Value} (hv : comp r d = v) (ho : ∀ e, e < 3 → e ≠ d → comp r e = comp (rs.getD i nr0) e) : Lies3 (xs.set (i * 3 + d) v) (rs.set i r) := by
  refine lies_of fun j e hj he => ?_
  rw [List.length_set] at hj
  rw [rget_set rs i r j hi]
  by_cases hji : j = i
  · subst hji
    rw [if_pos rfl]
    by_cases hed : e = d
    · subst hed
      rw [List.getElem?_set_self (by omega), hv]
    · rw [List.getElem?_set_ne (by omega), ho e he hed]
      exact lies_at h hj he
  · rw [if_neg hji, List.getElem?_set_ne (by omega)]
    exact lies_at h hj he
theorem nrow_put {W W' : World} {lo n c g : Nat} {rs : List NR} (h : NRow W lo W.heap.size (some ⟨g, 0, none⟩) n c rs) {i : Nat} (hi : i < n) (r : NR) {xs : List Value} (ho : W'.ownsRow lo 37 3 (.slice (some ⟨g, 0, none⟩) n c) n xs) (hl : Lies3 xs (rs.set i r))
    (hother : ∀ j, j < n → j ≠ i → W'.ownsRow lo 3 1 (rs.getD j nr0).sv (rs.getD j nr0).zs.length ((rs.getD j nr0).zs.map (Value.int .i64))) (hr : W'.ownsRow lo 3 1 r.sv r.zs.length (r.zs.map (Value.int .i64)))
    (hne : ∀ j, j < n → j ≠ i → ∀ b, (rs.getD j nr0).b = some b → r.b ≠ some b) : NRow W' lo W'.heap.size (some ⟨g, 0, none⟩) n c (rs.set i r) := by
  have hn := h.2
  refine ⟨⟨⟨xs, ho, hl⟩, fun j hj => ?_, fun j k hj hk hjk b hb => ?_, fun a e => ?_, Nat.le_refl _⟩, by rw [List.length_set]; exact hn⟩
  · rw [List.length_set] at hj
    rw [rget_set rs i r j (by omega)]
    by_cases e : j = i
    · rw [if_pos e]; exact Row.mk hr
    · rw [if_neg e]; exact Row.mk (hother j (by omega) e)
  · rw [List.length_set] at hj hk
    rw [rget_set rs i r j (by omega)] at hb
    rw [rget_set rs i r k (by omega)]
    by_cases e : j = i
    · rw [if_pos e] at hb
      rw [if_neg (by omega)]
      intro hb2
      exact hne k (by omega) (by omega) b hb2 hb
    · rw [if_neg e] at hb
      by_cases e2 : k = i
      · rw [if_pos e2]; exact hne j (by omega) e b hb
      · rw [if_neg e2]; exact h.1.2.2.1 j k (by omega) (by omega) hjk b hb
  · have := (ho.lt g rfl).2
    simp only [Option.some.injEq] at e
    subst e
    exact this
/-- a store of what a node says, or of its end -/
theorem nrow_cell {W : World} {lo n c g : Nat} {rs : List NR} (h : NRow W lo W.heap.size (some ⟨g, 0, none⟩) n c rs) {i d : Nat} (hi : i < n) (hd : d < 3) (r : NR) (hA : r.A = (rs.getD i nr0).A) (hc : r.c = (rs.getD i nr0).c) (hz : r.zs = (rs.getD i nr0).zs)
    (ho : ∀ e, e < 3 → e ≠ d → comp r e = comp (rs.getD i nr0) e) : NRow (W.setCell ⟨g, i * 3 + d, none⟩ (comp r d)) lo (W.setCell ⟨g, i * 3 + d, none⟩ (comp r d)).heap.size (some ⟨g, 0, none⟩) n c (rs.set i r) ∧ W.grownBy (W.setCell ⟨g, i * 3 + d, none⟩ (comp r d)) (some g) := by
  obtain ⟨xs, own, lies⟩ := h.1.1
  have hst := own.stored (i * 3 + d) (comp r d)
  have hn := h.2
  have hxl := own.1
  have keep : ∀ j, j < n → (W.setCell ⟨g, i * 3 + d, none⟩ (comp r d)).ownsRow lo 3 1 (rs.getD j nr0).sv (rs.getD j nr0).zs.length ((rs.getD j nr0).zs.map (Value.int .i64)) := fun j hj =>
    own_gr (h.1.2.1 j (by omega)).1 hst.2 (fun k hk e => own_diff own (h.1.2.1 j (by omega)).1 (by decide) k (by rw [← e]; rfl) hk)
  refine ⟨nrow_put h hi r hst.1 (lies_put lies (by omega) (by omega) hd rfl ho) (fun j hj _ => keep j hj) ?_ (fun j hj hji b hb => ?_), hst.2⟩
  · have := keep i hi
    unfold NR.sv at *
    rw [hA, hc, hz]
    exact this
  · have := h.1.2.2.1 j i (by omega) (by omega) hji b hb
    unfold NR.b at *
    rw [hA]
    exact this
/-- a node's list has one more -/
theorem nrow_push {W W2 : World} {lo n c g : Nat} {rs : List NR} (h : NRow W lo W.heap.size (some ⟨g, 0, none⟩) n c rs) {i : Nat} (hi : i < n) {g2 c2 : Nat} {x : Int} (hg : W.grownBy W2 ((rs.getD i nr0).A.map (·.block)))
    (ho : W2.ownsRow lo 3 1 (.slice (some ⟨g2, 0, none⟩) ((rs.getD i nr0).zs.length + 1) c2) ((rs.getD i nr0).zs.length + 1) ((rs.getD i nr0).zs.map (Value.int .i64) ++ [.int .i64 x])) (hp : (rs.getD i nr0).A.map (·.block) = some g2 ∨ W.heap.size ≤ g2) :
    NRow (W2.setCell ⟨g, i * 3 + 1, none⟩ (.slice (some ⟨g2, 0, none⟩) ((rs.getD i nr0).zs.length + 1) c2)) lo (W2.setCell ⟨g, i * 3 + 1, none⟩ (.slice (some ⟨g2, 0, none⟩) ((rs.getD i nr0).zs.length + 1) c2)).heap.size (some ⟨g, 0, none⟩) n c
      (rs.set i ⟨(rs.getD i nr0).say, some ⟨g2, 0, none⟩, c2, (rs.getD i nr0).zs ++ [x], (rs.getD i nr0).fin⟩) ∧ W2.grownBy (W2.setCell ⟨g, i * 3 + 1, none⟩ (.slice (some ⟨g2, 0, none⟩) ((rs.getD i nr0).zs.length + 1) c2)) (some g) ∧
      W2.frozen? ⟨g, i * 3 + 1, none⟩ = false ∧ W2.cell? ⟨g, i * 3 + 1, none⟩ = some (rs.getD i nr0).sv := by
  obtain ⟨xs, own, lies⟩ := h.1.1
  have hn := h.2
  have hxl := own.1
  have own2 := own_gr own hg (fun k hk e => own_diff own (h.1.2.1 i (by omega)).1 (by decide) k hk e)
  have hst := own2.stored (i * 3 + 1) (.slice (some ⟨g2, 0, none⟩) ((rs.getD i nr0).zs.length + 1) c2)
  have hc0 := own2.cellAt (i * 3 + 1) (by omega)
  have hl1 := lies_at lies (j := i) (d := 1) (by omega) (by omega)
  have hzl : ((rs.getD i nr0).zs ++ [x]).length = (rs.getD i nr0).zs.length + 1 := by simp
  have hsv : comp ⟨(rs.getD i nr0).say, some ⟨g2, 0, none⟩, c2, (rs.getD i nr0).zs ++ [x], (rs.getD i nr0).fin⟩ 1 = .slice (some ⟨g2, 0, none⟩) ((rs.getD i nr0).zs.length + 1) c2 := by
    show Value.slice _ _ _ = _
    rw [hzl]
  refine ⟨nrow_put h hi _ hst.1 (lies_put lies (by omega) (by omega) (by omega) hsv ?_) ?_ ?_ ?_, hst.2, own2.frozenAt _, hc0.trans hl1⟩
  · intro e he hne
    have : e = 0 ∨ e = 2 := by omega
    rcases this with h | h <;> subst h <;> rfl
  · intro j hj hji
    have h1 := h.1.2.1 j (by omega)
    have h2 := own_gr h1.1 hg (fun k hk e => h.1.2.2.1 j i (by omega) (by omega) hji k hk e)
    exact own_gr h2 hst.2 (fun k hk e => own_diff own2 h2 (by decide) k (by rw [← e]; rfl) hk)
  · show World.ownsRow _ _ _ _ (.slice (some ⟨g2, 0, none⟩) ((rs.getD i nr0).zs ++ [x]).length c2) ((rs.getD i nr0).zs ++ [x]).length (((rs.getD i nr0).zs ++ [x]).map (Value.int .i64))
    rw [hzl, List.map_append]
    exact own_gr ho hst.2 (fun k hk e => own_diff own2 ho (by decide) k (by rw [← e]; rfl) hk)
  · intro j hj hji b hb hb2
    have hb3 : g2 = b := by simpa [NR.b] using hb2
    subst hb3
    rcases hp with hp | hp
    · exact h.1.2.2.1 j i (by omega) (by omega) hji g2 hb hp
    · have := own_lo (h.1.2.1 j (by omega)).1 g2 hb
      omega
/-- an append of one element: where the row lies behind it -/
theorem app_at {P : Program} {w : World} {ops : Array Oper} {rest : List Oper} {o : Oper} {a : Act} {Q : Exit → Act → World → Prop} (hgd : o.guard = none) (s x : Operand) (t : TypeId)
    (ho : o.op = .call { callee := .builtin .append, args := #[s, x], argTypes := #[t, t] })
    (B : Nat) (e : TypeId) (i : TypeInfo) (z : Value) (bytes : Nat) (ht : P.underlying t = some (.slice e)) (hi : P.info? e = some i) (hz : i.zero = some z)
    (hsize : i.size = 1) (hby : i.bytes = bytes) (hby2 : bytes ≤ 32) (hzs : z.cells.size = 1) (A : Option Addr) (c : Nat) (n : Nat) (xs : List Value) (hs : a.eval s = .slice A n c) (hown : w.ownsRow B e 1 (.slice A n c) n xs)
    (y : Value) (hy : y.oneCell' = true) (N : Nat) (hx : a.eval x = .slice (some ⟨N, 0, none⟩) 1 1) (hN : N = w.heap.size) (hn : n ≤ 4294967296) (hB : B ≤ w.heap.size)
    (h : ∀ g c' w', w'.ownsRow B e 1 (.slice (some ⟨g, 0, none⟩) (n + 1) c') (n + 1) (xs ++ [y]) → w.grownBy w' (A.map (·.block)) → (A.map (·.block) = some g ∨ w.heap.size ≤ g) → wpList P ops Q rest (a.put o.dst (.slice (some ⟨g, 0, none⟩) (n + 1) c')) w') :
    wpList P ops Q (o :: rest) a (w.alloc (.cells #[y] e)) := by
  subst hN
  have hh : (w.alloc (.cells #[y] e)).heap[w.heap.size]? = some (.cells #[y] e (0, 0)) := heap_alloc_new w _
  refine wpList_append_own_at _ hgd s x t ho B e i z 1 bytes ht hi hz hsize hby hzs (by decide) _ n xs hs (hown.alloc _) ⟨w.heap.size, 0, none⟩ 1 1 [y] hx rfl ?_ ?_ ?_ ?_ ?_ ?_
  · intro j u hj
    match j, hj with
    | 0, hj =>
      simp at hj; subst hj
      show (w.alloc (.cells #[y] e)).cell? ⟨w.heap.size, 0, none⟩ = _
      unfold World.cell?
      rw [hh]; rfl
  · intro u hu; simp at hu; subst hu; exact hy
  · unfold maxLen; omega
  · have : (n + 1) * bytes ≤ (4294967296 + 1) * 32 := Nat.mul_le_mul (by omega) hby2
    omega
  · simp; omega
  · intro v' w' hown' hgrow _ hat
    have hgr : w.grownBy w' (A.map (·.block)) := by
      have hb := (Below.refl w.heap.size w).alloc (Nat.le_refl _) (.cells #[y] e)
      have hrow : ∀ k, k < w.heap.size → some k ≠ A.map (·.block) → some k ≠ (Value.slice A n c).ownBlock := by
        intro k _ hk
        cases A with
        | none => exact fun e => by cases e
        | some a => exact hk
      exact ⟨hgrow.os.trans hb.os, hgrow.tape.trans hb.tape, hgrow.output.trans hb.output, Nat.le_trans hb.size hgrow.size, fun k hk hne => (hgrow.block k (Nat.lt_of_lt_of_le hk hb.size) (hrow k hk hne)).trans (hb.block k hk)⟩
    rcases hown'.2 with ⟨_, h0⟩ | ⟨g, cap, cur, hv, _⟩
    · omega
    · subst hv
      refine h g cap w' hown' hgr ?_
      rcases hat with hat | hat
      · left
        cases A with
        | none => simp [Value.ownBlock] at hat
        | some a2 => simp only [Value.ownBlock, Option.some.injEq] at hat; simp [hat]
      · right
        simp only [Value.ownBlock, Option.some.injEq] at hat
        rw [hat]
        simp
theorem first_zero (w : World) : NRow (w.alloc (.cells #[.string ByteArray.empty, .slice none 0 0, .int .i64 0] 37)) w.heap.size (w.alloc (.cells #[.string ByteArray.empty, .slice none 0 0, .int .i64 0] 37)).heap.size
    (some ⟨w.heap.size, 0, none⟩) 1 1 [⟨ByteArray.empty, none, 0, [], 0⟩] := by
  have h2 := World.ownsRow_lit (base := w.heap.size) (e := 37) (size := 3) w #[.string ByteArray.empty, .slice none 0 0, .int .i64 0] 1 (Nat.le_refl _) (by decide) rfl
  refine ⟨⟨⟨_, h2, fun j hj => ?_⟩, fun i hi => ?_, fun i j hi hj hne => ?_, fun a e => ?_, Nat.le_refl _⟩, rfl⟩
  · obtain rfl : j = 0 := by simp at hj; exact hj
    exact ⟨rfl, rfl, rfl⟩
  · obtain rfl : i = 0 := by simp at hi; exact hi
    exact Row.mk (World.ownsRow_nil _ _ _ _)
  · simp at hi hj; omega
  · simp only [Option.some.injEq] at e
    subst e
    simp
end Go.Proofs.Ytjmfdflhplobmaa.Fdr
