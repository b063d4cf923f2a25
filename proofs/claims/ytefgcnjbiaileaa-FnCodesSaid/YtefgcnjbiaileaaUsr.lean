/- Paths of uses in memory: a row of structs of an int and a list, with the lists. A map's value set anew. -/
import Derived.Test.YtefgcnjbiaileaaFcp
import Derived.Test.YtefgcnjbiaileaaMap
import Derived.Test.YtefgcnjbiaileaaWid
set_option linter.unusedVariables false
set_option maxRecDepth 20000
namespace Go.Proofs.Ytefgcnjbiaileaa.Usr
open Go.RowKit Go.Maps Go.ChangeMaps Fr _root_.Go.Proofs.Ytefgcnjbiaileaa.Own Pk Ins Pfn Rws Map Col Fcp

def u0 : Int × RD := (0, rd0)
/-- a path of uses in memory of the call's own -/
structure UR (W : World) (lo : Nat) (A : Option Addr) (n c : Nat) (p : List (Int × RD)) : Prop where
  own : ∃ xs, W.ownsRow lo 47 2 (.slice A n c) n xs ∧ ∀ j, j < n → xs[j * 2]? = some (.int .i64 (p.getD j u0).1) ∧ xs[j * 2 + 1]? = some ((p.getD j u0).2.v)
  len : p.length = n
  inner : ∀ j, j < n → W.ownsRow lo 3 1 (p.getD j u0).2.v (p.getD j u0).2.zs.length (vals (p.getD j u0).2.zs)
  diff : ∀ i j, i < n → j < n → i ≠ j → ∀ b, (p.getD i u0).2.b = some b → (p.getD j u0).2.b ≠ some b
section
variable {W W' : World} {lo : Nat} {A : Option Addr} {n c : Nat} {p : List (Int × RD)}
theorem UR.below (h : UR W lo A n c p) (hb : Below W.heap.size W W') : UR W' lo A n c p := by
  obtain ⟨xs, h1, h2⟩ := h.own
  exact ⟨⟨xs, own_below h1 hb, h2⟩, h.len, fun j hj => own_below (h.inner j hj) hb, h.diff⟩
theorem UR.grown {row : Option Nat} (h : UR W lo A n c p) (hg : W.grownBy W' row) (h1 : ∀ k, A.map (·.block) = some k → row ≠ some k) (h2 : ∀ j, j < n → ∀ k, (p.getD j u0).2.b = some k → row ≠ some k) : UR W' lo A n c p := by
  obtain ⟨xs, h3, h4⟩ := h.own
  exact ⟨⟨xs, own_gr h3 hg h1, h4⟩, h.len, fun j hj => own_gr (h.inner j hj) hg (h2 j hj), h.diff⟩
theorem UR.cap (h : UR W lo A n c p) : n ≤ c := by
  obtain ⟨xs, h1, _⟩ := h.own
  exact Pfn.own_cap h1
theorem own2_shape {w : World} {B : Nat} {e : TypeId} {A : Option Addr} {n c : Nat} {xs : List Value} (h : w.ownsRow B e 2 (.slice A n c) n xs) (hn : 0 < n) : ∃ g, A = some ⟨g, 0, none⟩ := by
  rcases h.2 with ⟨_, h0⟩ | ⟨g, cap, cur, hv, _⟩
  · omega
  · simp only [Value.slice.injEq] at hv
    exact ⟨g, hv.1⟩
theorem UR.shape (h : UR W lo A n c p) (hn : 0 < n) : ∃ g, A = some ⟨g, 0, none⟩ := by
  obtain ⟨xs, h1, _⟩ := h.own
  exact own2_shape h1 hn
theorem UR.cells {g : Nat} (h : UR W lo (some ⟨g, 0, none⟩) n c p) (j : Nat) (hj : j < n) : W.cell? ⟨g, j * 2, none⟩ = some (.int .i64 (p.getD j u0).1) ∧ W.cell? ⟨g, j * 2 + 1, none⟩ = some ((p.getD j u0).2.v) ∧ W.frozen? ⟨g, j * 2 + 1, none⟩ = false := by
  obtain ⟨xs, h1, h2⟩ := h.own
  obtain ⟨e1, e2⟩ := h2 j hj
  exact ⟨(h1.cellAt _ (by omega)).trans e1, (h1.cellAt _ (by omega)).trans e2, h1.frozenAt _⟩
theorem UR.lt (h : UR W lo A n c p) : ∀ k, A.map (·.block) = some k → lo ≤ k ∧ k < W.heap.size := by
  obtain ⟨xs, h1, h2⟩ := h.own
  exact fun k hk => own_lo h1 k hk
theorem getD_set {p : List (Int × RD)} {i : Nat} {x : Int × RD} (hi : i < p.length) (j : Nat) : (p.set i x).getD j u0 = if j = i then x else p.getD j u0 := by
  simp only [List.getD_eq_getElem?_getD]
  by_cases h : j = i
  · subst h
    rw [List.getElem?_set_self hi, if_pos rfl]
    rfl
  · rw [List.getElem?_set_ne (fun e => h e.symm), if_neg h]
/-- the message of a use is set -/
theorem UR.put {g i : Nat} {r : RD} (h : UR W lo (some ⟨g, 0, none⟩) n c p) (hi : i < n) (hr : W.ownsRow lo 3 1 r.v r.zs.length (vals r.zs)) (hd : ∀ j, j < n → j ≠ i → ∀ b, r.b = some b → (p.getD j u0).2.b ≠ some b) :
    UR (W.setCell ⟨g, i * 2 + 1, none⟩ r.v) lo (some ⟨g, 0, none⟩) n c (p.set i ((p.getD i u0).1, r)) ∧ W.grownBy (W.setCell ⟨g, i * 2 + 1, none⟩ r.v) (some g) := by
  obtain ⟨xs, h1, h2⟩ := h.own
  obtain ⟨o1, o2⟩ := h1.stored (i * 2 + 1) r.v
  have hl := h.len
  have hxl := h1.1
  refine ⟨⟨⟨_, o1, fun j hj => ?_⟩, by rw [List.length_set]; exact hl, fun j hj => ?_, fun j k hj hk hne b hb => ?_⟩, o2⟩
  · rw [getD_set (by omega)]
    by_cases e : j = i
    · subst e
      rw [if_pos rfl, List.getElem?_set_ne (by omega), List.getElem?_set_self (by omega)]
      exact ⟨(h2 j hj).1, rfl⟩
    · rw [if_neg e, List.getElem?_set_ne (by omega), List.getElem?_set_ne (by omega)]
      exact h2 j hj
  · rw [getD_set (by omega)]
    by_cases e : j = i
    · rw [if_pos e]
      exact own_gr hr o2 fun k hk e2 => by
        cases e2
        exact own_diff h1 hr (by decide) g rfl hk
    · rw [if_neg e]
      exact own_gr (h.inner j hj) o2 fun k hk e2 => by
        cases e2
        exact own_diff h1 (h.inner j hj) (by decide) g rfl hk
  · rw [getD_set (by omega)] at hb ⊢
    by_cases e1 : j = i
    · by_cases e2 : k = i
      · omega
      · rw [if_pos e1] at hb
        rw [if_neg e2]
        exact hd k hk e2 b hb
    · rw [if_neg e1] at hb
      by_cases e2 : k = i
      · rw [if_pos e2]
        intro hr2
        exact hd j hj e1 b hr2 hb
      · rw [if_neg e2]
        exact h.diff j k hj hk hne b hb
theorem own_pre2 {w : World} {base : Nat} {e : TypeId} {g n c m : Nat} {xs : List Value} (h : w.ownsRow base e 2 (.slice (some ⟨g, 0, none⟩) n c) n xs) (hm : m ≤ n) : w.ownsRow base e 2 (.slice (some ⟨g, 0, none⟩) m c) m (xs.take (m * 2)) := by
  have hl := h.1
  refine ⟨by rw [List.length_take]; omega, ?_⟩
  rcases h.2 with ⟨h2, _⟩ | ⟨g', cap, cur, hv, hg', hh, h1, h2, h3, h4⟩
  · simp at h2
  · simp only [Value.slice.injEq, Option.some.injEq, Addr.mk.injEq, and_true, true_and] at hv
    obtain ⟨rfl, rfl⟩ := hv
    refine Or.inr ⟨g, c, cur, rfl, hg', hh, by omega, h2, h3, ?_⟩
    have := congrArg (List.take (m * 2)) h4
    rw [List.take_take, Nat.min_eq_left (by omega)] at this
    exact this
theorem take_getD {p : List (Int × RD)} {m j : Nat} (h : j < m) : (p.take m).getD j u0 = p.getD j u0 := by
  simp only [List.getD_eq_getElem?_getD]
  rw [List.getElem?_take, if_pos h]
/-- the end is dropped -/
theorem UR.pop {g : Nat} (h : UR W lo (some ⟨g, 0, none⟩) (n + 1) c p) : UR W lo (some ⟨g, 0, none⟩) n c (p.take n) := by
  obtain ⟨xs, h1, h2⟩ := h.own
  have hl := h.len
  refine ⟨⟨_, own_pre2 h1 (Nat.le_succ n), fun j hj => ?_⟩, by rw [List.length_take]; omega, fun j hj => ?_, fun i j hi hj hne b hb => ?_⟩
  · rw [take_getD hj, List.getElem?_take, if_pos (by omega), List.getElem?_take, if_pos (by omega)]
    exact h2 j (by omega)
  · rw [take_getD hj]
    exact h.inner j (by omega)
  · rw [take_getD hi] at hb
    rw [take_getD hj]
    exact h.diff i j (by omega) (by omega) hne b hb
/-- one more use, as yet without a message -/
theorem UR.snoc {g c' : Nat} {x : Int} (h : UR W lo A n c p) (hg : W.grownBy W' (A.map (·.block))) (ho : W'.ownsRow lo 47 2 (.slice (some ⟨g, 0, none⟩) (n + 1) c') (n + 1) (h.own.choose ++ [.int .i64 x, .slice none 0 0])) :
    UR W' lo (some ⟨g, 0, none⟩) (n + 1) c' (p ++ [(x, rd0)]) := by
  have hsp := h.own.choose_spec
  generalize h.own.choose = xs at hsp ho
  obtain ⟨h1, h2⟩ := hsp
  have hl := h.len
  have hxl := h1.1
  have hget : ∀ j, j < n + 1 → (p ++ [(x, rd0)]).getD j u0 = if j = n then (x, rd0) else p.getD j u0 := fun j hj => by
    simp only [List.getD_eq_getElem?_getD]
    by_cases e : j = n
    · subst e
      rw [if_pos rfl, List.getElem?_append_right (by omega), hl, Nat.sub_self]
      rfl
    · rw [if_neg e, List.getElem?_append_left (by omega)]
  refine ⟨⟨_, ho, fun j hj => ?_⟩, by simp [hl], fun j hj => ?_, fun i j hi hj hne b hb => ?_⟩
  · rw [hget j hj]
    by_cases e : j = n
    · subst e
      rw [if_pos rfl, List.getElem?_append_right (by omega), List.getElem?_append_right (by omega), show j * 2 - xs.length = 0 by omega, show j * 2 + 1 - xs.length = 1 by omega]
      exact ⟨rfl, rfl⟩
    · rw [if_neg e, List.getElem?_append_left (by omega), List.getElem?_append_left (by omega)]
      exact h2 j (by omega)
  · rw [hget j hj]
    by_cases e : j = n
    · rw [if_pos e]
      exact World.ownsRow_nil _ _ _ _
    · rw [if_neg e]
      exact own_gr (h.inner j (by omega)) hg fun k hk e2 => own_diff (h.inner j (by omega)) h1 (by decide) k hk e2
  · rw [hget i hi] at hb
    rw [hget j hj]
    by_cases e1 : i = n
    · rw [if_pos e1] at hb
      cases hb
    · rw [if_neg e1] at hb
      by_cases e2 : j = n
      · rw [if_pos e2]
        intro e3
        cases e3
      · rw [if_neg e2]
        exact h.diff i j (by omega) (by omega) hne b hb
/-- a row of cells is no map -/
theorem map_ne {P : Program} {kt e : TypeId} {b B s : Nat} {kv : List (Value × Value)} {xs : List Value} {m : Nat} (h : MapE P kt W b kv) (ho : W.ownsRow B e s (.slice A n c) m xs) : ∀ k, A.map (·.block) = some k → k ≠ b := by
  intro k hk hkb
  rcases ho.2 with ⟨h2, _⟩ | ⟨g, cap, cur, hv, _, hh, _⟩
  · simp only [Value.slice.injEq] at h2
    rw [h2.1] at hk
    cases hk
  · simp only [Value.slice.injEq] at hv
    rw [hv.1] at hk
    simp only [Option.map_some, Option.some.injEq] at hk
    subst hk hkb
    obtain ⟨es, clock, hb, _⟩ := h
    rw [hh] at hb
    cases hb
theorem UR.map {P : Program} {kt : TypeId} {b : Nat} {kv : List (Value × Value)} (h : UR W lo A n c p) (hm : MapE P kt W b kv) (hg : W.grownBy W' (some b)) : UR W' lo A n c p := by
  obtain ⟨xs, h1, h2⟩ := h.own
  exact h.grown hg (fun k hk e => by cases e; exact map_ne hm h1 _ hk rfl) (fun j hj k hk e => by cases e; exact map_ne hm (h.inner j hj) _ hk rfl)
end
/-! ### a map's value set anew -/
theorem MapE_upd {P : Program} {kt e t : TypeId} {W : World} {b : Nat} {pre post : List (Value × Value)} {key v0 val : Value} (h : MapE P kt W b (pre ++ (key, v0) :: post)) (hd : ((pre ++ (key, v0) :: post).map Prod.fst).Nodup) (K : Keyed P kt) (ht : P.underlying t = some (.map kt e)) {kl : Lit} (hkey : keyOf P kt key = some kl) :
    ∃ w', (Instr.mapUpdate t (.map (some b)) key val).run P W = .ok () w' ∧ MapE P kt w' b (pre ++ (key, val) :: post) ∧ W.grownBy w' (some b) ∧ w'.heap.size = W.heap.size := by
  obtain ⟨es, clock, hb, hkv, hk⟩ := h
  rcases K.find W hkey es.toList hk with ⟨h1, h2⟩ | ⟨j, e0, h1, h2, h3⟩
  · exfalso
    have : (key, v0) ∈ es.toList.map (fun e => (e.key, e.val)) := by rw [hkv]; simp
    obtain ⟨q, hq, hqe⟩ := List.mem_map.1 this
    exact h2 q hq (congrArg Prod.fst hqe)
  · have hj : es[j]? = some e0 := by simpa using h2
    have hjp : j = pre.length := by
      have e1 : ((pre ++ (key, v0) :: post).map Prod.fst)[j]? = some key := by
        rw [← hkv, List.getElem?_map, List.getElem?_map, h2]; simp [h3]
      have e2 : ((pre ++ (key, v0) :: post).map Prod.fst)[pre.length]? = some key := by simp
      exact (List.getElem?_inj (List.getElem?_eq_some_iff.1 e1).1 hd).1 (e1.trans e2.symm)
    have hlist : (es.modify j (fun e' => { e' with key := key, val := val })).toList = es.toList.set j { e0 with key := key, val := val } := by rw [Array.toList_modify, modify_eq_set _ _ _ _ h2]
    refine ⟨setBlock W b (.map (es.modify j (fun e' => { e' with key := key, val := val })) clock), ?_, ⟨_, clock, heap_setBlock_same hb _, ?_, ?_⟩, ⟨rfl, rfl, rfl, by simp [setBlock], fun i hi hne => heap_setBlock_other hb _ (fun e => hne (by rw [e]))⟩, by simp [setBlock]⟩
    · simp [Instr.mapUpdate, run_underlying ht, MapKept.run_getObj_map hb, K.check W false hkey, h1, hj, h3, K.stays W hkey, MapKept.run_setObj_map _ hb, Result.andThen, setBlock]
    · rw [hlist, List.map_set, hkv, hjp]
      simp
    · intro x hx
      rw [hlist] at hx
      obtain ⟨i, hi, ex⟩ := List.getElem_of_mem hx
      rw [List.getElem_set] at ex
      split at ex
      · rw [← ex]
        exact ⟨_, hkey⟩
      · rw [← ex]
        exact hk _ (List.getElem_mem _)
/-- a map from ints to ints, by what look-up and putting do -/
def encI (e : Int × Int) : Value × Value := (.int .i64 e.1, .int .i64 e.2)
theorem enc_keys (es : List (Int × Int)) (k : Int) : (Value.int .i64 k) ∈ (es.map encI).map Prod.fst ↔ k ∈ es.map Prod.fst := by
  simp only [List.mem_map]
  constructor
  · rintro ⟨_, ⟨e, he, rfl⟩, h⟩
    refine ⟨e, he, ?_⟩
    simpa [encI] using h
  · rintro ⟨e, he, rfl⟩
    exact ⟨_, ⟨e, he, rfl⟩, rfl⟩
theorem enc_nodup {es : List (Int × Int)} (h : (es.map Prod.fst).Nodup) : ((es.map encI).map Prod.fst).Nodup := by
  rw [List.map_map]
  rw [List.Nodup, List.pairwise_map] at h ⊢
  exact h.imp fun hne e => hne (by simpa [encI] using e)
theorem look_none {es : List (Int × Int)} {k : Int} : lookF es k = none ↔ k ∉ es.map Prod.fst := by
  induction es with
  | nil => simp [lookF]
  | cons e es ih =>
    rw [lookF]
    by_cases h : e.1 = k
    · rw [if_pos h]
      simp [h]
    · rw [if_neg h, ih]
      simp [Ne.symm h]
theorem look_some {es : List (Int × Int)} {k v : Int} (h : lookF es k = some v) : (k, v) ∈ es := by
  induction es with
  | nil => cases h
  | cons e es ih =>
    rw [lookF] at h
    by_cases he : e.1 = k
    · rw [if_pos he] at h
      cases h
      rw [← he]
      exact List.mem_cons_self
    · rw [if_neg he] at h
      exact List.mem_cons_of_mem _ (ih h)
theorem put_new {es : List (Int × Int)} {k v : Int} (h : k ∉ es.map Prod.fst) : putF es k v = es ++ [(k, v)] := by
  induction es with
  | nil => rfl
  | cons e es ih =>
    simp only [List.map_cons, List.mem_cons, not_or] at h
    rw [putF, if_neg (Ne.symm h.1), ih h.2]
    rfl
theorem put_old {es : List (Int × Int)} {k v : Int} (h : k ∈ es.map Prod.fst) : ∃ pre v0 post, es = pre ++ (k, v0) :: post ∧ putF es k v = pre ++ (k, v) :: post := by
  induction es with
  | nil => cases h
  | cons e es ih =>
    by_cases he : e.1 = k
    · refine ⟨[], e.2, es, ?_, ?_⟩
      · rw [← he]; rfl
      · rw [putF, if_pos he]; rfl
    · have h2 : k ∈ es.map Prod.fst := by
        rcases List.mem_cons.1 h with h | h
        · exact absurd h.symm he
        · exact h
      obtain ⟨pre, v0, post, e1, e2⟩ := ih h2
      exact ⟨e :: pre, v0, post, by rw [e1]; rfl, by rw [putF, if_neg he, e2]; rfl⟩
theorem put_keys {es : List (Int × Int)} {k v : Int} (h : (es.map Prod.fst).Nodup) : ((putF es k v).map Prod.fst).Nodup := by
  by_cases hk : k ∈ es.map Prod.fst
  · obtain ⟨pre, v0, post, e1, e2⟩ := put_old (v := v) hk
    rw [e2]
    rw [e1] at h
    simpa using h
  · rw [put_new hk, List.map_append]
    exact List.nodup_append.2 ⟨h, by simp, fun a ha b hb e => by simp at hb; rw [e, hb] at ha; exact hk ha⟩
/-- the map is set at a key, new or not -/
theorem put_map {P : Program} {kt e t : TypeId} {W : World} {b : Nat} {es : List (Int × Int)} {k v : Int} (h : MapE P kt W b (es.map encI)) (hd : (es.map Prod.fst).Nodup) (K : Keyed P kt) (ht : P.underlying t = some (.map kt e)) {kl : Lit} (hkey : keyOf P kt (.int .i64 k) = some kl) :
    ∃ w', (Instr.mapUpdate t (.map (some b)) (.int .i64 k) (.int .i64 v)).run P W = .ok () w' ∧ MapE P kt w' b ((putF es k v).map encI) ∧ W.grownBy w' (some b) ∧ w'.heap.size = W.heap.size := by
  by_cases hk : k ∈ es.map Prod.fst
  · obtain ⟨pre, v0, post, e1, e2⟩ := put_old (v := v) hk
    have hd2 := enc_nodup hd
    rw [e1, List.map_append, List.map_cons] at h hd2
    rw [e2, List.map_append, List.map_cons]
    exact MapE_upd h hd2 K ht hkey
  · rw [put_new hk, List.map_append]
    exact h.put K ht hkey (fun hm => hk ((enc_keys es k).1 hm))
theorem infoUse : (Try.prog.info? 47).map (fun i => (i.zero, i.size, i.bytes)) = some (some (.agg #[.int .i64 0, .slice none 0 0]), 2, 32) := by kernel_rfl
end Go.Proofs.Ytefgcnjbiaileaa.Usr
