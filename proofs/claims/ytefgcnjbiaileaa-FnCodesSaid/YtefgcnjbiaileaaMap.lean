/- Maps as the list of their entries in the order in which they came: look-up, a new entry, length; for any keys that the model reads. -/
import Derived.Test.YtefgcnjbiaileaaOwn
import Derived.Maps.OwnSet
import Derived.Maps.Keyed
set_option linter.unusedVariables false
set_option maxRecDepth 20000
namespace Go.Proofs.Ytefgcnjbiaileaa.Map
open Go.RowKit Fr Own Go.Maps Go.ChangeMaps

def MapE (P : Program) (kt : TypeId) (W : World) (b : Nat) (kv : List (Value × Value)) : Prop :=
  ∃ es clock, W.heap[b]? = some (.map es clock) ∧ es.toList.map (fun e => (e.key, e.val)) = kv ∧ ∀ x ∈ es.toList, ∃ l, keyOf P kt x.key = some l
section
variable {P : Program} {kt e t : TypeId} {W W' : World} {b : Nat} {kv : List (Value × Value)}
theorem MapE.lt (h : MapE P kt W b kv) : b < W.heap.size := by
  obtain ⟨es, clock, hb, _⟩ := h
  exact (Array.getElem?_eq_some_iff.1 hb).1
theorem MapE.kept (h : MapE P kt W b kv) (he : W'.heap[b]? = W.heap[b]?) : MapE P kt W' b kv := by
  obtain ⟨es, clock, hb, r⟩ := h
  exact ⟨es, clock, he.trans hb, r⟩
theorem MapE.grown {row : Option Nat} (h : MapE P kt W b kv) (hg : W.grownBy W' row) (hr : row ≠ some b) : MapE P kt W' b kv := h.kept (hg.block b h.lt (fun e => hr e.symm))
theorem MapE.below {B : Nat} (h : MapE P kt W b kv) (hb : Below B W W') (hB : b < B) : MapE P kt W' b kv := h.kept (hb.block b hB)
theorem MapE.hit (h : MapE P kt W b kv) (hd : (kv.map Prod.fst).Nodup) (K : Keyed P kt) (ht : P.underlying t = some (.map kt e)) (c : Bool) {key val : Value} {kl : Lit} (hkey : keyOf P kt key = some kl) (hin : (key, val) ∈ kv) :
    (Instr.lookup t (.map (some b)) key c).run P W = .ok (if c then .tuple #[val, .bool true] else val) W := by
  obtain ⟨es, clock, hb, rfl, hk⟩ := h
  rcases K.find W hkey es.toList hk with ⟨h1, h2⟩ | ⟨j, e0, h1, h2, h3⟩
  · obtain ⟨x, hx, hxe⟩ := List.mem_map.1 hin
    exact absurd (congrArg Prod.fst hxe) (h2 x hx)
  · have hv : e0.val = val := by
      obtain ⟨x, hx, hxe⟩ := List.mem_map.1 hin
      obtain ⟨i, hi⟩ := List.mem_iff_getElem?.1 hx
      have hij : i = j := by
        have e1 : ((es.toList.map fun e => (e.key, e.val)).map Prod.fst)[i]? = some key := by
          rw [List.getElem?_map, List.getElem?_map, hi]; simp
          exact congrArg Prod.fst hxe
        have e2 : ((es.toList.map fun e => (e.key, e.val)).map Prod.fst)[j]? = some key := by
          rw [List.getElem?_map, List.getElem?_map, h2]; simp [h3]
        exact (List.getElem?_inj (List.getElem?_eq_some_iff.1 e1).1 hd).1 (e1.trans e2.symm)
      subst hij
      rw [hi] at h2
      cases h2
      exact congrArg Prod.snd hxe
    rw [← hv]
    simp [Instr.lookup, run_underlying ht, MapKept.run_getObj_map hb, K.check W _ hkey, h1, Result.andThen]
theorem MapE.miss (h : MapE P kt W b kv) (K : Keyed P kt) (ht : P.underlying t = some (.map kt e)) (c : Bool) {z : Value} (hz : (zeroValue e).run P W = .ok z W) {key : Value} {kl : Lit} (hkey : keyOf P kt key = some kl) (hno : key ∉ kv.map Prod.fst) :
    (Instr.lookup t (.map (some b)) key c).run P W = .ok (if c then .tuple #[z, .bool false] else z) W := by
  obtain ⟨es, clock, hb, rfl, hk⟩ := h
  rcases K.find W hkey es.toList hk with ⟨h1, h2⟩ | ⟨j, e0, h1, h2, h3⟩
  · simp [Instr.lookup, run_underlying ht, MapKept.run_getObj_map hb, K.check W _ hkey, h1, hz, Result.andThen]
  · refine absurd ?_ hno
    rw [List.map_map]
    exact List.mem_map.2 ⟨e0, List.mem_of_getElem? h2, h3⟩
theorem MapE.put (h : MapE P kt W b kv) (K : Keyed P kt) (ht : P.underlying t = some (.map kt e)) {key val : Value} {kl : Lit} (hkey : keyOf P kt key = some kl) (hno : key ∉ kv.map Prod.fst) :
    ∃ w', (Instr.mapUpdate t (.map (some b)) key val).run P W = .ok () w' ∧ MapE P kt w' b (kv ++ [(key, val)]) ∧ W.grownBy w' (some b) ∧ w'.heap.size = W.heap.size := by
  obtain ⟨es, clock, hb, rfl, hk⟩ := h
  rcases K.find W hkey es.toList hk with ⟨h1, h2⟩ | ⟨j, e0, h1, h2, h3⟩
  · refine ⟨setBlock W b (.map (es.push ⟨key, val, clock⟩) (clock + 1)), ?_, ⟨es.push ⟨key, val, clock⟩, clock + 1, heap_setBlock_same hb _, by simp, ?_⟩, ⟨rfl, rfl, rfl, by simp [setBlock], fun i hi hne => heap_setBlock_other hb _ (fun e => hne (by rw [e]))⟩, by simp [setBlock]⟩
    · simp [Instr.mapUpdate, run_underlying ht, MapKept.run_getObj_map hb, K.check W false hkey, h1, MapKept.run_setObj_map _ hb, Result.andThen, setBlock]
    · intro x hx
      simp only [Array.toList_push, List.mem_append, List.mem_singleton] at hx
      rcases hx with hx | rfl
      · exact hk x hx
      · exact ⟨_, hkey⟩
  · refine absurd ?_ hno
    rw [List.map_map]
    exact List.mem_map.2 ⟨e0, List.mem_of_getElem? h2, h3⟩
theorem MapE.size (h : MapE P kt W b kv) (ht : P.underlying t = some (.map kt e)) (ty : TypeId) : (Builtin.len_ #[t] ty #[.map (some b)]).run P W = .ok (.int .i64 kv.length) W := by
  obtain ⟨es, clock, hb, rfl, hk⟩ := h
  simp [Builtin.len_, run_underlying ht, MapKept.run_getObj_map hb, goInt, Result.andThen]
theorem MapE.new (P : Program) (kt : TypeId) (W : World) : MapE P kt (W.alloc (.map #[] 0)) W.heap.size [] := ⟨#[], 0, heap_alloc_new W _, rfl, fun x hx => by simp at hx⟩

/-! ### at the operation, for the walk -/
theorem wpList_hit {ops : Array Oper} {rest : List Oper} {o : Oper} {a : Act} {Q : Exit → Act → World → Prop} (hg : o.guard = none) (m x : Operand) (t : TypeId) (c : Bool) (hop : o.op = Op.lookup t m x c)
    (K : Keyed P kt) (ht : P.underlying t = some (.map kt e)) (b : Nat) (kv : List (Value × Value)) (h : MapE P kt W b kv) (hm : a.eval m = .map (some b)) (key val : Value) (kl : Lit) (hx : a.eval x = key) (hkey : keyOf P kt key = some kl)
    (hd : (kv.map Prod.fst).Nodup) (hin : (key, val) ∈ kv) (hK : wpList P ops Q rest (a.put o.dst (if c then .tuple #[val, .bool true] else val)) W) :
    wpList P ops Q (o :: rest) a W := by
  refine wpList_plain hg fun K' hK' => ?_
  have hrun := h.hit hd K ht c hkey hin
  unfold Oper.wp
  simp [execOp, hop, hm, hx, hrun, Result.andThen]
  exact hK' _ _ hK
theorem wpList_miss {ops : Array Oper} {rest : List Oper} {o : Oper} {a : Act} {Q : Exit → Act → World → Prop} (hg : o.guard = none) (m x : Operand) (t : TypeId) (c : Bool) (hop : o.op = Op.lookup t m x c)
    (K : Keyed P kt) (ht : P.underlying t = some (.map kt e)) (b : Nat) (kv : List (Value × Value)) (h : MapE P kt W b kv) (hm : a.eval m = .map (some b)) {z : Value} (hz : (zeroValue e).run P W = .ok z W) (key : Value) (kl : Lit) (hx : a.eval x = key) (hkey : keyOf P kt key = some kl)
    (hno : key ∉ kv.map Prod.fst) (hK : wpList P ops Q rest (a.put o.dst (if c then .tuple #[z, .bool false] else z)) W) :
    wpList P ops Q (o :: rest) a W := by
  refine wpList_plain hg fun K' hK' => ?_
  have hrun := h.miss K ht c hz hkey hno
  unfold Oper.wp
  simp [execOp, hop, hm, hx, hrun, Result.andThen]
  exact hK' _ _ hK
theorem wpList_put {ops : Array Oper} {rest : List Oper} {o : Oper} {a : Act} {Q : Exit → Act → World → Prop} (hg : o.guard = none) (m x v : Operand) (t : TypeId) (hop : o.op = Op.mapUpdate t m x v ∨ o.op = Op.insert t m x v)
    (K : Keyed P kt) (ht : P.underlying t = some (.map kt e)) (b : Nat) (kv : List (Value × Value)) (h : MapE P kt W b kv) (hm : a.eval m = .map (some b)) (key val : Value) (kl : Lit) (hx : a.eval x = key) (hv : a.eval v = val) (hkey : keyOf P kt key = some kl)
    (hno : key ∉ kv.map Prod.fst) (hK : ∀ w', MapE P kt w' b (kv ++ [(key, val)]) → W.grownBy w' (some b) → w'.heap.size = W.heap.size → wpList P ops Q rest (a.put o.dst undef) w') :
    wpList P ops Q (o :: rest) a W := by
  refine wpList_plain hg fun K' hK' => ?_
  obtain ⟨w', hrun, r1, r2, r3⟩ := h.put (val := val) K ht hkey hno
  unfold Oper.wp
  rcases hop with hop | hop
  · simp [execOp, hop, hm, hx, hv, hrun, Result.andThen]
    exact hK' _ _ (hK w' r1 r2 r3)
  · simp [execOp, hop, hm, hx, hv, hrun, Result.andThen]
    exact hK' _ _ (hK w' r1 r2 r3)
/-- the number of entries -/
def msz (W : World) (b : Nat) : Nat := match W.heap[b]? with
  | some (.map es _) => es.size
  | _ => 0
theorem MapE.msz (h : MapE P kt W b kv) : msz W b = kv.length := by
  obtain ⟨es, clock, hb, rfl, hk⟩ := h
  unfold Map.msz
  rw [hb]
  simp
end
end Go.Proofs.Ytefgcnjbiaileaa.Map
