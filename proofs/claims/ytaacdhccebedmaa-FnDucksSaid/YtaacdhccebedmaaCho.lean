/- Channels in one goroutine, in a walk: a region that sends or receives, one operation after another. -/
import Derived.Test.YtaacdhccebedmaaPfn
import Derived.Conc.LoneCalls
import Derived.Deep.Cut
set_option linter.unusedVariables false
set_option maxRecDepth 20000
namespace Go.Proofs.Ytaacdhccebedmaa.Cho
open Go Go.Conc

section
variable {P : Program} {ops : Array Oper} {Q : Exit → Act → World → Prop} {a : Act} {w w' : World} {i : Nat} {rest : List Nat} {o : Oper}
/-- from these operations on the statement ends as asked -/
def Ops (P : Program) (ops : Array Oper) (Q : Exit → Act → World → Prop) (l : List Nat) (a : Act) (w : World) : Prop :=
  ∀ b k cs, ∃ e a' w', Q e a' w' ∧ Arrives P (lone (b.at a (.inRegion ops l :: k)) cs w) b k cs e a' w'
theorem ops_nil (h : Q .normal a w) : Ops P ops Q [] a w := fun _ _ _ => ⟨.normal, a, w, h, .one step_region_end⟩
theorem ops_tail {l : List Nat} (h : wpOps P ops Q l a w) : Ops P ops Q l a w := wp_ops l a w h
theorem wp_of_ops {id : Nat} (h : Ops P ops Q (List.range ops.size) a w) : (Code.region id ops false).wp P Q a w :=
  fun b k cs => let ⟨e, a', w', q, r⟩ := h b k cs; ⟨e, a', w', q, .of_steps (.one step_region) r⟩
theorem wp_of_ops_draw {id : Nat} (h : ∀ t, Ops P ops Q (Region.schedule (P.follows .mixedOrders) ops t) a { w with drawn := w.drawn + 1 }) : (Code.region id ops true).wp P Q a w :=
  fun b k cs => let ⟨e, a', w', q, r⟩ := h _ b k cs; ⟨e, a', w', q, .of_steps (.one step_region_draw) r⟩
theorem ops_step {v : Value} (ho : ops[i]? = some o) (hs : ∀ (b : Frame) (k : List Item) (cs : List Frame), step P (lone (b.at a (.inRegion ops (i :: rest) :: k)) cs w) = .next (lone ((b.at a (.inRegion ops (i :: rest) :: k)).finish v) cs w'))
    (h : Ops P ops Q rest (a.put o.dst v) w') : Ops P ops Q (i :: rest) a w := fun b k cs => by
  obtain ⟨e, a', w2, q, r⟩ := h b k cs
  have := hs b k cs
  rw [Frame.finish_at, ho] at this
  exact ⟨e, a', w2, q, .of_steps (.one this) r⟩
theorem ops_val {v : Value} (ho : ops[i]? = some o) (hg : o.guard = none) (hr : (execOp a.eval o).run P w = .ok (.value v) w') (h : Ops P ops Q rest (a.put o.dst v) w') : Ops P ops Q (i :: rest) a w :=
  ops_step ho (fun b k cs => step_lone_go (by rw [stepG_op ho (by simp [Region.wanted, hg])]; simp [stepG.apply, hr])) h
theorem comm_of {cases : Array CommCase} {blocking : Bool} {shape : CommShape} (ho : ops[i]? = some o) (hg : o.guard = none) (hr : (execOp a.eval o).run P w = .ok (.comm cases blocking shape) w') (b : Frame) (k : List Item) (cs : List Frame) :
    ∃ es, stepG P true (G (b.at a (.inRegion ops (i :: rest) :: k)) cs) w = .comm (G (b.at a (.inRegion ops (i :: rest) :: k)) cs) cases blocking shape w' es := by
  have h := stepG_op (P := P) (b := b) (a := a) (k := k) (cs := cs) (w := w) (rest := rest) ho (by simp [Region.wanted, hg])
  show ∃ es, stepG P true { frame := b.at a (.inRegion ops (i :: rest) :: k), callers := cs, status := .running, dying := none } w = _
  rw [h]
  simp only [stepG.apply, Sem.runT_eq, if_true, hr, GStep.after]
  exact ⟨_, rfl⟩
theorem ops_send {c cap s r : Nat} {buf : Array Value} {v z : Value} {tm : Bool} (ho : ops[i]? = some o) (hg : o.guard = none) (hr : (execOp a.eval o).run P w = .ok (.comm #[scase c v z] true .send) w')
    (hc : w'.heap[c]? = some (.chan cap buf false s r tm)) (hroom : buf.size < cap) (h : Ops P ops Q rest (a.put o.dst undef) (w'.setChan c cap (buf.push v) false (s + 1) r tm)) : Ops P ops Q (i :: rest) a w :=
  ops_step ho (fun b k cs => by
    obtain ⟨es, he⟩ := comm_of (rest := rest) ho hg hr b k cs
    exact step_lone_send_room he hc hroom) h
theorem ops_recv {c cap s r : Nat} {buf : Array Value} {z : Value} {tm closed ok : Bool} (ho : ops[i]? = some o) (hg : o.guard = none) (hr : (execOp a.eval o).run P w = .ok (.comm #[rcase c z] true (.recv ok)) w')
    (hc : w'.heap[c]? = some (.chan cap buf closed s r tm)) (hsome : 0 < buf.size) (h : Ops P ops Q rest (a.put o.dst (got ok (buf.getD 0 undef) true)) (w'.setChan c cap (buf.extract 1 buf.size) closed s (r + 1) tm)) : Ops P ops Q (i :: rest) a w :=
  ops_step ho (fun b k cs => by
    obtain ⟨es, he⟩ := comm_of (rest := rest) ho hg hr b k cs
    exact step_lone_recv_buf ok he hc hsome) h
theorem ops_shut {c cap s r : Nat} {z : Value} {tm ok : Bool} (ho : ops[i]? = some o) (hg : o.guard = none) (hr : (execOp a.eval o).run P w = .ok (.comm #[rcase c z] true (.recv ok)) w')
    (hc : w'.heap[c]? = some (.chan cap #[] true s r tm)) (h : Ops P ops Q rest (a.put o.dst (got ok z false)) w') : Ops P ops Q (i :: rest) a w :=
  ops_step ho (fun b k cs => by
    obtain ⟨es, he⟩ := comm_of (rest := rest) ho hg hr b k cs
    exact step_lone_recv_shut ok he hc) h
end

/-! ### every order -/
def allS (md : Region.Mode) (ops : Array Oper) : Nat → Array Bool → List (List Nat)
  | 0, _ => [[]]
  | f + 1, listed => if Region.ready md ops listed = [] then [[]] else (Region.ready md ops listed).flatMap fun i => (allS md ops f (listed.setIfInBounds i true)).map (i :: ·)
theorem sched_mem (md : Region.Mode) (ops : Array Oper) : ∀ (fuel t : Nat) (listed : Array Bool), Region.linearise.go md ops fuel t listed [] ∈ allS md ops fuel listed := by
  intro fuel
  induction fuel with
  | zero => intro t listed; simp [Region.linearise.go, allS]
  | succ fuel ih =>
    intro t listed
    simp only [Region.linearise.go, allS]
    change (match (Region.ready md ops listed)[t % (Region.ready md ops listed).length]? with
      | some i => Region.linearise.go md ops fuel (t / (Region.ready md ops listed).length) (listed.setIfInBounds i true) [i]
      | none => [].reverse) ∈ _
    cases hi : (Region.ready md ops listed)[t % (Region.ready md ops listed).length]? with
    | none =>
      by_cases hr : Region.ready md ops listed = []
      · rw [if_pos hr]; exact List.mem_singleton.2 rfl
      · have hlt : t % (Region.ready md ops listed).length < (Region.ready md ops listed).length := Nat.mod_lt _ (List.length_pos_iff.2 hr)
        rw [List.getElem?_eq_getElem hlt] at hi
        cases hi
    | some i =>
      have hm := List.mem_of_getElem? hi
      rw [if_neg (fun e => by rw [e] at hm; cases hm)]
      simp only []
      rw [linearise_go_acc, List.reverse_singleton, List.singleton_append]
      exact List.mem_flatMap.2 ⟨i, hm, List.mem_map.2 ⟨_, ih _ _, rfl⟩⟩
section
variable {P : Program} {ops : Array Oper} {Q : Exit → Act → World → Prop} {a : Act} {w w' : World} {i : Nat} {rest : List Nat} {o : Oper}
theorem ops_any {id : Nat} (hm : P.follows .mixedOrders = true) (L : List (List Nat)) (hL : allS .any ops ops.size (Array.replicate ops.size false) = L) (h : ∀ l ∈ L, Ops P ops Q l a { w with drawn := w.drawn + 1 }) : (Code.region id ops true).wp P Q a w :=
  wp_of_ops_draw fun t => by
    simp only [Region.schedule, hm, Bool.true_or, if_true]
    exact h _ (hL ▸ sched_mem .any ops ops.size t _)
theorem ops_same {v : Value} (ho : ops[i]? = some o) (hg : o.guard = none) (hr : (execOp a.eval o).run P w = .ok (.value v) w) (h : Ops P ops Q rest (a.put o.dst v) w) : Ops P ops Q (i :: rest) a w := ops_val ho hg hr h
theorem ops_move {x : Operand} (ho : ops[i]? = some o) (hg : o.guard = none) (hop : o.op = .move x) (h : Ops P ops Q rest (a.put o.dst (a.eval x)) w) : Ops P ops Q (i :: rest) a w :=
  ops_val ho hg (by simp [execOp, hop]) h
theorem ops_load {t : TypeId} {x : Operand} {p : Nat} {v : Value} (ho : ops[i]? = some o) (hg : o.guard = none) (hop : o.op = .load t x) (hx : a.eval x = .pointer (some ⟨p, 0, none⟩)) (hl : (loadVar t ⟨p, 0, none⟩).run P w = .ok v w)
    (h : Ops P ops Q rest (a.put o.dst v) w) : Ops P ops Q (i :: rest) a w :=
  ops_val ho hg (by
    unfold execOp
    simp only [hop, hx, Instr.loadAt, Instr.sureAddr, Sem.run_bind, Sem.run_pure, Result.andThen_ok, hl]) h
theorem ops_list {k : Nat} (l : List Oper) (hl : ∀ j, l[j]? = ops[k + j]?) (h : wpList P ops Q l a w) : Ops P ops Q (List.range' k l.length) a w :=
  ops_tail (by rw [wpOps_eq_wpList l k hl]; exact h)
theorem ops_drop {k : Nat} (h : wpList P ops Q (ops.toList.drop k) a w) : Ops P ops Q (List.range' k (ops.toList.drop k).length) a w :=
  ops_list _ (fun j => by rw [List.getElem?_drop, Array.getElem?_toList]) h
end

/-! ### the channel's block -/
theorem chan_grown (w : World) (c cap : Nat) (buf : Array Value) (cl : Bool) (s r : Nat) (tm : Bool) : w.grownBy (w.setChan c cap buf cl s r tm) (some c) :=
  ⟨rfl, rfl, rfl, by simp [World.setChan], fun k hk hne => by
    simp only [World.setChan]
    exact Array.getElem?_setIfInBounds_ne (fun e => hne (by rw [e]))⟩
end Go.Proofs.Ytaacdhccebedmaa.Cho
