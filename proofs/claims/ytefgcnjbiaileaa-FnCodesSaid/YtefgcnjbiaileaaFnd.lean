/- Lists of lists: the model's search in one, and a row of lists of the call's own that grows. -/
import Derived.Test.YtefgcnjbiaileaaRws
import Derived.Test.YtefgcnjbiaileaaSame
set_option linter.unusedVariables false
set_option maxRecDepth 20000
namespace Go.Proofs.Ytefgcnjbiaileaa.Fnd
open Go.RowKit Fr _root_.Go.Proofs.Ytefgcnjbiaileaa.Own Pk Ins Rws Sam

/-- a list of lists in memory -/
def LL (w : World) (A : Option Addr) (ls : List RD) : Prop := ∀ k, k < ls.length → ∃ b o, A = some ⟨b, o, none⟩ ∧ w.cell? ⟨b, o + k, none⟩ = some (ls.getD k rd0).v ∧ IntsAt w w.heap.size .i64 (ls.getD k rd0).A (ls.getD k rd0).zs
def inK (q : List Int) (ls : List RD) (k : Nat) : Bool := decide (q ∈ (ls.take k).map RD.zs)
theorem inK_next {q : List Int} {ls : List RD} {k : Nat} (h : k < ls.length) : inK q ls (k + 1) = (inK q ls k || decide ((ls.getD k rd0).zs = q)) := by
  unfold inK
  rw [List.take_succ_eq_append_getElem h, List.map_append, Bool.eq_iff_iff]
  simp only [decide_eq_true_eq, List.mem_append, Bool.or_eq_true, List.map_cons, List.map_nil, List.mem_singleton, List.getD_eq_getElem?_getD, List.getElem?_eq_getElem h, Option.getD_some]
  constructor
  · rintro (h | h)
    · exact Or.inl h
    · exact Or.inr h.symm
  · rintro (h | h)
    · exact Or.inl h
    · exact Or.inr h.symm
theorem inK_more {q : List Int} {ls : List RD} {k : Nat} (h : inK q ls k = true) : inK q ls ls.length = true := by
  unfold inK at *
  rw [decide_eq_true_eq] at h ⊢
  obtain ⟨r, hr, e⟩ := List.mem_map.1 h
  exact List.mem_map.2 ⟨r, by rw [List.take_length]; exact List.mem_of_mem_take hr, e⟩
def SplG (w : World) (V : List (List Int)) (s3 : Value) (wr : World) : Prop :=
  ∃ (A3 : Option Addr) (c3 : Nat) (RS : List RD), s3 = .slice A3 V.length c3 ∧ wr.ownsRow w.heap.size 33 1 (.slice A3 V.length c3) V.length (RS.map RD.v) ∧ RS.map RD.zs = V ∧ (∀ r ∈ RS, wr.ownsRow w.heap.size 3 1 r.v r.zs.length (r.zs.map (Value.int .i64))) ∧ Below w.heap.size w wr
theorem spg_below {w wr w' : World} {V : List (List Int)} {s3 : Value} (h : SplG w V s3 wr) (hb : Below wr.heap.size wr w') : SplG w V s3 w' := by
  obtain ⟨A3, c3, RS, e1, h3, hz, hR, hbw⟩ := h
  exact ⟨A3, c3, RS, e1, own_below h3 hb, hz, fun r hr => own_below (hR r hr) hb, hbw.trans (hb.mono hbw.size)⟩
theorem spg_put {w w1 w5 : World} {V : List (List Int)} {RS : List RD} {A3 : Option Addr} {c3 g3 c3' : Nat} {r : RD} (hz : RS.map RD.zs = V) (hB1 : Below w.heap.size w w1)
    (h3 : w1.ownsRow w.heap.size 33 1 (.slice A3 V.length c3) V.length (RS.map RD.v)) (hR : ∀ r ∈ RS, w1.ownsRow w.heap.size 3 1 r.v r.zs.length (r.zs.map (Value.int .i64))) (hr : w1.ownsRow w.heap.size 3 1 r.v r.zs.length (r.zs.map (Value.int .i64)))
    (h3' : w5.ownsRow w.heap.size 33 1 (.slice (some ⟨g3, 0, none⟩) (V.length + 1) c3') (V.length + 1) (RS.map RD.v ++ [r.v])) (hg5 : w1.grownBy w5 (A3.map (·.block))) :
    SplG w (V ++ [r.zs]) (.slice (some ⟨g3, 0, none⟩) (V.length + 1) c3') w5 := by
  have e1 : (V ++ [r.zs]).length = V.length + 1 := by simp
  have keep : ∀ s ∈ RS ++ [r], w5.ownsRow w.heap.size 3 1 s.v s.zs.length (s.zs.map (Value.int .i64)) := fun s hs => by
    have k1 : w1.ownsRow w.heap.size 3 1 s.v s.zs.length (s.zs.map (Value.int .i64)) := by
      rcases List.mem_append.1 hs with hs | hs
      · exact hR s hs
      · rw [List.mem_singleton.1 hs]; exact hr
    exact own_gr k1 hg5 (fun k hk e => own_diff h3 k1 (by decide) k e hk)
  exact ⟨_, c3', RS ++ [r], by rw [e1], by rw [e1, List.map_append]; exact h3', by rw [List.map_append, hz]; rfl, keep, hB1.grown hg5 hB1.size (fun k hk => (own_lo h3 k hk).1)⟩
theorem own_rows {w : World} {lo : Nat} {A3 : Option Addr} {n c3 : Nat} {RS : List RD} (h : w.ownsRow lo 33 1 (.slice A3 n c3) n (RS.map RD.v)) (hl : RS.length = n) (hR : ∀ r ∈ RS, w.ownsRow lo 3 1 r.v r.zs.length (r.zs.map (Value.int .i64))) : LL w A3 RS := by
  intro k hk
  obtain ⟨g, rfl⟩ := own_shape h (by omega)
  have hm : RS.getD k rd0 ∈ RS := by
    rw [List.getD_eq_getElem?_getD, List.getElem?_eq_getElem hk]
    exact List.getElem_mem hk
  refine ⟨g, 0, rfl, ?_, ints_of (hR _ hm)⟩
  rw [Nat.zero_add, h.cellAt k (by omega), List.getElem?_map, List.getElem?_eq_getElem hk, List.getD_eq_getElem?_getD, List.getElem?_eq_getElem hk]
  rfl

end Go.Proofs.Ytefgcnjbiaileaa.Fnd
