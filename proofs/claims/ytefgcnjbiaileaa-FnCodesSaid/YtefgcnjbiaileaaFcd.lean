/- What FindCode gives, plainly; codes and bools as results. -/
import Derived.Test.YtefgcnjbiaileaaPth
import Derived.Test.YtefgcnjbiaileaaCde
set_option linter.unusedVariables false
set_option maxRecDepth 20000
namespace Go.Proofs.Ytefgcnjbiaileaa.Fcd
open Go.Deep Go.RowKit Go.Maps Fr _root_.Go.Proofs.Ytefgcnjbiaileaa.Own Pk Ins Pfn Rws Srt Sst Map Hnd Hco Cde Col Him Wit Pkn Fcp Usr Pth

/-! ### the search -/
abbrev Fst := List (Int × Int) × List (List Int)
section
variable {Hs : List (List Int)} {i H : Nat} {x : Fst} {b : Bool}
theorem find_next (h : findF Hs i = some (true, x)) : findF Hs (i + 1) = match pathF Hs x.1 fuel ⟨[], [], ((i : Int), [])⟩ with
    | none => none
    | some [] => some (false, x)
    | some p => some (true, giveF p x) := by
  rw [findF, h]
  simp only
  generalize pathF Hs x.1 fuel ⟨[], [], ((i : Int), [])⟩ = q
  cases q with
  | none => rfl
  | some p => cases p <;> rfl
theorem find_stay (h : findF Hs i = some (false, x)) : ∀ d, findF Hs (i + d) = some (false, x)
  | 0 => h
  | d + 1 => by rw [← Nat.add_assoc, findF, find_stay h d]
theorem find_back : ∀ d, findF Hs (i + d) ≠ none → findF Hs i ≠ none
  | 0, h => h
  | d + 1, h => by
    refine find_back d fun e => h ?_
    rw [← Nat.add_assoc, findF, e]
theorem find_path (hH : findF Hs H = some (b, x)) (hi : i < H) {y : Fst} (h : findF Hs i = some (true, y)) : ∃ p, pathF Hs y.1 fuel ⟨[], [], ((i : Int), [])⟩ = some p ∧ (p = [] → b = false) ∧ (p ≠ [] → findF Hs (i + 1) = some (true, giveF p y)) := by
  have hn := find_next h
  have h2 : findF Hs (i + 1) ≠ none := find_back (H - (i + 1)) (by rw [show i + 1 + (H - (i + 1)) = H by omega, hH]; simp)
  cases hp : pathF Hs y.1 fuel ⟨[], [], ((i : Int), [])⟩ with
  | none => rw [hp] at hn; exact absurd hn h2
  | some p =>
    rw [hp] at hn
    refine ⟨p, rfl, fun e => ?_, fun e => ?_⟩
    · subst e
      have h3 := find_stay hn (H - (i + 1))
      rw [show i + 1 + (H - (i + 1)) = H by omega, hH] at h3
      simpa using congrArg (fun z : Option (Bool × Fst) => z.map Prod.fst) h3
    · cases p with
      | nil => exact absurd rfl e
      | cons u p => exact hn
end
theorem chk_get {n k : Nat} (h1 : 1 ≤ n) (h8 : n ≤ 8) (k1 : 1 ≤ k) (kn : k ≤ n) (k3 : k ≤ 3) : chkF n k = true := by
  by_cases h5 : n ≤ 5
  · have h := List.all_eq_true.1 (List.all_eq_true.1 chk_a n (List.mem_range.2 (by omega))) k (List.mem_range.2 (by omega))
    rw [show (k == 0) = false from beq_eq_false_iff_ne.2 (by omega), show decide (n < k) = false from decide_eq_false (by omega)] at h
    simpa using h
  · have hb := chk_b
    have hc := chk_c
    have hd := chk_d
    simp only [Bool.and_eq_true] at hb hc
    have hn : n = 6 ∨ n = 7 ∨ n = 8 := by omega
    have hk : k = 1 ∨ k = 2 ∨ k = 3 := by omega
    rcases hn with rfl | rfl | rfl <;> rcases hk with rfl | rfl | rfl
    · exact hb.1.1.1.1.1
    · exact hb.1.1.1.1.2
    · exact hc.1
    · exact hb.1.1.1.2
    · exact hb.1.1.2
    · exact hc.2
    · exact hb.1.2
    · exact hb.2
    · exact hd
theorem chk_parts {n k : Nat} (h : chkF n k = true) : ∃ b x, findF (handsF n k 0) (handsF n k 0).length = some (b, x) ∧ (usersF (handsF n k 0) (ordersF (k - 1) (imarks 0 n)) (handsF n k 0).length).1 = b ∧
    (b = true → x.2 = (List.range (handsF n k 0).length).flatMap (shownF (ordersF (k - 1) (imarks 0 n)) (usersF (handsF n k 0) (ordersF (k - 1) (imarks 0 n)) (handsF n k 0).length).2)) := by
  unfold chkF at h
  simp only at h
  generalize usersF (handsF n k 0) (ordersF (k - 1) (imarks 0 n)) (handsF n k 0).length = u at *
  cases hf : findF (handsF n k 0) (handsF n k 0).length with
  | none => rw [hf] at h; cases h
  | some r =>
    obtain ⟨b, x⟩ := r
    rw [hf] at h
    simp only [Bool.and_eq_true, beq_iff_eq, Bool.or_eq_true, Bool.not_eq_true', decide_eq_true_eq] at h
    refine ⟨b, x, rfl, h.1, fun hb => ?_⟩
    rcases h.2 with h2 | h2
    · rw [hb] at h2; cases h2
    · exact h2
/-! ### what FindCode gives -/
def foundF (Hs : List (List Int)) : Bool × List (List Int) := match findF Hs Hs.length with
  | some (true, x) => (true, x.2)
  | _ => (false, [])
def fndB (n k : Int) : Bool := decide (k ≤ 3 ∧ handsI n k ≠ []) && (foundF (handsI n k)).1
def fndH (n k : Int) : List (List Int) := if fndB n k = true then handsI n k else []
def fndS (n k : Int) : List (List Int) := if fndB n k = true then (foundF (handsI n k)).2 else []
def fndD (n k : Int) : Int := if fndB n k = true then n else 0
theorem fnd_no {n k : Int} (h : fndB n k = false) : fndH n k = [] ∧ fndS n k = [] ∧ fndD n k = 0 := by
  unfold fndH fndS fndD
  rw [h]
  exact ⟨rfl, rfl, rfl⟩
theorem fnd_yes {n k : Int} (h : fndB n k = true) : fndH n k = handsI n k ∧ fndS n k = (foundF (handsI n k)).2 ∧ fndD n k = n := by
  unfold fndH fndS fndD
  rw [if_pos h, if_pos h, if_pos h]
  exact ⟨rfl, rfl, rfl⟩
/-- a call hands back a code of its own and a bool -/
def IsCB (B : Nat) (D : Int) (Hs Ss : List (List Int)) (b : Bool) (w : World) (e : Ending) (w' : World) : Prop :=
  ∃ A c A2 c2 rs r2, e = .returned (.tuple #[coV D A Hs.length c A2 Ss.length c2, .bool b]) ∧ rs.map RD.zs = Hs ∧ r2.map RD.zs = Ss ∧ CR w' B w'.heap.size A Hs.length c rs A2 Ss.length c2 r2 ∧ Below B w w'
theorem results_cs {P : Program} {fn : Func} {a b : Tmp} {t : TypeId} {p : Addr} {v x : Value} {w : World} (h : fn.results = #[.cell a t, .tmp b]) (tmps : Array Value) (hp : tmps.getD a undef = .pointer (some p)) (hx : tmps.getD b undef = x) (hl : (loadVar t p).run P w = .ok v w) :
    (results fn tmps).run P w = .ok (.tuple #[v, x]) w := by
  have hp2 : tmps[a]?.getD undef = .pointer (some p) := by simpa using hp
  have hx2 : tmps[b]?.getD undef = x := by simpa using hx
  simp [results, h, hp2, hx2, asAddr, hl]
/-- what is stored in the result's box -/
theorem put_box {w W : World} {p : Nat} {a b c x y z : Value} (hp : W.heap[p]? = some (.cells #[a, b, c] 26 (0, 0))) (hB : Below w.heap.size w W) (hwp : w.heap.size ≤ p) :
    (loadVar 26 ⟨p, 0, none⟩).run Try.prog (((W.setCell ⟨p, 0, none⟩ x).setCell ⟨p, 1, none⟩ y).setCell ⟨p, 2, none⟩ z) = .ok (.agg #[x, y, z]) (((W.setCell ⟨p, 0, none⟩ x).setCell ⟨p, 1, none⟩ y).setCell ⟨p, 2, none⟩ z) ∧ Below w.heap.size w (((W.setCell ⟨p, 0, none⟩ x).setCell ⟨p, 1, none⟩ y).setCell ⟨p, 2, none⟩ z) ∧ W.grownBy (((W.setCell ⟨p, 0, none⟩ x).setCell ⟨p, 1, none⟩ y).setCell ⟨p, 2, none⟩ z) (some p) := by
  obtain ⟨h1, h2⟩ := put3 (x := x) (y := y) (z := z) hp
  exact ⟨loadC h1, hB.grown h2 hB.size (fun k hk => by injection hk with hk; omega), h2⟩
theorem cb_none {w W : World} (hb : Below w.heap.size w W) : IsCB w.heap.size 0 [] [] false w (.returned (.tuple #[.agg #[.int .i64 0, .slice none 0 0, .slice none 0 0], .bool false])) W :=
  ⟨none, 0, none, 0, [], [], rfl, rfl, rfl, ⟨W.heap.size, ss_lower (SSRow.none_ W W.heap.size) hb.size, SSRow.none_ W W.heap.size, hb.size, Nat.le_refl _⟩, hb⟩
/-- a list of a row of lists is set -/
theorem ss_set {W : World} {lo hi g n c i : Nat} {rs : List RD} {r : RD} (h : SSRow W lo hi (some ⟨g, 0, none⟩) n c rs) (hi' : i < n) (hr : W.ownsRow lo 3 1 r.v r.zs.length (r.zs.map (Value.int .i64))) (hd : ∀ j, j < n → j ≠ i → ∀ b, r.b = some b → (rs.getD j rd0).b ≠ some b) :
    SSRow (W.setCell ⟨g, i, none⟩ r.v) lo W.heap.size (some ⟨g, 0, none⟩) n c (rs.set i r) ∧ W.grownBy (W.setCell ⟨g, i, none⟩ r.v) (some g) := by
  have hl := h.len
  obtain ⟨o1, o2⟩ := h.1.stored i r.v
  have hget : ∀ j, (rs.set i r).getD j rd0 = if j = i then r else rs.getD j rd0 := fun j => by
    simp only [List.getD_eq_getElem?_getD]
    by_cases e : j = i
    · subst e
      rw [List.getElem?_set_self (by omega), if_pos rfl]
      rfl
    · rw [List.getElem?_set_ne (fun e2 => e e2.symm), if_neg e]
  have hrlt := fun b hb => (own_lo hr b hb).2
  refine ⟨⟨by rw [List.map_set]; exact o1, fun j hj => ?_, fun a b ha hb hne q hq => ?_, fun a ha => ?_, by simp⟩, o2⟩
  · rw [List.length_set] at hj
    rw [hget j]
    by_cases e : j = i
    · rw [if_pos e]
      exact ⟨own_gr hr o2 fun k hk e2 => by cases e2; exact own_diff h.1 hr (by decide) g rfl hk, fun a ha => hrlt a.block (by rw [show r.A = some a from ha]; rfl), by simp⟩
    · rw [if_neg e]
      have hw := h.2.1 j hj
      exact ⟨own_gr hw.1 o2 fun k hk e2 => by cases e2; exact own_diff h.1 hw.1 (by decide) g rfl hk, fun a ha => Nat.lt_of_lt_of_le (hw.2.1 a ha) h.2.2.2.2, by simp⟩
  · rw [List.length_set] at ha hb
    rw [hget a] at hq
    rw [hget b]
    by_cases e1 : a = i
    · rw [if_pos e1] at hq
      by_cases e2 : b = i
      · omega
      · rw [if_neg e2]
        exact hd b (by omega) e2 q hq
    · rw [if_neg e1] at hq
      by_cases e2 : b = i
      · rw [if_pos e2]
        intro e3
        exact hd a (by omega) e1 q e3 hq
      · rw [if_neg e2]
        exact h.2.2.1 a b ha hb hne q hq
  · exact Nat.lt_of_lt_of_le (h.2.2.2.1 a ha) h.2.2.2.2
end Go.Proofs.Ytefgcnjbiaileaa.Fcd
