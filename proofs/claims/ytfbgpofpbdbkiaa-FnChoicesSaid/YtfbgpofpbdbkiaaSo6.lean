/- The model's results of a choice: l05Ok, l05Cuts. The model's l05Of: all results of a choice. The model's l05Of: riffles. The model's l05Of: picks. The model's ResultsOf, CountResults, IsResult, ResultsAfter. The model's ResultsAfter. -/
import Derived.Test.YtfbgpofpbdbkiaaRaf
import Derived.Test.YtfbgpofpbdbkiaaDo
import Derived.Test.YtfbgpofpbdbkiaaSpw
import Derived.Test.YtfbgpofpbdbkiaaSps
import Derived.Deep.RegionHeldLaw
import Derived.Shelf.RegionOpen
import Derived.Shelf.Abstract
import Derived.WalkKit
import Derived.TacticsInMore
import Derived.Maps.AppendAt
set_option linter.unusedVariables false
set_option maxRecDepth 20000
namespace Go.Proofs.Ytfbgpofpbdbkiaa.Sof
open Go.RowKit Fr _root_.Go.Proofs.Ytfbgpofpbdbkiaa.Own Pk Ins Pfn Rws Sst Lb Mvp Pf Wv Itr Big Srt Raf

/-- is the choice possible -/
def okM (k : Int) (zs : List Int) : Bool := Pok.okB zs && decide (1 ≤ zs.length) && decide (0 ≤ k ∧ k ≤ 4) && ((decide (k ≠ 3) || decide (2 ≤ zs.length)) && (decide (k ≠ 2) || decide (zs.length ≤ 11)))
theorem take_snoc {l : List (List Int)} {rs : List RD} {k : Nat} {r : RD} (hk : k < l.length) (h : rs.map RD.zs = l.take k) (hr : r.zs = l.getD k []) : (rs ++ [r]).map RD.zs = l.take (k + 1) := by
  rw [List.map_append, h, List.take_add_one, List.getElem?_eq_getElem hk]
  simp [hr, List.getD_eq_getElem?_getD, List.getElem?_eq_getElem hk]
end Go.Proofs.Ytfbgpofpbdbkiaa.Sof

namespace Go.Proofs.Ytfbgpofpbdbkiaa.So2
open Go.RowKit Fr _root_.Go.Proofs.Ytfbgpofpbdbkiaa.Own Pk Ins Pfn Rws Sst Spl Sps Lb Mvp Pf Wv Itr Big Srt Raf Sof

/-- a call hands back a list of lists that may lie anywhere -/
def OfRes (L : List (List Int)) (w : World) (e : Ending) (w' : World) : Prop :=
  ∃ A' c' rs, e = .returned (.slice A' L.length c') ∧ rs.map RD.zs = L ∧ SSAt w' w'.heap.size A' rs ∧ RowsOk rs ∧ L.length ≤ c' ∧ Below w.heap.size w w'
theorem of_ss {B : Nat} {zss : List (List Int)} {w0 w w' : World} {e : Ending} (h : IsSS B zss w e w') (hz : ∀ x ∈ zss, x.length ≤ 1048576) (hb : Below w0.heap.size w0 w') : OfRes zss w0 e w' := by
  obtain ⟨A, c, rs, rfl, h1, h2, h3⟩ := h
  exact ⟨A, c, rs, rfl, h1, at_of h2, rows_ok h2 (by rw [h1]; exact hz), ss_cap h2, hb⟩
def ofM (k : Int) (zs : List Int) : List (List Int) := if k = 1 then cutsF zs else if k = 2 then rifM zs else if k = 3 then cutsF (moveF 3 2 zs) else if k = 4 then picksF zs else [zs]
theorem cuts_small {zs : List Int} (h : Pok.okB zs = true) (h1 : 1 ≤ zs.length) : ∀ x ∈ cutsF zs, x.length ≤ 1048576 := fun x hx => by
  have q := (cuts_good h h1 x hx).2
  have := (ok_parts h).1
  omega
end Go.Proofs.Ytfbgpofpbdbkiaa.So2

namespace Go.Proofs.Ytfbgpofpbdbkiaa.So3
open Go.RowKit Fr _root_.Go.Proofs.Ytfbgpofpbdbkiaa.Own Pk Ins Pfn Rws Sst Spl Sps Lb Mvp Pf Wv Itr Big Srt Raf Sof So2

def rifK (zs : List Int) (k : Nat) : List (List Int) := (List.range k).flatMap fun j => weaveF zs.length [] (zs.take j) (zs.drop j)
theorem rifK_snoc (zs : List Int) (k : Nat) : rifK zs (k + 1) = rifK zs k ++ weaveF zs.length [] (zs.take k) (zs.drop k) := by
  unfold rifK
  rw [List.range_succ, List.flatMap_append]
  simp
theorem rifK_len (zs : List Int) (h : zs.length ≤ 12) : ∀ k, (rifK zs k).length ≤ k * 4096
  | 0 => by simp [rifK]
  | k + 1 => by
    rw [rifK_snoc, List.length_append]
    have h1 := rifK_len zs h k
    have h2 := Wv.weave_size zs.length [] (zs.take k) (zs.drop k)
    have h3 : 2 ^ zs.length ≤ 4096 := Nat.pow_le_pow_right (by decide) h
    omega
theorem rifM_small {zs : List Int} (h : zs.length ≤ 12) : ∀ x ∈ rifM zs, x.length ≤ 1048576 := fun x hx => by
  have hx2 := (Wv.rif_mem zs x).1 hx
  unfold rifI at hx2
  obtain ⟨w, hw, rfl⟩ := List.mem_map.1 hx2
  rw [(Wv.rif_perm (bitsN_len _ _)).length_eq]
  omega
end Go.Proofs.Ytfbgpofpbdbkiaa.So3

namespace Go.Proofs.Ytfbgpofpbdbkiaa.So4
open Go.RowKit Fr _root_.Go.Proofs.Ytfbgpofpbdbkiaa.Own Pk Ins Pfn Rws Sst Spl Sps Lb Mvp Mv1 Pf Wv Itr Big Srt Raf Sof So2 Sv2 Do

theorem st_lit {B : Nat} {W : World} {x : Int} (hB : B ≤ W.heap.size) : (W.alloc (.cells #[.int .i64 x] 3)).ownsRow B 3 1 (.slice (some ⟨W.heap.size, 0, none⟩) 1 1) 1 (vals [x]) := World.ownsRow_lit (base := B) (e := 3) (size := 1) W #[.int .i64 x] 1 hB (by decide) rfl
theorem st_nil {B : Nat} {W : World} (hB : B ≤ W.heap.size) : (W.alloc (.cells #[] 3)).ownsRow B 3 1 (.slice (some ⟨W.heap.size, 0, none⟩) 0 0) 0 (vals []) := World.ownsRow_lit (base := B) (e := 3) (size := 1) W #[] 0 hB (Nat.zero_le _) rfl
theorem st_spot {W : World} {B : Nat} {A : Option Addr} {n c : Nat} {xs : List Value} (h : W.ownsRow B 3 1 (.slice A n c) n xs) : (A = none → c = 0) ∧ ∀ a, A = some a → a.spot = none := by
  rcases own_full h with ⟨h1, h2, h3⟩ | ⟨g, ys, rfl, _⟩
  · subst h1
    exact ⟨fun _ => h3, fun a e => (by cases e)⟩
  · exact ⟨fun e => (by cases e), fun a e => (by cases e; rfl)⟩
theorem own_grow {W W' : World} {B g n c : Nat} {A : Option Addr} {xs : List Value} (h : W.ownsRow B 3 1 (.slice (some ⟨g, 0, none⟩) n c) n xs) (hg : W.grownBy W' (A.map (·.block))) (hne : A.map (·.block) ≠ some g) : W'.ownsRow B 3 1 (.slice (some ⟨g, 0, none⟩) n c) n xs :=
  own_gr h hg fun k hk e => hne (e.trans hk.symm)
theorem step_app_v {P : Program} {w : World} {ops : Array Oper} {o : Oper} {a : Act} {K : Act → World → Prop} {Q : Exit → Act → World → Prop} {E : Prop} (hgd : o.guard = none) (s x : Operand) (t : TypeId)
    (ho : o.op = .call { callee := .builtin .append, args := #[s, x], argTypes := #[t, t] })
    (B : Nat) (e : TypeId) (i : TypeInfo) (z : Value) (bytes : Nat) (ht : P.underlying t = some (.slice e)) (hi : P.info? e = some i) (hz : i.zero = some z)
    (hsize : i.size = 1) (hby : i.bytes = bytes) (hzs : z.cells.size = 1) (A : Option Addr) (c : Nat) (n : Nat) (xs : List Value) (hs : a.eval s = .slice A n c) (hown : w.ownsRow B e 1 (.slice A n c) n xs)
    (y : Value) (hy : y.oneCell' = true) (N : Nat) (hx : a.eval x = .slice (some ⟨N, 0, none⟩) 1 1) (hcell : w.cell? ⟨N, 0, none⟩ = some y) (hn : n ≤ 1048576) (hby2 : bytes ≤ 32) (hB : B ≤ w.heap.size)
    (h : ∀ g c' w', w'.ownsRow B e 1 (.slice (some ⟨g, 0, none⟩) (n + 1) c') (n + 1) (xs ++ [y]) → w.grownBy w' (A.map (·.block)) → K (a.put o.dst (.slice (some ⟨g, 0, none⟩) (n + 1) c')) w') :
    if Region.wanted o (yielded ops a.tmps) = true then Oper.wp P o a w K Q else E := by
  have hw : Region.wanted o (yielded ops a.tmps) = true := by simp [Region.wanted, hgd]
  rw [if_pos hw]
  obtain ⟨v', w', hr, h2, h3, _, h5⟩ := run_append_own_at (P := P) w B t o.type e i z 1 bytes ht hi hz hsize hby hzs (by decide) _ n xs hown ⟨N, 0, none⟩ 1 1 [y] rfl (fun j u hj => by
    match j, hj with
    | 0, hj =>
      simp at hj
      subst hj
      exact hcell) (fun u hu => by simp at hu; subst hu; exact hy) (by unfold maxLen; omega) (by
    have : (n + 1) * bytes ≤ (1048576 + 1) * 32 := Nat.mul_le_mul (by omega) hby2
    omega) hB
  obtain ⟨A', c', rfl⟩ := own_slice h2
  obtain ⟨g, rfl⟩ := own_shape h2 (by omega)
  unfold Oper.wp execOp
  simp only [ho, resolve, invoke, builtin, Sem.run_bind, Sem.run_pure, Result.andThen_ok, List.map_toArray, List.map_cons, List.map_nil, hs, hx, hr]
  refine h g c' w' h2 ?_
  cases A with
  | none => exact h3
  | some a2 => exact h3
end Go.Proofs.Ytfbgpofpbdbkiaa.So4

namespace Go.Proofs.Ytfbgpofpbdbkiaa.So5
open Go.RowKit Fr _root_.Go.Proofs.Ytfbgpofpbdbkiaa.Own Pk Ins Pfn Rws Sst Spl Spm Sps Lb Mvp Pf Wv Itr Big Srt Raf Sof So2 Sam

theorem okM_parts {k : Int} {zs : List Int} (h : okM k zs = true) : Pok.okB zs = true ∧ 1 ≤ zs.length ∧ zs.length ≤ 12 ∧ (0 ≤ k ∧ k ≤ 4) ∧ (k = 3 → 2 ≤ zs.length) ∧ (k = 2 → zs.length ≤ 11) := by
  unfold okM at h
  simp only [Bool.and_eq_true, Bool.or_eq_true, decide_eq_true_eq] at h
  obtain ⟨⟨⟨h1, h2⟩, h3⟩, h4, h5⟩ := h
  refine ⟨h1, h2, (ok_parts h1).1, h3, fun e => ?_, fun e => ?_⟩
  · rcases h4 with h | h
    · exact absurd e h
    · exact h
  · rcases h5 with h | h
    · exact absurd e h
    · exact h
theorem ofM_mem {k : Int} {zs : List Int} (hk : 0 ≤ k ∧ k ≤ 4) (z : List Int) : z ∈ ofM k zs ↔ z ∈ Mkr.rowsF k zs := by
  unfold ofM Mkr.rowsF
  rcases (show k = 0 ∨ k = 1 ∨ k = 2 ∨ k = 3 ∨ k = 4 by omega) with rfl | rfl | rfl | rfl | rfl
  · exact Iff.rfl
  · exact Iff.rfl
  · exact rif_mem zs z
  · exact Iff.rfl
  · exact Iff.rfl
theorem ofM_len {k : Int} {zs : List Int} (h : okM k zs = true) : (ofM k zs).length ≤ 65536 := by
  obtain ⟨h1, h2, h3, h4, h5, h6⟩ := okM_parts h
  rcases (show k = 0 ∨ k = 1 ∨ k = 2 ∨ k = 3 ∨ k = 4 by omega) with rfl | rfl | rfl | rfl | rfl
  · show [zs].length ≤ 65536
    simp
  · show (cutsF zs).length ≤ 65536
    simp [cutsF]; omega
  · show (rifM zs).length ≤ 65536
    have e : rifM zs = So3.rifK zs (zs.length + 1) := rfl
    rw [e]
    have := So3.rifK_len zs h3 (zs.length + 1)
    omega
  · show (cutsF (moveF 3 2 zs)).length ≤ 65536
    have hk1 : kOk 3 2 zs.length = true := by
      have := h5 rfl
      unfold kOk
      simp
      omega
    have := move_len hk1 h2 h3
    simp [cutsF]; omega
  · show (picksF zs).length ≤ 65536
    simp [picksF]; omega
def roM (k : Int) (zs : List Int) : List (List Int) := if okM k zs then cano (ofM k zs) else []
theorem of_big {L : List (List Int)} {w w' : World} {e : Ending} (h : OfRes L w e w') : ∃ A c rs, e = .returned (.slice A L.length c) ∧ rs.length = L.length ∧ rs.map RD.zs = L ∧ SSAt w' w'.heap.size A rs ∧ RowsOk rs ∧ L.length ≤ c ∧ Below w.heap.size w w' := by
  obtain ⟨A, c, rs, h1, h2, h3⟩ := h
  exact ⟨A, c, rs, h1, by rw [← h2, List.length_map], h2, h3⟩
def cntM (k : Int) (zs : List Int) : Int := if okM k zs then ((roM k zs).length : Int) else -1
theorem same_iff {us vs : List Int} : sameB us vs = true ↔ us = vs := decide_eq_true_iff
def inTo (q : List Int) (rs : List RD) : Nat → Bool
  | 0 => false
  | j + 1 => inTo q rs j || sameB (rs.getD j rd0).zs q
theorem inTo_iff {q : List Int} {rs : List RD} : ∀ j, j ≤ rs.length → (inTo q rs j = true ↔ ∃ i, i < j ∧ (rs.getD i rd0).zs = q)
  | 0, _ => by simp [inTo]
  | j + 1, h => by
    rw [inTo, Bool.or_eq_true, inTo_iff j (by omega)]
    constructor
    · rintro (⟨i, hi, e⟩ | e)
      · exact ⟨i, by omega, e⟩
      · exact ⟨j, by omega, same_iff.1 e⟩
    · rintro ⟨i, hi, e⟩
      by_cases hij : i = j
      · subst hij
        exact Or.inr (same_iff.2 e)
      · exact Or.inl ⟨i, by omega, e⟩
theorem in_rows {q : List Int} {rs : List RD} {zss : List (List Int)} {n : Nat} (hz : rs.map RD.zs = zss) (hn : rs.length = n) : inTo q rs n = decide (q ∈ zss) := by
  rw [Bool.eq_iff_iff, inTo_iff n (by omega), decide_eq_true_iff, ← hz]
  constructor
  · rintro ⟨i, hi, rfl⟩
    refine List.mem_map.2 ⟨rs.getD i rd0, ?_, rfl⟩
    rw [List.getD_eq_getElem?_getD, List.getElem?_eq_getElem (by omega)]
    exact List.getElem_mem _
  · intro h
    obtain ⟨r, hr, rfl⟩ := List.mem_map.1 h
    obtain ⟨i, hi, rfl⟩ := List.getElem_of_mem hr
    exact ⟨i, by omega, by simp [List.getD_eq_getElem?_getD, List.getElem?_eq_getElem hi]⟩
def isrM (k : Int) (zs q : List Int) : Bool := decide (q ∈ roM k zs)
theorem roM_short {k : Int} {zs x : List Int} (h : x ∈ roM k zs) : x.length ≤ 12 := by
  unfold roM at h
  split at h
  next hok =>
    obtain ⟨h1, h2, h3, h4, h5, h6⟩ := okM_parts hok
    have hx := (ofM_mem h4 x).1 ((cano_mem _ _).1 h)
    have hg : goodB k zs = true := by
      unfold goodB
      rw [decide_eq_true h4, h1]
      have : Ck.leastN k ≤ zs.length := by
        unfold Ck.leastN
        split
        · have := h5 (by assumption); omega
        · omega
      rw [decide_eq_true this]
      rfl
    exact (rows_card hg x hx).2
  next => cases h
theorem roM_len {k : Int} {zs : List Int} : (roM k zs).length ≤ 65536 := by
  unfold roM
  split
  · exact Nat.le_trans (cano_size _).1 (ofM_len (by assumption))
  · simp
end Go.Proofs.Ytfbgpofpbdbkiaa.So5

namespace Go.Proofs.Ytfbgpofpbdbkiaa.So6
open Go.RowKit Fr _root_.Go.Proofs.Ytfbgpofpbdbkiaa.Own Pk Ins Pfn Rws Sst Spl Spm Sps Lb Mvp Pf Wv Itr Big Srt Raf Sof So2 So5

def maF (k : Int) (l : List (List Int)) : List (List Int) := cano (l.flatMap (ofM k))
def maB (k : Int) (l : List (List Int)) : Bool := l.all (okM k) && decide ((maF k l).length ≤ 3000)
def maR (k : Int) (l : List (List Int)) : List (List Int) := if maB k l then maF k l else []
theorem ma_bad {k : Int} {l : List (List Int)} {i : Nat} (hi : i < l.length) (h : okM k (l.getD i []) = false) : maB k l = false := by
  unfold maB
  have : l.all (okM k) = false := by
    rw [List.all_eq_false]
    refine ⟨l.getD i [], ?_, by rw [h]; simp⟩
    rw [List.getD_eq_getElem?_getD, List.getElem?_eq_getElem hi]
    exact List.getElem_mem _
  rw [this]
  rfl
theorem sorted_nodup {l : List (List Int)} (h : SortedL l) : l.Nodup := by
  rw [List.nodup_iff_pairwise_ne]
  refine h.imp fun {a b} hab e => ?_
  subst e
  rw [less_irr] at hab
  cases hab
theorem cano_le {l m : List (List Int)} (h : ∀ x, x ∈ l → x ∈ m) : (cano l).length ≤ (cano m).length :=
  (sorted_nodup (cano_sorted l)).length_le_of_subset fun x hx => (cano_mem m x).2 (h x ((cano_mem l x).1 hx))
theorem ma_many {k : Int} {l : List (List Int)} {j : Nat} (h : 3000 < (maF k (l.take j)).length) : maB k l = false := by
  unfold maB
  have : (maF k (l.take j)).length ≤ (maF k l).length := cano_le fun x hx => by
    obtain ⟨y, hy, hx⟩ := List.mem_flatMap.1 hx
    exact List.mem_flatMap.2 ⟨y, List.mem_of_mem_take hy, hx⟩
  rw [decide_eq_false (show ¬ (maF k l).length ≤ 3000 by omega), Bool.and_false]
theorem ma_snoc {k : Int} {l : List (List Int)} {j : Nat} (h : j < l.length) : mergeL (maF k (l.take j)) (cano (ofM k (l.getD j []))) = maF k (l.take (j + 1)) := by
  unfold maF
  rw [cano_merge, List.take_add_one, List.flatMap_append, List.getElem?_eq_getElem h, List.getD_eq_getElem?_getD, List.getElem?_eq_getElem h]
  simp
theorem ma_len {k : Int} {l : List (List Int)} {j : Nat} (h : ∀ x ∈ maF k (l.take j), x.length ≤ 12) : True := trivial
theorem ofM_short {k : Int} {zs : List Int} (h : okM k zs = true) : ∀ x ∈ ofM k zs, x.length ≤ 12 := fun x hx => roM_short (k := k) (zs := zs) (by unfold roM; rw [if_pos h]; exact (cano_mem _ _).2 hx)
end Go.Proofs.Ytfbgpofpbdbkiaa.So6
