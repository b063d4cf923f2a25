/- slices.SortFunc of a list of lists by slices.Compare. -/
import Derived.Test.YtioofakdklghpaaCmp
import Derived.Test.YtioofakdklghpaaSst
set_option linter.unusedVariables false
set_option maxRecDepth 20000
namespace Go.Proofs.Ytioofakdklghpaa.Srp
open Go.RowKit Fr Own Ins Rws Srt Sst Cmp

/-- the outer row holds some of the rows, each at most once -/
theorem ss_put {W W' : World} {lo hi g n m c : Nat} {rs ss : List RD} (f : Nat → Nat) (h : SSRow W lo hi (some ⟨g, 0, none⟩) n c rs) (hg : W.grownBy W' (some g)) (hm : m ≤ n) (hl : ss.length = m)
    (hf : ∀ j, j < m → f j < n ∧ ss.getD j rd0 = rs.getD (f j) rd0) (hinj : ∀ i j, i < m → j < m → f i = f j → i = j)
    (hb : ∀ cur, W.heap[g]? = some (.cells cur 23 (0, 0)) → ∃ cur', W'.heap[g]? = some (.cells cur' 23 (0, 0)) ∧ cur'.size = cur.size ∧ cur'.toList.take m = ss.map RD.v) :
    SSRow W' lo hi (some ⟨g, 0, none⟩) m c ss := by
  have hlen := h.len
  have hk := h.outlo g rfl
  have hout : ∀ i, i < n → Row W' lo hi (rs.getD i rd0).A (rs.getD i rd0).zs.length (rs.getD i rd0).c (rs.getD i rd0).zs := by
    intro i hi'
    have hr := h.2.1 i (by omega)
    refine ⟨own_gr hr.1 hg fun k hk2 e => ?_, hr.2.1, Nat.le_trans hr.2.2 hg.size⟩
    simp only [Option.some.injEq] at e
    subst e
    exact own_diff h.1 hr.1 (by decide) g rfl hk2
  refine ⟨?_, ?_, ?_, h.2.2.2.1, Nat.le_trans h.2.2.2.2 hg.size⟩
  · refine ⟨by simp [hl], ?_⟩
    rcases h.1.2 with ⟨hv, _⟩ | ⟨g', cap, cur, hv, hg', hh, h1, h2, h3, h4⟩
    · simp at hv
    · simp only [Value.slice.injEq, Option.some.injEq, Addr.mk.injEq, and_true, true_and] at hv
      obtain ⟨rfl, rfl⟩ := hv
      obtain ⟨cur', q1, q2, q3⟩ := hb cur hh
      exact Or.inr ⟨g, c, cur', rfl, hg', q1, by omega, h2, by omega, by rw [Nat.mul_one]; exact q3⟩
  · intro i hi'
    obtain ⟨q1, q2⟩ := hf i (by omega)
    rw [q2]
    exact hout _ q1
  · intro i j hi' hj hij b hb1 hb2
    obtain ⟨q1, q2⟩ := hf i (by omega)
    obtain ⟨q3, q4⟩ := hf j (by omega)
    rw [q2] at hb1
    rw [q4] at hb2
    exact h.2.2.1 (f i) (f j) (by omega) (by omega) (fun e => hij (hinj i j (by omega) (by omega) e)) b hb1 hb2
theorem grow_grown {w : World} (os : Array Obj) (row : Option Nat) : w.grownBy (Sort.grow w os) row := ⟨rfl, rfl, rfl, by simp, fun k hk _ => Sort.heap_grow_old w os hk⟩
theorem put_grown {α : Type} [Inhabited α] (enc : α → Value) (w : World) (g off : Nat) (d : Array α) : w.grownBy (Sort.putRow enc w g off d) (some g) := by
  refine ⟨rfl, rfl, rfl, by simp, fun k hk hne => ?_⟩
  unfold Sort.putRow Sort.mapBlock
  simp only [ne_eq, Option.some.injEq] at hne
  simp only [Array.getElem?_modify]
  rw [if_neg (fun e => hne e.symm)]
theorem sort_grown {α : Type} [Inhabited α] (enc : α → Value) (w : World) (g off m : Nat) (d : Array α) (os : Array Obj) : w.grownBy (sortWorld enc w g off m d os) (some g) := by
  have h1 : w.grownBy (Sort.ahead w m) (some g) := ⟨rfl, rfl, rfl, Nat.le_refl _, fun k hk _ => rfl⟩
  exact (h1.trans (put_grown enc _ g off d)).trans (grow_grown os _)
theorem ints_grown {W W' : World} {B g : Nat} {A : Option Addr} {zs : List Int} (h : IntsAt W B .i64 A zs) (hg : W.grownBy W' (some g)) (hA : ∀ k, A.map (·.block) = some k → k ≠ g) : IntsAt W' B .i64 A zs := by
  intro j hj
  obtain ⟨b, o, rfl, hlt, hc⟩ := h j hj
  exact ⟨b, o, rfl, hlt, hg.cell hc (fun e => hA b rfl (by simpa using e))⟩
def cfR (rs : List RD) {n : Nat} (i j : Fin n) : Int := cmpF (rs.getD i.1 rd0).zs (rs.getD j.1 rd0).zs
theorem swo (rs : List RD) (n : Nat) [Inhabited (Fin n)] : Sort.SWO (ltOf (cfR rs (n := n))) := by
  have e : ∀ x y : Fin n, ltOf (cfR rs) x y = lessL (rs.getD x.1 rd0).zs (rs.getD y.1 rd0).zs := by
    intro x y
    unfold ltOf cfR
    rw [Bool.eq_iff_iff]
    simp only [decide_eq_true_eq]
    exact cmp_less _ _
  refine ⟨fun x => ?_, fun x y z h1 h2 => ?_, fun x y z h1 h2 => ?_⟩
  · rw [e]; exact less_irr _
  · rw [e] at *; exact less_trans h1 h2
  · rw [e] at *; exact le_trans h2 h1
/-- the rows behind the sort -/
theorem sort_rows (lo hi : Nat) (A : Option Addr) (n c : Nat) (rs : List RD) (w : World) (h : SSRow w lo hi A n c rs) (hn2 : n ≤ 4611686018427387903) (hz : ∀ i, i < n → (rs.getD i rd0).zs.length ≤ 1048576) :
    Calls Try.prog 34 #[.slice A n c, .func (.func 28) #[] #[]] w fun e w' => e = .returned (.tuple #[]) ∧
      ∃ ss, ss.Perm rs ∧ (∀ i j, i < j → j < n → leL (ss.getD i rd0).zs (ss.getD j rd0).zs) ∧ SSRow w' lo hi A n c ss ∧ w.grownBy w' (A.map (·.block)) := by
  have hlen := h.len
  rcases Nat.eq_zero_or_pos n with h0 | hpos
  · subst h0
    have hnil : rs = [] := List.length_eq_zero_iff.1 hlen
    subst hnil
    refine (Try.slices_SortFunc_none (α := Int) A c _ w).mono ?_
    rintro e w' ⟨rfl, rfl⟩
    exact ⟨rfl, [], List.Perm.refl _, fun i j h1 h2 => absurd h2 (Nat.not_lt_zero _), h, ⟨rfl, rfl, rfl, Nat.le_refl _, fun _ _ _ => rfl⟩⟩
  · obtain ⟨g, rfl⟩ := own_shape h.1 hpos
    haveI : Inhabited (Fin n) := ⟨⟨0, hpos⟩⟩
    obtain ⟨d, hd⟩ : ∃ d : Array (Fin n), d = Array.ofFn id := ⟨_, rfl⟩
    have hds : d.size = n := by rw [hd]; simp
    have hdg : ∀ j (hj : j < n), d[j]! = ⟨j, hj⟩ := by
      intro j hj
      rw [getElem!_pos d j (by rw [hds]; exact hj)]
      subst hd
      simp
    have hcell : ∀ (enc : Fin n → Value), (∀ i, enc i = (rs.getD i.1 rd0).v) → Sort.Holds enc w g 0 d := by
      intro enc he j hj
      rw [hds] at hj
      obtain ⟨g', e, hc⟩ := h.cell j hj
      simp only [Option.some.injEq, Addr.mk.injEq, and_true] at e
      subst e
      rw [hdg j hj, he, Nat.zero_add]
      exact ⟨hc, h.1.frozenAt j⟩
    have hat : ∀ (i : Fin n) (W : World), w.grownBy W (some g) → IntsAt W w.heap.size .i64 (rs.getD i.1 rd0).A (rs.getD i.1 rd0).zs := by
      intro i W hW
      have hr := h.2.1 i.1 (by rw [hlen]; exact i.2)
      exact ints_grown hr.at_ hW (fun k hk e => by subst e; exact own_diff h.1 hr.1 (by decide) k rfl hk)
    have hcmp : CmpLays1 Try.prog 28 #[] (fun i : Fin n => (rs.getD i.1 rd0).v) (cfR rs) g 0 d.size w := by
      intro m os dk hs x y
      have hw := sort_grown (fun i : Fin n => (rs.getD i.1 rd0).v) w g 0 m dk os
      refine (compare_any _ _ _ _ _ _ _ _ (rs.getD x.1 rd0).zs (rs.getD y.1 rd0).zs _ rfl rfl (by have := hz x.1 x.2; omega) (by have := hz y.1 y.2; omega) (hat x _ hw) (hat y _ hw)).mono ?_
      rintro e w' ⟨rfl, rfl⟩
      exact ⟨rfl, 0, #[], by simp; rfl⟩
    have hH := hcell (fun i : Fin n => (rs.getD i.1 rd0).v) (fun i => rfl)
    have hgs : g < w.heap.size := (own_lo h.1 g rfl).2
    have hcall := Try.slices_SortFunc (α := Fin n) (fun i : Fin n => (rs.getD i.1 rd0).v) (fun i => rfl) (cfR rs) (swo rs n) 28 #[] g 0 c d w (enters_of Try.func28 (by kernel_rfl) rfl) hcmp hH hgs (by omega)
    rw [hds] at hcall
    refine hcall.mono ?_
    rintro e w' ⟨rfl, d', m, os, hp, hsd, rfl⟩
    have hw := sort_grown (fun i : Fin n => (rs.getD i.1 rd0).v) w g 0 m d' os
    have hs' : d'.size = n := hp.1.trans hds
    have hpl : d'.toList.Perm d.toList := by
      have := hp.2.2
      rw [Array.extract_eq_self_of_le (by omega), Array.extract_eq_self_of_le (by omega)] at this
      exact this
    have hdl : d.toList.map (fun i : Fin n => rs.getD i.1 rd0) = rs := by
      refine List.ext_getElem (by simp [hds, hlen]) fun i h1 h2 => ?_
      have hin : i < n := by rw [← hlen]; exact h2
      have q := hdg i hin
      rw [getElem!_pos d i (by rw [hds]; exact hin)] at q
      simp [q, List.getElem?_eq_getElem h2]
    have hnd : d'.toList.Nodup := by
      refine hpl.nodup_iff.2 ?_
      rw [hd]
      rw [List.nodup_iff_pairwise_ne, List.pairwise_iff_getElem]
      intro i j h1 h2 hij
      simp only [Array.getElem_toList, Array.getElem_ofFn, id]
      intro e
      have := congrArg Fin.val e
      simp at this
      omega
    have hget : ∀ j (hj : j < n), (d'.toList.map (fun i : Fin n => rs.getD i.1 rd0)).getD j rd0 = rs.getD (d'[j]!).1 rd0 := by
      intro j hj
      rw [getElem!_pos d' j (by omega)]
      simp [List.getD_eq_getElem?_getD, hs', hj]
    refine ⟨rfl, d'.toList.map (fun i : Fin n => rs.getD i.1 rd0), ?_, ?_, ?_, hw⟩
    · have := hpl.map (fun i : Fin n => rs.getD i.1 rd0)
      rw [hdl] at this
      exact this
    · intro i j hij hj
      have q := hsd i j (Nat.zero_le _) hij (by omega)
      rw [hget i (by omega), hget j hj]
      unfold ltOf cfR at q
      unfold leL
      cases hh : lessL (rs.getD (d'[j]!).1 rd0).zs (rs.getD (d'[i]!).1 rd0).zs with
      | false => rfl
      | true => exact absurd ((cmp_less _ _).2 hh) (of_decide_eq_false q)
    · refine ss_put (fun j => (d'[j]!).1) h hw (Nat.le_refl _) (by simp [hs']) (fun j hj => ⟨(d'[j]!).2, hget j hj⟩) ?_ ?_
      · intro i j hi' hj e
        have e2 : d'[i]! = d'[j]! := Fin.ext e
        rw [getElem!_pos d' i (by omega), getElem!_pos d' j (by omega)] at e2
        rw [List.nodup_iff_pairwise_ne, List.pairwise_iff_getElem] at hnd
        rcases Nat.lt_trichotomy i j with q | q | q
        · have q2 := hnd i j (by simpa [hs'] using hi') (by simpa [hs'] using hj) q
          rw [Array.getElem_toList, Array.getElem_toList] at q2
          exact absurd e2 q2
        · exact q
        · have q2 := hnd j i (by simpa [hs'] using hj) (by simpa [hs'] using hi') q
          rw [Array.getElem_toList, Array.getElem_toList] at q2
          exact absurd e2.symm q2
      · intro cur hcur
        refine ⟨Sort.putCells (fun i : Fin n => (rs.getD i.1 rd0).v) 0 d' cur, ?_, ?_, ?_⟩
        · unfold sortWorld
          rw [Sort.heap_grow_old _ _ (by simpa using hgs)]
          unfold Sort.putRow Sort.mapBlock
          have hcur2 : (Sort.ahead w m).heap[g]? = some (.cells cur 23 (0, 0)) := hcur
          rw [Array.getElem?_modify, if_pos rfl, hcur2]
          rfl
        · simp [Sort.putCells]
        · have hsz : n ≤ cur.size := by
            rcases h.1.2 with ⟨hv, _⟩ | ⟨g', cap, cur2, hv, hg', hh, q1, q2, q3, q4⟩
            · simp at hv
            · simp only [Value.slice.injEq, Option.some.injEq, Addr.mk.injEq, and_true, true_and] at hv
              obtain ⟨rfl, rfl⟩ := hv
              rw [hcur] at hh
              simp only [Option.some.injEq, Obj.cells.injEq, and_true] at hh
              subst hh
              omega
          refine List.ext_getElem (by simp [Sort.putCells, hs']; omega) fun i h1 h2 => ?_
          have hin : i < n := by simp [Sort.putCells] at h1; omega
          simp only [List.getElem_take, List.getElem_map, Array.getElem_toList, Sort.putCells, Array.getElem_mapIdx]
          rw [if_pos (by omega), Nat.sub_zero, getElem!_pos d' i (by omega)]
end Go.Proofs.Ytioofakdklghpaa.Srp
