/- IsArrangement of the program (by striking one set out of the other) and of the model (by looking each card up), for all lists of ints. -/
import Derived.Test.YtibephoepkofnaaPok
import Derived.Test.YtibephoepkofnaaPkt
set_option linter.unusedVariables false
set_option maxRecDepth 20000
namespace Go.Proofs.Ytibephoepkofnaa.Arr
open Go.RowKit Fr Own Pk Ins Go.Maps Pok Pl

/-- no number twice -/
theorem dist_nodup (zs : List Int) (k : Nat) : (dist zs k).Nodup := by
  induction k with
  | zero => simp [dist]
  | succ k ih =>
    simp only [dist]
    split
    · split
      · exact ih
      · rename_i h
        refine List.nodup_append.2 ⟨ih, by simp, fun a ha b hb => ?_⟩
        have : b = cardF (zs.getD k 0) := by simpa using hb
        intro e; subst e; subst this; exact h ha
    · exact ih
theorem nodup_sub_len : ∀ (l m : List Int), l.Nodup → (∀ x ∈ l, x ∈ m) → l.length ≤ m.length
  | [], _, _, _ => Nat.zero_le _
  | a :: l, m, hn, hs => by
    obtain ⟨h1, h2⟩ := List.nodup_cons.1 hn
    have hm : a ∈ m := hs a (List.mem_cons_self)
    have := nodup_sub_len l (m.erase a) h2 (fun x hx => by
      have hxm := hs x (List.mem_cons_of_mem _ hx)
      have hne : x ≠ a := fun e => h1 (e ▸ hx)
      exact (List.mem_erase_of_ne hne).2 hxm)
    rw [List.length_erase_of_mem hm] at this
    have hp : 0 < m.length := List.length_pos_of_mem hm
    simp only [List.length_cons]; omega
/-- of two lists of one length without repeats, each in the other -/
theorem sub_back (l m : List Int) (hl : l.Nodup) (hm : m.Nodup) (he : l.length = m.length) (hs : ∀ x ∈ l, x ∈ m) : ∀ x ∈ m, x ∈ l := by
  intro x hx
  by_cases h : x ∈ l
  · exact h
  · have := nodup_sub_len (x :: l) m (List.nodup_cons.2 ⟨h, hl⟩) (fun y hy => by
      rcases List.mem_cons.1 hy with e | e
      · rw [e]; exact hx
      · exact hs y e)
    simp only [List.length_cons] at this; omega

/-- are the cards of q all cards of p? -/
def inB (ps qs : List Int) : Bool := decide (∀ c ∈ dist qs qs.length, c ∈ dist ps ps.length)
def arrB (ps qs : List Int) : Bool := okB ps && okB qs && decide (ps.length = qs.length) && inB ps qs
theorem arr_no1 {ps qs : List Int} (h : okB ps = false) : arrB ps qs = false := by unfold arrB; rw [h]; rfl
theorem arr_no2 {ps qs : List Int} (h : okB qs = false) : arrB ps qs = false := by unfold arrB; rw [h, Bool.and_false]; rfl
theorem arr_no3 {ps qs : List Int} (h : ps.length ≠ qs.length) : arrB ps qs = false := by unfold arrB; rw [decide_eq_false h, Bool.and_false]; rfl
theorem arr_in {ps qs : List Int} (h1 : okB ps = true) (h2 : okB qs = true) (h3 : ps.length = qs.length) : arrB ps qs = inB ps qs := by unfold arrB; rw [h1, h2, decide_eq_true h3]; rfl
theorem in_dist {zs : List Int} (h : okB zs = true) (i : Nat) (hi : i < zs.length) : 0 ≤ cardF (zs.getD i 0) := by
  rcases Int.lt_or_le (cardF (zs.getD i 0)) 0 with h1 | h1
  · have := okB_stop zs i hi (dist_neg zs i h1)
    rw [this] at h; cases h
  · exact h1
/-- a card of p that q does not have -/
theorem in_miss {ps qs : List Int} (h1 : okB ps = true) (h2 : okB qs = true) (h3 : ps.length = qs.length) (i : Nat) (hi : i < ps.length) (h : posF qs (cardF (ps.getD i 0)) < 0) : inB ps qs = false := by
  refine decide_eq_false fun hall => ?_
  have e1 := (okB_yes h1).2
  have e2 := (okB_yes h2).2
  have hback := sub_back _ _ (dist_nodup qs qs.length) (dist_nodup ps ps.length) (by omega) hall
  have h0 := in_dist h1 i hi
  have hm := hback _ ((dist_mem ps ps.length _).2 ⟨h0, i, hi, rfl⟩)
  obtain ⟨_, j, hj, e⟩ := (dist_mem qs qs.length _).1 hm
  exact (posF_neg _ _).1 h j hj ⟨h0, e⟩
theorem in_all {ps qs : List Int} (h1 : okB ps = true) (h2 : okB qs = true) (h3 : ps.length = qs.length) (h : ∀ i, i < ps.length → 0 ≤ posF qs (cardF (ps.getD i 0))) : inB ps qs = true := by
  refine decide_eq_true ?_
  have e1 := (okB_yes h1).2
  have e2 := (okB_yes h2).2
  refine sub_back _ _ (dist_nodup ps ps.length) (dist_nodup qs qs.length) (by omega) ?_
  intro c hc
  obtain ⟨h0, i, hi, e⟩ := (dist_mem ps ps.length c).1 hc
  have hp := h i hi
  rw [e] at hp
  refine (dist_mem qs qs.length c).2 ⟨h0, ?_⟩
  rcases Classical.em (∃ j, j < qs.length ∧ cardF (qs.getD j 0) = c) with hx | hx
  · exact hx
  · have := (posF_neg qs c).2 (fun j hj hc => hx ⟨j, hj, hc.2⟩)
    omega

set_option maxHeartbeats 2000000 in
theorem spec_arr (A1 : Option Addr) (n1 c1 : Nat) (ps : List Int) (A2 : Option Addr) (n2 c2 : Nat) (qs : List Int) (w : World) (hn1 : ps.length = n1) (hm1 : n1 ≤ 9223372036854775807) (hz1 : Fits ps) (hs1 : IntsAt w w.heap.size .i64 A1 ps)
    (hn2 : qs.length = n2) (hm2 : n2 ≤ 9223372036854775807) (hz2 : Fits qs) (hs2 : IntsAt w w.heap.size .i64 A2 qs) :
    Calls Try.prog 47 #[.slice A1 n1 c1, .slice A2 n2 c2] w fun e w' => e = .returned (.bool (arrB ps qs)) ∧ Below w.heap.size w w' := by
  have HN1 := Lib.hid hn1
  have HN2 := Lib.hid hn2
  clear hn1 hn2
  by_cases hp : okB ps = true
  · by_cases hq : okB qs = true
    · by_cases hl : n1 = n2
      · subst hl
        have hall := @in_all ps qs hp hq (by rw [HN1.out, HN2.out])
        have hmiss := @in_miss ps qs hp hq (by rw [HN1.out, HN2.out])
        rw [arr_in hp hq (by rw [HN1.out, HN2.out])]
        have HP := Lib.hid hp
        have HQ := Lib.hid hq
        have HALL := Lib.hid hall
        have HMISS := Lib.hid hmiss
        clear hp hq hall hmiss
        go_enter Try.func47, Try.ntmps47
        go_wp2_with fail
        refine (spec_ok A1 n1 c1 ps _ HN1.out hm1 hz1 hs1).mono ?_
        rintro e w1 ⟨rfl, hb1⟩
        rw [HP.out]
        go_wp2_with fail
        refine (spec_ok A2 n1 c2 qs _ HN2.out hm2 hz2 ((hs2.below hb1).more hb1.size)).mono ?_
        rintro e w2 ⟨rfl, hb2⟩
        rw [HQ.out]
        have hb := hb1.trans (hb2.mono hb1.size)
        have f1 := (hs1.below hb).more hb.size
        have f2 := (hs2.below hb).more hb.size
        clear hb1 hb2 hs1 hs2
        go_wp2
        go_loop [6, 24] (fun _ i => ∃ k : Nat, k ≤ n1 ∧ i = .int .i64 k ∧ Hid (∀ i, i < k → 0 ≤ posF qs (cardF (ps.getD i 0)))) (fun _ i => n1 - (intOf i).toNat)
        case atStart => exact ⟨0, Nat.zero_le _, rfl, (fun i hi => absurd hi (Nat.not_lt_zero _))⟩
        case round =>
          obtain ⟨k, hk, rfl, HE⟩ := hrel
          by_cases hlt : k < n1
          · obtain ⟨b, o, rfl, hbb, hc⟩ := f1 k (by rw [HN1.out]; exact hlt)
            obtain ⟨hx1, hx2⟩ := hz1 k (by rw [HN1.out]; exact hlt)
            have hno := HMISS.out k (by rw [HN1.out]; exact hlt)
            have hst : 0 ≤ posF qs (cardF (ps.getD k 0)) → ∀ i, i < k + 1 → 0 ≤ posF qs (cardF (ps.getD i 0)) := by
              intro e i hi
              by_cases hik : i = k
              · rw [hik]; exact e
              · exact HE.out i (by omega)
            generalize ps.getD k 0 = x at hc hx1 hx2 hno hst
            have hcb := cardF_bd x
            by_cases hpos : posF qs (cardF x) < 0
            · have HS := Lib.hid (hno hpos)
              clear hno hst
              go_wp2_with fail
              refine (spec_card x _ hx1 hx2).mono ?_
              rintro e w' ⟨rfl, rfl⟩
              go_wp2_with fail
              refine (spec_pos A2 n1 c2 qs (cardF x) _ HN2.out hm2 hz2 f2).mono ?_
              rintro e w' ⟨rfl, rfl⟩
              go_wp2
              go_ret
              exact ⟨ret_b HS.out.symm, hb⟩
            · have HS := Lib.hid (hst (by omega))
              have hpos' : decide (posF qs (cardF x) < 0) = false := decide_eq_false hpos
              clear hno hst
              go_wp2_with fail
              refine (spec_card x _ hx1 hx2).mono ?_
              rintro e w' ⟨rfl, rfl⟩
              go_wp2_with fail
              refine (spec_pos A2 n1 c2 qs (cardF x) _ HN2.out hm2 hz2 f2).mono ?_
              rintro e w' ⟨rfl, rfl⟩
              go_wp2
              go_round
              case rel => exact ⟨k + 1, by omega, by go_num, HS.out⟩
              case measure => simp [intOf]; omega
          · have hkn : k = n1 := by omega
            have HS := Lib.hid (HALL.out (fun i hi => HE.out i (by rw [hkn, ← HN1.out]; exact hi)))
            clear hkn
            go_wp2
            go_ret
            exact ⟨ret_b HS.out.symm, hb⟩
      · have HS := Lib.hid (@arr_no3 ps qs (by rw [HN1.out, HN2.out]; exact hl))
        have hl' : ((n1 : Int) == (n2 : Int)) = false := by simpa using (fun e => hl (by omega))
        have HP := Lib.hid hp
        have HQ := Lib.hid hq
        clear hp hq hl
        go_enter Try.func47, Try.ntmps47
        go_wp2_with fail
        refine (spec_ok A1 n1 c1 ps _ HN1.out hm1 hz1 hs1).mono ?_
        rintro e w1 ⟨rfl, hb1⟩
        rw [HP.out]
        go_wp2_with fail
        refine (spec_ok A2 n2 c2 qs _ HN2.out hm2 hz2 ((hs2.below hb1).more hb1.size)).mono ?_
        rintro e w2 ⟨rfl, hb2⟩
        rw [HQ.out]
        go_wp2
        go_ret
        exact ⟨ret_b HS.out.symm, hb1.trans (hb2.mono hb1.size)⟩
    · have hq' : okB qs = false := Bool.eq_false_iff.2 hq
      have HS := Lib.hid (@arr_no2 ps qs hq')
      have HP := Lib.hid hp
      have HQ := Lib.hid hq'
      clear hp hq hq'
      go_enter Try.func47, Try.ntmps47
      go_wp2_with fail
      refine (spec_ok A1 n1 c1 ps _ HN1.out hm1 hz1 hs1).mono ?_
      rintro e w1 ⟨rfl, hb1⟩
      rw [HP.out]
      go_wp2_with fail
      refine (spec_ok A2 n2 c2 qs _ HN2.out hm2 hz2 ((hs2.below hb1).more hb1.size)).mono ?_
      rintro e w2 ⟨rfl, hb2⟩
      rw [HQ.out]
      go_wp2
      go_ret
      exact ⟨ret_b HS.out.symm, hb1.trans (hb2.mono hb1.size)⟩
  · have hp' : okB ps = false := Bool.eq_false_iff.2 hp
    have HS := Lib.hid (@arr_no1 ps qs hp')
    have HP := Lib.hid hp'
    clear hp hp'
    go_enter Try.func47, Try.ntmps47
    go_wp2_with fail
    refine (spec_ok A1 n1 c1 ps _ HN1.out hm1 hz1 hs1).mono ?_
    rintro e w1 ⟨rfl, hb1⟩
    rw [HP.out]
    go_wp2
    go_ret
    exact ⟨ret_b HS.out.symm, hb1⟩

/-! ### the program's: a set is struck out of another -/
theorem size_zero {w : World} {b m : Nat} {D : DataW Unit} (h : w.ownsMap Try.prog 3 (plainElem Try.prog 4) b m D) : Maps.size D = 0 ↔ ∀ c : Int, Maps.has D (.int .i64 c) = false := by
  obtain ⟨es, clock, hb, F, hs, rfl⟩ := h
  constructor
  · intro h0 c
    have : ((es.toList.map (Go.WideElems.rg Try.prog 3 (plainElem Try.prog 4))).foldr DataW.insert []) = [] := List.eq_nil_of_length_eq_zero h0
    rw [this]; rfl
  · intro hall
    show ((es.toList.map (Go.WideElems.rg Try.prog 3 (plainElem Try.prog 4))).foldr DataW.insert []).length = 0
    have hk := fit_keys F
    generalize hl : es.toList.map (Go.WideElems.rg Try.prog 3 (plainElem Try.prog 4)) = l at hk hall
    cases l with
    | nil => rfl
    | cons p l =>
      exfalso
      obtain ⟨v, hv⟩ := hk p (List.mem_cons_self)
      obtain ⟨x, rfl, hx, hw⟩ := keyOf_int_inv Try.underlying3 hv
      have h1 := hall x
      have : Maps.has (.map ((p :: l).foldr DataW.insert []) : DataW Unit) (.int .i64 x) = true := by
        show ((p :: l).foldr DataW.insert []).any (fun q => q.1.sameKey (.int .i64 x)) = true
        rw [List.any_eq_true]
        refine ⟨p, mem_sorted.2 (List.mem_cons_self), ?_⟩
        rw [hx]
        exact WideAt.sameKey_self (keyed.key hv |> fun h => by rw [hx] at h; exact h)
      rw [this] at h1; cases h1

/-- what is left of q's cards while those of p that are not 'left' have been struck -/
def Struck (Dq : DataW Unit) (ps qs : List Int) (left : Lit → Bool) : Prop := ∀ c : Int, Maps.has Dq (.int .i64 c) = (decide (c ∈ dist qs qs.length) && !(decide (c ∈ dist ps ps.length) && !left (.int .i64 c)))
theorem struck_start {Dq Dp : DataW Unit} {ps qs : List Int} (hq : SetIs Dq (dist qs qs.length)) (hp : SetIs Dp (dist ps ps.length)) : Struck Dq ps qs (Maps.has Dp) := by
  intro c
  rw [hq.1 c, hp.1 c]
  cases decide (c ∈ dist qs qs.length) <;> cases decide (c ∈ dist ps ps.length) <;> rfl
theorem struck_step {Dq : DataW Unit} {ps qs : List Int} {left : Lit → Bool} {x : Int} (h : Struck Dq ps qs left) (hx : x ∈ dist ps ps.length) (hk : WideAt.IsKeyLit (.int .i64 x)) : Struck (Dq.del (.int .i64 x)) ps qs (fun z => left z && !z.sameKey (.int .i64 x)) := by
  intro c
  by_cases e : c = x
  · subst e
    rw [has_del_same, decide_eq_true hx]
    simp only [WideAt.sameKey_self hk]
    cases left (.int .i64 c) <;> simp
  · rw [has_del_other (lit_ne e), h c]
    simp only [sameKey_ne (lit_ne e)]
    simp
theorem struck_end {Dq : DataW Unit} {ps qs : List Int} {left : Lit → Bool} (h : Struck Dq ps qs left) (hl : ∀ z, left z = false) {w : World} {b m : Nat} (ho : w.ownsMap Try.prog 3 (plainElem Try.prog 4) b m Dq) : inB ps qs = (((Maps.size Dq : Nat) : Int) == 0) := by
  rw [Bool.eq_iff_iff]
  unfold inB
  rw [decide_eq_true_eq, beq_iff_eq]
  have hz := size_zero ho
  constructor
  · intro hall
    have : Maps.size Dq = 0 := hz.2 fun c => by
      rw [h c, hl]
      by_cases hc : c ∈ dist qs qs.length
      · rw [decide_eq_true hc, decide_eq_true (hall c hc)]; rfl
      · rw [decide_eq_false hc]; rfl
    omega
  · intro h0 c hc
    have := hz.1 (by omega) c
    rw [h c, hl, decide_eq_true hc] at this
    simpa using this

theorem bool_inv {v : Value} {z : DataW Unit × List MemPlace} (h : plainElem Try.prog 4 v = some z) : ∃ c : Bool, v = .bool c := by
  cases v <;> simp [plainElem, Try.underlying4] at h
  exact ⟨_, rfl⟩

set_option maxHeartbeats 4000000 in
theorem impl_arr (A1 : Option Addr) (n1 c1 : Nat) (ps : List Int) (A2 : Option Addr) (n2 c2 : Nat) (qs : List Int) (w : World) (hn1 : ps.length = n1) (hm1 : n1 ≤ 9223372036854775807) (hz1 : Fits ps) (hs1 : IntsAt w w.heap.size .i64 A1 ps)
    (hn2 : qs.length = n2) (hm2 : n2 ≤ 9223372036854775807) (hz2 : Fits qs) (hs2 : IntsAt w w.heap.size .i64 A2 qs) :
    Calls Try.prog 49 #[.slice A1 n1 c1, .slice A2 n2 c2] w fun e w' => e = .returned (.bool (arrB ps qs)) ∧ Below w.heap.size w w' := by
  have HN1 := Lib.hid hn1
  have HN2 := Lib.hid hn2
  clear hn1 hn2
  by_cases hp : okB ps = true
  · by_cases hq : okB qs = true
    · by_cases hl : n1 = n2
      · subst hl
        have h12 : n1 ≤ 12 := by rw [← HN1.out]; exact (okB_yes hp).1
        rw [arr_in hp hq (by rw [HN1.out, HN2.out])]
        have HP := Lib.hid hp
        have HQ := Lib.hid hq
        clear hp hq
        go_enter Try.func49, Try.ntmps49
        go_wp2_with fail
        refine (impl_ok A1 n1 c1 ps _ HN1.out hm1 hz1 hs1).mono ?_
        rintro e w1 ⟨rfl, hb1⟩
        rw [HP.out]
        go_wp2_with fail
        refine (impl_ok A2 n1 c2 qs _ HN2.out hm2 hz2 ((hs2.below hb1).more hb1.size)).mono ?_
        rintro e w2 ⟨rfl, hb2⟩
        rw [HQ.out]
        have hb := hb1.trans (hb2.mono hb1.size)
        have f1 := (hs1.below hb).more hb.size
        have f2 := (hs2.below hb).more hb.size
        clear hb1 hb2 hs1 hs2
        go_wp2_with fail
        refine (seen_any A2 n1 c2 qs _ HN2.out h12 hz2 f2).mono ?_
        rintro e w3 ⟨bq, mq, Dq, rfl, hbq, hmq, hoq, hsq, hb3⟩
        have hz3 := hb3.size
        have f3 := (f1.below hb3).more hb3.size
        go_wp2_with fail
        refine (seen_any A1 n1 c1 ps _ HN1.out h12 hz1 f3).mono ?_
        rintro e w4 ⟨bp, mp, Dp, rfl, hbp, hmp, hop, hsp, hb4⟩
        have hz4 := hb4.size
        have hlq := hoq.lt
        have hoq4 := hoq.kept (row := none) ⟨hb4.os, hb4.tape, hb4.output, hb4.size, fun k hk _ => hb4.block k hk⟩ (by simp)
        have hbt : Below w.heap.size w w4 := (hb.trans (hb3.mono hb.size)).trans (hb4.mono (by have := hb.size; omega))
        have hsz2 := hb.size
        have hstart : Struck Dq ps qs (Maps.has Dp) := struck_start (by rw [HN2.out]; exact hsq) (by rw [HN1.out]; exact hsp)
        have HSTART := Lib.hid hstart
        have HSP := Lib.hid (show ∀ c : Int, Maps.has Dp (.int .i64 c) = decide (c ∈ dist ps ps.length) from by rw [HN1.out]; exact hsp.1)
        clear hstart hsq hsp hoq hb3 hb4 f1 f2 f3
        go_wp2_with (at_range; refine wpList_range_own _ rfl _ 85 rfl 3 4 keyed Try.underlying85 _ bp mp Dp rfl hop ?_; intro w5 hrg5 hg5 hs5)
        go_frame
        have hoq5 := hoq4.kept hg5 (by simp)
        have hbt5 : Below w.heap.size w w5 := hbt.grown hg5 (by omega) (fun j hj => by cases hj)
        clear hoq4 hop
        go_loopw [6] (fun _ wr => ∃ left cnt D, wr.ranges Try.prog 3 (plainElem Try.prog 4) bp w4.heap.size mp Dp left cnt ∧ wr.ownsMap Try.prog 3 (plainElem Try.prog 4) bq mq D ∧ Struck D ps qs left ∧ (∀ z, left z = true → Maps.has Dp z = true) ∧ Below w.heap.size w wr) (fun _ wr => wr.rangeLeft bp w4.heap.size)
        case atStart => exact ⟨_, _, Dq, hrg5, hoq5, HSTART.out, fun z h => h, hbt5⟩
        case round =>
          obtain ⟨left, cnt, D, hrg, hoD, hst, hsub, hbw⟩ := hrel
          have hszr := hrg.lt
          go_wp2_with (first | (at_next; refine wpList_next_ranges _ rfl _ rfl 3 keyed (plainElem Try.prog 4) (Value.int .i64) Value.bool (fun key kl hkey => by obtain ⟨x, rfl, _⟩ := keyOf_int_inv Try.underlying3 hkey; exact ⟨x, rfl⟩) (fun v y hv => bool_inv hv) bp w4.heap.size mp Dp left cnt rfl hrg ?_ ?_; rotate_left; intro x c kl y w6 cnt6 hkey hlx hy hat hrg6 hlt hg6 hs6 hen; obtain ⟨x', ex, rfl, hwx⟩ := keyOf_int_inv Try.underlying3 hkey; cases ex; have hxm : x ∈ dist ps ps.length := (by have h9 := hsub _ hlx; rw [HSP.out] at h9; simpa using h9); have hst6 := struck_step hst hxm (keyed.key hkey); have HST := Lib.hid hst6; have HSUB := Lib.hid hsub; have hoD6 := hoD.kept hg6 (fun e => by have := Option.some.inj e; omega); have hbw6 : Below w.heap.size w w6 := hbw.grown hg6 hbw.size (fun j hj => by cases hj; omega); have HLT := Lib.hid hlt; have HRG := Lib.hid hrg; have HLX := Lib.hid hlx; clear hst6 hst hsub hat hy hoD hbw hlt hrg hlx hg6 hxm; rotate_left) | (at_delete; refine wpList_delete_own _ rfl _ _ 85 3 rfl 4 keyed Try.underlying85 _ bq mq D rfl hoD6 _ _ rfl hkey ?_; intro w7 hoD7 hturn7; go_frame))
          · intro hc0 hl0
            have hend := struck_end hst hl0 hoD
            have HEND := Lib.hid hend
            have hlen : ∀ ty, _ := fun ty => hoD.len (e := 4) Try.underlying85 ty
            clear hend hst hl0 hsub hc0
            go_wp2
            go_ret
            refine ⟨?_, hbw⟩
            rw [HEND.out]
            rfl
          · have hg7 := hturn7.grown
            have hrg7 := hrg6.kept hg7 (fun e => by have := Option.some.inj e; omega) (fun e => by have := Option.some.inj e; omega)
            have hbw7 := hbw6.grown hg7 hbw6.size (fun j hj => by cases hj; omega)
            go_roundw
            case rel => exact ⟨_, cnt6, _, hrg7, hoD7, HST.out, fun z hz => HSUB.out z (by simp at hz; exact hz.1), hbw7⟩
            case measure => rw [hrg7.left_eq, HRG.out.left_eq]; exact HLT.out
      · have HS := Lib.hid (@arr_no3 ps qs (by rw [HN1.out, HN2.out]; exact hl))
        have hl' : ((n1 : Int) == (n2 : Int)) = false := by simpa using (fun e => hl (by omega))
        have HP := Lib.hid hp
        have HQ := Lib.hid hq
        clear hp hq hl
        go_enter Try.func49, Try.ntmps49
        go_wp2_with fail
        refine (impl_ok A1 n1 c1 ps _ HN1.out hm1 hz1 hs1).mono ?_
        rintro e w1 ⟨rfl, hb1⟩
        rw [HP.out]
        go_wp2_with fail
        refine (impl_ok A2 n2 c2 qs _ HN2.out hm2 hz2 ((hs2.below hb1).more hb1.size)).mono ?_
        rintro e w2 ⟨rfl, hb2⟩
        rw [HQ.out]
        go_wp2
        go_ret
        exact ⟨ret_b HS.out.symm, hb1.trans (hb2.mono hb1.size)⟩
    · have hq' : okB qs = false := Bool.eq_false_iff.2 hq
      have HS := Lib.hid (@arr_no2 ps qs hq')
      have HP := Lib.hid hp
      have HQ := Lib.hid hq'
      clear hp hq hq'
      go_enter Try.func49, Try.ntmps49
      go_wp2_with fail
      refine (impl_ok A1 n1 c1 ps _ HN1.out hm1 hz1 hs1).mono ?_
      rintro e w1 ⟨rfl, hb1⟩
      rw [HP.out]
      go_wp2_with fail
      refine (impl_ok A2 n2 c2 qs _ HN2.out hm2 hz2 ((hs2.below hb1).more hb1.size)).mono ?_
      rintro e w2 ⟨rfl, hb2⟩
      rw [HQ.out]
      go_wp2
      go_ret
      exact ⟨ret_b HS.out.symm, hb1.trans (hb2.mono hb1.size)⟩
  · have hp' : okB ps = false := Bool.eq_false_iff.2 hp
    have HS := Lib.hid (@arr_no1 ps qs hp')
    have HP := Lib.hid hp'
    clear hp hp'
    go_enter Try.func49, Try.ntmps49
    go_wp2_with fail
    refine (impl_ok A1 n1 c1 ps _ HN1.out hm1 hz1 hs1).mono ?_
    rintro e w1 ⟨rfl, hb1⟩
    rw [HP.out]
    go_wp2
    go_ret
    exact ⟨ret_b HS.out.symm, hb1⟩

end Go.Proofs.Ytibephoepkofnaa.Arr
