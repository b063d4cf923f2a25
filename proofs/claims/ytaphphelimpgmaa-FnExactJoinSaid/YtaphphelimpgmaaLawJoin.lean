/- The law of Join holds: for every list of strings and every separator the program's Join answers as its model does, and the list is left as it was. No condition. -/
import Derived.Test.YtaphphelimpgmaaJoin
import Derived.Test.YtaphphelimpgmaaFrame
set_option linter.unusedVariables false
namespace Go.Proofs.Ytaphphelimpgmaa.LawJoin
open Go.ChangeShapes Go.WideShapes Go.ChangeAt Go.RowKit Joi Str Fr

theorem joinTo_len (by_ : List UInt8) (ss : List ByteArray) (k : Nat) : (joinTo by_ ss k).length ≤ k * by_.length + sumTo ss k := by
  induction k with
  | zero => simp [joinTo]
  | succ k ih =>
    have hx := len_size (ss.getD k ByteArray.empty)
    simp only [joinTo, List.length_append, sumTo, hx, Nat.succ_mul]
    split
    · simp only [List.length_nil]; omega
    · omega

theorem join_bound (by_ : ByteArray) (ss : List ByteArray) (n : Nat) (hb : by_.size ≤ 1048576) (h : n + sumTo ss n ≤ 1048576) : (joinTo by_.data.toList ss n).length ≤ 70368744177664 := by
  have h1 := joinTo_len by_.data.toList ss n
  rw [len_size] at h1
  have h2 : n * by_.size ≤ 1048576 * 1048576 := Nat.mul_le_mul (by omega) hb
  omega

set_option maxHeartbeats 2000000 in
theorem walk (A : Option Addr) (n c : Nat) (ss : List ByteArray) (by_ : ByteArray) (w : World) (hn : ss.length = n) (hn2 : n ≤ maxLen)
    (hsz : ∀ s ∈ ss, s.size ≤ maxLen) (hss : StrsAt w w.heap.size A ss) (hby : by_.size ≤ maxLen) :
    Calls Try.prog 7 #[.slice A n c, .string by_] w fun e w' => e = .returned (.bool true) ∧ Below w.heap.size w w' := by
  have h0 : by_.size ≤ 9223372036854775807 := by unfold maxLen at hby; omega
  have hn3 : n ≤ 9223372036854775807 := by unfold maxLen at hn2; omega
  by_cases hb : by_.size ≤ 1048576
  · have hb' : decide ((1048576 : Int) < (by_.size : Int)) = false := decide_eq_false (by omega)
    by_cases hfit : (n : Int) + sumTo ss n ≤ 1048576
    · have hfit' : n + sumTo ss n ≤ 1048576 := by omega
      have hr : szRes ss 1048576 = 1048576 - n - sumTo ss n := by rw [szRes, hn, if_pos hfit]
      have hr0 : 0 ≤ szRes ss 1048576 := by omega
      have hjl := join_bound by_ ss n hb hfit'
      have hn4 : n ≤ 1048576 := by omega
      generalize hrr : szRes ss 1048576 = r at hr0
      have HRR := Lib.hid hrr
      clear hr hrr hfit hfit'
      go_enter Try.func7, Try.ntmps7
      go_wp2_with fail
      refine (sz_any A n c ss 1048576 _ hn hn3 (by omega) (by omega) hsz hss).mono ?_
      rintro e w' ⟨rfl, rfl⟩
      rw [HRR.out]
      go_wp2_with fail
      refine (to_any A n c ss _ hn hn4 hss).mono ?_
      rintro e w1 ⟨g1, rfl, hg1, hown1, hb1⟩
      have hs1 := hown1.lt g1 rfl
      go_wp2_with fail
      refine (Jn.spec_any by_ _ n n ss _ hn hn3 ((own_strs hown1).more (by omega)) hjl (by omega)).mono ?_
      rintro e w' ⟨rfl, rfl⟩
      have hss1 := (hss.below hb1).more hb1.size
      go_wp2_with fail
      refine (to_any A n c ss _ hn hn4 hss1).mono ?_
      rintro e w2 ⟨g2, rfl, hg2, hown2, hb2⟩
      have hs2 := hown2.lt g2 rfl
      have hx2 : StrsAt w2 w2.heap.size (some ⟨g2, 0, none⟩) ss := (own_strs hown2).more (by omega)
      go_wp2_with fail
      refine (Jn.impl_any by_ _ n n ss _ hn hn3 hx2 hjl).mono ?_
      rintro e w3 ⟨rfl, hb3⟩
      have hx3 : StrsAt w3 w3.heap.size (some ⟨g2, 0, none⟩) ss := (hx2.below hb3).more hb3.size
      have hss3 : StrsAt w3 w3.heap.size A ss := ((hss1.below hb2).more hb2.size |>.below hb3).more hb3.size
      have hbb := (hb1.trans (hb2.mono hb1.size)).trans (hb3.mono (by have := hb1.size; have := hb2.size; omega))
      go_wp2_with fail
      refine (to_any A n c ss _ hn hn4 hss3).mono ?_
      rintro e w4 ⟨g3, rfl, hg3, hown3, hb4⟩
      have hs3 := hown3.lt g3 rfl
      go_wp2_with fail
      refine (eq_same _ _ n n n ss _ hn hn4 ((hx3.below hb4).more hb4.size) ((own_strs hown3).more (by omega))).mono ?_
      rintro e w5 ⟨rfl, hb5⟩
      have hbz := (hbb.trans (hb4.mono hbb.size)).trans (hb5.mono (by have := hbb.size; have := hb4.size; omega))
      go_wp2
      go_ret
      exact ⟨rfl, hbz⟩
    · have hr : szRes ss 1048576 = -1 := by rw [szRes, hn, if_neg hfit]
      have HR := Lib.hid hr
      clear hr hfit
      go_enter Try.func7, Try.ntmps7
      go_wp2_with fail
      refine (sz_any A n c ss 1048576 _ hn hn3 (by omega) (by omega) hsz hss).mono ?_
      rintro e w' ⟨rfl, rfl⟩
      rw [HR.out]
      go_wp2
      go_ret
      exact ⟨rfl, Below.refl _ _⟩
  · have hb' : (1048576 : Int) < (by_.size : Int) := by omega
    go_enter Try.func7, Try.ntmps7
    go_wp2
    go_ret
    exact ⟨rfl, Below.refl _ w⟩


set_option maxRecDepth 100000 in
theorem lifted (os : Os) (started : os.Started) (H : Type) (enc : TypeId × Value → H) :
    ReturnsInHanded {} Try.checked os 7 .any (Rows.fnExactJoinSpec.pre6 enc Try.prog Try.f7 Rows.fnExactJoinRow.domain false) (Rows.fnExactJoinSpec.post enc Try.prog Try.f7 false true false false) := by
  refine returnsInHanded_of_change (C := Try.checked) Fr.own started (by kernel_rfl) Try.func7
    (ChangeSpec.witness6 (enc := enc) (C := Try.checked) false ⟨#[], #[.slice none 0 0, .string ⟨#[]⟩], []⟩ 8 (by kernel_rfl) (by kernel_rfl) (by kernel_rfl) (by kernel_rfl)) ?_
  intro W base args ds gs before hval0 hW hcnd _
  have hval : ∀ (j : Nat) t v, Try.f7.params[j]? = some t → args[j]? = some v → Value.okWide Try.prog W .any base t v := hval0
  have hW' := hW
  obtain ⟨p, q, hA0, hV, rfl, hfz, hnd⟩ := hW
  have hA : DataW.TrodAll enc Try.prog W 0 (fun _ => true) true Try.f7.params.toList args.toList ds p := hA0
  have hAk := hA
  rw [Try.params7] at hA hval
  obtain ⟨v0, v1, d0, d1, p0, p1, rfl, rfl, hp, h0, h1⟩ := trodAll_two hA
  obtain ⟨rfl, rfl⟩ := trodVars_none hV
  have hlt : ∀ x ∈ p, x.block < W.heap.size := fun x hx => by simpa using hW'.lt x (List.mem_append_left _ hx)
  obtain ⟨A0, n0, c0, l0, rfl, hn0, hm0, hs0, ha0⟩ := Fr.view_strs Try.underlying23 Try.underlying9 (by kernel_rfl) (hval 0 23 v0 rfl rfl) h0 (fun x hx => hlt x (by rw [hp]; simp [hx]))
  obtain ⟨s1, rfl, hs1⟩ := Fr.view_string Try.underlying9 (hval 1 9 v1 rfl rfl) h1
  clear hA0 hval0
  refine (walk A0 n0 c0 l0 s1 W hn0 hm0 hs0 ha0 hs1).mono fun e W' ⟨he, hb⟩ => ?_
  subst he
  exact ⟨_, rfl, _, _, _, [], p, [], hW', trodAll_mk1 (shut_bool Try.underlying4 _), Fr.below_all Fr.laidOut hb _ _ _ _ (Fr.readB_all (by kernel_rfl)) hAk hlt, rfl, hb.frame _, fun h => by cases h⟩

theorem proved : Rows.FnExactJoinSaid :=
  OpenClaim.holds_of_wide 7 Try.f7 rfl rfl rfl rfl rfl rfl rfl ⟨rfl, rfl, rfl, rfl, rfl⟩ rfl rfl rfl rfl rfl (by kernel_rfl) Try.func7 (by kernel_rfl)
    (of_decide_eq_true (by kernel_rfl)) (by unfold Func.isWrapper; first | (rw [if_pos (by decide +kernel)]; kernel_rfl) | (rw [if_neg (by decide +kernel)]; exact ⟨rfl, rfl⟩))
    (fun os started H enc _ => lifted os started H enc)

end Go.Proofs.Ytaphphelimpgmaa.LawJoin
