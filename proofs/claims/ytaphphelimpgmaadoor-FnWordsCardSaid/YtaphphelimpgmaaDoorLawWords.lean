/- The card of FnWords holds: numbers, words and lines read back. -/
import Derived.Test.YtaphphelimpgmaaDoorWords
import Derived.Test.YtaphphelimpgmaaDoorCur
import Derived.Test.YtaphphelimpgmaaDoorParseS
import Derived.Test.YtaphphelimpgmaaDoorFmtInt
import Derived.Test.YtaphphelimpgmaaDoorLaid
import Derived.Test.YtaphphelimpgmaaDoorJoin
import Derived.Test.YtaphphelimpgmaaDoorSplit
import Derived.Test.YtaphphelimpgmaaDoorLines
import Derived.Test.YtaphphelimpgmaaDoorName
import Derived.Test.YtaphphelimpgmaaDoorFrame
import Derived.Test.YtaphphelimpgmaaDoorCards
import Derived.Test.YtaphphelimpgmaaDoorTie
import Derived.LaidMore
import Derived.Stop.Joined
import Derived.SevenTiedAt
set_option linter.unusedVariables false
namespace Go.Proofs.YtaphphelimpgmaaDoor.LawWords
open Go.ChangeShapes Go.WideShapes Go.ChangeAt Go.RowKit 

theorem laid5 {W : World} (h : laidMetH Tryd.prog Rows.fnWordsRow.laid W) : laidMet Tryd.prog Rows.fnWordsRow.laid W := by
  rw [MakeChecks.laidMetH_plain _ _ _ (by kernel_rfl)] at h
  exact h
theorem tab {W : World} (h : laidMetH Tryd.prog Rows.fnWordsRow.laid W) : Lib.TabIs Tryd.prog W "internal/strconv.uint64pow10" .u64 Lib.pow10Tab :=
  Lay.tab_of (laid5 h)

set_option maxHeartbeats 1000000 in
theorem walk (A : Option Addr) (n c : Nat) (zs : List Int) (w : World) (hn : zs.length = n) (hm : n ≤ maxLen) (hs : ∀ z ∈ zs, (Lit.int .u8 z).wf = true) (ha : Fr.IntsAt w w.heap.size .u8 A zs)
    (hL : laidMetH Tryd.prog Rows.fnWordsRow.laid w) :
    Calls Tryd.prog 3 #[.slice A n c] w fun e w' => e = .returned (.bool true) ∧ Below w.heap.size w w' := by
  have hm0 : n ≤ 9223372036854775807 := by unfold maxLen at hm; omega
  have ht := tab hL
  obtain ⟨tp2, p2, hv2⟩ := Lay.range_of (laid5 hL)
  obtain ⟨tp1, p1, hv1⟩ := Lay.syn_of (laid5 hL)
  have hby := Cur.bytes_of hn hs ha
  clear hL hn hs ha zs hm
  by_cases h1 : n ≤ 1048576
  · have h1' : decide ((1048576 : Int) < (n : Int)) = false := decide_eq_false (by omega)
    go_enter Tryd.func3, Tryd.ntmps3
    go_wp2_with fail
    refine (Cur.num_any A n c 1 _ h1 (by omega) hby).mono ?_
    rintro e w1 ⟨x, rfl, hx0, hx1, hb1⟩
    have ht1 := Lay.tab_below ht hb1
    have hv11 := Lay.syn_below hv1 hb1
    have hv21 := Lay.range_below hv2 hb1
    have hby1 := hby.below hb1
    clear ht hv1 hv2 hby
    go_wp2_with fail
    refine (Fmt.impl_any (x - 30000) _ (by omega) (by omega) ht1).mono ?_
    rintro e w2 ⟨rfl, hb2⟩
    have hc2 := hb1.trans (hb2.mono hb1.size)
    have ht2 := Lay.tab_below ht1 hb2
    have hv12 := Lay.syn_below hv11 hb2
    have hv22 := Lay.range_below hv21 hb2
    have hby2 := hby1.below (hb2.mono hb1.size)
    have hr2 := Wor.reads_itoa (x - 30000) (by omega) (by omega)
    have hz2 := Wor.itoa_small (x - 30000) (by omega) (by omega)
    have hr2z : Num.Reads (ByteArray.mk (Lib.itoa (x - 30000)).toArray).data.toList (x - 30000) true := hr2
    clear hr2
    generalize hz : (ByteArray.mk (Lib.itoa (x - 30000)).toArray) = z at *
    clear hz ht1 hv11 hv21 hby1
    go_wp2_with fail
    refine (Par.impl_any z _ (by omega) ht2 tp1 p1 hv12 tp2 p2 hv22).mono ?_
    rintro e w3 ⟨m, b, rfl, hr3, hb3⟩
    obtain ⟨rfl, rfl⟩ := hr2z.same hr3
    have hc3 := hc2.trans (hb3.mono hc2.size)
    have hby3 := hby2.below (hb3.mono hc2.size)
    clear hby2 ht2 hv12 hv22
    have hby4 : Cur.BytesAt w3 w3.heap.size A n := fun k hk => by
      obtain ⟨b, o, x, e, hlt, h0, h1, hc⟩ := hby3 k hk
      exact ⟨b, o, x, e, Nat.lt_of_lt_of_le hlt hc3.size, h0, h1, hc⟩
    go_wp2_with fail
    refine (Cur.text_any A n c _ h1 hby4).mono ?_
    rintro e w4 ⟨s, rfl, hs4, hb4⟩
    have hc4 := hc3.trans (hb4.mono hc3.size)
    go_wp2_with fail
    refine (Spl.impl_any s ⟨#[32]⟩ _ (by omega) (by decide)).mono ?_
    rintro e w5 ⟨g, cc, rfl, hown5, hb5⟩
    have hlt5 := (hown5.lt g rfl).2
    have hst5 := (Own.own_strs hown5).more (Nat.succ_le_of_lt hlt5)
    have hc5 := hc4.trans (hb5.mono hc4.size)
    clear hown5
    go_wp2_with fail
    refine (Jn.impl_any ⟨#[32]⟩ _ _ _ _ _ rfl (by have := Wor.parts_small s; omega) hst5 (by rw [Wor.joined_len]; omega)).mono ?_
    rintro e w6 ⟨rfl, hb6⟩
    rw [Wor.joined]
    have hc6 := hc5.trans (hb6.mono hc5.size)
    go_wp2_with fail
    refine (Nam.impl_any ⟨#[120, 49]⟩ _ (by decide)).mono ?_
    rintro e w7 ⟨rfl, hb7⟩
    have hc7 := hc6.trans (hb7.mono hc6.size)
    rw [show Nam.nameB (ByteArray.mk #[120, 49]).data.toList = true from by decide +kernel]
    go_wp2_with fail
    refine (Lin.impl_any ⟨#[97, 10, 98, 10]⟩ _ (by decide)).mono ?_
    rintro e w8 ⟨g2, c2, rfl, hown8, hb8⟩
    have hc8 := hc7.trans (hb8.mono hc7.size)
    clear hown8
    rw [show (Lin.lines ⟨#[97, 10, 98, 10]⟩).length = 2 from by decide +kernel]
    go_wp2
    go_ret
    exact ⟨rfl, hc8⟩
  · have h1' : (1048576 : Int) < (n : Int) := by omega
    go_enter Tryd.func3, Tryd.ntmps3
    go_wp2
    go_ret
    exact ⟨rfl, Below.refl _ w⟩

theorem door_met (os : Os) (args : Array Value) : laidMetH Tryd.prog Rows.fnWordsRow.laid ((World.doorLaid Tryd.prog 62 os).forCall (fun _ _ => 0) ⟨#[], args, []⟩).memory :=
  laidMetH_of_parts3 (fuel := 8) (laidMet_of_run' 8 (by kernel_rfl) (by kernel_rfl)) (by kernel_rfl) (by kernel_rfl)

set_option maxRecDepth 100000 in
theorem lifted (os : Os) (started : os.Started) (H : Type) (enc : TypeId × Value → H) :
    ReturnsInHanded {} Tryd.checked os 3 .any (fun w args => (Rows.fnWordsSpec.pre enc Tryd.prog Tryd.f3 [] false w args ∧ laidMetH Tryd.prog Rows.fnWordsRow.laid w) ∧ sizedMet enc Tryd.prog Tryd.f3 (OpenSpec.ofChange Rows.fnWordsSpec) false w args)
      (Rows.fnWordsSpec.post enc Tryd.prog Tryd.f3 false true false false) := by
  refine returnsInHanded_of_change_and (C := Tryd.checked) (X := fun w _ => laidMetH Tryd.prog Rows.fnWordsRow.laid w) (fun _ _ _ hh h => h.of_heap hh) Fr.own started (by kernel_rfl) Tryd.func3
    (ChangeSpec.witness_shaped (enc := enc) (C := Tryd.checked) (os := os) (X := fun w _ => laidMetH Tryd.prog Rows.fnWordsRow.laid w) false (World.doorLaid Tryd.prog 62 os) #[.slice none 0 0] 8 rfl (World.shaped_of_RefB (by kernel_rfl) (by kernel_rfl)) (by kernel_rfl) (by kernel_rfl) (by kernel_rfl) (door_met os _)) ?_
  intro W base args ds gs before hval0 hW _ _ hL _
  have hval : ∀ (j : Nat) t v, Tryd.f3.params[j]? = some t → args[j]? = some v → Value.okWide Tryd.prog W .any base t v := hval0
  have hW' := hW
  obtain ⟨p, q, hA0, hV, rfl, hfz, hnd⟩ := hW
  have hA : DataW.TrodAll enc Tryd.prog W 0 (fun _ => true) true Tryd.f3.params.toList args.toList ds p := hA0
  have hAk := hA
  rw [Tryd.params3] at hA hval
  obtain ⟨v0, d0, rfl, rfl, h0⟩ := trodAll_one hA
  obtain ⟨rfl, rfl⟩ := trodVars_none hV
  have hlt : ∀ x ∈ p, x.block < W.heap.size := fun x hx => by simpa using hW'.lt x (List.mem_append_left _ hx)
  obtain ⟨A0, n0, c0, l0, rfl, hn0, hm0, hs0, ha0⟩ := Fr.view_nums Tryd.underlying22 Tryd.underlying5 (by kernel_rfl) (hval 0 22 v0 rfl rfl) h0 hlt
  clear hA0 hval0
  refine (walk A0 n0 c0 l0 W hn0 hm0 hs0 ha0 hL).mono fun e W' ⟨he, hb⟩ => ?_
  subst he
  exact ⟨_, rfl, _, _, _, [], p, [], hW', trodAll_mk1 (shut_bool Tryd.underlying4 _), Fr.below_all Fr.laidOut hb _ _ _ _ (Fr.readB_all (by kernel_rfl)) hAk hlt, rfl, hb.frame _, fun h => by cases h⟩

theorem said : Rows.FnWordsSaid :=
  OpenClaim.holds_of_wide 3 Tryd.f3 rfl rfl rfl rfl rfl rfl rfl ⟨rfl, rfl, rfl, rfl, rfl⟩ rfl rfl rfl rfl rfl (by kernel_rfl) Tryd.func3 (by kernel_rfl)
    (of_decide_eq_true (by kernel_rfl)) (by unfold Func.isWrapper; first | (rw [if_pos (by decide +kernel)]; kernel_rfl) | (rw [if_neg (by decide +kernel)]; exact ⟨rfl, rfl⟩))
    (fun os started H enc _ => lifted os started H enc)

theorem plain (f : FuncId) (fn : Func) (hf : Tryd.pinned.checked.prog.funcNamed "loop.example/g00846/laws.FnWords" = some f) (hfn : Tryd.pinned.checked.prog.funcs[f]? = some fn) :
    true = Tryd.pinned.checked.prog.looks [] ∧ ∀ (j : Nat) t, fn.params[j]? = some t → Tryd.pinned.checked.prog.wantsStandIn t = false := by
  obtain rfl : f = 3 := Option.some.inj ((show Tryd.prog.funcNamed "loop.example/g00846/laws.FnWords" = some 3 by kernel_rfl).symm.trans hf) |>.symm
  obtain rfl : fn = Tryd.f3 := (Option.some.inj (Tryd.func3.symm.trans hfn)).symm
  refine ⟨by kernel_rfl, fun j t ht => ?_⟩
  have hall : (Tryd.f3.params.toList.all fun u => !Tryd.prog.wantsStandIn u) = true := by kernel_rfl
  have hm : t ∈ Tryd.f3.params.toList := by simpa using Array.mem_of_getElem? ht
  exact (show Tryd.prog.wantsStandIn t = false by simpa using List.all_eq_true.1 hall t hm)

theorem proved : Rows.FnWordsCardSaid :=
  Claim7.holds_tied_plain_at .later [] _ _ _ _ said (fun _ h => by cases h) (by kernel_rfl) (fun _ h => by cases h) fnWords_row_tie rfl ⟨rfl, rfl⟩ (by kernel_rfl) rfl plain (by kernel_rfl)

end Go.Proofs.YtaphphelimpgmaaDoor.LawWords
