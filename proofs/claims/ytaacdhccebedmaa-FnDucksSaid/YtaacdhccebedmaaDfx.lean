/- Facts for the law of ducking deals. -/
import Derived.Test.YtaacdhccebedmaaDuq
import Derived.Test.YtaacdhccebedmaaMkq
set_option linter.unusedVariables false
set_option maxRecDepth 20000
namespace Go.Proofs.Ytaacdhccebedmaa.Dfx
open Go.RowKit Fr _root_.Go.Proofs.Ytaacdhccebedmaa.Own Pk Pok Arr Ins Nwp Prm Pfn Rws Lb Cat Mvp Mok2 Pf Pa Duk Duc Duq Cur Mkq

set_option maxHeartbeats 1000000 in
theorem make_packet12 (A : Option Addr) (n cap s : Nat) (w : World) (hn : n ≤ 1048576) (hs : s ≤ 1000) (hbytes : BytesAt w w.heap.size A n) :
    Calls Try.prog 9 #[.slice A n cap, .int .i64 (s : Int), .int .i64 12] w (PackMade 12 w) := by
  go_enter Try.func9, Try.ntmps9
  go_wp2_with fail
  refine (new23_any A n cap s _ hn hs hbytes).mono ?_
  rintro e w1 ⟨c, rfl, hwc, hcur, hb1⟩
  have hby := hbytes.below hb1
  have hsz := hb1.size
  go_wp2_with fail
  refine (draw_any w.heap.size c A n cap 12 _ (by omega) (by omega) hn hwc hcur hby).mono ?_
  rintro e w2 ⟨A2, m, c2, zs, rfl, hl, h1, h9, hok, hown, hc2, hg⟩
  have HB := Lib.hid (hb1.grown hg hsz (fun k hk => by simp only [Option.some.injEq] at hk; omega))
  have HO := Lib.hid (own_mono hown hsz)
  have HL := Lib.hid hl
  have HK := Lib.hid hok
  clear hown hg hl hok
  go_wp2
  go_ret
  exact ⟨A2, m, c2, zs, rfl, HL.out, h1, h9, HK.out, HO.out, HB.out⟩
theorem perm_ne {zs : List Int} (h : permB zs = true) {i j : Nat} (hi : i < zs.length) (hj : j < zs.length) (he : zs.getD i 0 = zs.getD j 0) : i = j := by
  have key : ∀ a b, a < b → b < zs.length → zs.getD a 0 = zs.getD b 0 → False := fun a b hab hb he => by
    refine ((permB_yes h).2 b hb).2 ?_
    rw [← he, List.getD_eq_getElem?_getD, List.getElem?_eq_getElem (by omega)]
    exact List.mem_take_iff_getElem.2 ⟨a, by omega, rfl⟩
  rcases Nat.lt_trichotomy i j with h1 | h1 | h1
  · exact (key i j h1 hj he).elim
  · exact h1
  · exact (key j i h1 hi he.symm).elim
theorem ok_join {zs xs : List Int} (hz : okB zs = true) (hx : permB xs = true) (hl : xs.length = zs.length) : okB (joinF zs xs) = true := by
  obtain ⟨h1, h2, h3⟩ := ok_parts hz
  have hin := inR_perm hx
  refine ok_of (by rw [joinF_len, hl]; exact h1) (fun i hi => ?_) (fun i j hi hj he => ?_)
  · rw [joinF_len] at hi
    rw [joinF_get _ _ _ hi]
    have := hin i hi
    exact h2 _ (by omega)
  · rw [joinF_len] at hi hj
    rw [joinF_get _ _ _ hi, joinF_get _ _ _ hj] at he
    have a1 := hin i hi
    have a2 := hin j hj
    have := h3 _ _ (by omega) (by omega) he
    exact perm_ne hx hi hj (by omega)
theorem prep_ok {zs : List Int} {j : Nat} (hz : okB zs = true) (h1 : 1 ≤ zs.length) (h3 : j ≤ 1) : okB (prepL zs j) = true := by
  have h12 := (okB_yes hz).1
  obtain ⟨e1, e2, e3⟩ := inv_at h1 h12 h3
  exact ok_join hz e2 e3
theorem prep_back (zs : List Int) (j : Nat) (h1 : 1 ≤ zs.length) (h2 : zs.length ≤ 12) (h3 : j ≤ 1) : moveF 7 j (prepL zs j) = zs := by
  rcases zs with _ | ⟨a, _ | ⟨b, _ | ⟨c, _ | ⟨d, _ | ⟨e, _ | ⟨f, _ | ⟨g, _ | ⟨h, _ | ⟨i, _ | ⟨j', _ | ⟨k, _ | ⟨l, _ | ⟨m, r⟩⟩⟩⟩⟩⟩⟩⟩⟩⟩⟩⟩⟩
  · simp at h1
  all_goals first | (simp only [List.length_cons] at h2; omega) | (rcases (show j = 0 ∨ j = 1 by omega) with rfl | rfl <;> kernel_rfl)
theorem duck_at {zs : List Int} {j : Nat} {n : Nat} (hl : zs.length = n) (h0 : okB zs = true) (h1 : 1 ≤ n) (h3 : j ≤ 1) : perfB zs 7 (j : Int) = true ∧ perfF zs 7 (j : Int) = moveF 7 j zs ∧ (moveF 7 j zs).length = n ∧ okB (moveF 7 j zs) = true := by
  have h12 := (okB_yes h0).1
  have hk : kOk 7 j n = true := ok7 h3
  have hb : perfB zs 7 (j : Int) = true := by
    unfold perfB
    rw [h0, hl, mvB_some (by omega) (by omega) (by omega) (by omega)]
    exact hk
  have hk' : kOk 7 j zs.length = true := by rw [hl]; exact hk
  refine ⟨hb, ?_, ?_, ?_⟩
  · unfold perfF
    rw [hb]
    rfl
  · rw [move_len hk' (by omega) h12, hl]
  · exact move_ok hk' (by omega) h0
theorem dkL_get {n j i : Nat} (h1 : 1 ≤ n) (h12 : n ≤ 12) (h3 : j ≤ 1) (hi : i < n) : (dkL n j).getD i 0 = (srcA 7 j n i : Nat) := by
  have hl := (src_ok (ok7 (n := n) h3) h1 h12).1
  unfold dkL srcI srcA
  rw [List.getD_eq_getElem?_getD, List.getElem?_map, List.getD_eq_getElem?_getD, List.getElem?_eq_getElem (by omega)]
  rfl
/-- a card behind the deal is where the numbers say -/
theorem duck_get {zs : List Int} {j i n : Nat} (hl : zs.length = n) (h1 : 1 ≤ n) (h12 : n ≤ 12) (h3 : j ≤ 1) (hi : i < n) : ∃ a : Nat, (dkL n j).getD i 0 = (a : Int) ∧ a < n ∧ (moveF 7 j zs).getD i 0 = zs.getD a 0 := by
  subst hl
  refine ⟨srcA 7 j zs.length i, dkL_get h1 h12 h3 hi, src_lt (ok7 h3) h1 h12 hi, ?_⟩
  rw [move_get (ok7 h3) h1 h12 hi]
  rfl
/-- all that the law asks of the deal -/
theorem duck_law {p : List Int} {j m : Nat} (hl : p.length = m) (h0 : okB p = true) (h1 : 1 ≤ m) (h3 : j ≤ 1) :
    ∃ a : Nat, lastN m j = (a : Int) ∧ a < m ∧ (moveF 7 j p).getD 0 0 = p.getD a 0 := by
  have h12 := (okB_yes h0).1
  exact duck_get hl h1 (by omega) h3 (by omega)
theorem ord_law {p : List Int} {j m : Nat} (hl : p.length = m) (h0 : okB p = true) (h1 : 1 ≤ m) (h3 : j ≤ 1) (i : Nat) (hi : i < m) :
    ∃ a : Nat, ((dkL m j).reverse).getD i 0 = (a : Int) ∧ a < m ∧ (moveF 7 j p).getD (m - 1 - i) 0 = p.getD a 0 := by
  have h12 := (okB_yes h0).1
  obtain ⟨a, ha, hlt, he⟩ := duck_get (i := m - 1 - i) hl h1 (by omega) h3 (by omega)
  refine ⟨a, ?_, hlt, he⟩
  rw [← ha, List.getD_eq_getElem?_getD, List.getD_eq_getElem?_getD, List.getElem?_reverse (by rw [dkL_len h1 (by omega) h3]; exact hi), dkL_len h1 (by omega) h3]
theorem prep_law {p : List Int} {j m : Nat} (hl : p.length = m) (h0 : okB p = true) (h1 : 1 ≤ m) (h3 : j ≤ 1) :
    prepB p (j : Int) = true ∧ prepF p (j : Int) = prepL p j ∧ (prepL p j).length = m ∧ okB (prepL p j) = true ∧ perfB (prepL p j) 7 (j : Int) = true ∧ perfF (prepL p j) 7 (j : Int) = p := by
  have h12 := (okB_yes h0).1
  have hb : prepB p (j : Int) = true := by
    unfold prepB
    rw [h0, decide_eq_true (by omega)]
    rfl
  have hk := prep_ok h0 (by omega) h3
  have hn : (prepL p j).length = m := (prepL_len (by omega) h12 h3).trans hl
  obtain ⟨e1, e2, e3, e4⟩ := duck_at hn hk h1 h3
  exact ⟨hb, prep_yes hb, hn, hk, e1, e2.trans (prep_back p j (by omega) h12 h3)⟩
theorem rounds_law {m : Nat} (h1 : 1 ≤ m) (h12 : m ≤ 12) : (2 : Int) ^ rl m ≤ (m : Int) ∧ (m : Int) < 2 * (2 : Int) ^ rl m ∧ rl m ≤ 3 := by
  have e : ((2 : Int) ^ rl m) = ((pw m : Nat) : Int) := by rw [pw_rl]; simp
  rw [e]
  have := pw_le h1
  have := pw_up h12
  exact ⟨by omega, by omega, rl_le m⟩
end Go.Proofs.Ytaacdhccebedmaa.Dfx
