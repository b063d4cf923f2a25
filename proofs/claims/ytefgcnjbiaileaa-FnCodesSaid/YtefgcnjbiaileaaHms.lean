/- The program's lists of different ones of some cards: arrangementsOf, MessagesOf; HallViolation. -/
import Derived.Test.YtefgcnjbiaileaaWit
set_option linter.unusedVariables false
set_option maxRecDepth 20000
namespace Go.Proofs.Ytefgcnjbiaileaa.Hms
open Go.RowKit Fr _root_.Go.Proofs.Ytefgcnjbiaileaa.Own Pk Ins Pok Prm Pfn Rws Nwp Col Him Wit

theorem grow_big (nx : List Int → List Int) {b : Nat} (h : ∀ q, (nx q).length ≤ b) : ∀ (f : Nat) (p : List Int), (grow nx f p).length ≤ b ^ f
  | 0, p => by simp [grow]
  | f + 1, p => by
    rw [grow]
    have hx : ∀ (l : List Int), (l.flatMap fun x => grow nx f (p ++ [x])).length ≤ l.length * b ^ f := by
      intro l
      induction l with
      | nil => simp
      | cons z l ih =>
        have := grow_big nx h f (p ++ [z])
        rw [List.flatMap_cons, List.length_append, List.length_cons, Nat.succ_mul]
        omega
    exact Nat.le_trans (hx _) (by rw [Nat.pow_succ, Nat.mul_comm]; exact Nat.mul_le_mul (Nat.le_refl _) (h p))
theorem withF_len (zs os : List Int) : (withF zs os).length ≤ zs.length := List.length_filter_le _ _
theorem arr_1 (bp n c : Nat) (A : Option Addr) (zs : List Int) (w : World) (k : Nat) (hn : zs.length = n) (hn8 : n ≤ 8) (hk : k ≤ 8) (hss : IntsAt w w.heap.size .i64 A zs) (hbp : bp < w.heap.size) (hbox : w.cell? ⟨bp, 0, none⟩ = some (.slice A n c)) :
    Nexts w 32 ⟨bp, 0, none⟩ (withF zs) k := by
  intro W j m cc A2 ps hj hps hm hb hp
  have hl := grow_len _ j [] ps hps
  rw [List.length_nil] at hl
  have HC := Lib.hid (without_any A n c zs A2 m cc ps W hn (by omega) ((hss.below hb).more hb.size) hm (by omega) hp)
  have hbx := (hb.cell (p := ⟨bp, 0, none⟩) hbp).trans hbox
  clear hss hbox hps hm hp
  go_enter Try.func32, Try.ntmps32
  go_wp2_with fail
  refine HC.out.mono ?_
  rintro e w1 ⟨A3, c3, rfl, ho, hb1⟩
  have HI := Lib.hid (ints_of ho)
  have HL := Lib.hid (fun k hk => Or.inr (own_lo ho k hk).1 : ∀ k, A3.map (·.block) = some k → k < w.heap.size ∨ W.heap.size ≤ k)
  have HB1 := Lib.hid hb1
  clear ho hb1
  go_wp2
  go_ret
  exact ⟨A3, c3, rfl, HI.out, HL.out, HB1.out⟩
set_option maxHeartbeats 1000000 in
theorem impl_arrs (A : Option Addr) (n c k : Nat) (zs : List Int) (w : World) (hn : zs.length = n) (hn8 : n ≤ 8) (hk : k ≤ 3) (hss : IntsAt w w.heap.size .i64 A zs) :
    Calls Try.prog 23 #[.slice A n c, .int .i64 (k : Int)] w (IsSS w.heap.size (grow (withF zs) k []) w) := by
  have HN := Lib.hid hn
  obtain ⟨W, hW⟩ : ∃ W, W = w.alloc (.cells #[.slice A n c] 33) := ⟨_, rfl⟩
  have hs1 : w.heap.size < W.heap.size := by rw [hW]; simp
  have hbW : Below w.heap.size w W := by rw [hW]; exact (Below.refl _ w).alloc (Nat.le_refl _) _
  have hcW : W.cell? ⟨w.heap.size, 0, none⟩ = some (.slice A n c) := by
    rw [hW]
    unfold World.cell?
    rw [heap_alloc_new w _]; rfl
  have HB := Lib.hid hbW
  have HC := Lib.hid (collect_any 32 ⟨w.heap.size, 0, none⟩ (withF zs) k W (by omega) (fun j hj => by
      have h1 := grow_big (withF zs) (b := 8) (fun q => Nat.le_trans (withF_len zs q) (by omega)) j []
      have h2 : 8 ^ j ≤ 8 ^ 3 := Nat.pow_le_pow_right (by decide) (by omega)
      have h3 : 8 ^ 3 = 512 := rfl
      omega) (fun q => Nat.le_trans (withF_len zs q) (by omega)) (fun args w => rfl)
    (arr_1 w.heap.size n c A zs W k hn hn8 (by omega) ((hss.below hbW).more hbW.size) hs1 hcW))
  clear hss hn hbW hcW
  go_enter Try.func23, Try.ntmps23
  go_wp2_with fail
  rw [← hW]
  clear hW
  refine HC.out.mono ?_
  rintro e w2 ⟨A2, c2, rs, rfl, hrs, hrow, hb2⟩
  have HR := Lib.hid (ss_mono hrow HB.out.size)
  have HRS := Lib.hid hrs
  have HB2 := Lib.hid (HB.out.trans (hb2.mono HB.out.size))
  clear hrow hrs hb2
  go_wp2
  go_ret
  exact ⟨A2, c2, _, rfl, HRS.out, HR.out, HB2.out⟩
def chkM (n k : Nat) : Bool := decide (grow (withF (imarks 0 n)) k [] = Hnd.ordersF k (imarks 0 n))
theorem all_chkM : ((List.range 9).all fun n => (List.range 4).all fun k => chkM n k) = true := by kernel_rfl
theorem chk_m {n k : Nat} (hn : n ≤ 8) (hk : k ≤ 3) : grow (withF (imarks 0 n)) k [] = Hnd.ordersF k (imarks 0 n) := by
  have h := List.all_eq_true.1 (List.all_eq_true.1 all_chkM n (List.mem_range.2 (by omega))) k (List.mem_range.2 (by omega))
  exact of_decide_eq_true h
theorem messages_small (n k : Int) : SmallSS (Hno.messagesI n k) := by
  unfold Hno.messagesI
  split
  · rename_i h
    have hl : (newF n).length ≤ 8 := by
      unfold newF
      split
      · rw [imarks_length]; omega
      · simp
    refine ⟨Nat.le_trans (Hno.orders_len _ _) (Nat.le_trans (Nat.pow_le_pow_left hl _) (Nat.le_trans (Nat.pow_le_pow_right (by decide) (show k.toNat ≤ 3 by omega)) (by decide))), fun l hl => ?_⟩
    rw [Hno.orders_each _ _ l hl]
    omega
  · exact ⟨by simp, fun l hl => by cases hl⟩
set_option maxHeartbeats 2000000 in
theorem impl_messages (n k : Int) (w : World) (h1 : -9223372036854775808 ≤ n) (h2 : n ≤ 9223372036854775807) (h3 : -9223372036854775808 ≤ k) (h4 : k ≤ 9223372036854775807) :
    Calls Try.prog 9 #[.int .i64 n, .int .i64 k] w (IsSS w.heap.size (Hno.messagesI n k) w) := by
  by_cases hn : 1 ≤ n ∧ n ≤ 8
  · have HN := Lib.hid (decide_eq_true hn)
    by_cases hk0 : k < 0
    · have k1 := decide_eq_true hk0
      have e : Hno.messagesI n k = [] := by unfold Hno.messagesI; rw [if_neg (fun h => by omega)]
      rw [e]
      clear hn hk0 e
      go_enter Try.func9, Try.ntmps9
      go_wp2_with fail
      refine (is_deck _ _).mono ?_
      rintro e w1 ⟨rfl, rfl⟩
      rw [HN.out]
      go_wp2
      go_ret
      exact Hnd.nil_ss _ _ (Nat.le_refl _)
    · have k1 := decide_eq_false hk0
      obtain ⟨u, hu⟩ : ∃ u : Int, u = min n 3 := ⟨_, rfl⟩
      by_cases hku : u < k
      · have k2 := decide_eq_true hku
        have e : Hno.messagesI n k = [] := by unfold Hno.messagesI; rw [if_neg (fun h => by omega)]
        rw [e]
        replace hu := hu.symm
        clear hn hk0 e hku
        go_enter Try.func9, Try.ntmps9
        go_wp2_with fail
        refine (is_deck _ _).mono ?_
        rintro e w1 ⟨rfl, rfl⟩
        rw [HN.out]
        go_wp2
        go_ret
        exact Hnd.nil_ss _ _ (Nat.le_refl _)
      · obtain ⟨m, rfl⟩ : ∃ m : Nat, n = (m : Int) := ⟨n.toNat, by omega⟩
        obtain ⟨q, rfl⟩ : ∃ q : Nat, k = (q : Int) := ⟨k.toNat, by omega⟩
        have hq : q ≤ m ∧ m ≤ 8 ∧ q ≤ 3 := by omega
        have e : Hno.messagesI (m : Int) (q : Int) = grow (withF (newF (m : Int))) q [] := by unfold Hno.messagesI; rw [if_pos ⟨hn.1, hn.2, by omega, by omega, by omega⟩, newF_yes m (by omega), chk_m hq.2.1 hq.2.2]; rfl
        rw [e]
        have HNC := Lib.hid (impl_new (m : Int) w (by omega) (by omega))
        have HML := Lib.hid (show (newF (m : Int)).length = m by rw [newF_yes m (by omega), imarks_length])
        have k2 : decide (u < (q : Int)) = false := decide_eq_false hku
        replace hu := hu.symm
        clear hn hk0 e hku
        go_enter Try.func9, Try.ntmps9
        go_wp2_with fail
        refine (is_deck _ _).mono ?_
        rintro e w1 ⟨rfl, rfl⟩
        rw [HN.out]
        go_wp2_with fail
        refine HNC.out.mono ?_
        rintro e w1 ⟨A, c, rfl, ho, hb⟩
        rw [HML.out] at ho ⊢
        have HB := Lib.hid hb
        have HC := Lib.hid (impl_arrs A m c q (newF (m : Int)) w1 HML.out hq.2.1 hq.2.2 (ints_of ho))
        clear ho hb
        go_wp2_with fail
        refine HC.out.mono ?_
        rintro e w2 ⟨A2, c2, rs, rfl, hrs, hrow, hb2⟩
        have HRS := Lib.hid hrs
        have HROW := Lib.hid (ss_mono hrow HB.out.size)
        have HB2 := Lib.hid (HB.out.trans (hb2.mono HB.out.size))
        clear hrs hrow hb2
        go_wp2
        go_ret
        exact ⟨A2, c2, rs, rfl, HRS.out, HROW.out, HB2.out⟩
  · have HN := Lib.hid (decide_eq_false hn)
    have e : Hno.messagesI n k = [] := by unfold Hno.messagesI; rw [if_neg (fun h => hn ⟨h.1, h.2.1⟩)]
    rw [e]
    clear hn e
    go_enter Try.func9, Try.ntmps9
    go_wp2_with fail
    refine (is_deck _ _).mono ?_
    rintro e w1 ⟨rfl, rfl⟩
    rw [HN.out]
    go_wp2
    go_ret
    exact Hnd.nil_ss _ _ (Nat.le_refl _)
set_option maxHeartbeats 1000000 in
theorem impl_hall (n k : Int) (w : World) (h1 : -9223372036854775808 ≤ n) (h2 : n ≤ 9223372036854775807) (h3 : -9223372036854775808 ≤ k) (h4 : k ≤ 9223372036854775807) :
    Calls Try.prog 7 #[.int .i64 n, .int .i64 k] w fun e w' => e = .returned (.bool (Hnl.hallI n k)) ∧ Below w.heap.size w w' := by
  by_cases hk : 1 ≤ k ∧ k ≤ 4
  · have HK := Lib.hid (decide_eq_true hk)
    have HE := Lib.hid (show Hnl.hallI n k = decide ((Hno.messagesI n (k - 1)).length < (Hnd.handsI n k).length) by unfold Hnl.hallI; rw [decide_eq_true hk]; rfl)
    have HH := Lib.hid (impl_handsof n k w h1 h2 h3 h4)
    have HM := fun w => Lib.hid (impl_messages n (k - 1) w h1 h2 (by omega) (by omega))
    have HI := hk
    clear hk
    go_enter Try.func7, Try.ntmps7
    go_wp2_with fail
    refine (is_hand _ _).mono ?_
    rintro e w1 ⟨rfl, rfl⟩
    rw [HK.out]
    go_wp2_with fail
    refine HH.out.mono ?_
    rintro e w1 ⟨A1, c1, rs1, rfl, _, _, hb1⟩
    have HB1 := Lib.hid hb1
    clear hb1
    go_wp2_with fail
    refine (HM w1).out.mono ?_
    rintro e w2 ⟨A2, c2, rs2, rfl, _, _, hb2⟩
    have HB2 := Lib.hid (HB1.out.trans (hb2.mono HB1.out.size))
    clear hb2
    go_wp2
    go_ret
    exact ⟨by rw [HE.out]; rfl, HB2.out⟩
  · have HK := Lib.hid (decide_eq_false hk)
    have HE := Lib.hid (show Hnl.hallI n k = false by unfold Hnl.hallI; rw [decide_eq_false hk]; rfl)
    clear hk
    go_enter Try.func7, Try.ntmps7
    go_wp2_with fail
    refine (is_hand _ _).mono ?_
    rintro e w1 ⟨rfl, rfl⟩
    rw [HK.out]
    go_wp2
    go_ret
    exact ⟨by rw [HE.out]; rfl, Below.refl _ _⟩
end Go.Proofs.Ytefgcnjbiaileaa.Hms
