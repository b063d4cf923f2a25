/- Hands and messages, plainly: all ascending lists, all lists of different elements; and the model's l12Hands, HandsOf. -/
import Derived.Test.YtingbpkbdafgeaaRws
import Derived.Test.YtingbpkbdafgeaaPkt
import Derived.Test.YtingbpkbdafgeaaOwn
import Derived.Test.YtingbpkbdafgeaaAat
import Derived.Test.YtingbpkbdafgeaaPok
import Derived.Laws.AppendOwnNone
set_option linter.unusedVariables false
set_option maxRecDepth 20000
namespace Go.Proofs.Ytingbpkbdafgeaa.Hnd
open Go.RowKit Fr _root_.Go.Proofs.Ytingbpkbdafgeaa.Own Pk Ins Rws

/-- all ascending lists of k of the d numbers from x on -/
def handsF : Nat → Nat → Nat → List (List Int)
  | _, 0, _ => [[]]
  | 0, _ + 1, _ => []
  | d + 1, k + 1, x => (handsF d k (x + 1)).map ((x : Int) :: ·) ++ handsF d (k + 1) (x + 1)
theorem hands_zero (d x : Nat) : handsF d 0 x = [[]] := by cases d <;> rfl
theorem hands_none (k x : Nat) : handsF 0 (k + 1) x = [] := rfl
theorem hands_len : ∀ (d k x : Nat), (handsF d k x).length ≤ 2 ^ d
  | d, 0, x => by rw [hands_zero]; exact Nat.one_le_two_pow
  | 0, k + 1, x => Nat.zero_le _
  | d + 1, k + 1, x => by
    rw [handsF, List.length_append, List.length_map, Nat.pow_succ]
    have h1 := hands_len d k (x + 1)
    have h2 := hands_len d (k + 1) (x + 1)
    omega
theorem hands_each : ∀ (d k x : Nat), ∀ l ∈ handsF d k x, l.length = k
  | d, 0, x, l, h => by rw [hands_zero] at h; rw [List.mem_singleton.1 h]; rfl
  | 0, k + 1, x, l, h => by cases h
  | d + 1, k + 1, x, l, h => by
    rw [handsF] at h
    rcases List.mem_append.1 h with h | h
    · obtain ⟨q, hq, rfl⟩ := List.mem_map.1 h
      rw [List.length_cons, hands_each d k (x + 1) q hq]
    · exact hands_each d (k + 1) (x + 1) l h
/-- all lists of k different elements -/
def ordersF : Nat → List Int → List (List Int)
  | 0, _ => [[]]
  | k + 1, l => (List.range l.length).flatMap fun i => (ordersF k (l.take i ++ l.drop (i + 1))).map (l.getD i 0 :: ·)
def vals (zs : List Int) : List Value := zs.map (Value.int .i64)
theorem app_any {P : Program} {w : World} {ops : Array Oper} {rest : List Oper} {o : Oper} {a : Act} {Q : Exit → Act → World → Prop} (hgd : o.guard = none) (s x : Operand) (t : TypeId)
    (ho : o.op = .call { callee := .builtin .append, args := #[s, x], argTypes := #[t, t] })
    (B : Nat) (e : TypeId) (i : TypeInfo) (bytes : Nat) (ht : P.underlying t = some (.slice e)) (hi : P.info? e = some i) (hz : i.zero = some (.int .i64 0))
    (hsize : i.size = 1) (hby : i.bytes = bytes) (hby2 : bytes ≤ 32) (A : Option Addr) (c : Nat) (n : Nat) (xs : List Int) (hs : a.eval s = .slice A n c) (hown : w.ownsRow B e 1 (.slice A n c) n (vals xs))
    (A2 : Option Addr) (m c2 : Nat) (zs : List Int) (hx : a.eval x = .slice A2 m c2) (hm : zs.length = m) (hnil : A2 = none → c2 = 0) (B2 : Nat) (hat : IntsAt w B2 .i64 A2 zs) (hn : n ≤ 4294967296) (hm2 : m ≤ 4294967296) (hB : B ≤ w.heap.size)
    (hspot : ∀ a, A2 = some a → a.spot = none)
    (h : ∀ A' c' w', w'.ownsRow B e 1 (.slice A' (n + m) c') (n + m) (vals (xs ++ zs)) → w.grownBy w' (A.map (·.block)) → wpList P ops Q rest (a.put o.dst (.slice A' (n + m) c')) w') :
    wpList P ops Q (o :: rest) a w := by
  cases A2 with
  | none =>
    have h0 : m = 0 := by
      rcases Nat.eq_zero_or_pos m with h | h
      · exact h
      · obtain ⟨b, o, e, _⟩ := hat 0 (by omega)
        cases e
    have hz : zs = [] := List.eq_nil_of_length_eq_zero (by omega)
    have hc := hnil rfl
    subst hz h0 hc
    refine wpList_append_own_none hgd s x t ho B e i 1 ht hi _ n (vals xs) hs hown hx ?_
    have h2 := h A c w (by rw [List.append_nil]; exact hown) (World.grownBy.refl w _)
    exact h2
  | some ad =>
    obtain ⟨b, f, sp⟩ := ad
    have hsp := hspot _ rfl
    simp only at hsp
    subst hsp
    refine app_list hgd s x t ho B e i bytes ht hi hz hsize hby hby2 A c n (vals xs) hs hown b f m c2 zs hx hm B2 hat hn hm2 hB ?_
    intro A' c' w' h1 h2
    exact h A' c' w' (by unfold vals; rw [List.map_append]; exact h1) h2

theorem own_nil {W : World} {lo : Nat} {e : TypeId} {A : Option Addr} {n c : Nat} {xs : List Value} (h : W.ownsRow lo e 1 (.slice A n c) n xs) : (A = none → c = 0) ∧ ∀ a, A = some a → a.spot = none := by
  rcases h.2 with ⟨h2, h0⟩ | ⟨g, cap, cur, hv, _⟩
  · simp only [Value.slice.injEq] at h2
    refine ⟨fun _ => h2.2.2, fun a ha => ?_⟩
    rw [h2.1] at ha
    cases ha
  · simp only [Value.slice.injEq] at hv
    refine ⟨fun ha => ?_, fun a ha => ?_⟩
    · rw [hv.1] at ha
      cases ha
    · rw [hv.1] at ha
      injection ha with ha
      rw [← ha]
theorem box_below' (w : World) (o : Obj) : Below w.heap.size w (w.alloc o) := (Below.refl _ w).alloc (Nat.le_refl _) o
set_option maxHeartbeats 8000000 in
theorem spec_hands : ∀ (k n x : Nat) (w : World), x ≤ n → n ≤ 8 → k ≤ 8 → Calls Try.prog 60 #[.int .i64 (x : Int), .int .i64 (n : Int), .int .i64 (k : Int)] w (IsSS w.heap.size (handsF (n - x) k x) w) := by
  obtain ⟨i0, hi, hz0, hz1, hz2⟩ := info_parts infoInt
  obtain ⟨i1, hj1, hy0, hy1, hy2⟩ := infos_parts
  intro k
  induction k with
  | zero =>
    intro n x w hx hn hk
    rw [hands_zero]
    have hb1 := box_below' w (.cells #[] 3)
    have hl := World.ownsRow_lit (base := w.heap.size) (e := 3) (size := 1) w #[] 0 (Nat.le_refl _) (Nat.zero_le _) rfl
    have hs1 : (w.alloc (.cells #[] 3)).heap.size = w.heap.size + 1 := by simp
    have hl2 := World.ownsRow_lit (base := w.heap.size) (e := 33) (size := 1) (w.alloc (.cells #[] 3)) #[.slice (some ⟨w.heap.size, 0, none⟩) 0 0] 1 (by omega) (by decide) rfl
    rw [hs1] at hl2
    have HSS := Lib.hid (SSRow.snoc (zs := []) ((SSRow.none_ w w.heap.size).below hb1) (Nat.le_refl _) hl hl2 (World.grownBy_alloc _ _ none))
    have HB := Lib.hid (hb1.alloc (by omega) (.cells #[.slice (some ⟨w.heap.size, 0, none⟩) 0 0] 33))
    clear hb1 hl hl2 hs1
    go_enter Try.func60, Try.ntmps60
    go_wp2
    go_ret
    exact ⟨_, _, _, rfl, rfl, HSS.out, HB.out⟩
  | succ k ih =>
    intro n x w hx hn hk
    have HIH := Lib.hid ih
    have hne : (((k + 1 : Nat) : Int) == 0) = false := beq_eq_false_iff_ne.2 (by omega)
    have hne2 : ((k : Int) + 1 == 0) = false := beq_eq_false_iff_ne.2 (by omega)
    obtain ⟨R, hR⟩ : ∃ R, R = handsF (n - x) (k + 1) x := ⟨_, rfl⟩
    rw [← hR]
    have HRL := Lib.hid (show R.length ≤ 256 by rw [hR]; exact Nat.le_trans (hands_len _ _ _) (Nat.le_trans (Nat.pow_le_pow_right (by decide) (show n - x ≤ 8 by omega)) (by decide)))
    have HR := Lib.hid hR
    have HL0 := Lib.hid (SSRow.empty (World.ownsRow_lit (base := w.heap.size) (e := 33) (size := 1) w #[] 0 (Nat.le_refl _) (Nat.zero_le _) rfl))
    have HB0 := Lib.hid (box_below' w (.cells #[] 33))
    rw [show ((k + 1 : Nat) : Int) = (k : Int) + 1 by omega]
    clear ih hR
    go_enter Try.func60, Try.ntmps60
    go_wp2
    go_loopw [7, 8] (fun v i wr => ∃ y : Nat, y ≤ n ∧ i = .int .i64 (y : Int) ∧ (∃ A N c rs, v = .slice A N c ∧ Hid (SSRow wr w.heap.size wr.heap.size A N c rs) ∧ Hid (R = rs.map RD.zs ++ handsF (n - y) (k + 1) y)) ∧ Hid (Below w.heap.size w wr)) (fun _ i _ => n - (intOf i).toNat)
    case atStart => exact ⟨x, hx, rfl, ⟨_, _, _, [], rfl, HL0, HR⟩, HB0⟩
    case round =>
      obtain ⟨y, hy, rfl, ⟨A, N, c, rs, rfl, HS, HRS⟩, HB⟩ := hrel
      clear HL0 HB0 HR
      have hsz := HB.out.size
      by_cases hlt : y < n
      · have CN := HIH.out n (y + 1) wr (by omega) hn (by omega)
        rw [show ((y + 1 : Nat) : Int) = (y : Int) + 1 by omega] at CN
        have HCN := Lib.hid CN
        clear CN
        have HE := Lib.hid (show handsF (n - y) (k + 1) y = (handsF (n - (y + 1)) k (y + 1)).map ((y : Int) :: ·) ++ handsF (n - (y + 1)) (k + 1) (y + 1) by
          obtain ⟨d, hd⟩ : ∃ d, n - y = d + 1 := ⟨n - y - 1, by omega⟩
          rw [hd, show n - (y + 1) = d by omega, handsF])
        have HEL := Lib.hid (hands_each (n - (y + 1)) k (y + 1))
        obtain ⟨Q, hQ⟩ : ∃ Q, Q = handsF (n - (y + 1)) k (y + 1) := ⟨_, rfl⟩
        rw [← hQ] at HCN HE HEL
        clear hQ
        go_wp2_with fail
        refine HCN.out.mono ?_
        rintro e w5 ⟨A5, c5, rr, rfl, hrr, hrow5, hb5⟩
        obtain ⟨M, hM⟩ : ∃ M, M = Q.length := ⟨_, rfl⟩
        rw [← hM] at hrow5 ⊢
        have hQl : Q.length = rr.length := by rw [← hrr, List.length_map]
        have HQZ := Lib.hid (fun j (hj : j < M) => (show (rr.getD j rd0).zs = Q.getD j [] ∧ (rr.getD j rd0).zs.length = k from by
          have hj2 : j < rr.length := by omega
          have e1 : (rr.getD j rd0).zs = Q.getD j [] := by
            rw [← hrr]
            simp [List.getD_eq_getElem?_getD, List.getElem?_eq_getElem hj2]
          refine ⟨e1, ?_⟩
          rw [e1]
          exact HEL.out _ (by rw [List.getD_eq_getElem?_getD, List.getElem?_eq_getElem (by omega)]; exact List.getElem_mem _)))
        have HQM := Lib.hid hM.symm
        obtain ⟨br, hbr⟩ : ∃ b, b = wr.heap.size := ⟨_, rfl⟩
        obtain ⟨er, her⟩ : ∃ b, b = w5.heap.size := ⟨_, rfl⟩
        have HS5 := Lib.hid ((HS.out.below hb5).higher (hi' := w5.heap.size) hb5.size (Nat.le_refl _))
        have HPL5 := Lib.hid (show ∀ q, A.map (·.block) = some q → q < br ∨ er ≤ q from fun q hq => Or.inl (by rw [hbr]; exact HS.out.outhi q hq))
        have HB5 := Lib.hid (HB.out.trans (hb5.mono hsz))
        have HRR5 := Lib.hid (show SSRow w5 br er A5 M c5 rr by rw [hbr, her]; exact hrow5)
        have hber : br ≤ er := by rw [hbr, her]; exact hb5.size
        have hwbr : w.heap.size ≤ br := by rw [hbr]; exact hsz
        obtain ⟨Z, hZ⟩ : ∃ Z, Z = rs.map RD.zs := ⟨_, rfl⟩
        have HRE := Lib.hid (show R = Z ++ (Q.map ((y : Int) :: ·) ++ handsF (n - (y + 1)) (k + 1) (y + 1)) by rw [HRS.out, HE.out, hZ])
        have HZ := Lib.hid (show rs.map RD.zs = Z ++ (Q.take 0).map ((y : Int) :: ·) by rw [hZ]; simp)
        have her2 : er ≤ w5.heap.size := by omega
        clear hrr hrow5 hb5 hQl hM hbr her hZ HS HB HRS HE HEL HCN hsz
        go_wp2
        go_loopw [7, 10, 29] (fun v _ i wr => ∃ j : Nat, j ≤ M ∧ i = .int .i64 (j : Int) ∧ (∃ A' N' c' rs', v = .slice A' N' c' ∧ Hid (SSRow wr w.heap.size wr.heap.size A' N' c' rs') ∧ Hid (rs'.map RD.zs = Z ++ (Q.take j).map ((y : Int) :: ·)) ∧ Hid (∀ q, A'.map (·.block) = some q → q < br ∨ er ≤ q)) ∧ Hid (SSRow wr br er A5 M c5 rr) ∧ Hid (Below w.heap.size w wr) ∧ er ≤ wr.heap.size) (fun _ _ i _ => M - (intOf i).toNat)
        case atStart => exact ⟨0, Nat.zero_le _, rfl, ⟨A, N, c, rs, rfl, HS5, HZ, HPL5⟩, HRR5, HB5, her2⟩
        case round =>
          obtain ⟨j, hj, rfl, ⟨A', N', c', rs', rfl, HS, HZJ, HPL⟩, HRR, HB, her3⟩ := hrel
          clear HS5 HPL5 HRR5 HB5 HZ
          have hsz := HB.out.size
          have hN : N' ≤ 256 := by
            have h1 := congrArg List.length HZJ.out
            have h2 := congrArg List.length HRE.out
            rw [List.length_map, HS.out.len, List.length_append, List.length_map, List.length_take] at h1
            rw [List.length_append, List.length_append, List.length_map] at h2
            have := HRL.out
            omega
          have hM8 : M ≤ 256 := by
            have h2 := congrArg List.length HRE.out
            rw [List.length_append, List.length_append, List.length_map, HQM.out] at h2
            have := HRL.out
            omega
          by_cases hjl : j < M
          · obtain ⟨gq, rfl, hcq⟩ := HRR.out.cell j hjl
            have hrj := (HRR.out.2.1 j (by rw [HRR.out.len]; exact hjl)).1
            obtain ⟨hq1, hq2⟩ := HQZ.out j hjl
            have HTK := Lib.hid (show (Q.take (j + 1)).map ((y : Int) :: ·) = (Q.take j).map ((y : Int) :: ·) ++ [(y : Int) :: Q.getD j []] by
              rw [List.take_succ_eq_append_getElem (by rw [HQM.out]; exact hjl), List.map_append, List.getD_eq_getElem?_getD, List.getElem?_eq_getElem (by rw [HQM.out]; exact hjl)]
              rfl)
            rw [← hq1] at HTK
            clear hq1
            generalize rr.getD j rd0 = r at *
            obtain ⟨B1, d1, us⟩ := r
            simp only [RD.v] at hcq hrj hq2 HTK
            rw [hq2] at hcq hrj
            obtain ⟨hnil, hspot⟩ := own_nil hrj
            have HUL := Lib.hid hq2
            have hlit := World.ownsRow_lit (base := wr.heap.size) (e := 3) (size := 1) wr #[.int .i64 (y : Int)] 1 (Nat.le_refl _) (by decide) rfl
            have hbl := box_below' wr (.cells #[.int .i64 (y : Int)] 3)
            have HUA := Lib.hid ((ints_of hrj).below hbl)
            have hsl := hbl.size
            have hk2 : k ≤ 4294967296 := by omega
            have hN2 : N' ≤ 1048576 := by omega
            clear hrj hq2
            go_wp2_with (first
              | (at_builtin; refine app_any rfl (.tmp 35) (.tmp 36) 33 rfl wr.heap.size 3 i0 8 Try.underlying33 hi hz0 hz1 hz2 (by decide) (some ⟨wr.heap.size, 0, none⟩) 1 1 [(y : Int)] rfl hlit B1 k d1 us rfl HUL.out hnil _ HUA.out (by decide) hk2 hsl hspot ?_; intro A6 c6 w6 hown6 hgr6; have hb6 := hbl.grown hgr6 hsl (fun k hk => by simp only [Option.map_some, Option.some.injEq] at hk; omega); have HS6 := Lib.hid (HS.out.below hb6); have HRR6 := Lib.hid (HRR.out.below hb6); have hsz6 : w.heap.size ≤ w6.heap.size := Nat.le_trans hsz hb6.size; have hown6o := HS6.out.1)
              | (at_builtin; refine Aat.app_at rfl (.tmp 33) (.tmp 38) 24 rfl w.heap.size 33 i1 (.slice none 0 0) 24 Try.underlying24 hj1 hy0 hy1 hy2 (by decide) rfl _ _ _ _ rfl hown6o (.slice A6 (1 + k) c6) rfl _ rfl rfl hN2 hsz6 ?_; intro g7 c7 w7 hown7 hgr7 hat7))
            have HZL := Lib.hid (show ((y : Int) :: us).length = 1 + k by rw [List.length_cons, HUL.out]; omega)
            have HSN := Lib.hid (SSRow.snoc (zs := (y : Int) :: us) (A1 := A6) (c1 := c6) HS6.out hsz (by rw [HZL.out]; exact hown6) (by rw [HZL.out]; exact hown7) hgr7)
            have HB7 := Lib.hid ((HB.out.trans (hb6.mono hsz)).grown hgr7 hsz6 (fun q hq => (own_lo hown6o q hq).1))
            have hs76 := hgr7.size
            have hs6r := hb6.size
            have HRR7 := Lib.hid (HRR6.out.grown hgr7 (fun q hq => HPL.out q hq))
            have HPL7 := Lib.hid (show ∀ q, (some (⟨g7, 0, none⟩ : Addr)).map (·.block) = some q → q < br ∨ er ≤ q from fun q hq => by
              simp only [Option.map_some, Option.some.injEq] at hq
              subst hq
              rcases hat7 with h | h
              · exact HPL.out _ h
              · exact Or.inr (by omega))
            have HZ7 := Lib.hid (show (rs' ++ [(⟨A6, c6, (y : Int) :: us⟩ : RD)]).map RD.zs = Z ++ (Q.take (j + 1)).map ((y : Int) :: ·) by rw [List.map_append, HZJ.out, HTK.out, List.append_assoc]; rfl)
            have her7 : er ≤ w7.heap.size := by omega
            clear hown6 hgr6 hb6 hown7 hgr7 hat7 hown6o hlit hbl
            (try go_roundw)
            all_goals
              first
                | exact ⟨j + 1, by omega, by go_num, ⟨_, N' + 1, c7, _, rfl, HSN, HZ7, HPL7⟩, HRR7, HB7, her7⟩
                | (refine ⟨⟨j + 1, by omega, by go_num, ⟨_, N' + 1, c7, _, rfl, HSN, HZ7, HPL7⟩, HRR7, HB7, her7⟩, ?_⟩; simp [intOf]; omega)
                | (simp [intOf]; omega)
          · have hjM : j = M := by omega
            subst hjM
            have HZE := Lib.hid (show R = rs'.map RD.zs ++ handsF (n - (y + 1)) (k + 1) (y + 1) by rw [HRE.out, HZJ.out, List.take_of_length_le (by rw [HQM.out]; exact Nat.le_refl _), List.append_assoc])
            go_wp2
            (try go_roundw)
            all_goals
              first
                | exact ⟨y + 1, by omega, by go_num, ⟨A', N', c', rs', rfl, HS, HZE⟩, HB⟩
                | (refine ⟨⟨y + 1, by omega, by go_num, ⟨A', N', c', rs', rfl, HS, HZE⟩, HB⟩, ?_⟩; simp [intOf]; omega)
                | (simp [intOf]; omega)
      · have hyn : y = n := by omega
        subst hyn
        have HZE := Lib.hid (show rs.map RD.zs = R by rw [HRS.out, Nat.sub_self, hands_none, List.append_nil])
        have hRl : R.length = N := by rw [← HZE.out, List.length_map, HS.out.len]
        go_wp2
        go_ret
        exact ⟨A, c, rs, by rw [hRl]; rfl, HZE.out, by rw [hRl]; exact HS.out, HB.out⟩
/-- HandsOf, plainly -/
def handsI (n k : Int) : List (List Int) := if 1 ≤ n ∧ n ≤ 8 ∧ 1 ≤ k ∧ k ≤ n then handsF n.toNat k.toNat 0 else []
theorem nil_ss (w : World) (lo : Nat) (hlo : lo ≤ w.heap.size) : IsSS lo [] w (.returned (.slice none 0 0)) w := ⟨none, 0, [], rfl, rfl, SSRow.none_ w lo, Below.refl _ _⟩
set_option maxHeartbeats 1000000 in
theorem spec_handsof (n k : Int) (w : World) (h1 : -9223372036854775808 ≤ n) (h2 : n ≤ 9223372036854775807) (h3 : -9223372036854775808 ≤ k) (h4 : k ≤ 9223372036854775807) :
    Calls Try.prog 22 #[.int .i64 n, .int .i64 k] w (IsSS w.heap.size (handsI n k) w) := by
  by_cases hn : 1 ≤ n ∧ n ≤ 8
  · have HN := Lib.hid (decide_eq_true hn)
    by_cases hk : 1 ≤ k ∧ k ≤ n
    · have HK := Lib.hid (decide_eq_true hk)
      obtain ⟨m, rfl⟩ : ∃ m : Nat, n = (m : Int) := ⟨n.toNat, by omega⟩
      obtain ⟨q, rfl⟩ : ∃ q : Nat, k = (q : Int) := ⟨k.toNat, by omega⟩
      have hq : q ≤ m ∧ m ≤ 8 := by omega
      have HC := Lib.hid (spec_hands q m 0 w (Nat.zero_le _) hq.2 (by omega))
      have e : handsI (m : Int) (q : Int) = handsF (m - 0) q 0 := by unfold handsI; rw [if_pos ⟨hn.1, hn.2, hk.1, hk.2⟩]; rfl
      rw [e]
      clear hn hk e
      go_enter Try.func22, Try.ntmps22
      go_wp2_with fail
      refine (in_any _ 1 8 _).mono ?_
      rintro e w1 ⟨rfl, rfl⟩
      rw [HN.out]
      go_wp2_with fail
      refine (in_any _ 1 _ _).mono ?_
      rintro e w1 ⟨rfl, rfl⟩
      rw [HK.out]
      go_wp2_with fail
      refine HC.out.mono ?_
      rintro e w1 ⟨A, c, rs, rfl, h⟩
      have HH := Lib.hid h
      clear h
      go_wp2
      go_ret
      exact ⟨A, c, rs, rfl, HH.out⟩
    · have HK := Lib.hid (decide_eq_false hk)
      have e : handsI n k = [] := by unfold handsI; rw [if_neg (fun h => hk h.2.2)]
      rw [e]
      clear hn hk e
      go_enter Try.func22, Try.ntmps22
      go_wp2_with fail
      refine (in_any _ 1 8 _).mono ?_
      rintro e w1 ⟨rfl, rfl⟩
      rw [HN.out]
      go_wp2_with fail
      refine (in_any _ 1 _ _).mono ?_
      rintro e w1 ⟨rfl, rfl⟩
      rw [HK.out]
      go_wp2
      go_ret
      exact nil_ss _ _ (Nat.le_refl _)
  · have HN := Lib.hid (decide_eq_false hn)
    have e : handsI n k = [] := by unfold handsI; rw [if_neg (fun h => hn ⟨h.1, h.2.1⟩)]
    rw [e]
    clear hn e
    go_enter Try.func22, Try.ntmps22
    go_wp2_with fail
    refine (in_any _ 1 8 _).mono ?_
    rintro e w1 ⟨rfl, rfl⟩
    rw [HN.out]
    go_wp2
    go_ret
    exact nil_ss _ _ (Nat.le_refl _)
end Go.Proofs.Ytingbpkbdafgeaa.Hnd
