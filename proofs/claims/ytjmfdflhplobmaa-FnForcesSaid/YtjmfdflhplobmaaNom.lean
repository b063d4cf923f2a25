/- What the laws' helper markText does; lists of nodes marked (markNodeS) and looked at again (heldNodeS). -/
import Derived.Test.YtjmfdflhplobmaaNod
import Derived.Deep.RegionHeld3
import Derived.Laws.BytesArg
set_option linter.unusedVariables false
set_option maxRecDepth 20000
namespace Go.Proofs.Ytjmfdflhplobmaa.Nom
open Go.RowKit Fr _root_.Go.Proofs.Ytjmfdflhplobmaa.Own Pk Ins Rws Fpl Nod

/-- decimal digits in front of what is there -/
def decF : Nat → Nat → List UInt8 → List UInt8
  | 0, _, acc => acc
  | f + 1, k, acc => if k = 0 then acc else decF f (k / 10) (UInt8.ofNat (48 + k % 10) :: acc)
def markL (k : Nat) : List UInt8 := 109 :: decF k k []

theorem decF_zero (f : Nat) (acc : List UInt8) : decF f 0 acc = acc := by cases f <;> simp [decF]
theorem decF_len (f k : Nat) (acc : List UInt8) : (decF f k acc).length ≤ f + acc.length := by
  induction f generalizing k acc with
  | zero => simp [decF]
  | succ f ih =>
    unfold decF
    split
    · omega
    · have := ih (k / 10) (UInt8.ofNat (48 + k % 10) :: acc)
      simp only [List.length_cons] at this
      omega

/-- a string of one byte, out of a slice of one byte that has just been made -/
theorem run_one_byte (w : World) (n : Int) : (convert 22 9 (.slice (some ⟨w.heap.size, 0, none⟩) 1 1)).run Try.prog (w.alloc (.cells #[.int .u8 n] 5)) = .ok (.string ⟨#[UInt8.ofNat n.toNat]⟩) (w.alloc (.cells #[.int .u8 n] 5)) := by
  have := run_convert_bytes_arg (P := Try.prog) (w.alloc (.cells #[.int .u8 n] 5)) 22 5 Try.underlying22 Try.underlying5 w.heap.size 0 1 1 [n] rfl
    (fun i hi => by
      obtain rfl : i = 0 := by omega
      rw [Lib.cell_of_heap (heap_alloc_new w _)]; rfl) 9 Try.underlying9
  exact this

theorem byte_cat (c : UInt8) (t : ByteArray) (acc : List UInt8) (h : t = ⟨acc.toArray⟩) : (ByteArray.mk #[c] ++ t) = ⟨(c :: acc).toArray⟩ := by
  rw [h]; exact ByteArray.mk_append_mk [c] acc

set_option maxHeartbeats 1000000 in
theorem text_any (k : Nat) (w : World) (h0 : 0 < k) (h1 : k ≤ 4194304) :
    Calls Try.prog 60 #[.int .i64 (k : Int)] w fun e w' => e = .returned (.string ⟨(markL k).toArray⟩) ∧ Below w.heap.size w w' := by
  go_enter Try.func60, Try.ntmps60
  go_wp2
  go_loopw [0, 3] (fun n out wr => ∃ (f j : Nat) (acc : List UInt8), j ≤ k ∧ j ≤ f ∧ acc.length + f ≤ k ∧ Hid (decF f j acc = decF k k []) ∧ n = .int .i64 (j : Int) ∧ (∃ t : ByteArray, Hid (t = ⟨acc.toArray⟩) ∧ out = .string t) ∧ Below w.heap.size w wr) (fun n _ _ => (intOf n).toNat)
  case atStart => exact ⟨k, k, [], Nat.le_refl _, Nat.le_refl _, by simp, rfl, rfl, ⟨_, rfl, rfl⟩, Below.refl _ w⟩
  case round =>
    obtain ⟨f, j, acc, hjk, hjf, hacc, HD, rfl, ⟨t, HT, rfl⟩, hb⟩ := hrel
    have hts : t.size = acc.length := by rw [HT.out]; simp [ByteArray.size]
    by_cases hj : 0 < j
    · obtain ⟨f, rfl⟩ : ∃ g, f = g + 1 := ⟨f - 1, by omega⟩
      have hone := run_one_byte wr (48 + (j : Int) % 10)
      have hd : decF f (j / 10) (UInt8.ofNat (48 + j % 10) :: acc) = decF k k [] := by
        rw [← HD.out]
        conv => rhs; unfold decF
        rw [if_neg (by omega)]
      have hc : UInt8.ofNat (48 + (j : Int) % 10).toNat = UInt8.ofNat (48 + j % 10) := by congr 1
      rw [hc] at hone
      generalize UInt8.ofNat (48 + j % 10) = x at hone hd
      have hcat := byte_cat x t acc HT.out
      have hxs : (ByteArray.mk #[x]).size = 1 := rfl
      have HC := Lib.hid hcat
      have HDD := Lib.hid hd
      have HTS := Lib.hid hts
      have htb : t.size ≤ 4194304 := by omega
      have hxb : (ByteArray.mk #[x]).size + t.size ≤ 9223372036854775807 := by rw [hxs]; omega
      have hb2 := hb.alloc hb.size (.cells #[.int .u8 (48 + (j : Int) % 10)] 5)
      have HB2 := Lib.hid hb2
      clear hcat hd hts hc hxs hb2
      go_wp2
      go_roundw
      case rel =>
        refine ⟨f, j / 10, x :: acc, by omega, by omega, by simp only [List.length_cons]; omega, HDD.out, by go_num, ⟨_, HC.out, rfl⟩, HB2.out⟩
      case measure => simp [intOf]; omega
    · have hj0 : j = 0 := by omega
      have hfin : ByteArray.mk #[109] ++ t = ⟨(markL k).toArray⟩ := by
        rw [byte_cat 109 t acc HT.out, markL, ← HD.out, hj0, decF_zero]
      have HF := Lib.hid hfin
      have htb : (ByteArray.mk #[109]).size + t.size ≤ 9223372036854775807 := by
        have : (ByteArray.mk #[109]).size = 1 := rfl
        omega
      clear hfin hj0 hts
      go_wp2
      go_ret
      exact ⟨congrArg (fun x => Ending.returned (.string x)) HF.out, hb⟩

def mtx (k : Nat) : ByteArray := ⟨(markL k).toArray⟩
/-! ### a list of nodes marked -/
/-- where the marks of node j begin, from 0 on -/
def mpos (rs : List NR) : Nat → Nat
  | 0 => 0
  | j + 1 => mpos rs j + ((rs.getD j nr0).zs.length + 2)
theorem mpos_mono (rs : List NR) (i j : Nat) (h : i ≤ j) : mpos rs i ≤ mpos rs j := by
  induction j with
  | zero => rw [Nat.le_zero.1 h]; exact Nat.le_refl _
  | succ j ih =>
    by_cases e : i = j + 1
    · rw [e]; exact Nat.le_refl _
    · have := ih (by omega); simp only [mpos]; omega
def nm1 (q : Nat) (r : NR) : NR := ⟨mtx q, r.A, r.c, imarks ((q + 1 : Nat) : Int) r.zs.length, ((q + 1 + r.zs.length : Nat) : Int)⟩
/-- the first j nodes are marked, from k on -/
def nmk (k : Nat) (rs : List NR) (j : Nat) : List NR := (List.range rs.length).map fun i => if i < j then nm1 (k + mpos rs i) (rs.getD i nr0) else rs.getD i nr0
theorem nmk_len (k : Nat) (rs : List NR) (j : Nat) : (nmk k rs j).length = rs.length := by simp [nmk]
theorem nmk_get (k : Nat) (rs : List NR) (j i : Nat) (h : i < rs.length) : (nmk k rs j).getD i nr0 = if i < j then nm1 (k + mpos rs i) (rs.getD i nr0) else rs.getD i nr0 := by
  simp [nmk, List.getD_eq_getElem?_getD, h]
theorem nmk_old (k : Nat) (rs : List NR) (j i : Nat) (h : i < rs.length) (hj : j ≤ i) : (nmk k rs j).getD i nr0 = rs.getD i nr0 := by
  rw [nmk_get k rs j i h, if_neg (by omega)]
theorem nmk_new (k : Nat) (rs : List NR) (j i : Nat) (h : i < rs.length) (hj : i < j) : (nmk k rs j).getD i nr0 = nm1 (k + mpos rs i) (rs.getD i nr0) := by
  rw [nmk_get k rs j i h, if_pos hj]
theorem nmk_zero (k : Nat) (rs : List NR) : nmk k rs 0 = rs := by
  refine List.ext_getElem (by simp [nmk]) fun i h1 h2 => ?_
  simp [nmk, List.getD_eq_getElem?_getD, h2]
theorem nmk_A (k : Nat) (rs : List NR) (j i : Nat) (h : i < rs.length) : ((nmk k rs j).getD i nr0).A = (rs.getD i nr0).A ∧ ((nmk k rs j).getD i nr0).c = (rs.getD i nr0).c ∧ ((nmk k rs j).getD i nr0).zs.length = (rs.getD i nr0).zs.length := by
  rw [nmk_get k rs j i h]; split
  · exact ⟨rfl, rfl, imarks_length _ _⟩
  · exact ⟨rfl, rfl, rfl⟩
/-- what a node holds is another one -/
theorem Lies3.set_ {xs : List Value} {rs ss : List NR} {j : Nat} (h : Lies3 xs rs) (hl : ss.length = rs.length) (hj : j < rs.length) (hk : j * 3 + 2 < xs.length) (hs : ∀ i, i < rs.length → i ≠ j → ss.getD i nr0 = rs.getD i nr0) :
    Lies3 (((xs.set (j * 3) (.string (ss.getD j nr0).say)).set (j * 3 + 1) (ss.getD j nr0).sv).set (j * 3 + 2) (.int .i64 (ss.getD j nr0).fin)) ss := by
  intro i hi
  rw [hl] at hi
  by_cases hij : i = j
  · subst hij
    refine ⟨?_, ?_, ?_⟩
    · rw [List.getElem?_set_ne (by omega), List.getElem?_set_ne (by omega), List.getElem?_set_self (by omega)]
    · rw [List.getElem?_set_ne (by omega), List.getElem?_set_self (by rw [List.length_set]; omega)]
    · rw [List.getElem?_set_self (by rw [List.length_set, List.length_set]; omega)]
  · rw [hs i hi hij]
    have := h i hi
    refine ⟨?_, ?_, ?_⟩
    · rw [List.getElem?_set_ne (by omega), List.getElem?_set_ne (by omega), List.getElem?_set_ne (by omega)]; exact this.1
    · rw [List.getElem?_set_ne (by omega), List.getElem?_set_ne (by omega), List.getElem?_set_ne (by omega)]; exact this.2.1
    · rw [List.getElem?_set_ne (by omega), List.getElem?_set_ne (by omega), List.getElem?_set_ne (by omega)]; exact this.2.2
theorem set_same {xs : List Value} {i : Nat} {v : Value} (h : xs[i]? = some v) : xs.set i v = xs := by
  refine List.ext_getElem (by simp) fun k h1 h2 => ?_
  rw [List.getElem_set]
  split
  · rename_i e; subst e; rw [List.getElem?_eq_getElem h2] at h; exact (Option.some.inj h).symm
  · rfl
theorem wi_refl' {lo hi : Nat} (W : World) : Wi lo hi W W := Wi.refl lo hi W
theorem wi_below {lo hi : Nat} {W W' : World} (h : Below W.heap.size W W') : Wi lo hi W W' := ⟨h.os, h.tape, h.output, h.size, fun k hk _ => h.block k hk⟩
theorem wi_trans {lo hi : Nat} {W W1 W2 : World} (h : Wi lo hi W W1) (h2 : Wi lo hi W1 W2) : Wi lo hi W W2 :=
  ⟨h2.os.trans h.os, h2.tape.trans h.tape, h2.output.trans h.output, Nat.le_trans h.size h2.size, fun k hk ho => (h2.block k (Nat.lt_of_lt_of_le hk h.size) ho).trans (h.block k hk ho)⟩
/-- node j is marked: its text, then its list, then its end -/
theorem NPart.mark1 {W W1 W4 : World} {lo hi g : Nat} {n c k j : Nat} {rs : List NR} (h : NPart W lo hi (some ⟨g, 0, none⟩) n c (nmk k rs j)) (hj : j < rs.length) (hn : rs.length ≤ n) (hb : Below W.heap.size W W1)
    (ho : W4.ownsRow lo 3 1 (.slice (rs.getD j nr0).A (rs.getD j nr0).zs.length (rs.getD j nr0).c) (rs.getD j nr0).zs.length ((imarks ((k + mpos rs j + 1 : Nat) : Int) (rs.getD j nr0).zs.length).map (Value.int .i64)))
    (hg : (W1.setCell ⟨g, j * 3, none⟩ (.string (mtx (k + mpos rs j)))).grownBy W4 (rs.getD j nr0).b) :
    NPart (W4.setCell ⟨g, j * 3 + 2, none⟩ (.int .i64 ((k + mpos rs j + 1 + (rs.getD j nr0).zs.length : Nat) : Int))) lo hi (some ⟨g, 0, none⟩) n c (nmk k rs (j + 1)) ∧
    Wi lo hi W (W4.setCell ⟨g, j * 3 + 2, none⟩ (.int .i64 ((k + mpos rs j + 1 + (rs.getD j nr0).zs.length : Nat) : Int))) := by
  have hl := nmk_len k rs j
  have h1 := h.below hb
  obtain ⟨xs, own1, lies1⟩ := h1.1
  have hxl := own1.1
  have hgo := h.outlo g rfl
  have hgh := h.outhi g rfl
  have hin := h1.2.1 j (by rw [hl]; exact hj)
  rw [nmk_old k rs j j hj (Nat.le_refl _)] at hin
  have lj := lies1 j (by rw [hl]; exact hj)
  rw [nmk_old k rs j j hj (Nat.le_refl _)] at lj
  -- the inner list's block is another one than the outer's
  have hne : ∀ b, (rs.getD j nr0).b = some b → b ≠ g := fun b hb' e => own_diff own1 hin.1 (by decide) g rfl (by rw [← e]; exact hb')
  have st0 := own1.stored (j * 3) (.string (mtx (k + mpos rs j)))
  have own4 := own_gr st0.1 hg (fun q hq e => by
    simp only [Option.map_some, Option.some.injEq] at hq
    exact hne q e hq.symm)
  have st2 := own4.stored (j * 3 + 2) (.int .i64 ((k + mpos rs j + 1 + (rs.getD j nr0).zs.length : Nat) : Int))
  have hgf := st2.2
  have hs0 := st0.2.size
  have hs1 := hg.size
  have hs2 := hgf.size
  have hbs := hb.size
  have hWi : Wi lo hi W (W4.setCell ⟨g, j * 3 + 2, none⟩ (.int .i64 ((k + mpos rs j + 1 + (rs.getD j nr0).zs.length : Nat) : Int))) := by
    refine ⟨hgf.os.trans (hg.os.trans (st0.2.os.trans hb.os)), hgf.tape.trans (hg.tape.trans (st0.2.tape.trans hb.tape)), hgf.output.trans (hg.output.trans (st0.2.output.trans hb.output)), by omega, fun q hq ho' => ?_⟩
    refine (hgf.block q (by omega) (fun e => by simp at e; omega)).trans ((hg.block q (by omega) (fun e => ?_)).trans ((st0.2.block q (by omega) (fun e => by simp at e; omega)).trans (hb.block q hq)))
    have a1 := hin.lo q e.symm
    have a2 := hin.hi q e.symm
    omega
  refine ⟨⟨⟨_, st2.1, ?_⟩, fun i hi' => ?_, fun i i' hi' hi2 hne' b hbi => ?_, h.2.2.2.1, Nat.le_trans h.2.2.2.2 (by omega)⟩, hWi⟩
  · have := Lies3.set_ (xs := xs) (rs := nmk k rs j) (ss := nmk k rs (j + 1)) (j := j) lies1 (by rw [nmk_len, nmk_len]) (by rw [hl]; exact hj) (by omega) (fun i hi' hij => by
      rw [hl] at hi'
      rw [nmk_get k rs (j + 1) i hi', nmk_get k rs j i hi']
      by_cases e : i < j
      · rw [if_pos e, if_pos (by omega)]
      · rw [if_neg e, if_neg (by omega)])
    rw [nmk_new k rs (j + 1) j hj (by omega)] at this
    have e1 : (nm1 (k + mpos rs j) (rs.getD j nr0)).sv = (rs.getD j nr0).sv := by unfold nm1 NR.sv; simp only [imarks_length]
    rw [e1, set_same (i := j * 3 + 1) (by rw [List.getElem?_set_ne (by omega)]; exact lj.2.1)] at this
    exact this
  · rw [nmk_len] at hi'
    have hr := h1.2.1 i (by rw [hl]; exact hi')
    by_cases e : i = j
    · subst e
      rw [nmk_new k rs (i + 1) i hi' (by omega)]
      have hr4 : W4.ownsRow lo 3 1 (.slice (rs.getD i nr0).A (nm1 (k + mpos rs i) (rs.getD i nr0)).zs.length (rs.getD i nr0).c) (nm1 (k + mpos rs i) (rs.getD i nr0)).zs.length ((nm1 (k + mpos rs i) (rs.getD i nr0)).zs.map (Value.int .i64)) := by
        unfold nm1
        simp only [imarks_length]
        exact ho
      exact ⟨own_gr hr4 hgf (fun q hq e => hne q hq (by simpa using e.symm)), hin.2.1, by have := hin.2.2; omega⟩
    · have heq : (nmk k rs (j + 1)).getD i nr0 = (nmk k rs j).getD i nr0 := by
        rw [nmk_get k rs (j + 1) i hi', nmk_get k rs j i hi']
        by_cases e1 : i < j
        · rw [if_pos e1, if_pos (by omega)]
        · rw [if_neg e1, if_neg (by omega)]
      rw [heq]
      have hap := h.2.2.1 i j (by rw [hl]; exact hi') (by rw [hl]; exact hj) e
      have hjb : ((nmk k rs j).getD j nr0).b = (rs.getD j nr0).b := by unfold NR.b; rw [(nmk_A k rs j j hj).1]
      have hd : ∀ q, ((nmk k rs j).getD i nr0).A.map (·.block) = some q → q ≠ g := fun q hq e => own_diff own1 hr.1 (by decide) g rfl (by rw [← e]; exact hq)
      refine ⟨own_gr (own_gr (own_gr hr.1 st0.2 (fun q hq e => hd q hq (by simpa using e.symm))) hg (fun q hq e => hap q hq (by rw [hjb]; exact e))) hgf (fun q hq e => hd q hq (by simpa using e.symm)), hr.2.1, by have := hr.2.2; omega⟩
  · rw [nmk_len] at hi' hi2
    unfold NR.b at hbi ⊢
    rw [(nmk_A k rs (j + 1) i hi').1] at hbi
    rw [(nmk_A k rs (j + 1) i' hi2).1]
    have := h.2.2.1 i i' (by rw [hl]; exact hi') (by rw [hl]; exact hi2) hne' b (by unfold NR.b; rw [(nmk_A k rs j i hi').1]; exact hbi)
    unfold NR.b at this
    rw [(nmk_A k rs j i' hi2).1] at this
    exact this

set_option maxHeartbeats 1000000 in
theorem mark_nodes (lo hi : Nat) (A : Option Addr) (n c : Nat) (rs : List NR) (k : Nat) (w : World) (hk0 : 1 ≤ k) (hkn : k + mpos rs n ≤ 4194304) (hn : n ≤ 1048576) (h : NRow w lo hi A n c rs) :
    Calls Try.prog 32 #[.slice A n c, .int .i64 (k : Int)] w fun e w' => e = .returned (.int .i64 ((k + mpos rs n : Nat) : Int)) ∧ NRow w' lo hi A n c (nmk k rs n) ∧ Wi lo hi w w' := by
  have HL := Lib.hid h.2
  have H0 := Lib.hid (show NPart w lo hi A n c (nmk k rs 0) by rw [nmk_zero]; exact h.1)
  have HM := Lib.hid (mpos_mono rs)
  clear h
  go_enter Try.func32, Try.ntmps32
  go_wp2
  go_loopw [1, 5] (fun q i wr => ∃ j : Nat, j ≤ n ∧ i = .int .i64 j ∧ q = .int .i64 ((k + mpos rs j : Nat) : Int) ∧ Hid (NPart wr lo hi A n c (nmk k rs j)) ∧ Hid (Wi lo hi w wr)) (fun _ i _ => n - (intOf i).toNat)
  case atStart => exact ⟨0, Nat.zero_le _, rfl, by simp [mpos], H0, Lib.hid (Wi.refl _ _ _)⟩
  case round =>
    obtain ⟨j, hj, rfl, rfl, HP, HW⟩ := hrel
    clear H0
    by_cases hlt : j < n
    · have hjl : j < rs.length := by rw [HL.out]; exact hlt
      obtain ⟨xs, own, lies⟩ := HP.out.1
      obtain ⟨g, rfl⟩ := own3_shape own (by omega)
      have hxl := own.1
      have hin := HP.out.2.1 j (by rw [nmk_len]; exact hjl)
      have lj := lies j (by rw [nmk_len]; exact hjl)
      rw [nmk_old k rs j j hjl (Nat.le_refl _)] at hin lj
      have hne : ∀ b, (rs.getD j nr0).b = some b → b ≠ g := fun b hb' e => own_diff own hin.1 (by decide) g rfl (by rw [← e]; exact hb')
      have hstep := fun W1 W4 => @NPart.mark1 wr W1 W4 lo hi g n c k j rs HP.out hjl (by rw [HL.out]; exact Nat.le_refl _)
      have hpos : mpos rs (j + 1) = mpos rs j + ((rs.getD j nr0).zs.length + 2) := rfl
      have hmono := HM.out (j + 1) n (by omega)
      simp only [NR.b] at hstep hne
      unfold NR.sv at lj
      have hrowin := hin
      generalize (rs.getD j nr0).A = A1 at hstep hrowin lj hne
      generalize (rs.getD j nr0).c = c1 at hstep hrowin lj
      generalize (rs.getD j nr0).zs = zs at hstep hrowin lj hpos
      generalize (rs.getD j nr0).say = s1 at lj
      generalize (rs.getD j nr0).fin = m1 at lj
      obtain ⟨m, hm⟩ : ∃ m, m = zs.length := ⟨_, rfl⟩
      rw [← hm] at hstep hrowin lj hpos
      obtain ⟨q, hq⟩ : ∃ q, q = k + mpos rs j := ⟨_, rfl⟩
      rw [← hq] at hstep ⊢
      have HQ2 := Lib.hid (show q + 1 + m + 1 = k + mpos rs (j + 1) by omega)
      have hqb : q + m + 2 ≤ 4194304 := by omega
      have hq1 : 1 ≤ q := by omega
      have HSTEP := Lib.hid hstep
      have HIN := Lib.hid hrowin
      have HO := Lib.hid own
      have hg0 : wr.cell? ⟨g, j * 3, none⟩ = some (.string s1) := by rw [own.cellAt _ (by omega)]; exact lj.1
      have hg1 : wr.cell? ⟨g, j * 3 + 1, none⟩ = some (.slice A1 m c1) := by rw [own.cellAt _ (by omega)]; exact lj.2.1
      have hg2 : wr.cell? ⟨g, j * 3 + 2, none⟩ = some (.int .i64 m1) := by rw [own.cellAt _ (by omega)]; exact lj.2.2
      have hgw : g < wr.heap.size := (own.lt g rfl).2
      have hfz := own.frozenAt (j * 3)
      have hfz2 := own.frozenAt (j * 3 + 2)
      have LJ := Lib.hid lj
      clear hstep hrowin own lies lj hin hm hq hpos hmono hj
      go_wp2_with fail
      refine (text_any q wr (by omega) (by omega)).mono ?_
      rintro e w1 ⟨rfl, hb1⟩
      have h0 := HO.out
      have own1 := own_below HO.out hb1
      have k0 := (hb1.cell (p := ⟨g, j * 3, none⟩) hgw).trans hg0
      have f0 := own1.frozenAt (j * 3)
      have st0 := own1.stored (j * 3) (.string ⟨(markL q).toArray⟩)
      obtain ⟨w2, hw2⟩ : ∃ w2, w2 = w1.setCell ⟨g, j * 3, none⟩ (.string ⟨(markL q).toArray⟩) := ⟨_, rfl⟩
      rw [← hw2] at st0
      have hs1 := hb1.size
      have hs2 := st0.2.size
      have k1 : w2.cell? ⟨g, j * 3 + 1, none⟩ = some (.slice A1 m c1) := by
        rw [st0.1.cellAt _ (by omega), List.getElem?_set_ne (by omega)]; exact LJ.out.2.1
      have in2 : w2.ownsRow lo 3 1 (.slice A1 m c1) m (zs.map (Value.int .i64)) := own_gr (own_below HIN.out.1 hb1) st0.2 (fun q hq e => hne q hq (by simpa using e.symm))
      have HI2 := Lib.hid in2
      have HO2 := Lib.hid st0.1
      have HB1 := Lib.hid hb1
      have HW2 := Lib.hid hw2
      clear own1 st0 h0 hb1 in2
      have hfz' := hfz
      clear hfz hfz2 hfz' hg0 hg1 hg2
      replace hw2 := hw2.symm
      go_wp2_with fail
      clear hw2
      refine (mark_any lo ((q : Int) + 1) m A1 c1 _ w2 (by omega) (by omega) HI2.out).mono ?_
      rintro e w4 ⟨rfl, ho4, hg4⟩
      have own4 := own_gr HO2.out hg4 (fun r hr e => by
        simp only [Option.map_some, Option.some.injEq] at hr
        exact hne r e hr.symm)
      have k2 : w4.cell? ⟨g, j * 3 + 2, none⟩ = some (.int .i64 m1) := by
        rw [own4.cellAt _ (by omega), List.getElem?_set_ne (by omega)]; exact LJ.out.2.2
      have f2 := own4.frozenAt (j * 3 + 2)
      have hfin := HSTEP.out w1 w4 HB1.out (by
        have e1 : (((q + 1 : Nat)) : Int) = (q : Int) + 1 := by omega
        rw [e1]
        exact ho4) (by rw [HW2.out] at hg4; exact hg4)
      have e2 : ((q + 1 + m : Nat) : Int) = (q : Int) + 1 + (m : Int) := by omega
      rw [e2] at hfin
      have HF := Lib.hid hfin
      clear own4 ho4 hg4 hfin e2 k0 k1 f0 hne hs1 hs2 hgw hxl
      go_wp2
      go_roundw
      case rel => exact ⟨j + 1, by omega, by go_num, by rw [← HQ2.out]; go_num, HF.out.1, wi_trans HW.out HF.out.2⟩
      case measure => simp [intOf]; omega
    · have hjn : j = n := by omega
      subst hjn
      clear hlt hj
      go_wp2
      go_ret
      exact ⟨rfl, ⟨HP.out, by rw [nmk_len]; exact HL.out⟩, HW.out⟩

set_option maxHeartbeats 1000000 in
theorem held_nodes (lo hi : Nat) (A : Option Addr) (n c : Nat) (rs : List NR) (k : Nat) (w : World) (hk0 : 1 ≤ k) (hkn : k + mpos rs n ≤ 4194304) (hn : n ≤ 1048576) (h : NRow w lo hi A n c (nmk k rs n)) :
    Calls Try.prog 41 #[.slice A n c, .int .i64 (k : Int)] w fun e w' => e = .returned (.int .i64 ((k + mpos rs n : Nat) : Int)) ∧ Below w.heap.size w w' := by
  have HL := Lib.hid (show rs.length = n by have := h.2; rwa [nmk_len] at this)
  have HAT := Lib.hid h.at_
  have HM := Lib.hid (mpos_mono rs)
  clear h
  go_enter Try.func41, Try.ntmps41
  go_wp2
  go_loopw [1, 5] (fun q i wr => ∃ j : Nat, j ≤ n ∧ i = .int .i64 j ∧ q = .int .i64 ((k + mpos rs j : Nat) : Int) ∧ Hid (Below w.heap.size w wr)) (fun _ i _ => n - (intOf i).toNat)
  case atStart => exact ⟨0, Nat.zero_le _, rfl, by simp [mpos], Lib.hid (Below.refl _ _)⟩
  case round =>
    obtain ⟨j, hj, rfl, rfl, HB⟩ := hrel
    by_cases hlt : j < n
    · have hjl : j < rs.length := by rw [HL.out]; exact hlt
      obtain ⟨b, o, rfl, hbb, hc0, hc1, hc2, hi4⟩ := (HAT.out.below HB.out) j (by rw [nmk_len]; exact hjl)
      rw [nmk_new k rs n j hjl hlt] at hc0 hc1 hc2 hi4
      have hpos : mpos rs (j + 1) = mpos rs j + ((rs.getD j nr0).zs.length + 2) := rfl
      have hmono := HM.out (j + 1) n (by omega)
      unfold NR.sv at hc1
      unfold nm1 at hc0 hc1 hc2 hi4
      simp only [imarks_length] at hc0 hc1 hc2 hi4
      generalize (rs.getD j nr0).A = A1 at hc1 hi4
      generalize (rs.getD j nr0).c = c1 at hc1
      generalize (rs.getD j nr0).zs.length = m at hc1 hi4 hc2 hpos
      obtain ⟨q, hq⟩ : ∃ q, q = k + mpos rs j := ⟨_, rfl⟩
      rw [← hq] at hc0 hc2 hi4 ⊢
      have HQ2 := Lib.hid (show q + 1 + m + 1 = k + mpos rs (j + 1) by omega)
      have hqb : q + m + 2 ≤ 4194304 := by omega
      have hq1 : 1 ≤ q := by omega
      have e1 : (((q + 1 : Nat)) : Int) = (q : Int) + 1 := by omega
      have e2 : ((q + 1 + m : Nat) : Int) = (q : Int) + 1 + (m : Int) := by omega
      rw [e1] at hi4
      rw [e2] at hc2
      have hw1 : b < wr.heap.size := Nat.lt_of_lt_of_le hbb HB.out.size
      have HI := Lib.hid (hi4.more HB.out.size)
      have hj0 : (0 : Int) ≤ (j : Int) := by omega
      have hj1 : (j : Int) < (n : Int) := by omega
      unfold mtx at hc0
      generalize hT : (⟨(markL q).toArray⟩ : ByteArray) = T at hc0
      have HC := Lib.hid (fun (w' : World) => text_any q w' (by omega) (by omega))
      rw [hT] at HC
      clear hi4 hq hpos hmono hj e1 e2 hT
      go_wp2_with fail
      go_region_held3 (fun w' => w'.cell? ⟨b, o + j * 3, none⟩ = some (.string T)) ((first | exact hc0 | exact (hb5.cell (p := ⟨b, o + j * 3, none⟩) hw1).trans hc0)) ((first | (go_at_call 60; refine (HC.out _).mono ?_; rintro e w5 ⟨rfl, hb5⟩)))
      have hb6 : Below wr.heap.size wr w5 := (Below.refl _ wr).drew.trans (hb5.mono (Nat.le_refl _))
      have k1 := (hb6.cell (p := ⟨b, o + j * 3 + 1, none⟩) hw1).trans hc1
      have k2 := (hb6.cell (p := ⟨b, o + j * 3 + 2, none⟩) hw1).trans hc2
      have HI5 := Lib.hid ((HI.out.below hb6).more hb6.size)
      have HB6 := Lib.hid (HB.out.trans (hb6.mono HB.out.size))
      have d1 : decide ((q : Int) + 1 + (m : Int) < 0) = false := decide_eq_false (by omega)
      clear hb5 hb6 HB HI HC hc0 hc1 hc2 hw1
      go_wp2_with fail
      refine (held_any ((q : Int) + 1) m c1 A1 w5 (by omega) (by omega) HI5.out).mono ?_
      rintro e w6 ⟨rfl, rfl⟩
      go_wp2
      go_roundw
      case rel => exact ⟨j + 1, by omega, by go_num, by rw [← HQ2.out]; go_num, HB6⟩
      case measure => simp [intOf]; omega
    · have hjn : j = n := by omega
      subst hjn
      clear hlt hj
      go_wp2
      go_ret
      exact ⟨rfl, HB.out⟩
end Go.Proofs.Ytjmfdflhplobmaa.Nom
