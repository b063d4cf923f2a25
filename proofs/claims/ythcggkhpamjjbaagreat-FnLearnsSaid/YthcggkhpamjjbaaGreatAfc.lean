/- What is known after a choice (AfterChoice), of the model and of the program. -/
import Derived.Test.YthcggkhpamjjbaaGreatKni
import Derived.Test.YthcggkhpamjjbaaGreatRcx
set_option linter.unusedVariables false
set_option maxRecDepth 20000
namespace Go.Proofs.YthcggkhpamjjbaaGreat.Afc
open Go.RowKit Fr _root_.Go.Proofs.YthcggkhpamjjbaaGreat.Own Pk Ins Pok Rws Lb Cat Srt Sst Arr Kno Kns Raf

def choB (k : Int) (zss : List (List Int)) : Bool := knowB zss && raB k zss
def choF (k : Int) (zss : List (List Int)) : List (List Int) := if knowB zss = true then raR k zss else []
theorem cho_big (k : Int) (zss : List (List Int)) : Big.BigSS (choF k zss) := by
  unfold choF
  split
  · exact Rcw.raR_big k zss
  · exact ⟨Nat.zero_le _, Nat.zero_le _⟩
theorem ssb_mono {B B' : Nat} {zss : List (List Int)} {b : Bool} {w w0 w' : World} {e : Ending} (h : Big.IsSSB B' zss b w e w') (hb : Below B w0 w) (hB : B ≤ B') : Big.IsSSB B zss b w0 e w' := by
  obtain ⟨A, c, rs, h1, h2, h3, h4⟩ := h
  exact ⟨A, c, rs, h1, h2, ⟨own_mono h3.1 hB, fun i hi => ⟨own_mono (h3.2.1 i hi).1 hB, (h3.2.1 i hi).2⟩, h3.2.2⟩, hb.trans (h4.mono hB)⟩
set_option maxHeartbeats 2000000 in
theorem spec_choice (A : Option Addr) (n c : Nat) (ls : List RD) (k : Int) (w : World) (hn : ls.length = n) (hat : SSAt w w.heap.size A ls) (hf : ∀ i, i < n → Fits (ls.getD i rd0).zs) (hz : ∀ i, i < n → (ls.getD i rd0).zs.length ≤ 1048576) (hcp : ∀ i, i < n → (ls.getD i rd0).zs.length ≤ (ls.getD i rd0).c) (hn2 : n ≤ 1048576) :
    Calls Tryz.prog 15 #[.slice A n c, .int .i64 k] w (Big.IsSSB w.heap.size (choF k (ls.map RD.zs)) (choB k (ls.map RD.zs)) w) := by
  have CK := spec_know A n c ls w hn hat hf hz hn2
  cases hkb : knowB (ls.map RD.zs) with
  | false =>
    have e1 : choF k (ls.map RD.zs) = [] := by unfold choF; rw [hkb]; rfl
    have e2 : choB k (ls.map RD.zs) = false := by unfold choB; rw [hkb]; rfl
    rw [hkb] at CK
    rw [e1, e2]
    clear hn hat hf hz hcp hkb e1 e2
    go_enter Tryz.func15, Tryz.ntmps15
    go_wp2_with fail
    refine CK.mono ?_
    rintro e w1 ⟨rfl, hb1⟩
    go_wp2
    go_ret2
    exact ⟨none, 0, [], rfl, rfl, SSRow.empty (World.ownsRow_nil _ _ _ _), hb1⟩
  | true =>
    have e1 : choF k (ls.map RD.zs) = raR k (ls.map RD.zs) := by unfold choF; rw [if_pos hkb]
    have e2 : choB k (ls.map RD.zs) = raB k (ls.map RD.zs) := by unfold choB; rw [hkb]; rfl
    rw [hkb] at CK
    rw [e1, e2]
    have CR := fun (W : World) (hW : Below w.heap.size w W) => Rcw.spec_ra A n c ls k W hn ((hat.below hW).more hW.size) hf hz hcp hn2
    clear hn hat hf hz hcp hkb e1 e2
    generalize raR k (ls.map RD.zs) = R at *
    generalize raB k (ls.map RD.zs) = G at *
    go_enter Tryz.func15, Tryz.ntmps15
    go_wp2_with fail
    refine CK.mono ?_
    rintro e w1 ⟨rfl, hb1⟩
    have CR1 := CR w1 hb1
    go_wp2_with fail
    refine CR1.mono ?_
    rintro e w2 h2
    obtain ⟨A5, c5, rs5, rfl, hz5, ho5, hb5⟩ := ssb_mono h2 hb1 hb1.size
    clear h2 CR CR1 CK
    go_wp2
    go_ret2
    exact ⟨A5, c5, rs5, rfl, hz5, ho5, hb5⟩
set_option maxHeartbeats 2000000 in
theorem impl_choice (A : Option Addr) (n c : Nat) (ls : List RD) (k : Int) (w : World) (hn : ls.length = n) (hat : SSAt w w.heap.size A ls) (hf : ∀ i, i < n → Fits (ls.getD i rd0).zs) (hz : ∀ i, i < n → (ls.getD i rd0).zs.length ≤ 1048576) (hcp : ∀ i, i < n → (ls.getD i rd0).zs.length ≤ (ls.getD i rd0).c) (hn2 : n ≤ 1048576) :
    Calls Tryz.prog 8 #[.slice A n c, .int .i64 k] w (Big.IsSSB w.heap.size (choF k (ls.map RD.zs)) (choB k (ls.map RD.zs)) w) := by
  have CK := Kni.impl_know A n c ls w hn hat hf hz hn2
  cases hkb : knowB (ls.map RD.zs) with
  | false =>
    have e1 : choF k (ls.map RD.zs) = [] := by unfold choF; rw [hkb]; rfl
    have e2 : choB k (ls.map RD.zs) = false := by unfold choB; rw [hkb]; rfl
    rw [hkb] at CK
    rw [e1, e2]
    clear hn hat hf hz hcp hkb e1 e2
    go_enter Tryz.func8, Tryz.ntmps8
    go_wp2_with fail
    refine CK.mono ?_
    rintro e w1 ⟨rfl, hb1⟩
    go_wp2
    go_ret2
    exact ⟨none, 0, [], rfl, rfl, SSRow.empty (World.ownsRow_nil _ _ _ _), hb1⟩
  | true =>
    have e1 : choF k (ls.map RD.zs) = raR k (ls.map RD.zs) := by unfold choF; rw [if_pos hkb]
    have e2 : choB k (ls.map RD.zs) = raB k (ls.map RD.zs) := by unfold choB; rw [hkb]; rfl
    rw [hkb] at CK
    rw [e1, e2]
    have CR := fun (W : World) (hW : Below w.heap.size w W) => Ra.impl_ra A n c ls k W hn ((hat.below hW).more hW.size) hf hz hn2
    clear hn hat hf hz hcp hkb e1 e2
    generalize raR k (ls.map RD.zs) = R at *
    generalize raB k (ls.map RD.zs) = G at *
    go_enter Tryz.func8, Tryz.ntmps8
    go_wp2_with fail
    refine CK.mono ?_
    rintro e w1 ⟨rfl, hb1⟩
    have CR1 := CR w1 hb1
    go_wp2_with fail
    refine CR1.mono ?_
    rintro e w2 h2
    obtain ⟨A5, c5, rs5, rfl, hz5, ho5, hb5⟩ := ssb_mono h2 hb1 hb1.size
    clear h2 CR CR1 CK
    go_wp2
    go_ret2
    exact ⟨A5, c5, rs5, rfl, hz5, ho5, hb5⟩
end Go.Proofs.YthcggkhpamjjbaaGreat.Afc
