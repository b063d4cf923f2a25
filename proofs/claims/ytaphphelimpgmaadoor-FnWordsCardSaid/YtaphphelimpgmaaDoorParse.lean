/- The contracts of the two functions ParseInt: the int that is written so and true, or 0 and false, for every string of at most 2^48 bytes. -/
import Derived.Test.YtaphphelimpgmaaDoorFmtInt
import Derived.Test.YtaphphelimpgmaaDoorLaid
import Derived.Test.YtaphphelimpgmaaDoorDigS
import Derived.Test.YtaphphelimpgmaaDoorNumP
import Derived.Shelf.Strconv.ErrVarAll
import Derived.Lib.AtoiErrMem
import Derived.Lib.AtoiAllMem
set_option linter.unusedVariables false
namespace Go.Proofs.YtaphphelimpgmaaDoor.Par
open Go.RowKit Num Go.Lib

def Parsed (s : ByteArray) (w : World) (e : Ending) (w' : World) : Prop :=
  ∃ n ok, e = .returned (.tuple #[.int .i64 n, .bool ok]) ∧ Reads s.data.toList n ok ∧ Below w.heap.size w w'

theorem bounds {n : Int} {s : ByteArray} (h : atoiAll s.data.toList = .ok n) : inRange n := by
  obtain ⟨b1, b2⟩ := Lib.atoiAll_bounds h
  exact ⟨b1, by omega⟩

theorem no_read {s : ByteArray} (h : ∀ n, atoiAll s.data.toList ≠ .ok n) : ∀ m, inRange m → itoa m ≠ s.data.toList := by
  intro m hm e
  have := atoiAll_itoa m hm.1 hm.2
  rw [e] at this
  exact h m this

theorem bytes_below (w : World) (t : ByteArray) : Below w.heap.size w (Lib.bytesWorld w 5 t) := Lib.bytesWorld_below _ _ _

def Bad (w : World) (e : Ending) (w' : World) : Prop := ∃ (n : Int) (N : Nat), e = .returned (.tuple #[.int .i64 n, .iface 59 (.pointer (some ⟨N, 0, none⟩))]) ∧ Below w.heap.size w w'

theorem bad_one (s : ByteArray) (w : World) (hlim : s.size ≤ 281474976710656) (tp : TypeId) (p : Value) (hv : w.var? Tryd.prog "strconv.ErrSyntax" = some #[.iface tp p])
    (h1 : ∀ n, Lib.atoiAll s.data.toList ≠ .ok n) (h2 : Lib.atoiAll s.data.toList ≠ .range) : Calls Tryd.prog 18 #[.string s] w (Bad w) := by
  cases h : Lib.atoiAll s.data.toList
  · exact absurd h (h1 _)
  · exact (Any.strconv_Atoi_syntax_var Tryd.laysC172 s hlim h tp p w hv).mono fun e w' ⟨N, he, _, _, hb⟩ => ⟨_, N, he, hb⟩
  · exact absurd h h2
theorem bad_two (s : ByteArray) (w : World) (hlim : s.size ≤ 281474976710656) (tp : TypeId) (p : Value) (hv : w.var? Tryd.prog "strconv.ErrRange" = some #[.iface tp p]) (h : Lib.atoiAll s.data.toList = .range) : Calls Tryd.prog 18 #[.string s] w (Bad w) :=
  (Any.strconv_Atoi_range_var Tryd.laysC172 s hlim h tp p w hv).mono fun e w' ⟨N, he, _, _, hb⟩ => ⟨_, N, he, hb⟩

set_option maxHeartbeats 1000000 in
set_option maxRecDepth 100000 in
theorem impl_any (s : ByteArray) (w : World) (hlim : s.size ≤ 281474976710656) (htab : Lib.TabIs Tryd.prog w "internal/strconv.uint64pow10" .u64 Lib.pow10Tab)
    (tp1 : TypeId) (p1 : Value) (hv1 : w.var? Tryd.prog "strconv.ErrSyntax" = some #[.iface tp1 p1]) (tp2 : TypeId) (p2 : Value) (hv2 : w.var? Tryd.prog "strconv.ErrRange" = some #[.iface tp2 p2]) :
    Calls Tryd.prog 7 #[.string s] w (Parsed s w) := by
  cases h : Lib.atoiAll s.data.toList
  · rename_i v
    have hv := bounds h
    obtain ⟨hr1, hr2⟩ := hv
    by_cases he : itoa v = s.data.toList
    · have HR : Reads s.data.toList v true := Or.inl ⟨rfl, ⟨hr1, hr2⟩, he⟩
      have HE := Lib.hid he
      have H := Lib.hid h
      have hcmp : (itoa v == s.toList) = true := by rw [he, ByteArray.toList_eq]; simp
      clear h he
      go_enter Tryd.func7, Tryd.ntmps7
      go_wp2_with fail
      refine (Tryd.strconv_Atoi_ok s (by omega) v H.out _).mono ?_
      rintro e w1 ⟨rfl, hw⟩
      have hb1 : Below w.heap.size w w1 := by
        rcases hw with rfl | ⟨t, rfl⟩
        · exact Below.refl _ _
        · exact bytes_below w t
      have ht1 := Lay.tab_below htab hb1
      clear hw
      go_wp2_with fail
      refine (Fmt.impl_any v _ hr1 hr2 ht1).mono ?_
      rintro e w2 ⟨rfl, hb2⟩
      have hb3 := hb1.trans (hb2.mono hb1.size)
      go_wp2
      go_ret2
      exact ⟨v, true, rfl, HR, hb3⟩
    · have HR : Reads s.data.toList 0 false := Or.inr ⟨rfl, rfl, fun m hm e => he (by
        have h2 := atoiAll_itoa m hm.1 hm.2
        rw [e, h] at h2
        injection h2 with h2
        rw [h2]; exact e)⟩
      have H := Lib.hid h
      have hcmp : (itoa v == s.toList) = false := by rw [ByteArray.toList_eq]; simpa using he
      clear h he
      go_enter Tryd.func7, Tryd.ntmps7
      go_wp2_with fail
      refine (Tryd.strconv_Atoi_ok s (by omega) v H.out _).mono ?_
      rintro e w1 ⟨rfl, hw⟩
      have hb1 : Below w.heap.size w w1 := by
        rcases hw with rfl | ⟨t, rfl⟩
        · exact Below.refl _ _
        · exact bytes_below w t
      have ht1 := Lay.tab_below htab hb1
      clear hw
      go_wp2_with fail
      refine (Fmt.impl_any v _ hr1 hr2 ht1).mono ?_
      rintro e w2 ⟨rfl, hb2⟩
      have hb3 := hb1.trans (hb2.mono hb1.size)
      go_wp2
      go_ret2
      exact ⟨0, false, rfl, HR, hb3⟩
  · have HR : Reads s.data.toList 0 false := Or.inr ⟨rfl, rfl, no_read (fun n e => by rw [h] at e; cases e)⟩
    have c := bad_one s w hlim tp1 p1 hv1 (fun n e => by rw [h] at e; cases e) (fun e => by rw [h] at e; cases e)
    clear h
    have C := Lib.hid c
    clear c
    go_enter Tryd.func7, Tryd.ntmps7
    go_wp2_with fail
    refine C.out.mono ?_
    rintro e w1 ⟨n, N, rfl, hb⟩
    go_wp2
    go_ret2
    exact ⟨0, false, rfl, HR, hb⟩
  · have HR : Reads s.data.toList 0 false := Or.inr ⟨rfl, rfl, no_read (fun n e => by rw [h] at e; cases e)⟩
    have c := bad_two s w hlim tp2 p2 hv2 h
    clear h
    have C := Lib.hid c
    clear c
    go_enter Tryd.func7, Tryd.ntmps7
    go_wp2_with fail
    refine C.out.mono ?_
    rintro e w1 ⟨n, N, rfl, hb⟩
    go_wp2
    go_ret2
    exact ⟨0, false, rfl, HR, hb⟩

end Go.Proofs.YtaphphelimpgmaaDoor.Par
