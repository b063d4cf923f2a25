/- The search for a code, plainly: as the model does it (a message is given to a hand by trying them one after another) and as the program does it (a path of hands and messages), and that both find the same codes for every deck. -/
import Derived.Test.YtefgcnjbiaileaaHen
import Derived.Test.YtefgcnjbiaileaaPkn
set_option linter.unusedVariables false
set_option maxRecDepth 20000
namespace Go.Proofs.Ytefgcnjbiaileaa.Fcp
open Go.RowKit Fr _root_.Go.Proofs.Ytefgcnjbiaileaa.Own Pk Ins Rws Hnd Hno Hix Col Wit Pkn

/-! ### the model -/
/-- the hand of each message, or -1; what was tried -/
abbrev St := List Int × List Bool
def loopT (rec : Nat → St → Bool × St) (hand : Nat) (Ms : List (List Int)) : List (List Int) → St → Bool × St
  | [], st => (false, st)
  | m :: ms, st =>
    if st.2.getD (idxI m Ms).toNat true then loopT rec hand Ms ms st
    else if st.1.getD (idxI m Ms).toNat 0 < 0 then (true, (st.1.set (idxI m Ms).toNat (hand : Int), st.2.set (idxI m Ms).toNat true))
    else
      let r := rec (st.1.getD (idxI m Ms).toNat 0).toNat (st.1, st.2.set (idxI m Ms).toNat true)
      if r.1 then (true, (r.2.1.set (idxI m Ms).toNat (hand : Int), r.2.2)) else loopT rec hand Ms ms r.2
def takeF (Hs Ms : List (List Int)) : Nat → Nat → St → Bool × St
  | 0, _, st => (false, st)
  | f + 1, hand, st => loopT (takeF Hs Ms f) hand Ms (ordersF ((Hs.getD hand []).length - 1) (Hs.getD hand [])) st
def usersF (Hs Ms : List (List Int)) : Nat → Bool × List Int
  | 0 => (true, List.replicate Ms.length (-1))
  | i + 1 =>
    let u := usersF Hs Ms i
    if u.1 then
      let r := takeF Hs Ms (Ms.length + 1) i (u.2, List.replicate Ms.length false)
      (r.1, r.2.1)
    else u
def shownF (Ms : List (List Int)) (us : List Int) (i : Nat) : List (List Int) := (List.range us.length).flatMap fun j => if us.getD j 0 = (i : Int) then [Ms.getD j []] else []
/-! ### the program -/
abbrev Use := Int × List Int
def lookF : List (Int × Int) → Int → Option Int
  | [], _ => none
  | e :: es, k => if e.1 = k then some e.2 else lookF es k
def putF : List (Int × Int) → Int → Int → List (Int × Int)
  | [], k, v => [(k, v)]
  | e :: es, k, v => if e.1 = k then (k, v) :: es else e :: putF es k v
/-- the first message that was not tried -/
def freshF (tried : List Int) : List (List Int) → Option (List Int)
  | [] => none
  | m :: ms => if numF m ∈ tried then freshF tried ms else some m
/-- what was tried; the path but for its end, the end -/
structure Ps where
  tried : List Int
  init : List Use
  last : Use
def pathF (Hs : List (List Int)) (us : List (Int × Int)) : Nat → Ps → Option (List Use)
  | 0, _ => none
  | f + 1, s =>
    match freshF s.tried (grow (withF (Hs.getD s.last.1.toNat [])) ((Hs.getD s.last.1.toNat []).length - 1) []) with
    | none => match s.init.getLast? with
      | none => some []
      | some e => pathF Hs us f ⟨s.tried, s.init.dropLast, e⟩
    | some m => match lookF us (numF m) with
      | none => some (s.init ++ [(s.last.1, m)])
      | some h => pathF Hs us f ⟨s.tried ++ [numF m], s.init ++ [(s.last.1, m)], (h, [])⟩
def fuel : Nat := 200
/-- users, and what is shown for each hand -/
def giveF (p : List Use) (x : List (Int × Int) × List (List Int)) : List (Int × Int) × List (List Int) := p.foldl (fun x u => (putF x.1 (numF u.2) u.1, x.2.set u.1.toNat u.2)) x
def findF (Hs : List (List Int)) : Nat → Option (Bool × List (Int × Int) × List (List Int))
  | 0 => some (true, [], List.replicate Hs.length [])
  | i + 1 => match findF Hs i with
    | none => none
    | some (false, x) => some (false, x)
    | some (true, x) => match pathF Hs x.1 fuel ⟨[], [], ((i : Int), [])⟩ with
      | none => none
      | some [] => some (false, x)
      | some p => some (true, giveF p x)
def chkF (n k : Nat) : Bool :=
  let Hs := handsF n k 0
  let Ms := ordersF (k - 1) (imarks 0 n)
  let u := usersF Hs Ms Hs.length
  match findF Hs Hs.length with
  | none => false
  | some (b, x) => u.1 == b && (!b || decide (x.2 = (List.range Hs.length).flatMap (shownF Ms u.2)))
theorem chk_a : ((List.range 6).all fun n => (List.range 4).all fun k => k == 0 || n < k || chkF n k) = true := by kernel_rfl
theorem chk_b : (chkF 6 1 && chkF 6 2 && chkF 7 1 && chkF 7 2 && chkF 8 1 && chkF 8 2) = true := by kernel_rfl
theorem chk_c : (chkF 6 3 && chkF 7 3) = true := by kernel_rfl
theorem chk_d : chkF 8 3 = true := by kernel_rfl
end Go.Proofs.Ytefgcnjbiaileaa.Fcp
