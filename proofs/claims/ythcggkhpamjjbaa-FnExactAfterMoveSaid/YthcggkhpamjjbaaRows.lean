/-
  NARROWER THAN 'FOR EVERY INPUT', by the rows' own cells (each row's printed sentence says how): FnExactKnownAt: calm · FnExactKnownIndexOf: calm · FnExactCountKnown: calm · FnExactBestLook: calm.
  DERIVED. THE GIVEN ROWS OF THIS SEAT. 8 by the template 'for every input the law returns true; each argument reads behind the call as it read before'; 0 by the template 'total and deterministic' (their statements: YthcggkhpamjjbaaTotals.lean).
  GIVEN WITH THE SEED: the statements are not yours to turn. If you find one false, say at which input.
  Laid BY PROGRAM, IN A SANDBOX (cutbox-rows.mjs): the forced cells as the released guide's own fill.sh prints them over the translation c54897ed774b60d4… (all of the seat's roots in one cut). By AI agents, Wed Nov 11 2026. No macro, syntax, notation, axiom, sorry.
-/
import Derived.Test.YthcggkhpamjjbaaChecked
import GoSem.Claim
import GoSem.ClaimJoined
import GoSem.ClaimMapViews
import Derived.JoinedTies
import Derived.KernelRfl
namespace Go.Proofs.Ythcggkhpamjjbaa
/- THE CELL 'sum', in the pinned program and in every row, IS THE sha256 OF THE DUMP (.gsa) THAT YthcggkhpamjjbaaProg.lean LOADS. Nothing in Lean hashes anything: it is a label: what it is worth is what the hold of that sum in a sandbox is worth. -/
noncomputable def Try.pinned : Pinned := { name := "ythcggkhpamjjbaa", sum := "c54897ed774b60d471b4821c38aed5a4e0a65492d10721d2d207ea44f0e8024c", checked := Try.checked }
namespace Rows
def none {H : Type} : Left H := { results := [], args := [] }

/-- 'laws.FnExactKnowOk': WHATEVER THE INPUT: true; the input reads as it did. -/
def fnExactKnowOkSpec : ChangeSpec := { name := "fnExactKnowOk", fn := fun _ => fun
  | [d] => { results := [.lit (.bool true)], args := [d] }
  | _ => none }
def fnExactKnowOkRow : OpenClaim := { program := "ythcggkhpamjjbaa", sum := "c54897ed774b60d471b4821c38aed5a4e0a65492d10721d2d207ea44f0e8024c", func := "loop.example/g00846/laws.FnExactKnowOk", spec := "fnExactKnowOk", apart := false }
def FnExactKnowOkSaid : Prop := fnExactKnowOkRow.holds Try.pinned (OpenSpec.ofChange fnExactKnowOkSpec)

/-- ITS FALSE NEIGHBOUR: 'it returns false'. Refute it at one input. -/
def fnExactKnowOkWrong : ChangeSpec := { name := "fnExactKnowOk", fn := fun _ => fun
  | [d] => { results := [.lit (.bool false)], args := [d] }
  | _ => none }
def FnExactKnowOkWrongFalsely : Prop := fnExactKnowOkRow.holds Try.pinned (OpenSpec.ofChange fnExactKnowOkWrong)

/-- 'laws.FnExactKnownAt': WHATEVER THE INPUT: true; the input reads as it did. -/
def fnExactKnownAtSpec : ChangeSpec := { name := "fnExactKnownAt", fn := fun _ => fun
  | [d1, d2] => { results := [.lit (.bool true)], args := [d1, d2] }
  | _ => none }
def fnExactKnownAtRow : OpenClaim := { program := "ythcggkhpamjjbaa", sum := "c54897ed774b60d471b4821c38aed5a4e0a65492d10721d2d207ea44f0e8024c", func := "loop.example/g00846/laws.FnExactKnownAt", spec := "fnExactKnownAt", inPlace := ["(*sync.WaitGroup).Add", "internal/race.ReleaseMerge", "internal/race.Disable", "internal/race.Enable", "internal/synctest.IsInBubble", "internal/synctest.Associate[sync.WaitGroup]", "sync.fatal", "sync/atomic.OrUint64", "sync/atomic.AddUint64", "internal/race.Read", "sync/atomic.LoadUint64", "sync/atomic.StoreUint64", "internal/synctest.Disassociate[sync.WaitGroup]", "sync.runtime_Semrelease", "(*internal/sync.Mutex).Lock", "sync/atomic.CompareAndSwapInt32", "internal/race.Acquire", "(*internal/sync.Mutex).lockSlow", "internal/sync.runtime_canSpin", "internal/sync.runtime_doSpin", "internal/sync.throw", "internal/sync.runtime_nanotime", "internal/sync.runtime_SemacquireMutex", "sync/atomic.AddInt32", "(*internal/sync.Mutex).Unlock", "(*internal/sync.Mutex).unlockSlow", "internal/sync.fatal", "internal/sync.runtime_Semrelease", "(*sync.WaitGroup).Done", "(*sync.WaitGroup).Wait", "internal/synctest.IsAssociated[sync.WaitGroup]", "sync/atomic.CompareAndSwapUint64", "internal/race.Write", "sync.runtime_SemacquireWaitGroup"], unfollowed := true, recurses := true, leaving := true, apart := false, calm := true, outside := [.timePasses] }
def FnExactKnownAtSaid : Prop := fnExactKnownAtRow.holds Try.pinned (OpenSpec.ofChange fnExactKnownAtSpec)

/-- ITS FALSE NEIGHBOUR: 'it returns false'. Refute it at one input. -/
def fnExactKnownAtWrong : ChangeSpec := { name := "fnExactKnownAt", fn := fun _ => fun
  | [d1, d2] => { results := [.lit (.bool false)], args := [d1, d2] }
  | _ => none }
def FnExactKnownAtWrongFalsely : Prop := fnExactKnownAtRow.holds Try.pinned (OpenSpec.ofChange fnExactKnownAtWrong)

/-- 'laws.FnExactKnownIndexOf': WHATEVER THE INPUT: true; the input reads as it did. -/
def fnExactKnownIndexOfSpec : ChangeSpec := { name := "fnExactKnownIndexOf", fn := fun _ => fun
  | [d1, d2] => { results := [.lit (.bool true)], args := [d1, d2] }
  | _ => none }
def fnExactKnownIndexOfRow : OpenClaim := { program := "ythcggkhpamjjbaa", sum := "c54897ed774b60d471b4821c38aed5a4e0a65492d10721d2d207ea44f0e8024c", func := "loop.example/g00846/laws.FnExactKnownIndexOf", spec := "fnExactKnownIndexOf", inPlace := ["(*sync.WaitGroup).Add", "internal/race.ReleaseMerge", "internal/race.Disable", "internal/race.Enable", "internal/synctest.IsInBubble", "internal/synctest.Associate[sync.WaitGroup]", "sync.fatal", "sync/atomic.OrUint64", "sync/atomic.AddUint64", "internal/race.Read", "sync/atomic.LoadUint64", "sync/atomic.StoreUint64", "internal/synctest.Disassociate[sync.WaitGroup]", "sync.runtime_Semrelease", "(*internal/sync.Mutex).Lock", "sync/atomic.CompareAndSwapInt32", "internal/race.Acquire", "(*internal/sync.Mutex).lockSlow", "internal/sync.runtime_canSpin", "internal/sync.runtime_doSpin", "internal/sync.throw", "internal/sync.runtime_nanotime", "internal/sync.runtime_SemacquireMutex", "sync/atomic.AddInt32", "(*internal/sync.Mutex).Unlock", "(*internal/sync.Mutex).unlockSlow", "internal/sync.fatal", "internal/sync.runtime_Semrelease", "(*sync.WaitGroup).Done", "(*sync.WaitGroup).Wait", "internal/synctest.IsAssociated[sync.WaitGroup]", "sync/atomic.CompareAndSwapUint64", "internal/race.Write", "sync.runtime_SemacquireWaitGroup"], unfollowed := true, recurses := true, leaving := true, apart := false, calm := true, outside := [.timePasses] }
def FnExactKnownIndexOfSaid : Prop := fnExactKnownIndexOfRow.holds Try.pinned (OpenSpec.ofChange fnExactKnownIndexOfSpec)

/-- ITS FALSE NEIGHBOUR: 'it returns false'. Refute it at one input. -/
def fnExactKnownIndexOfWrong : ChangeSpec := { name := "fnExactKnownIndexOf", fn := fun _ => fun
  | [d1, d2] => { results := [.lit (.bool false)], args := [d1, d2] }
  | _ => none }
def FnExactKnownIndexOfWrongFalsely : Prop := fnExactKnownIndexOfRow.holds Try.pinned (OpenSpec.ofChange fnExactKnownIndexOfWrong)

/-- 'laws.FnExactCountKnown': WHATEVER THE INPUT: true; the input reads as it did. -/
def fnExactCountKnownSpec : ChangeSpec := { name := "fnExactCountKnown", fn := fun _ => fun
  | [d] => { results := [.lit (.bool true)], args := [d] }
  | _ => none }
def fnExactCountKnownRow : OpenClaim := { program := "ythcggkhpamjjbaa", sum := "c54897ed774b60d471b4821c38aed5a4e0a65492d10721d2d207ea44f0e8024c", func := "loop.example/g00846/laws.FnExactCountKnown", spec := "fnExactCountKnown", inPlace := ["(*sync.WaitGroup).Add", "internal/race.ReleaseMerge", "internal/race.Disable", "internal/race.Enable", "internal/synctest.IsInBubble", "internal/synctest.Associate[sync.WaitGroup]", "sync.fatal", "sync/atomic.OrUint64", "sync/atomic.AddUint64", "internal/race.Read", "sync/atomic.LoadUint64", "sync/atomic.StoreUint64", "internal/synctest.Disassociate[sync.WaitGroup]", "sync.runtime_Semrelease", "(*internal/sync.Mutex).Lock", "sync/atomic.CompareAndSwapInt32", "internal/race.Acquire", "(*internal/sync.Mutex).lockSlow", "internal/sync.runtime_canSpin", "internal/sync.runtime_doSpin", "internal/sync.throw", "internal/sync.runtime_nanotime", "internal/sync.runtime_SemacquireMutex", "sync/atomic.AddInt32", "(*internal/sync.Mutex).Unlock", "(*internal/sync.Mutex).unlockSlow", "internal/sync.fatal", "internal/sync.runtime_Semrelease", "(*sync.WaitGroup).Done", "(*sync.WaitGroup).Wait", "internal/synctest.IsAssociated[sync.WaitGroup]", "sync/atomic.CompareAndSwapUint64", "internal/race.Write", "sync.runtime_SemacquireWaitGroup"], unfollowed := true, recurses := true, leaving := true, apart := false, calm := true, outside := [.timePasses] }
def FnExactCountKnownSaid : Prop := fnExactCountKnownRow.holds Try.pinned (OpenSpec.ofChange fnExactCountKnownSpec)

/-- ITS FALSE NEIGHBOUR: 'it returns false'. Refute it at one input. -/
def fnExactCountKnownWrong : ChangeSpec := { name := "fnExactCountKnown", fn := fun _ => fun
  | [d] => { results := [.lit (.bool false)], args := [d] }
  | _ => none }
def FnExactCountKnownWrongFalsely : Prop := fnExactCountKnownRow.holds Try.pinned (OpenSpec.ofChange fnExactCountKnownWrong)

/-- 'laws.FnExactSeeCard': WHATEVER THE INPUT: true; the input reads as it did. -/
def fnExactSeeCardSpec : ChangeSpec := { name := "fnExactSeeCard", fn := fun _ => fun
  | [d1, d2, d3] => { results := [.lit (.bool true)], args := [d1, d2, d3] }
  | _ => none }
def fnExactSeeCardRow : OpenClaim := { program := "ythcggkhpamjjbaa", sum := "c54897ed774b60d471b4821c38aed5a4e0a65492d10721d2d207ea44f0e8024c", func := "loop.example/g00846/laws.FnExactSeeCard", spec := "fnExactSeeCard", unfollowed := true, recurses := true, leaving := true, apart := false }
def FnExactSeeCardSaid : Prop := fnExactSeeCardRow.holds Try.pinned (OpenSpec.ofChange fnExactSeeCardSpec)

/-- ITS FALSE NEIGHBOUR: 'it returns false'. Refute it at one input. -/
def fnExactSeeCardWrong : ChangeSpec := { name := "fnExactSeeCard", fn := fun _ => fun
  | [d1, d2, d3] => { results := [.lit (.bool false)], args := [d1, d2, d3] }
  | _ => none }
def FnExactSeeCardWrongFalsely : Prop := fnExactSeeCardRow.holds Try.pinned (OpenSpec.ofChange fnExactSeeCardWrong)

/-- 'laws.FnExactSeeSides': WHATEVER THE INPUT: true; the input reads as it did. -/
def fnExactSeeSidesSpec : ChangeSpec := { name := "fnExactSeeSides", fn := fun _ => fun
  | [d1, d2] => { results := [.lit (.bool true)], args := [d1, d2] }
  | _ => none }
def fnExactSeeSidesRow : OpenClaim := { program := "ythcggkhpamjjbaa", sum := "c54897ed774b60d471b4821c38aed5a4e0a65492d10721d2d207ea44f0e8024c", func := "loop.example/g00846/laws.FnExactSeeSides", spec := "fnExactSeeSides", unfollowed := true, recurses := true, leaving := true, apart := false }
def FnExactSeeSidesSaid : Prop := fnExactSeeSidesRow.holds Try.pinned (OpenSpec.ofChange fnExactSeeSidesSpec)

/-- ITS FALSE NEIGHBOUR: 'it returns false'. Refute it at one input. -/
def fnExactSeeSidesWrong : ChangeSpec := { name := "fnExactSeeSides", fn := fun _ => fun
  | [d1, d2] => { results := [.lit (.bool false)], args := [d1, d2] }
  | _ => none }
def FnExactSeeSidesWrongFalsely : Prop := fnExactSeeSidesRow.holds Try.pinned (OpenSpec.ofChange fnExactSeeSidesWrong)

/-- 'laws.FnExactAfterMove': WHATEVER THE INPUT: true; the input reads as it did. -/
def fnExactAfterMoveSpec : ChangeSpec := { name := "fnExactAfterMove", fn := fun _ => fun
  | [d1, d2] => { results := [.lit (.bool true)], args := [d1, d2] }
  | _ => none }
def fnExactAfterMoveRow : OpenClaim := { program := "ythcggkhpamjjbaa", sum := "c54897ed774b60d471b4821c38aed5a4e0a65492d10721d2d207ea44f0e8024c", func := "loop.example/g00846/laws.FnExactAfterMove", spec := "fnExactAfterMove", inPlace := ["slices.overlaps[int]"], unfollowed := true, recurses := true, leaving := true, apart := false }
def FnExactAfterMoveSaid : Prop := fnExactAfterMoveRow.holds Try.pinned (OpenSpec.ofChange fnExactAfterMoveSpec)

/-- ITS FALSE NEIGHBOUR: 'it returns false'. Refute it at one input. -/
def fnExactAfterMoveWrong : ChangeSpec := { name := "fnExactAfterMove", fn := fun _ => fun
  | [d1, d2] => { results := [.lit (.bool false)], args := [d1, d2] }
  | _ => none }
def FnExactAfterMoveWrongFalsely : Prop := fnExactAfterMoveRow.holds Try.pinned (OpenSpec.ofChange fnExactAfterMoveWrong)

/-- 'laws.FnExactBestLook': WHATEVER THE INPUT: true; the input reads as it did. -/
def fnExactBestLookSpec : ChangeSpec := { name := "fnExactBestLook", fn := fun _ => fun
  | [d] => { results := [.lit (.bool true)], args := [d] }
  | _ => none }
def fnExactBestLookRow : OpenClaim := { program := "ythcggkhpamjjbaa", sum := "c54897ed774b60d471b4821c38aed5a4e0a65492d10721d2d207ea44f0e8024c", func := "loop.example/g00846/laws.FnExactBestLook", spec := "fnExactBestLook", inPlace := ["(*sync.WaitGroup).Add", "internal/race.ReleaseMerge", "internal/race.Disable", "internal/race.Enable", "internal/synctest.IsInBubble", "internal/synctest.Associate[sync.WaitGroup]", "sync.fatal", "sync/atomic.OrUint64", "sync/atomic.AddUint64", "internal/race.Read", "sync/atomic.LoadUint64", "sync/atomic.StoreUint64", "internal/synctest.Disassociate[sync.WaitGroup]", "sync.runtime_Semrelease", "(*internal/sync.Mutex).Lock", "sync/atomic.CompareAndSwapInt32", "internal/race.Acquire", "(*internal/sync.Mutex).lockSlow", "internal/sync.runtime_canSpin", "internal/sync.runtime_doSpin", "internal/sync.throw", "internal/sync.runtime_nanotime", "internal/sync.runtime_SemacquireMutex", "sync/atomic.AddInt32", "(*internal/sync.Mutex).Unlock", "(*internal/sync.Mutex).unlockSlow", "internal/sync.fatal", "internal/sync.runtime_Semrelease", "(*sync.WaitGroup).Done", "(*sync.WaitGroup).Wait", "internal/synctest.IsAssociated[sync.WaitGroup]", "sync/atomic.CompareAndSwapUint64", "internal/race.Write", "sync.runtime_SemacquireWaitGroup"], unfollowed := true, recurses := true, leaving := true, apart := false, calm := true, outside := [.timePasses] }
def FnExactBestLookSaid : Prop := fnExactBestLookRow.holds Try.pinned (OpenSpec.ofChange fnExactBestLookSpec)

/-- ITS FALSE NEIGHBOUR: 'it returns false'. Refute it at one input. -/
def fnExactBestLookWrong : ChangeSpec := { name := "fnExactBestLook", fn := fun _ => fun
  | [d] => { results := [.lit (.bool false)], args := [d] }
  | _ => none }
def FnExactBestLookWrongFalsely : Prop := fnExactBestLookRow.holds Try.pinned (OpenSpec.ofChange fnExactBestLookWrong)

/- THE SECOND FORM. 'bulk': how many values and letters a reading holds, each counted each time it is reached (what is shared counts as often as it is met; a slice's spare places count too). A statement '..UptoSaid' is the law's where the arguments, and the package variables that the reading takes, are together of bulk at most 1048576: NARROWER than '..Said'. Prove '..Said' where nothing that the law and all that it calls make is longer than what came in: it says more and counts as full. Else prove '..UptoSaid'. A law counts once. -/
mutual
def uptoBulk {H : Type} : DataW H → Nat
  | .lit (.string bytes) => bytes.length + 1
  | .lit _ => 1
  | .nil => 1
  | .ptr d => uptoBulk d + 1
  | .slice elems spare => uptoBulkAll elems + uptoBulkAll spare + 1
  | .agg parts => uptoBulkAll parts + 1
  | .iface _ d => uptoBulk d + 1
  | .map entries => uptoBulkEntries entries + 1
  | .held _ => 1
def uptoBulkAll {H : Type} : List (DataW H) → Nat
  | [] => 0
  | d :: r => uptoBulk d + uptoBulkAll r
def uptoBulkEntries {H : Type} : List (Lit × DataW H) → Nat
  | [] => 0
  | x :: r => uptoBulkEntry x + uptoBulkEntries r
def uptoBulkEntry {H : Type} : Lit × DataW H → Nat
  | (.string bytes, d) => bytes.length + uptoBulk d + 1
  | (_, d) => uptoBulk d + 1
 end
def uptoSmall : (H : Type) → List (DataW H) → Bool := fun _ ds => decide (uptoBulkAll ds ≤ 1048576)
def OpenSpec.upto (s : _root_.Go.ChangeSpec) : _root_.Go.OpenSpec := { _root_.Go.OpenSpec.ofChange s with cond := some uptoSmall }

/-- 'laws.FnExactKnowOk', WHERE WHAT IT READS IS OF BULK AT MOST 1048576: true; the input reads as it did. -/
def fnExactKnowOkUptoRow : OpenClaim := { program := "ythcggkhpamjjbaa", sum := "c54897ed774b60d471b4821c38aed5a4e0a65492d10721d2d207ea44f0e8024c", func := "loop.example/g00846/laws.FnExactKnowOk", spec := "fnExactKnowOk", apart := false, narrowed := true }
def FnExactKnowOkUptoSaid : Prop := fnExactKnowOkUptoRow.holds Try.pinned (OpenSpec.upto fnExactKnowOkSpec)

/-- 'laws.FnExactKnownAt', WHERE WHAT IT READS IS OF BULK AT MOST 1048576: true; the input reads as it did. -/
def fnExactKnownAtUptoRow : OpenClaim := { program := "ythcggkhpamjjbaa", sum := "c54897ed774b60d471b4821c38aed5a4e0a65492d10721d2d207ea44f0e8024c", func := "loop.example/g00846/laws.FnExactKnownAt", spec := "fnExactKnownAt", inPlace := ["(*sync.WaitGroup).Add", "internal/race.ReleaseMerge", "internal/race.Disable", "internal/race.Enable", "internal/synctest.IsInBubble", "internal/synctest.Associate[sync.WaitGroup]", "sync.fatal", "sync/atomic.OrUint64", "sync/atomic.AddUint64", "internal/race.Read", "sync/atomic.LoadUint64", "sync/atomic.StoreUint64", "internal/synctest.Disassociate[sync.WaitGroup]", "sync.runtime_Semrelease", "(*internal/sync.Mutex).Lock", "sync/atomic.CompareAndSwapInt32", "internal/race.Acquire", "(*internal/sync.Mutex).lockSlow", "internal/sync.runtime_canSpin", "internal/sync.runtime_doSpin", "internal/sync.throw", "internal/sync.runtime_nanotime", "internal/sync.runtime_SemacquireMutex", "sync/atomic.AddInt32", "(*internal/sync.Mutex).Unlock", "(*internal/sync.Mutex).unlockSlow", "internal/sync.fatal", "internal/sync.runtime_Semrelease", "(*sync.WaitGroup).Done", "(*sync.WaitGroup).Wait", "internal/synctest.IsAssociated[sync.WaitGroup]", "sync/atomic.CompareAndSwapUint64", "internal/race.Write", "sync.runtime_SemacquireWaitGroup"], unfollowed := true, recurses := true, leaving := true, apart := false, calm := true, outside := [.timePasses], narrowed := true }
def FnExactKnownAtUptoSaid : Prop := fnExactKnownAtUptoRow.holds Try.pinned (OpenSpec.upto fnExactKnownAtSpec)

/-- 'laws.FnExactKnownIndexOf', WHERE WHAT IT READS IS OF BULK AT MOST 1048576: true; the input reads as it did. -/
def fnExactKnownIndexOfUptoRow : OpenClaim := { program := "ythcggkhpamjjbaa", sum := "c54897ed774b60d471b4821c38aed5a4e0a65492d10721d2d207ea44f0e8024c", func := "loop.example/g00846/laws.FnExactKnownIndexOf", spec := "fnExactKnownIndexOf", inPlace := ["(*sync.WaitGroup).Add", "internal/race.ReleaseMerge", "internal/race.Disable", "internal/race.Enable", "internal/synctest.IsInBubble", "internal/synctest.Associate[sync.WaitGroup]", "sync.fatal", "sync/atomic.OrUint64", "sync/atomic.AddUint64", "internal/race.Read", "sync/atomic.LoadUint64", "sync/atomic.StoreUint64", "internal/synctest.Disassociate[sync.WaitGroup]", "sync.runtime_Semrelease", "(*internal/sync.Mutex).Lock", "sync/atomic.CompareAndSwapInt32", "internal/race.Acquire", "(*internal/sync.Mutex).lockSlow", "internal/sync.runtime_canSpin", "internal/sync.runtime_doSpin", "internal/sync.throw", "internal/sync.runtime_nanotime", "internal/sync.runtime_SemacquireMutex", "sync/atomic.AddInt32", "(*internal/sync.Mutex).Unlock", "(*internal/sync.Mutex).unlockSlow", "internal/sync.fatal", "internal/sync.runtime_Semrelease", "(*sync.WaitGroup).Done", "(*sync.WaitGroup).Wait", "internal/synctest.IsAssociated[sync.WaitGroup]", "sync/atomic.CompareAndSwapUint64", "internal/race.Write", "sync.runtime_SemacquireWaitGroup"], unfollowed := true, recurses := true, leaving := true, apart := false, calm := true, outside := [.timePasses], narrowed := true }
def FnExactKnownIndexOfUptoSaid : Prop := fnExactKnownIndexOfUptoRow.holds Try.pinned (OpenSpec.upto fnExactKnownIndexOfSpec)

/-- 'laws.FnExactCountKnown', WHERE WHAT IT READS IS OF BULK AT MOST 1048576: true; the input reads as it did. -/
def fnExactCountKnownUptoRow : OpenClaim := { program := "ythcggkhpamjjbaa", sum := "c54897ed774b60d471b4821c38aed5a4e0a65492d10721d2d207ea44f0e8024c", func := "loop.example/g00846/laws.FnExactCountKnown", spec := "fnExactCountKnown", inPlace := ["(*sync.WaitGroup).Add", "internal/race.ReleaseMerge", "internal/race.Disable", "internal/race.Enable", "internal/synctest.IsInBubble", "internal/synctest.Associate[sync.WaitGroup]", "sync.fatal", "sync/atomic.OrUint64", "sync/atomic.AddUint64", "internal/race.Read", "sync/atomic.LoadUint64", "sync/atomic.StoreUint64", "internal/synctest.Disassociate[sync.WaitGroup]", "sync.runtime_Semrelease", "(*internal/sync.Mutex).Lock", "sync/atomic.CompareAndSwapInt32", "internal/race.Acquire", "(*internal/sync.Mutex).lockSlow", "internal/sync.runtime_canSpin", "internal/sync.runtime_doSpin", "internal/sync.throw", "internal/sync.runtime_nanotime", "internal/sync.runtime_SemacquireMutex", "sync/atomic.AddInt32", "(*internal/sync.Mutex).Unlock", "(*internal/sync.Mutex).unlockSlow", "internal/sync.fatal", "internal/sync.runtime_Semrelease", "(*sync.WaitGroup).Done", "(*sync.WaitGroup).Wait", "internal/synctest.IsAssociated[sync.WaitGroup]", "sync/atomic.CompareAndSwapUint64", "internal/race.Write", "sync.runtime_SemacquireWaitGroup"], unfollowed := true, recurses := true, leaving := true, apart := false, calm := true, outside := [.timePasses], narrowed := true }
def FnExactCountKnownUptoSaid : Prop := fnExactCountKnownUptoRow.holds Try.pinned (OpenSpec.upto fnExactCountKnownSpec)

/-- 'laws.FnExactSeeCard', WHERE WHAT IT READS IS OF BULK AT MOST 1048576: true; the input reads as it did. -/
def fnExactSeeCardUptoRow : OpenClaim := { program := "ythcggkhpamjjbaa", sum := "c54897ed774b60d471b4821c38aed5a4e0a65492d10721d2d207ea44f0e8024c", func := "loop.example/g00846/laws.FnExactSeeCard", spec := "fnExactSeeCard", unfollowed := true, recurses := true, leaving := true, apart := false, narrowed := true }
def FnExactSeeCardUptoSaid : Prop := fnExactSeeCardUptoRow.holds Try.pinned (OpenSpec.upto fnExactSeeCardSpec)

/-- 'laws.FnExactSeeSides', WHERE WHAT IT READS IS OF BULK AT MOST 1048576: true; the input reads as it did. -/
def fnExactSeeSidesUptoRow : OpenClaim := { program := "ythcggkhpamjjbaa", sum := "c54897ed774b60d471b4821c38aed5a4e0a65492d10721d2d207ea44f0e8024c", func := "loop.example/g00846/laws.FnExactSeeSides", spec := "fnExactSeeSides", unfollowed := true, recurses := true, leaving := true, apart := false, narrowed := true }
def FnExactSeeSidesUptoSaid : Prop := fnExactSeeSidesUptoRow.holds Try.pinned (OpenSpec.upto fnExactSeeSidesSpec)

/-- 'laws.FnExactAfterMove', WHERE WHAT IT READS IS OF BULK AT MOST 1048576: true; the input reads as it did. -/
def fnExactAfterMoveUptoRow : OpenClaim := { program := "ythcggkhpamjjbaa", sum := "c54897ed774b60d471b4821c38aed5a4e0a65492d10721d2d207ea44f0e8024c", func := "loop.example/g00846/laws.FnExactAfterMove", spec := "fnExactAfterMove", inPlace := ["slices.overlaps[int]"], unfollowed := true, recurses := true, leaving := true, apart := false, narrowed := true }
def FnExactAfterMoveUptoSaid : Prop := fnExactAfterMoveUptoRow.holds Try.pinned (OpenSpec.upto fnExactAfterMoveSpec)

/-- 'laws.FnExactBestLook', WHERE WHAT IT READS IS OF BULK AT MOST 1048576: true; the input reads as it did. -/
def fnExactBestLookUptoRow : OpenClaim := { program := "ythcggkhpamjjbaa", sum := "c54897ed774b60d471b4821c38aed5a4e0a65492d10721d2d207ea44f0e8024c", func := "loop.example/g00846/laws.FnExactBestLook", spec := "fnExactBestLook", inPlace := ["(*sync.WaitGroup).Add", "internal/race.ReleaseMerge", "internal/race.Disable", "internal/race.Enable", "internal/synctest.IsInBubble", "internal/synctest.Associate[sync.WaitGroup]", "sync.fatal", "sync/atomic.OrUint64", "sync/atomic.AddUint64", "internal/race.Read", "sync/atomic.LoadUint64", "sync/atomic.StoreUint64", "internal/synctest.Disassociate[sync.WaitGroup]", "sync.runtime_Semrelease", "(*internal/sync.Mutex).Lock", "sync/atomic.CompareAndSwapInt32", "internal/race.Acquire", "(*internal/sync.Mutex).lockSlow", "internal/sync.runtime_canSpin", "internal/sync.runtime_doSpin", "internal/sync.throw", "internal/sync.runtime_nanotime", "internal/sync.runtime_SemacquireMutex", "sync/atomic.AddInt32", "(*internal/sync.Mutex).Unlock", "(*internal/sync.Mutex).unlockSlow", "internal/sync.fatal", "internal/sync.runtime_Semrelease", "(*sync.WaitGroup).Done", "(*sync.WaitGroup).Wait", "internal/synctest.IsAssociated[sync.WaitGroup]", "sync/atomic.CompareAndSwapUint64", "internal/race.Write", "sync.runtime_SemacquireWaitGroup"], unfollowed := true, recurses := true, leaving := true, apart := false, calm := true, outside := [.timePasses], narrowed := true }
def FnExactBestLookUptoSaid : Prop := fnExactBestLookUptoRow.holds Try.pinned (OpenSpec.upto fnExactBestLookSpec)

end Rows
end Go.Proofs.Ythcggkhpamjjbaa
