/-
  NARROWER THAN 'FOR EVERY INPUT', by the rows' own cells (each row's printed sentence says how): ArrayCosts: laid · ArrayApart: laid · ArrayFour: laid · ArrayTails: laid · ArrayHonest: laid · ArrayStands: laid.
  DERIVED. THE GIVEN ROWS OF THIS SEAT. 6 by the template 'for every input the law returns true; each argument reads behind the call as it read before'; 0 by the template 'total and deterministic' (their statements: YtmfjhnfhpcpfeaaGreatDoorTotals.lean).
  GIVEN WITH THE SEED: the statements are not yours to turn. If you find one false, say at which input.
  Laid BY PROGRAM, IN A SANDBOX (cutbox-rows.mjs): the forced cells as the released guide's own fill.sh prints them over the translation 570028012087f742… (all of the seat's roots in one cut). By AI agents, Wed Nov 11 2026. No macro, syntax, notation, axiom, sorry.
-/
import Derived.Test.YtmfjhnfhpcpfeaaGreatDoorChecked
import GoSem.Claim
import GoSem.ClaimJoined
import GoSem.ClaimMapViews
import Derived.JoinedTies
import Derived.KernelRfl
namespace Go.Proofs.YtmfjhnfhpcpfeaaGreatDoor
/- THE CELL 'sum', in the pinned program and in every row, IS THE sha256 OF THE DUMP (.gsa) THAT YtmfjhnfhpcpfeaaGreatDoorProg.lean LOADS. Nothing in Lean hashes anything: it is a label: what it is worth is what the hold of that sum in a sandbox is worth. -/
noncomputable def Tryz.pinned : Pinned := { name := "ytmfjhnfhpcpfeaagreatdoor", sum := "570028012087f74243fe76f5c407615de8a95f13f4004cd8aee2e60713b34960", checked := Tryz.checked }
namespace Rows
def none {H : Type} : Left H := { results := [], args := [] }

/- WHAT THE LISTED PACKAGE-LEVEL VARIABLES READ AS WHEN THE CALL BEGINS. Each datum BY PROGRAM (the guide's laid-datum.mjs) off the statement by which the dump's own 'gosem.cut.vars' lays the variable. In a bare row this is a premise. The card (YtmfjhnfhpcpfeaaGreatDoorCards.lean) ties it to the program's text. -/
def laid_hoard_sha_roots {H : Type} : DataW H := .agg [.lit (.int .u32 1116352408), .lit (.int .u32 1899447441), .lit (.int .u32 3049323471), .lit (.int .u32 3921009573), .lit (.int .u32 961987163), .lit (.int .u32 1508970993), .lit (.int .u32 2453635748), .lit (.int .u32 2870763221), .lit (.int .u32 3624381080), .lit (.int .u32 310598401), .lit (.int .u32 607225278), .lit (.int .u32 1426881987), .lit (.int .u32 1925078388), .lit (.int .u32 2162078206), .lit (.int .u32 2614888103), .lit (.int .u32 3248222580), .lit (.int .u32 3835390401), .lit (.int .u32 4022224774), .lit (.int .u32 264347078), .lit (.int .u32 604807628), .lit (.int .u32 770255983), .lit (.int .u32 1249150122), .lit (.int .u32 1555081692), .lit (.int .u32 1996064986), .lit (.int .u32 2554220882), .lit (.int .u32 2821834349), .lit (.int .u32 2952996808), .lit (.int .u32 3210313671), .lit (.int .u32 3336571891), .lit (.int .u32 3584528711), .lit (.int .u32 113926993), .lit (.int .u32 338241895), .lit (.int .u32 666307205), .lit (.int .u32 773529912), .lit (.int .u32 1294757372), .lit (.int .u32 1396182291), .lit (.int .u32 1695183700), .lit (.int .u32 1986661051), .lit (.int .u32 2177026350), .lit (.int .u32 2456956037), .lit (.int .u32 2730485921), .lit (.int .u32 2820302411), .lit (.int .u32 3259730800), .lit (.int .u32 3345764771), .lit (.int .u32 3516065817), .lit (.int .u32 3600352804), .lit (.int .u32 4094571909), .lit (.int .u32 275423344), .lit (.int .u32 430227734), .lit (.int .u32 506948616), .lit (.int .u32 659060556), .lit (.int .u32 883997877), .lit (.int .u32 958139571), .lit (.int .u32 1322822218), .lit (.int .u32 1537002063), .lit (.int .u32 1747873779), .lit (.int .u32 1955562222), .lit (.int .u32 2024104815), .lit (.int .u32 2227730452), .lit (.int .u32 2361852424), .lit (.int .u32 2428436474), .lit (.int .u32 2756734187), .lit (.int .u32 3204031479), .lit (.int .u32 3329325298)]

/-- 'hoardlaw06.ArrayCosts': WHATEVER THE INPUT: true; the input reads as it did. -/
def arrayCostsSpec : ChangeSpec := { name := "arrayCosts", fn := fun _ => fun
  | [d1, d2, d3] => { results := [.lit (.bool true)], args := [d1, d2, d3] }
  | _ => none }
def arrayCostsRow : OpenClaim := { program := "ytmfjhnfhpcpfeaagreatdoor", sum := "570028012087f74243fe76f5c407615de8a95f13f4004cd8aee2e60713b34960", func := "hoard/hoardlaw06.ArrayCosts", spec := "arrayCosts", inPlace := ["sync/atomic.LoadUint32", "(*internal/sync.Mutex).Lock", "internal/race.Disable", "sync/atomic.CompareAndSwapInt32", "internal/race.Enable", "internal/race.Acquire", "(*internal/sync.Mutex).lockSlow", "internal/sync.runtime_canSpin", "internal/sync.runtime_doSpin", "internal/sync.throw", "internal/sync.runtime_nanotime", "internal/sync.runtime_SemacquireMutex", "sync/atomic.AddInt32", "(*internal/sync.Mutex).Unlock", "internal/race.ReleaseMerge", "(*internal/sync.Mutex).unlockSlow", "internal/sync.fatal", "internal/sync.runtime_Semrelease", "sync/atomic.StoreUint32"], unfollowed := true, recurses := true, named := ["hoard/sha.roots"], plainKeys := false, apart := false, laid := [("hoard/sha.roots", laid_hoard_sha_roots)] }
def ArrayCostsSaid : Prop := arrayCostsRow.holds Tryz.pinned (OpenSpec.ofChange arrayCostsSpec)

/-- ITS FALSE NEIGHBOUR: 'it returns false'. Refute it at one input. -/
def arrayCostsWrong : ChangeSpec := { name := "arrayCosts", fn := fun _ => fun
  | [d1, d2, d3] => { results := [.lit (.bool false)], args := [d1, d2, d3] }
  | _ => none }
def ArrayCostsWrongFalsely : Prop := arrayCostsRow.holds Tryz.pinned (OpenSpec.ofChange arrayCostsWrong)

/-- 'hoardlaw06.ArrayApart': WHATEVER THE INPUT: true; the input reads as it did. -/
def arrayApartSpec : ChangeSpec := { name := "arrayApart", fn := fun _ => fun
  | [d1, d2] => { results := [.lit (.bool true)], args := [d1, d2] }
  | _ => none }
def arrayApartRow : OpenClaim := { program := "ytmfjhnfhpcpfeaagreatdoor", sum := "570028012087f74243fe76f5c407615de8a95f13f4004cd8aee2e60713b34960", func := "hoard/hoardlaw06.ArrayApart", spec := "arrayApart", inPlace := ["sync/atomic.LoadUint32", "(*internal/sync.Mutex).Lock", "internal/race.Disable", "sync/atomic.CompareAndSwapInt32", "internal/race.Enable", "internal/race.Acquire", "(*internal/sync.Mutex).lockSlow", "internal/sync.runtime_canSpin", "internal/sync.runtime_doSpin", "internal/sync.throw", "internal/sync.runtime_nanotime", "internal/sync.runtime_SemacquireMutex", "sync/atomic.AddInt32", "(*internal/sync.Mutex).Unlock", "internal/race.ReleaseMerge", "(*internal/sync.Mutex).unlockSlow", "internal/sync.fatal", "internal/sync.runtime_Semrelease", "sync/atomic.StoreUint32"], unfollowed := true, recurses := true, named := ["hoard/sha.roots"], plainKeys := false, apart := false, laid := [("hoard/sha.roots", laid_hoard_sha_roots)] }
def ArrayApartSaid : Prop := arrayApartRow.holds Tryz.pinned (OpenSpec.ofChange arrayApartSpec)

/-- ITS FALSE NEIGHBOUR: 'it returns false'. Refute it at one input. -/
def arrayApartWrong : ChangeSpec := { name := "arrayApart", fn := fun _ => fun
  | [d1, d2] => { results := [.lit (.bool false)], args := [d1, d2] }
  | _ => none }
def ArrayApartWrongFalsely : Prop := arrayApartRow.holds Tryz.pinned (OpenSpec.ofChange arrayApartWrong)

/-- 'hoardlaw06.ArrayFour': WHATEVER THE INPUT: true; the input reads as it did. -/
def arrayFourSpec : ChangeSpec := { name := "arrayFour", fn := fun _ => fun
  | [d1, d2] => { results := [.lit (.bool true)], args := [d1, d2] }
  | _ => none }
def arrayFourRow : OpenClaim := { program := "ytmfjhnfhpcpfeaagreatdoor", sum := "570028012087f74243fe76f5c407615de8a95f13f4004cd8aee2e60713b34960", func := "hoard/hoardlaw06.ArrayFour", spec := "arrayFour", inPlace := ["sync/atomic.LoadUint32", "(*internal/sync.Mutex).Lock", "internal/race.Disable", "sync/atomic.CompareAndSwapInt32", "internal/race.Enable", "internal/race.Acquire", "(*internal/sync.Mutex).lockSlow", "internal/sync.runtime_canSpin", "internal/sync.runtime_doSpin", "internal/sync.throw", "internal/sync.runtime_nanotime", "internal/sync.runtime_SemacquireMutex", "sync/atomic.AddInt32", "(*internal/sync.Mutex).Unlock", "internal/race.ReleaseMerge", "(*internal/sync.Mutex).unlockSlow", "internal/sync.fatal", "internal/sync.runtime_Semrelease", "sync/atomic.StoreUint32"], unfollowed := true, recurses := true, named := ["hoard/sha.roots"], plainKeys := false, apart := false, laid := [("hoard/sha.roots", laid_hoard_sha_roots)] }
def ArrayFourSaid : Prop := arrayFourRow.holds Tryz.pinned (OpenSpec.ofChange arrayFourSpec)

/-- ITS FALSE NEIGHBOUR: 'it returns false'. Refute it at one input. -/
def arrayFourWrong : ChangeSpec := { name := "arrayFour", fn := fun _ => fun
  | [d1, d2] => { results := [.lit (.bool false)], args := [d1, d2] }
  | _ => none }
def ArrayFourWrongFalsely : Prop := arrayFourRow.holds Tryz.pinned (OpenSpec.ofChange arrayFourWrong)

/-- 'hoardlaw06.ArrayTails': WHATEVER THE INPUT: true; the input reads as it did. -/
def arrayTailsSpec : ChangeSpec := { name := "arrayTails", fn := fun _ => fun
  | [d1, d2] => { results := [.lit (.bool true)], args := [d1, d2] }
  | _ => none }
def arrayTailsRow : OpenClaim := { program := "ytmfjhnfhpcpfeaagreatdoor", sum := "570028012087f74243fe76f5c407615de8a95f13f4004cd8aee2e60713b34960", func := "hoard/hoardlaw06.ArrayTails", spec := "arrayTails", inPlace := ["sync/atomic.LoadUint32", "(*internal/sync.Mutex).Lock", "internal/race.Disable", "sync/atomic.CompareAndSwapInt32", "internal/race.Enable", "internal/race.Acquire", "(*internal/sync.Mutex).lockSlow", "internal/sync.runtime_canSpin", "internal/sync.runtime_doSpin", "internal/sync.throw", "internal/sync.runtime_nanotime", "internal/sync.runtime_SemacquireMutex", "sync/atomic.AddInt32", "(*internal/sync.Mutex).Unlock", "internal/race.ReleaseMerge", "(*internal/sync.Mutex).unlockSlow", "internal/sync.fatal", "internal/sync.runtime_Semrelease", "sync/atomic.StoreUint32"], unfollowed := true, recurses := true, named := ["hoard/sha.roots"], plainKeys := false, apart := false, laid := [("hoard/sha.roots", laid_hoard_sha_roots)] }
def ArrayTailsSaid : Prop := arrayTailsRow.holds Tryz.pinned (OpenSpec.ofChange arrayTailsSpec)

/-- ITS FALSE NEIGHBOUR: 'it returns false'. Refute it at one input. -/
def arrayTailsWrong : ChangeSpec := { name := "arrayTails", fn := fun _ => fun
  | [d1, d2] => { results := [.lit (.bool false)], args := [d1, d2] }
  | _ => none }
def ArrayTailsWrongFalsely : Prop := arrayTailsRow.holds Tryz.pinned (OpenSpec.ofChange arrayTailsWrong)

/-- 'hoardlaw06.ArrayHonest': WHATEVER THE INPUT: true; the input reads as it did. -/
def arrayHonestSpec : ChangeSpec := { name := "arrayHonest", fn := fun _ => fun
  | [d1, d2] => { results := [.lit (.bool true)], args := [d1, d2] }
  | _ => none }
def arrayHonestRow : OpenClaim := { program := "ytmfjhnfhpcpfeaagreatdoor", sum := "570028012087f74243fe76f5c407615de8a95f13f4004cd8aee2e60713b34960", func := "hoard/hoardlaw06.ArrayHonest", spec := "arrayHonest", inPlace := ["sync/atomic.LoadUint32", "(*internal/sync.Mutex).Lock", "internal/race.Disable", "sync/atomic.CompareAndSwapInt32", "internal/race.Enable", "internal/race.Acquire", "(*internal/sync.Mutex).lockSlow", "internal/sync.runtime_canSpin", "internal/sync.runtime_doSpin", "internal/sync.throw", "internal/sync.runtime_nanotime", "internal/sync.runtime_SemacquireMutex", "sync/atomic.AddInt32", "(*internal/sync.Mutex).Unlock", "internal/race.ReleaseMerge", "(*internal/sync.Mutex).unlockSlow", "internal/sync.fatal", "internal/sync.runtime_Semrelease", "sync/atomic.StoreUint32"], unfollowed := true, recurses := true, named := ["hoard/sha.roots"], plainKeys := false, apart := false, laid := [("hoard/sha.roots", laid_hoard_sha_roots)] }
def ArrayHonestSaid : Prop := arrayHonestRow.holds Tryz.pinned (OpenSpec.ofChange arrayHonestSpec)

/-- ITS FALSE NEIGHBOUR: 'it returns false'. Refute it at one input. -/
def arrayHonestWrong : ChangeSpec := { name := "arrayHonest", fn := fun _ => fun
  | [d1, d2] => { results := [.lit (.bool false)], args := [d1, d2] }
  | _ => none }
def ArrayHonestWrongFalsely : Prop := arrayHonestRow.holds Tryz.pinned (OpenSpec.ofChange arrayHonestWrong)

/-- 'hoardlaw06.ArrayStands': WHATEVER THE INPUT: true; the input reads as it did. -/
def arrayStandsSpec : ChangeSpec := { name := "arrayStands", fn := fun _ => fun
  | [d] => { results := [.lit (.bool true)], args := [d] }
  | _ => none }
def arrayStandsRow : OpenClaim := { program := "ytmfjhnfhpcpfeaagreatdoor", sum := "570028012087f74243fe76f5c407615de8a95f13f4004cd8aee2e60713b34960", func := "hoard/hoardlaw06.ArrayStands", spec := "arrayStands", inPlace := ["sync/atomic.LoadUint32", "(*internal/sync.Mutex).Lock", "internal/race.Disable", "sync/atomic.CompareAndSwapInt32", "internal/race.Enable", "internal/race.Acquire", "(*internal/sync.Mutex).lockSlow", "internal/sync.runtime_canSpin", "internal/sync.runtime_doSpin", "internal/sync.throw", "internal/sync.runtime_nanotime", "internal/sync.runtime_SemacquireMutex", "sync/atomic.AddInt32", "(*internal/sync.Mutex).Unlock", "internal/race.ReleaseMerge", "(*internal/sync.Mutex).unlockSlow", "internal/sync.fatal", "internal/sync.runtime_Semrelease", "sync/atomic.StoreUint32"], unfollowed := true, recurses := true, named := ["hoard/sha.roots"], plainKeys := false, apart := false, laid := [("hoard/sha.roots", laid_hoard_sha_roots)] }
def ArrayStandsSaid : Prop := arrayStandsRow.holds Tryz.pinned (OpenSpec.ofChange arrayStandsSpec)

/-- ITS FALSE NEIGHBOUR: 'it returns false'. Refute it at one input. -/
def arrayStandsWrong : ChangeSpec := { name := "arrayStands", fn := fun _ => fun
  | [d] => { results := [.lit (.bool false)], args := [d] }
  | _ => none }
def ArrayStandsWrongFalsely : Prop := arrayStandsRow.holds Tryz.pinned (OpenSpec.ofChange arrayStandsWrong)

/- THE SECOND FORM. 'bulk': how many values and letters a reading holds, each counted each time it is reached (what is shared counts as often as it is met; a slice's spare places count too). A statement '..UptoSaid' is the law's where the arguments, and the package variables that the reading takes, are together of bulk at most 1048576: NARROWER than '..Said'. Prove '..Said' where nothing that the law and all that it calls make is longer than what came in: it says more and counts as full. Else prove '..UptoSaid'. A law counts once. -/
mutual
def uptoBulk {H : Type} : DataW H → Nat
  | .lit (.string bytes) => bytes.length + 1
  | .lit _ => 1
  | .nil => 1
  | .ptr d => uptoBulk d + 1
  | .slice elems spare => uptoBulkAll elems + uptoBulkAll spare + 1
  | .agg parts => uptoBulkAll parts + 1
  | .iface _ d => uptoBulk d + 1
  | .map entries => uptoBulkEntries entries + 1
  | .held _ => 1
def uptoBulkAll {H : Type} : List (DataW H) → Nat
  | [] => 0
  | d :: r => uptoBulk d + uptoBulkAll r
def uptoBulkEntries {H : Type} : List (Lit × DataW H) → Nat
  | [] => 0
  | x :: r => uptoBulkEntry x + uptoBulkEntries r
def uptoBulkEntry {H : Type} : Lit × DataW H → Nat
  | (.string bytes, d) => bytes.length + uptoBulk d + 1
  | (_, d) => uptoBulk d + 1
 end
def uptoSmall : (H : Type) → List (DataW H) → Bool := fun _ ds => decide (uptoBulkAll ds ≤ 1048576)
def OpenSpec.upto (s : _root_.Go.ChangeSpec) : _root_.Go.OpenSpec := { _root_.Go.OpenSpec.ofChange s with cond := some uptoSmall }

/-- 'hoardlaw06.ArrayCosts', WHERE WHAT IT READS IS OF BULK AT MOST 1048576: true; the input reads as it did. -/
def arrayCostsUptoRow : OpenClaim := { program := "ytmfjhnfhpcpfeaagreatdoor", sum := "570028012087f74243fe76f5c407615de8a95f13f4004cd8aee2e60713b34960", func := "hoard/hoardlaw06.ArrayCosts", spec := "arrayCosts", inPlace := ["sync/atomic.LoadUint32", "(*internal/sync.Mutex).Lock", "internal/race.Disable", "sync/atomic.CompareAndSwapInt32", "internal/race.Enable", "internal/race.Acquire", "(*internal/sync.Mutex).lockSlow", "internal/sync.runtime_canSpin", "internal/sync.runtime_doSpin", "internal/sync.throw", "internal/sync.runtime_nanotime", "internal/sync.runtime_SemacquireMutex", "sync/atomic.AddInt32", "(*internal/sync.Mutex).Unlock", "internal/race.ReleaseMerge", "(*internal/sync.Mutex).unlockSlow", "internal/sync.fatal", "internal/sync.runtime_Semrelease", "sync/atomic.StoreUint32"], unfollowed := true, recurses := true, named := ["hoard/sha.roots"], plainKeys := false, apart := false, laid := [("hoard/sha.roots", laid_hoard_sha_roots)], narrowed := true }
def ArrayCostsUptoSaid : Prop := arrayCostsUptoRow.holds Tryz.pinned (OpenSpec.upto arrayCostsSpec)

/-- 'hoardlaw06.ArrayApart', WHERE WHAT IT READS IS OF BULK AT MOST 1048576: true; the input reads as it did. -/
def arrayApartUptoRow : OpenClaim := { program := "ytmfjhnfhpcpfeaagreatdoor", sum := "570028012087f74243fe76f5c407615de8a95f13f4004cd8aee2e60713b34960", func := "hoard/hoardlaw06.ArrayApart", spec := "arrayApart", inPlace := ["sync/atomic.LoadUint32", "(*internal/sync.Mutex).Lock", "internal/race.Disable", "sync/atomic.CompareAndSwapInt32", "internal/race.Enable", "internal/race.Acquire", "(*internal/sync.Mutex).lockSlow", "internal/sync.runtime_canSpin", "internal/sync.runtime_doSpin", "internal/sync.throw", "internal/sync.runtime_nanotime", "internal/sync.runtime_SemacquireMutex", "sync/atomic.AddInt32", "(*internal/sync.Mutex).Unlock", "internal/race.ReleaseMerge", "(*internal/sync.Mutex).unlockSlow", "internal/sync.fatal", "internal/sync.runtime_Semrelease", "sync/atomic.StoreUint32"], unfollowed := true, recurses := true, named := ["hoard/sha.roots"], plainKeys := false, apart := false, laid := [("hoard/sha.roots", laid_hoard_sha_roots)], narrowed := true }
def ArrayApartUptoSaid : Prop := arrayApartUptoRow.holds Tryz.pinned (OpenSpec.upto arrayApartSpec)

/-- 'hoardlaw06.ArrayFour', WHERE WHAT IT READS IS OF BULK AT MOST 1048576: true; the input reads as it did. -/
def arrayFourUptoRow : OpenClaim := { program := "ytmfjhnfhpcpfeaagreatdoor", sum := "570028012087f74243fe76f5c407615de8a95f13f4004cd8aee2e60713b34960", func := "hoard/hoardlaw06.ArrayFour", spec := "arrayFour", inPlace := ["sync/atomic.LoadUint32", "(*internal/sync.Mutex).Lock", "internal/race.Disable", "sync/atomic.CompareAndSwapInt32", "internal/race.Enable", "internal/race.Acquire", "(*internal/sync.Mutex).lockSlow", "internal/sync.runtime_canSpin", "internal/sync.runtime_doSpin", "internal/sync.throw", "internal/sync.runtime_nanotime", "internal/sync.runtime_SemacquireMutex", "sync/atomic.AddInt32", "(*internal/sync.Mutex).Unlock", "internal/race.ReleaseMerge", "(*internal/sync.Mutex).unlockSlow", "internal/sync.fatal", "internal/sync.runtime_Semrelease", "sync/atomic.StoreUint32"], unfollowed := true, recurses := true, named := ["hoard/sha.roots"], plainKeys := false, apart := false, laid := [("hoard/sha.roots", laid_hoard_sha_roots)], narrowed := true }
def ArrayFourUptoSaid : Prop := arrayFourUptoRow.holds Tryz.pinned (OpenSpec.upto arrayFourSpec)

/-- 'hoardlaw06.ArrayTails', WHERE WHAT IT READS IS OF BULK AT MOST 1048576: true; the input reads as it did. -/
def arrayTailsUptoRow : OpenClaim := { program := "ytmfjhnfhpcpfeaagreatdoor", sum := "570028012087f74243fe76f5c407615de8a95f13f4004cd8aee2e60713b34960", func := "hoard/hoardlaw06.ArrayTails", spec := "arrayTails", inPlace := ["sync/atomic.LoadUint32", "(*internal/sync.Mutex).Lock", "internal/race.Disable", "sync/atomic.CompareAndSwapInt32", "internal/race.Enable", "internal/race.Acquire", "(*internal/sync.Mutex).lockSlow", "internal/sync.runtime_canSpin", "internal/sync.runtime_doSpin", "internal/sync.throw", "internal/sync.runtime_nanotime", "internal/sync.runtime_SemacquireMutex", "sync/atomic.AddInt32", "(*internal/sync.Mutex).Unlock", "internal/race.ReleaseMerge", "(*internal/sync.Mutex).unlockSlow", "internal/sync.fatal", "internal/sync.runtime_Semrelease", "sync/atomic.StoreUint32"], unfollowed := true, recurses := true, named := ["hoard/sha.roots"], plainKeys := false, apart := false, laid := [("hoard/sha.roots", laid_hoard_sha_roots)], narrowed := true }
def ArrayTailsUptoSaid : Prop := arrayTailsUptoRow.holds Tryz.pinned (OpenSpec.upto arrayTailsSpec)

/-- 'hoardlaw06.ArrayHonest', WHERE WHAT IT READS IS OF BULK AT MOST 1048576: true; the input reads as it did. -/
def arrayHonestUptoRow : OpenClaim := { program := "ytmfjhnfhpcpfeaagreatdoor", sum := "570028012087f74243fe76f5c407615de8a95f13f4004cd8aee2e60713b34960", func := "hoard/hoardlaw06.ArrayHonest", spec := "arrayHonest", inPlace := ["sync/atomic.LoadUint32", "(*internal/sync.Mutex).Lock", "internal/race.Disable", "sync/atomic.CompareAndSwapInt32", "internal/race.Enable", "internal/race.Acquire", "(*internal/sync.Mutex).lockSlow", "internal/sync.runtime_canSpin", "internal/sync.runtime_doSpin", "internal/sync.throw", "internal/sync.runtime_nanotime", "internal/sync.runtime_SemacquireMutex", "sync/atomic.AddInt32", "(*internal/sync.Mutex).Unlock", "internal/race.ReleaseMerge", "(*internal/sync.Mutex).unlockSlow", "internal/sync.fatal", "internal/sync.runtime_Semrelease", "sync/atomic.StoreUint32"], unfollowed := true, recurses := true, named := ["hoard/sha.roots"], plainKeys := false, apart := false, laid := [("hoard/sha.roots", laid_hoard_sha_roots)], narrowed := true }
def ArrayHonestUptoSaid : Prop := arrayHonestUptoRow.holds Tryz.pinned (OpenSpec.upto arrayHonestSpec)

/-- 'hoardlaw06.ArrayStands', WHERE WHAT IT READS IS OF BULK AT MOST 1048576: true; the input reads as it did. -/
def arrayStandsUptoRow : OpenClaim := { program := "ytmfjhnfhpcpfeaagreatdoor", sum := "570028012087f74243fe76f5c407615de8a95f13f4004cd8aee2e60713b34960", func := "hoard/hoardlaw06.ArrayStands", spec := "arrayStands", inPlace := ["sync/atomic.LoadUint32", "(*internal/sync.Mutex).Lock", "internal/race.Disable", "sync/atomic.CompareAndSwapInt32", "internal/race.Enable", "internal/race.Acquire", "(*internal/sync.Mutex).lockSlow", "internal/sync.runtime_canSpin", "internal/sync.runtime_doSpin", "internal/sync.throw", "internal/sync.runtime_nanotime", "internal/sync.runtime_SemacquireMutex", "sync/atomic.AddInt32", "(*internal/sync.Mutex).Unlock", "internal/race.ReleaseMerge", "(*internal/sync.Mutex).unlockSlow", "internal/sync.fatal", "internal/sync.runtime_Semrelease", "sync/atomic.StoreUint32"], unfollowed := true, recurses := true, named := ["hoard/sha.roots"], plainKeys := false, apart := false, laid := [("hoard/sha.roots", laid_hoard_sha_roots)], narrowed := true }
def ArrayStandsUptoSaid : Prop := arrayStandsUptoRow.holds Tryz.pinned (OpenSpec.upto arrayStandsSpec)

end Rows
end Go.Proofs.YtmfjhnfhpcpfeaaGreatDoor
