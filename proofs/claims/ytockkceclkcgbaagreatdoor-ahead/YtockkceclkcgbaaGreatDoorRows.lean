/-
  NARROWER THAN 'FOR EVERY INPUT', by the rows' own cells (each row's printed sentence says how): Opens: laid · Taken: laid · All: laid · Right: laid · Kept: laid · Lively: laid · Again: laid · Apart: laid · Named: laid · Ahead: laid.
  DERIVED. THE GIVEN ROWS OF THIS SEAT. 10 by the template 'for every input the law returns true; each argument reads behind the call as it read before'; 0 by the template 'total and deterministic' (their statements: YtockkceclkcgbaaGreatDoorTotals.lean).
  GIVEN WITH THE SEED: the statements are not yours to turn. If you find one false, say at which input.
  Laid BY PROGRAM, IN A SANDBOX (cutbox-rows.mjs): the forced cells as the released guide's own fill.sh prints them over the translation ac174858fd772bd3… (all of the seat's roots in one cut). By AI agents, Wed Nov 11 2026. No macro, syntax, notation, axiom, sorry.
-/
import Derived.Test.YtockkceclkcgbaaGreatDoorChecked
import GoSem.Claim
import GoSem.ClaimJoined
import GoSem.ClaimMapViews
import Derived.JoinedTies
import Derived.KernelRfl
namespace Go.Proofs.YtockkceclkcgbaaGreatDoor
/- THE CELL 'sum', in the pinned program and in every row, IS THE sha256 OF THE DUMP (.gsa) THAT YtockkceclkcgbaaGreatDoorProg.lean LOADS. Nothing in Lean hashes anything: it is a label: what it is worth is what the hold of that sum in a sandbox is worth. -/
noncomputable def Tryz.pinned : Pinned := { name := "ytockkceclkcgbaagreatdoor", sum := "ac174858fd772bd35865ec6bca667a73ce91eae6e15824603dc2c689e6886ab3", checked := Tryz.checked }
namespace Rows
def none {H : Type} : Left H := { results := [], args := [] }

/- WHAT THE LISTED PACKAGE-LEVEL VARIABLES READ AS WHEN THE CALL BEGINS. Each datum BY PROGRAM (the guide's laid-datum.mjs) off the statement by which the dump's own 'gosem.cut.vars' lays the variable. In a bare row this is a premise. The card (YtockkceclkcgbaaGreatDoorCards.lean) ties it to the program's text. -/
def laid_quay_quay_errCut {H : Type} : DataW H := .iface "*errors.errorString" (.ptr (.agg [.lit (.string [116, 104, 101, 32, 116, 101, 120, 116, 32, 101, 110, 100, 115, 32, 119, 105, 116, 104, 105, 110, 32, 97, 32, 114, 101, 99, 111, 114, 100])]))
def laid_quay_quay_errWrong {H : Type} : DataW H := .iface "*errors.errorString" (.ptr (.agg [.lit (.string [116, 104, 101, 32, 116, 101, 120, 116, 32, 105, 115, 32, 110, 111, 32, 108, 111, 103])]))

/-- 'quaylaw.Opens': WHATEVER THE INPUT: true; the input reads as it did. -/
def opensSpec : ChangeSpec := { name := "opens", fn := fun _ => fun
  | [d1, d2, d3] => { results := [.lit (.bool true)], args := [d1, d2, d3] }
  | _ => none }
def opensRow : OpenClaim := { program := "ytockkceclkcgbaagreatdoor", sum := "ac174858fd772bd35865ec6bca667a73ce91eae6e15824603dc2c689e6886ab3", func := "quay/quaylaw.Opens", spec := "opens", inPlace := ["internal/reflectlite.TypeOf"], unfollowed := true, recurses := true, named := ["quay/quay.errCut", "quay/quay.errWrong"], apart := false, laid := [("quay/quay.errCut", laid_quay_quay_errCut), ("quay/quay.errWrong", laid_quay_quay_errWrong)] }
def OpensSaid : Prop := opensRow.holds Tryz.pinned (OpenSpec.ofChange opensSpec)

/-- ITS FALSE NEIGHBOUR: 'it returns false'. Refute it at one input. -/
def opensWrong : ChangeSpec := { name := "opens", fn := fun _ => fun
  | [d1, d2, d3] => { results := [.lit (.bool false)], args := [d1, d2, d3] }
  | _ => none }
def OpensWrongFalsely : Prop := opensRow.holds Tryz.pinned (OpenSpec.ofChange opensWrong)

/-- 'quaylaw.Taken': WHATEVER THE INPUT: true; the input reads as it did. -/
def takenSpec : ChangeSpec := { name := "taken", fn := fun _ => fun
  | [d1, d2, d3] => { results := [.lit (.bool true)], args := [d1, d2, d3] }
  | _ => none }
def takenRow : OpenClaim := { program := "ytockkceclkcgbaagreatdoor", sum := "ac174858fd772bd35865ec6bca667a73ce91eae6e15824603dc2c689e6886ab3", func := "quay/quaylaw.Taken", spec := "taken", inPlace := ["internal/reflectlite.TypeOf"], unfollowed := true, recurses := true, named := ["quay/quay.errCut", "quay/quay.errWrong"], apart := false, laid := [("quay/quay.errCut", laid_quay_quay_errCut), ("quay/quay.errWrong", laid_quay_quay_errWrong)] }
def TakenSaid : Prop := takenRow.holds Tryz.pinned (OpenSpec.ofChange takenSpec)

/-- ITS FALSE NEIGHBOUR: 'it returns false'. Refute it at one input. -/
def takenWrong : ChangeSpec := { name := "taken", fn := fun _ => fun
  | [d1, d2, d3] => { results := [.lit (.bool false)], args := [d1, d2, d3] }
  | _ => none }
def TakenWrongFalsely : Prop := takenRow.holds Tryz.pinned (OpenSpec.ofChange takenWrong)

/-- 'quaylaw.All': WHATEVER THE INPUT: true; the input reads as it did. -/
def allSpec : ChangeSpec := { name := "all", fn := fun _ => fun
  | [d1, d2, d3] => { results := [.lit (.bool true)], args := [d1, d2, d3] }
  | _ => none }
def allRow : OpenClaim := { program := "ytockkceclkcgbaagreatdoor", sum := "ac174858fd772bd35865ec6bca667a73ce91eae6e15824603dc2c689e6886ab3", func := "quay/quaylaw.All", spec := "all", inPlace := ["internal/reflectlite.TypeOf"], unfollowed := true, recurses := true, named := ["quay/quay.errCut", "quay/quay.errWrong"], apart := false, laid := [("quay/quay.errCut", laid_quay_quay_errCut), ("quay/quay.errWrong", laid_quay_quay_errWrong)] }
def AllSaid : Prop := allRow.holds Tryz.pinned (OpenSpec.ofChange allSpec)

/-- ITS FALSE NEIGHBOUR: 'it returns false'. Refute it at one input. -/
def allWrong : ChangeSpec := { name := "all", fn := fun _ => fun
  | [d1, d2, d3] => { results := [.lit (.bool false)], args := [d1, d2, d3] }
  | _ => none }
def AllWrongFalsely : Prop := allRow.holds Tryz.pinned (OpenSpec.ofChange allWrong)

/-- 'quaykeep.Right': WHATEVER THE INPUT: true; the input reads as it did. -/
def rightSpec : ChangeSpec := { name := "right", fn := fun _ => fun
  | [d1, d2] => { results := [.lit (.bool true)], args := [d1, d2] }
  | _ => none }
def rightRow : OpenClaim := { program := "ytockkceclkcgbaagreatdoor", sum := "ac174858fd772bd35865ec6bca667a73ce91eae6e15824603dc2c689e6886ab3", func := "quay/quaykeep.Right", spec := "right", inPlace := ["internal/reflectlite.TypeOf"], unfollowed := true, recurses := true, named := ["quay/quay.errCut", "quay/quay.errWrong"], apart := false, laid := [("quay/quay.errCut", laid_quay_quay_errCut), ("quay/quay.errWrong", laid_quay_quay_errWrong)] }
def RightSaid : Prop := rightRow.holds Tryz.pinned (OpenSpec.ofChange rightSpec)

/-- ITS FALSE NEIGHBOUR: 'it returns false'. Refute it at one input. -/
def rightWrong : ChangeSpec := { name := "right", fn := fun _ => fun
  | [d1, d2] => { results := [.lit (.bool false)], args := [d1, d2] }
  | _ => none }
def RightWrongFalsely : Prop := rightRow.holds Tryz.pinned (OpenSpec.ofChange rightWrong)

/-- 'quaykeep.Kept': WHATEVER THE INPUT: true; the input reads as it did. -/
def keptSpec : ChangeSpec := { name := "kept", fn := fun _ => fun
  | [d1, d2] => { results := [.lit (.bool true)], args := [d1, d2] }
  | _ => none }
def keptRow : OpenClaim := { program := "ytockkceclkcgbaagreatdoor", sum := "ac174858fd772bd35865ec6bca667a73ce91eae6e15824603dc2c689e6886ab3", func := "quay/quaykeep.Kept", spec := "kept", inPlace := ["internal/reflectlite.TypeOf"], unfollowed := true, recurses := true, named := ["quay/quay.errCut", "quay/quay.errWrong"], apart := false, laid := [("quay/quay.errCut", laid_quay_quay_errCut), ("quay/quay.errWrong", laid_quay_quay_errWrong)] }
def KeptSaid : Prop := keptRow.holds Tryz.pinned (OpenSpec.ofChange keptSpec)

/-- ITS FALSE NEIGHBOUR: 'it returns false'. Refute it at one input. -/
def keptWrong : ChangeSpec := { name := "kept", fn := fun _ => fun
  | [d1, d2] => { results := [.lit (.bool false)], args := [d1, d2] }
  | _ => none }
def KeptWrongFalsely : Prop := keptRow.holds Tryz.pinned (OpenSpec.ofChange keptWrong)

/-- 'quaykeep.Lively': WHATEVER THE INPUT: true; the input reads as it did. -/
def livelySpec : ChangeSpec := { name := "lively", fn := fun _ => fun
  | [d1, d2] => { results := [.lit (.bool true)], args := [d1, d2] }
  | _ => none }
def livelyRow : OpenClaim := { program := "ytockkceclkcgbaagreatdoor", sum := "ac174858fd772bd35865ec6bca667a73ce91eae6e15824603dc2c689e6886ab3", func := "quay/quaykeep.Lively", spec := "lively", inPlace := ["internal/reflectlite.TypeOf"], unfollowed := true, recurses := true, named := ["quay/quay.errCut", "quay/quay.errWrong"], apart := false, laid := [("quay/quay.errCut", laid_quay_quay_errCut), ("quay/quay.errWrong", laid_quay_quay_errWrong)] }
def LivelySaid : Prop := livelyRow.holds Tryz.pinned (OpenSpec.ofChange livelySpec)

/-- ITS FALSE NEIGHBOUR: 'it returns false'. Refute it at one input. -/
def livelyWrong : ChangeSpec := { name := "lively", fn := fun _ => fun
  | [d1, d2] => { results := [.lit (.bool false)], args := [d1, d2] }
  | _ => none }
def LivelyWrongFalsely : Prop := livelyRow.holds Tryz.pinned (OpenSpec.ofChange livelyWrong)

/-- 'quaykeep.Again': WHATEVER THE INPUT: true; the input reads as it did. -/
def againSpec : ChangeSpec := { name := "again", fn := fun _ => fun
  | [d1, d2] => { results := [.lit (.bool true)], args := [d1, d2] }
  | _ => none }
def againRow : OpenClaim := { program := "ytockkceclkcgbaagreatdoor", sum := "ac174858fd772bd35865ec6bca667a73ce91eae6e15824603dc2c689e6886ab3", func := "quay/quaykeep.Again", spec := "again", inPlace := ["internal/reflectlite.TypeOf"], unfollowed := true, recurses := true, named := ["quay/quay.errCut", "quay/quay.errWrong"], apart := false, laid := [("quay/quay.errCut", laid_quay_quay_errCut), ("quay/quay.errWrong", laid_quay_quay_errWrong)] }
def AgainSaid : Prop := againRow.holds Tryz.pinned (OpenSpec.ofChange againSpec)

/-- ITS FALSE NEIGHBOUR: 'it returns false'. Refute it at one input. -/
def againWrong : ChangeSpec := { name := "again", fn := fun _ => fun
  | [d1, d2] => { results := [.lit (.bool false)], args := [d1, d2] }
  | _ => none }
def AgainWrongFalsely : Prop := againRow.holds Tryz.pinned (OpenSpec.ofChange againWrong)

/-- 'quaykeep.Apart': WHATEVER THE INPUT: true; the input reads as it did. -/
def apartSpec : ChangeSpec := { name := "apart", fn := fun _ => fun
  | [d1, d2] => { results := [.lit (.bool true)], args := [d1, d2] }
  | _ => none }
def apartRow : OpenClaim := { program := "ytockkceclkcgbaagreatdoor", sum := "ac174858fd772bd35865ec6bca667a73ce91eae6e15824603dc2c689e6886ab3", func := "quay/quaykeep.Apart", spec := "apart", inPlace := ["internal/reflectlite.TypeOf"], unfollowed := true, recurses := true, named := ["quay/quay.errCut", "quay/quay.errWrong"], apart := false, laid := [("quay/quay.errCut", laid_quay_quay_errCut), ("quay/quay.errWrong", laid_quay_quay_errWrong)] }
def ApartSaid : Prop := apartRow.holds Tryz.pinned (OpenSpec.ofChange apartSpec)

/-- ITS FALSE NEIGHBOUR: 'it returns false'. Refute it at one input. -/
def apartWrong : ChangeSpec := { name := "apart", fn := fun _ => fun
  | [d1, d2] => { results := [.lit (.bool false)], args := [d1, d2] }
  | _ => none }
def ApartWrongFalsely : Prop := apartRow.holds Tryz.pinned (OpenSpec.ofChange apartWrong)

/-- 'quaykeep.Named': WHATEVER THE INPUT: true; the input reads as it did. -/
def namedSpec : ChangeSpec := { name := "named", fn := fun _ => fun
  | [d1, d2, d3] => { results := [.lit (.bool true)], args := [d1, d2, d3] }
  | _ => none }
def namedRow : OpenClaim := { program := "ytockkceclkcgbaagreatdoor", sum := "ac174858fd772bd35865ec6bca667a73ce91eae6e15824603dc2c689e6886ab3", func := "quay/quaykeep.Named", spec := "named", inPlace := ["internal/reflectlite.TypeOf"], unfollowed := true, recurses := true, named := ["quay/quay.errCut", "quay/quay.errWrong"], apart := false, laid := [("quay/quay.errCut", laid_quay_quay_errCut), ("quay/quay.errWrong", laid_quay_quay_errWrong)] }
def NamedSaid : Prop := namedRow.holds Tryz.pinned (OpenSpec.ofChange namedSpec)

/-- ITS FALSE NEIGHBOUR: 'it returns false'. Refute it at one input. -/
def namedWrong : ChangeSpec := { name := "named", fn := fun _ => fun
  | [d1, d2, d3] => { results := [.lit (.bool false)], args := [d1, d2, d3] }
  | _ => none }
def NamedWrongFalsely : Prop := namedRow.holds Tryz.pinned (OpenSpec.ofChange namedWrong)

/-- 'quaykeep.Ahead': WHATEVER THE INPUT: true; the input reads as it did. -/
def aheadSpec : ChangeSpec := { name := "ahead", fn := fun _ => fun
  | [d1, d2, d3, d4] => { results := [.lit (.bool true)], args := [d1, d2, d3, d4] }
  | _ => none }
def aheadRow : OpenClaim := { program := "ytockkceclkcgbaagreatdoor", sum := "ac174858fd772bd35865ec6bca667a73ce91eae6e15824603dc2c689e6886ab3", func := "quay/quaykeep.Ahead", spec := "ahead", inPlace := ["internal/reflectlite.TypeOf"], unfollowed := true, recurses := true, named := ["quay/quay.errCut", "quay/quay.errWrong"], apart := false, laid := [("quay/quay.errCut", laid_quay_quay_errCut), ("quay/quay.errWrong", laid_quay_quay_errWrong)] }
def AheadSaid : Prop := aheadRow.holds Tryz.pinned (OpenSpec.ofChange aheadSpec)

/-- ITS FALSE NEIGHBOUR: 'it returns false'. Refute it at one input. -/
def aheadWrong : ChangeSpec := { name := "ahead", fn := fun _ => fun
  | [d1, d2, d3, d4] => { results := [.lit (.bool false)], args := [d1, d2, d3, d4] }
  | _ => none }
def AheadWrongFalsely : Prop := aheadRow.holds Tryz.pinned (OpenSpec.ofChange aheadWrong)

/- THE SECOND FORM. 'bulk': how many values and letters a reading holds, each counted each time it is reached (what is shared counts as often as it is met; a slice's spare places count too). A statement '..UptoSaid' is the law's where the arguments, and the package variables that the reading takes, are together of bulk at most 1048576: NARROWER than '..Said'. Prove '..Said' where nothing that the law and all that it calls make is longer than what came in: it says more and counts as full. Else prove '..UptoSaid'. A law counts once. -/
mutual
def uptoBulk {H : Type} : DataW H → Nat
  | .lit (.string bytes) => bytes.length + 1
  | .lit _ => 1
  | .nil => 1
  | .ptr d => uptoBulk d + 1
  | .slice elems spare => uptoBulkAll elems + uptoBulkAll spare + 1
  | .agg parts => uptoBulkAll parts + 1
  | .iface _ d => uptoBulk d + 1
  | .map entries => uptoBulkEntries entries + 1
  | .held _ => 1
def uptoBulkAll {H : Type} : List (DataW H) → Nat
  | [] => 0
  | d :: r => uptoBulk d + uptoBulkAll r
def uptoBulkEntries {H : Type} : List (Lit × DataW H) → Nat
  | [] => 0
  | x :: r => uptoBulkEntry x + uptoBulkEntries r
def uptoBulkEntry {H : Type} : Lit × DataW H → Nat
  | (.string bytes, d) => bytes.length + uptoBulk d + 1
  | (_, d) => uptoBulk d + 1
 end
def uptoSmall : (H : Type) → List (DataW H) → Bool := fun _ ds => decide (uptoBulkAll ds ≤ 1048576)
def OpenSpec.upto (s : _root_.Go.ChangeSpec) : _root_.Go.OpenSpec := { _root_.Go.OpenSpec.ofChange s with cond := some uptoSmall }

/-- 'quaylaw.Opens', WHERE WHAT IT READS IS OF BULK AT MOST 1048576: true; the input reads as it did. -/
def opensUptoRow : OpenClaim := { program := "ytockkceclkcgbaagreatdoor", sum := "ac174858fd772bd35865ec6bca667a73ce91eae6e15824603dc2c689e6886ab3", func := "quay/quaylaw.Opens", spec := "opens", inPlace := ["internal/reflectlite.TypeOf"], unfollowed := true, recurses := true, named := ["quay/quay.errCut", "quay/quay.errWrong"], apart := false, laid := [("quay/quay.errCut", laid_quay_quay_errCut), ("quay/quay.errWrong", laid_quay_quay_errWrong)], narrowed := true }
def OpensUptoSaid : Prop := opensUptoRow.holds Tryz.pinned (OpenSpec.upto opensSpec)

/-- 'quaylaw.Taken', WHERE WHAT IT READS IS OF BULK AT MOST 1048576: true; the input reads as it did. -/
def takenUptoRow : OpenClaim := { program := "ytockkceclkcgbaagreatdoor", sum := "ac174858fd772bd35865ec6bca667a73ce91eae6e15824603dc2c689e6886ab3", func := "quay/quaylaw.Taken", spec := "taken", inPlace := ["internal/reflectlite.TypeOf"], unfollowed := true, recurses := true, named := ["quay/quay.errCut", "quay/quay.errWrong"], apart := false, laid := [("quay/quay.errCut", laid_quay_quay_errCut), ("quay/quay.errWrong", laid_quay_quay_errWrong)], narrowed := true }
def TakenUptoSaid : Prop := takenUptoRow.holds Tryz.pinned (OpenSpec.upto takenSpec)

/-- 'quaylaw.All', WHERE WHAT IT READS IS OF BULK AT MOST 1048576: true; the input reads as it did. -/
def allUptoRow : OpenClaim := { program := "ytockkceclkcgbaagreatdoor", sum := "ac174858fd772bd35865ec6bca667a73ce91eae6e15824603dc2c689e6886ab3", func := "quay/quaylaw.All", spec := "all", inPlace := ["internal/reflectlite.TypeOf"], unfollowed := true, recurses := true, named := ["quay/quay.errCut", "quay/quay.errWrong"], apart := false, laid := [("quay/quay.errCut", laid_quay_quay_errCut), ("quay/quay.errWrong", laid_quay_quay_errWrong)], narrowed := true }
def AllUptoSaid : Prop := allUptoRow.holds Tryz.pinned (OpenSpec.upto allSpec)

/-- 'quaykeep.Right', WHERE WHAT IT READS IS OF BULK AT MOST 1048576: true; the input reads as it did. -/
def rightUptoRow : OpenClaim := { program := "ytockkceclkcgbaagreatdoor", sum := "ac174858fd772bd35865ec6bca667a73ce91eae6e15824603dc2c689e6886ab3", func := "quay/quaykeep.Right", spec := "right", inPlace := ["internal/reflectlite.TypeOf"], unfollowed := true, recurses := true, named := ["quay/quay.errCut", "quay/quay.errWrong"], apart := false, laid := [("quay/quay.errCut", laid_quay_quay_errCut), ("quay/quay.errWrong", laid_quay_quay_errWrong)], narrowed := true }
def RightUptoSaid : Prop := rightUptoRow.holds Tryz.pinned (OpenSpec.upto rightSpec)

/-- 'quaykeep.Kept', WHERE WHAT IT READS IS OF BULK AT MOST 1048576: true; the input reads as it did. -/
def keptUptoRow : OpenClaim := { program := "ytockkceclkcgbaagreatdoor", sum := "ac174858fd772bd35865ec6bca667a73ce91eae6e15824603dc2c689e6886ab3", func := "quay/quaykeep.Kept", spec := "kept", inPlace := ["internal/reflectlite.TypeOf"], unfollowed := true, recurses := true, named := ["quay/quay.errCut", "quay/quay.errWrong"], apart := false, laid := [("quay/quay.errCut", laid_quay_quay_errCut), ("quay/quay.errWrong", laid_quay_quay_errWrong)], narrowed := true }
def KeptUptoSaid : Prop := keptUptoRow.holds Tryz.pinned (OpenSpec.upto keptSpec)

/-- 'quaykeep.Lively', WHERE WHAT IT READS IS OF BULK AT MOST 1048576: true; the input reads as it did. -/
def livelyUptoRow : OpenClaim := { program := "ytockkceclkcgbaagreatdoor", sum := "ac174858fd772bd35865ec6bca667a73ce91eae6e15824603dc2c689e6886ab3", func := "quay/quaykeep.Lively", spec := "lively", inPlace := ["internal/reflectlite.TypeOf"], unfollowed := true, recurses := true, named := ["quay/quay.errCut", "quay/quay.errWrong"], apart := false, laid := [("quay/quay.errCut", laid_quay_quay_errCut), ("quay/quay.errWrong", laid_quay_quay_errWrong)], narrowed := true }
def LivelyUptoSaid : Prop := livelyUptoRow.holds Tryz.pinned (OpenSpec.upto livelySpec)

/-- 'quaykeep.Again', WHERE WHAT IT READS IS OF BULK AT MOST 1048576: true; the input reads as it did. -/
def againUptoRow : OpenClaim := { program := "ytockkceclkcgbaagreatdoor", sum := "ac174858fd772bd35865ec6bca667a73ce91eae6e15824603dc2c689e6886ab3", func := "quay/quaykeep.Again", spec := "again", inPlace := ["internal/reflectlite.TypeOf"], unfollowed := true, recurses := true, named := ["quay/quay.errCut", "quay/quay.errWrong"], apart := false, laid := [("quay/quay.errCut", laid_quay_quay_errCut), ("quay/quay.errWrong", laid_quay_quay_errWrong)], narrowed := true }
def AgainUptoSaid : Prop := againUptoRow.holds Tryz.pinned (OpenSpec.upto againSpec)

/-- 'quaykeep.Apart', WHERE WHAT IT READS IS OF BULK AT MOST 1048576: true; the input reads as it did. -/
def apartUptoRow : OpenClaim := { program := "ytockkceclkcgbaagreatdoor", sum := "ac174858fd772bd35865ec6bca667a73ce91eae6e15824603dc2c689e6886ab3", func := "quay/quaykeep.Apart", spec := "apart", inPlace := ["internal/reflectlite.TypeOf"], unfollowed := true, recurses := true, named := ["quay/quay.errCut", "quay/quay.errWrong"], apart := false, laid := [("quay/quay.errCut", laid_quay_quay_errCut), ("quay/quay.errWrong", laid_quay_quay_errWrong)], narrowed := true }
def ApartUptoSaid : Prop := apartUptoRow.holds Tryz.pinned (OpenSpec.upto apartSpec)

/-- 'quaykeep.Named', WHERE WHAT IT READS IS OF BULK AT MOST 1048576: true; the input reads as it did. -/
def namedUptoRow : OpenClaim := { program := "ytockkceclkcgbaagreatdoor", sum := "ac174858fd772bd35865ec6bca667a73ce91eae6e15824603dc2c689e6886ab3", func := "quay/quaykeep.Named", spec := "named", inPlace := ["internal/reflectlite.TypeOf"], unfollowed := true, recurses := true, named := ["quay/quay.errCut", "quay/quay.errWrong"], apart := false, laid := [("quay/quay.errCut", laid_quay_quay_errCut), ("quay/quay.errWrong", laid_quay_quay_errWrong)], narrowed := true }
def NamedUptoSaid : Prop := namedUptoRow.holds Tryz.pinned (OpenSpec.upto namedSpec)

/-- 'quaykeep.Ahead', WHERE WHAT IT READS IS OF BULK AT MOST 1048576: true; the input reads as it did. -/
def aheadUptoRow : OpenClaim := { program := "ytockkceclkcgbaagreatdoor", sum := "ac174858fd772bd35865ec6bca667a73ce91eae6e15824603dc2c689e6886ab3", func := "quay/quaykeep.Ahead", spec := "ahead", inPlace := ["internal/reflectlite.TypeOf"], unfollowed := true, recurses := true, named := ["quay/quay.errCut", "quay/quay.errWrong"], apart := false, laid := [("quay/quay.errCut", laid_quay_quay_errCut), ("quay/quay.errWrong", laid_quay_quay_errWrong)], narrowed := true }
def AheadUptoSaid : Prop := aheadUptoRow.holds Tryz.pinned (OpenSpec.upto aheadSpec)

end Rows
end Go.Proofs.YtockkceclkcgbaaGreatDoor
