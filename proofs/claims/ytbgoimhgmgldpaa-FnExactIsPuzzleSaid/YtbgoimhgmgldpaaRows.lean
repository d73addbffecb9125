/-
  No cell of these rows narrows 'for every input' (looked for: loops, veiled, ifaces, maps, wideKeys, modest, calm, conditions, laid).
  DERIVED. THE GIVEN ROWS OF THIS SEAT. 14 by the template 'for every input the law returns true; each argument reads behind the call as it read before'; 0 by the template 'total and deterministic' (their statements: YtbgoimhgmgldpaaTotals.lean).
  GIVEN WITH THE SEED: the statements are not yours to turn. If you find one false, say at which input.
  Laid BY PROGRAM, IN A SANDBOX (cutbox-rows.mjs): the forced cells as the released guide's own fill.sh prints them over the translation a37a822dc7bca6dd… (all of the seat's roots in one cut). By AI agents, Wed Nov 11 2026. No macro, syntax, notation, axiom, sorry.
-/
import Derived.Test.YtbgoimhgmgldpaaChecked
import GoSem.Claim
import GoSem.ClaimJoined
import GoSem.ClaimMapViews
import Derived.JoinedTies
import Derived.KernelRfl
namespace Go.Proofs.Ytbgoimhgmgldpaa
/- THE CELL 'sum', in the pinned program and in every row, IS THE sha256 OF THE DUMP (.gsa) THAT YtbgoimhgmgldpaaProg.lean LOADS. Nothing in Lean hashes anything: it is a label: what it is worth is what the hold of that sum in a sandbox is worth. -/
noncomputable def Try.pinned : Pinned := { name := "ytbgoimhgmgldpaa", sum := "a37a822dc7bca6dd2c06bc1b0c0bf2442444959900ace2d5377d302861217b9d", checked := Try.checked }
namespace Rows
def none {H : Type} : Left H := { results := [], args := [] }

/-- 'laws.FnExactIsPuzzle': WHATEVER THE INPUT: true; the input reads as it did. -/
def fnExactIsPuzzleSpec : ChangeSpec := { name := "fnExactIsPuzzle", fn := fun _ => fun
  | [d] => { results := [.lit (.bool true)], args := [d] }
  | _ => none }
def fnExactIsPuzzleRow : OpenClaim := { program := "ytbgoimhgmgldpaa", sum := "a37a822dc7bca6dd2c06bc1b0c0bf2442444959900ace2d5377d302861217b9d", func := "loop.example/g01235/laws.FnExactIsPuzzle", spec := "fnExactIsPuzzle", apart := false }
def FnExactIsPuzzleSaid : Prop := fnExactIsPuzzleRow.holds Try.pinned (OpenSpec.ofChange fnExactIsPuzzleSpec)

/-- ITS FALSE NEIGHBOUR: 'it returns false'. Refute it at one input. -/
def fnExactIsPuzzleWrong : ChangeSpec := { name := "fnExactIsPuzzle", fn := fun _ => fun
  | [d] => { results := [.lit (.bool false)], args := [d] }
  | _ => none }
def FnExactIsPuzzleWrongFalsely : Prop := fnExactIsPuzzleRow.holds Try.pinned (OpenSpec.ofChange fnExactIsPuzzleWrong)

/-- 'laws.FnExactPatternOf': WHATEVER THE INPUT: true; the input reads as it did. -/
def fnExactPatternOfSpec : ChangeSpec := { name := "fnExactPatternOf", fn := fun _ => fun
  | [d1, d2] => { results := [.lit (.bool true)], args := [d1, d2] }
  | _ => none }
def fnExactPatternOfRow : OpenClaim := { program := "ytbgoimhgmgldpaa", sum := "a37a822dc7bca6dd2c06bc1b0c0bf2442444959900ace2d5377d302861217b9d", func := "loop.example/g01235/laws.FnExactPatternOf", spec := "fnExactPatternOf", apart := false }
def FnExactPatternOfSaid : Prop := fnExactPatternOfRow.holds Try.pinned (OpenSpec.ofChange fnExactPatternOfSpec)

/-- ITS FALSE NEIGHBOUR: 'it returns false'. Refute it at one input. -/
def fnExactPatternOfWrong : ChangeSpec := { name := "fnExactPatternOf", fn := fun _ => fun
  | [d1, d2] => { results := [.lit (.bool false)], args := [d1, d2] }
  | _ => none }
def FnExactPatternOfWrongFalsely : Prop := fnExactPatternOfRow.holds Try.pinned (OpenSpec.ofChange fnExactPatternOfWrong)

/-- 'laws.FnExactRulesThatFit': WHATEVER THE INPUT: true; the input reads as it did. -/
def fnExactRulesThatFitSpec : ChangeSpec := { name := "fnExactRulesThatFit", fn := fun _ => fun
  | [d] => { results := [.lit (.bool true)], args := [d] }
  | _ => none }
def fnExactRulesThatFitRow : OpenClaim := { program := "ytbgoimhgmgldpaa", sum := "a37a822dc7bca6dd2c06bc1b0c0bf2442444959900ace2d5377d302861217b9d", func := "loop.example/g01235/laws.FnExactRulesThatFit", spec := "fnExactRulesThatFit", apart := false }
def FnExactRulesThatFitSaid : Prop := fnExactRulesThatFitRow.holds Try.pinned (OpenSpec.ofChange fnExactRulesThatFitSpec)

/-- ITS FALSE NEIGHBOUR: 'it returns false'. Refute it at one input. -/
def fnExactRulesThatFitWrong : ChangeSpec := { name := "fnExactRulesThatFit", fn := fun _ => fun
  | [d] => { results := [.lit (.bool false)], args := [d] }
  | _ => none }
def FnExactRulesThatFitWrongFalsely : Prop := fnExactRulesThatFitRow.holds Try.pinned (OpenSpec.ofChange fnExactRulesThatFitWrong)

/-- 'laws.FnExactIsAnswer': WHATEVER THE INPUT: true; the input reads as it did. -/
def fnExactIsAnswerSpec : ChangeSpec := { name := "fnExactIsAnswer", fn := fun _ => fun
  | [d1, d2] => { results := [.lit (.bool true)], args := [d1, d2] }
  | _ => none }
def fnExactIsAnswerRow : OpenClaim := { program := "ytbgoimhgmgldpaa", sum := "a37a822dc7bca6dd2c06bc1b0c0bf2442444959900ace2d5377d302861217b9d", func := "loop.example/g01235/laws.FnExactIsAnswer", spec := "fnExactIsAnswer", apart := false }
def FnExactIsAnswerSaid : Prop := fnExactIsAnswerRow.holds Try.pinned (OpenSpec.ofChange fnExactIsAnswerSpec)

/-- ITS FALSE NEIGHBOUR: 'it returns false'. Refute it at one input. -/
def fnExactIsAnswerWrong : ChangeSpec := { name := "fnExactIsAnswer", fn := fun _ => fun
  | [d1, d2] => { results := [.lit (.bool false)], args := [d1, d2] }
  | _ => none }
def FnExactIsAnswerWrongFalsely : Prop := fnExactIsAnswerRow.holds Try.pinned (OpenSpec.ofChange fnExactIsAnswerWrong)

/-- 'laws.FnExactAnswers': WHATEVER THE INPUT: true; the input reads as it did. -/
def fnExactAnswersSpec : ChangeSpec := { name := "fnExactAnswers", fn := fun _ => fun
  | [d] => { results := [.lit (.bool true)], args := [d] }
  | _ => none }
def fnExactAnswersRow : OpenClaim := { program := "ytbgoimhgmgldpaa", sum := "a37a822dc7bca6dd2c06bc1b0c0bf2442444959900ace2d5377d302861217b9d", func := "loop.example/g01235/laws.FnExactAnswers", spec := "fnExactAnswers", inPlace := ["(*sync.WaitGroup).Add", "internal/race.ReleaseMerge", "internal/race.Disable", "internal/race.Enable", "internal/synctest.IsInBubble", "internal/synctest.Associate[sync.WaitGroup]", "sync.fatal", "sync/atomic.OrUint64", "sync/atomic.AddUint64", "internal/race.Read", "sync/atomic.LoadUint64", "sync/atomic.StoreUint64", "internal/synctest.Disassociate[sync.WaitGroup]", "sync.runtime_Semrelease", "(*sync.WaitGroup).Done", "(*sync.WaitGroup).Wait", "internal/race.Acquire", "internal/synctest.IsAssociated[sync.WaitGroup]", "sync/atomic.CompareAndSwapUint64", "internal/race.Write", "sync.runtime_SemacquireWaitGroup"], unfollowed := true, recurses := true, leaving := true, apart := false }
def FnExactAnswersSaid : Prop := fnExactAnswersRow.holds Try.pinned (OpenSpec.ofChange fnExactAnswersSpec)

/-- ITS FALSE NEIGHBOUR: 'it returns false'. Refute it at one input. -/
def fnExactAnswersWrong : ChangeSpec := { name := "fnExactAnswers", fn := fun _ => fun
  | [d] => { results := [.lit (.bool false)], args := [d] }
  | _ => none }
def FnExactAnswersWrongFalsely : Prop := fnExactAnswersRow.holds Try.pinned (OpenSpec.ofChange fnExactAnswersWrong)

/-- 'laws.FnExactCountAnswers': WHATEVER THE INPUT: true; the input reads as it did. -/
def fnExactCountAnswersSpec : ChangeSpec := { name := "fnExactCountAnswers", fn := fun _ => fun
  | [d] => { results := [.lit (.bool true)], args := [d] }
  | _ => none }
def fnExactCountAnswersRow : OpenClaim := { program := "ytbgoimhgmgldpaa", sum := "a37a822dc7bca6dd2c06bc1b0c0bf2442444959900ace2d5377d302861217b9d", func := "loop.example/g01235/laws.FnExactCountAnswers", spec := "fnExactCountAnswers", inPlace := ["(*sync.WaitGroup).Add", "internal/race.ReleaseMerge", "internal/race.Disable", "internal/race.Enable", "internal/synctest.IsInBubble", "internal/synctest.Associate[sync.WaitGroup]", "sync.fatal", "sync/atomic.OrUint64", "sync/atomic.AddUint64", "internal/race.Read", "sync/atomic.LoadUint64", "sync/atomic.StoreUint64", "internal/synctest.Disassociate[sync.WaitGroup]", "sync.runtime_Semrelease", "(*sync.WaitGroup).Done", "(*sync.WaitGroup).Wait", "internal/race.Acquire", "internal/synctest.IsAssociated[sync.WaitGroup]", "sync/atomic.CompareAndSwapUint64", "internal/race.Write", "sync.runtime_SemacquireWaitGroup"], unfollowed := true, recurses := true, leaving := true, apart := false }
def FnExactCountAnswersSaid : Prop := fnExactCountAnswersRow.holds Try.pinned (OpenSpec.ofChange fnExactCountAnswersSpec)

/-- ITS FALSE NEIGHBOUR: 'it returns false'. Refute it at one input. -/
def fnExactCountAnswersWrong : ChangeSpec := { name := "fnExactCountAnswers", fn := fun _ => fun
  | [d] => { results := [.lit (.bool false)], args := [d] }
  | _ => none }
def FnExactCountAnswersWrongFalsely : Prop := fnExactCountAnswersRow.holds Try.pinned (OpenSpec.ofChange fnExactCountAnswersWrong)

/-- 'laws.FnExactFirstAnswer': WHATEVER THE INPUT: true; the input reads as it did. -/
def fnExactFirstAnswerSpec : ChangeSpec := { name := "fnExactFirstAnswer", fn := fun _ => fun
  | [d] => { results := [.lit (.bool true)], args := [d] }
  | _ => none }
def fnExactFirstAnswerRow : OpenClaim := { program := "ytbgoimhgmgldpaa", sum := "a37a822dc7bca6dd2c06bc1b0c0bf2442444959900ace2d5377d302861217b9d", func := "loop.example/g01235/laws.FnExactFirstAnswer", spec := "fnExactFirstAnswer", inPlace := ["(*sync.WaitGroup).Add", "internal/race.ReleaseMerge", "internal/race.Disable", "internal/race.Enable", "internal/synctest.IsInBubble", "internal/synctest.Associate[sync.WaitGroup]", "sync.fatal", "sync/atomic.OrUint64", "sync/atomic.AddUint64", "internal/race.Read", "sync/atomic.LoadUint64", "sync/atomic.StoreUint64", "internal/synctest.Disassociate[sync.WaitGroup]", "sync.runtime_Semrelease", "(*sync.WaitGroup).Done", "(*sync.WaitGroup).Wait", "internal/race.Acquire", "internal/synctest.IsAssociated[sync.WaitGroup]", "sync/atomic.CompareAndSwapUint64", "internal/race.Write", "sync.runtime_SemacquireWaitGroup"], unfollowed := true, recurses := true, leaving := true, apart := false }
def FnExactFirstAnswerSaid : Prop := fnExactFirstAnswerRow.holds Try.pinned (OpenSpec.ofChange fnExactFirstAnswerSpec)

/-- ITS FALSE NEIGHBOUR: 'it returns false'. Refute it at one input. -/
def fnExactFirstAnswerWrong : ChangeSpec := { name := "fnExactFirstAnswer", fn := fun _ => fun
  | [d] => { results := [.lit (.bool false)], args := [d] }
  | _ => none }
def FnExactFirstAnswerWrongFalsely : Prop := fnExactFirstAnswerRow.holds Try.pinned (OpenSpec.ofChange fnExactFirstAnswerWrong)

/-- 'laws.FnExactFewestRules': WHATEVER THE INPUT: true; the input reads as it did. -/
def fnExactFewestRulesSpec : ChangeSpec := { name := "fnExactFewestRules", fn := fun _ => fun
  | [d] => { results := [.lit (.bool true)], args := [d] }
  | _ => none }
def fnExactFewestRulesRow : OpenClaim := { program := "ytbgoimhgmgldpaa", sum := "a37a822dc7bca6dd2c06bc1b0c0bf2442444959900ace2d5377d302861217b9d", func := "loop.example/g01235/laws.FnExactFewestRules", spec := "fnExactFewestRules", inPlace := ["(*sync.WaitGroup).Add", "internal/race.ReleaseMerge", "internal/race.Disable", "internal/race.Enable", "internal/synctest.IsInBubble", "internal/synctest.Associate[sync.WaitGroup]", "sync.fatal", "sync/atomic.OrUint64", "sync/atomic.AddUint64", "internal/race.Read", "sync/atomic.LoadUint64", "sync/atomic.StoreUint64", "internal/synctest.Disassociate[sync.WaitGroup]", "sync.runtime_Semrelease", "(*sync.WaitGroup).Done", "(*sync.WaitGroup).Wait", "internal/race.Acquire", "internal/synctest.IsAssociated[sync.WaitGroup]", "sync/atomic.CompareAndSwapUint64", "internal/race.Write", "sync.runtime_SemacquireWaitGroup"], unfollowed := true, recurses := true, leaving := true, apart := false }
def FnExactFewestRulesSaid : Prop := fnExactFewestRulesRow.holds Try.pinned (OpenSpec.ofChange fnExactFewestRulesSpec)

/-- ITS FALSE NEIGHBOUR: 'it returns false'. Refute it at one input. -/
def fnExactFewestRulesWrong : ChangeSpec := { name := "fnExactFewestRules", fn := fun _ => fun
  | [d] => { results := [.lit (.bool false)], args := [d] }
  | _ => none }
def FnExactFewestRulesWrongFalsely : Prop := fnExactFewestRulesRow.holds Try.pinned (OpenSpec.ofChange fnExactFewestRulesWrong)

/-- 'laws.FnExactSureRules': WHATEVER THE INPUT: true; the input reads as it did. -/
def fnExactSureRulesSpec : ChangeSpec := { name := "fnExactSureRules", fn := fun _ => fun
  | [d] => { results := [.lit (.bool true)], args := [d] }
  | _ => none }
def fnExactSureRulesRow : OpenClaim := { program := "ytbgoimhgmgldpaa", sum := "a37a822dc7bca6dd2c06bc1b0c0bf2442444959900ace2d5377d302861217b9d", func := "loop.example/g01235/laws.FnExactSureRules", spec := "fnExactSureRules", inPlace := ["(*sync.WaitGroup).Add", "internal/race.ReleaseMerge", "internal/race.Disable", "internal/race.Enable", "internal/synctest.IsInBubble", "internal/synctest.Associate[sync.WaitGroup]", "sync.fatal", "sync/atomic.OrUint64", "sync/atomic.AddUint64", "internal/race.Read", "sync/atomic.LoadUint64", "sync/atomic.StoreUint64", "internal/synctest.Disassociate[sync.WaitGroup]", "sync.runtime_Semrelease", "(*sync.WaitGroup).Done", "(*sync.WaitGroup).Wait", "internal/race.Acquire", "internal/synctest.IsAssociated[sync.WaitGroup]", "sync/atomic.CompareAndSwapUint64", "internal/race.Write", "sync.runtime_SemacquireWaitGroup"], unfollowed := true, recurses := true, leaving := true, apart := false }
def FnExactSureRulesSaid : Prop := fnExactSureRulesRow.holds Try.pinned (OpenSpec.ofChange fnExactSureRulesSpec)

/-- ITS FALSE NEIGHBOUR: 'it returns false'. Refute it at one input. -/
def fnExactSureRulesWrong : ChangeSpec := { name := "fnExactSureRules", fn := fun _ => fun
  | [d] => { results := [.lit (.bool false)], args := [d] }
  | _ => none }
def FnExactSureRulesWrongFalsely : Prop := fnExactSureRulesRow.holds Try.pinned (OpenSpec.ofChange fnExactSureRulesWrong)

/-- 'laws.FnExactHintOf': WHATEVER THE INPUT: true; the input reads as it did. -/
def fnExactHintOfSpec : ChangeSpec := { name := "fnExactHintOf", fn := fun _ => fun
  | [d] => { results := [.lit (.bool true)], args := [d] }
  | _ => none }
def fnExactHintOfRow : OpenClaim := { program := "ytbgoimhgmgldpaa", sum := "a37a822dc7bca6dd2c06bc1b0c0bf2442444959900ace2d5377d302861217b9d", func := "loop.example/g01235/laws.FnExactHintOf", spec := "fnExactHintOf", apart := false }
def FnExactHintOfSaid : Prop := fnExactHintOfRow.holds Try.pinned (OpenSpec.ofChange fnExactHintOfSpec)

/-- ITS FALSE NEIGHBOUR: 'it returns false'. Refute it at one input. -/
def fnExactHintOfWrong : ChangeSpec := { name := "fnExactHintOf", fn := fun _ => fun
  | [d] => { results := [.lit (.bool false)], args := [d] }
  | _ => none }
def FnExactHintOfWrongFalsely : Prop := fnExactHintOfRow.holds Try.pinned (OpenSpec.ofChange fnExactHintOfWrong)

/-- 'laws.FnExactShowNumber': WHATEVER THE INPUT: true; the input reads as it did. -/
def fnExactShowNumberSpec : ChangeSpec := { name := "fnExactShowNumber", fn := fun _ => fun
  | [d1, d2, d3] => { results := [.lit (.bool true)], args := [d1, d2, d3] }
  | _ => none }
def fnExactShowNumberRow : OpenClaim := { program := "ytbgoimhgmgldpaa", sum := "a37a822dc7bca6dd2c06bc1b0c0bf2442444959900ace2d5377d302861217b9d", func := "loop.example/g01235/laws.FnExactShowNumber", spec := "fnExactShowNumber", apart := false }
def FnExactShowNumberSaid : Prop := fnExactShowNumberRow.holds Try.pinned (OpenSpec.ofChange fnExactShowNumberSpec)

/-- ITS FALSE NEIGHBOUR: 'it returns false'. Refute it at one input. -/
def fnExactShowNumberWrong : ChangeSpec := { name := "fnExactShowNumber", fn := fun _ => fun
  | [d1, d2, d3] => { results := [.lit (.bool false)], args := [d1, d2, d3] }
  | _ => none }
def FnExactShowNumberWrongFalsely : Prop := fnExactShowNumberRow.holds Try.pinned (OpenSpec.ofChange fnExactShowNumberWrong)

/-- 'laws.FnExactHideNumber': WHATEVER THE INPUT: true; the input reads as it did. -/
def fnExactHideNumberSpec : ChangeSpec := { name := "fnExactHideNumber", fn := fun _ => fun
  | [d1, d2] => { results := [.lit (.bool true)], args := [d1, d2] }
  | _ => none }
def fnExactHideNumberRow : OpenClaim := { program := "ytbgoimhgmgldpaa", sum := "a37a822dc7bca6dd2c06bc1b0c0bf2442444959900ace2d5377d302861217b9d", func := "loop.example/g01235/laws.FnExactHideNumber", spec := "fnExactHideNumber", apart := false }
def FnExactHideNumberSaid : Prop := fnExactHideNumberRow.holds Try.pinned (OpenSpec.ofChange fnExactHideNumberSpec)

/-- ITS FALSE NEIGHBOUR: 'it returns false'. Refute it at one input. -/
def fnExactHideNumberWrong : ChangeSpec := { name := "fnExactHideNumber", fn := fun _ => fun
  | [d1, d2] => { results := [.lit (.bool false)], args := [d1, d2] }
  | _ => none }
def FnExactHideNumberWrongFalsely : Prop := fnExactHideNumberRow.holds Try.pinned (OpenSpec.ofChange fnExactHideNumberWrong)

/-- 'laws.FnExactMakePuzzle': WHATEVER THE INPUT: true; the input reads as it did. -/
def fnExactMakePuzzleSpec : ChangeSpec := { name := "fnExactMakePuzzle", fn := fun _ => fun
  | [d1, d2, d3] => { results := [.lit (.bool true)], args := [d1, d2, d3] }
  | _ => none }
def fnExactMakePuzzleRow : OpenClaim := { program := "ytbgoimhgmgldpaa", sum := "a37a822dc7bca6dd2c06bc1b0c0bf2442444959900ace2d5377d302861217b9d", func := "loop.example/g01235/laws.FnExactMakePuzzle", spec := "fnExactMakePuzzle", apart := false }
def FnExactMakePuzzleSaid : Prop := fnExactMakePuzzleRow.holds Try.pinned (OpenSpec.ofChange fnExactMakePuzzleSpec)

/-- ITS FALSE NEIGHBOUR: 'it returns false'. Refute it at one input. -/
def fnExactMakePuzzleWrong : ChangeSpec := { name := "fnExactMakePuzzle", fn := fun _ => fun
  | [d1, d2, d3] => { results := [.lit (.bool false)], args := [d1, d2, d3] }
  | _ => none }
def FnExactMakePuzzleWrongFalsely : Prop := fnExactMakePuzzleRow.holds Try.pinned (OpenSpec.ofChange fnExactMakePuzzleWrong)

/-- 'laws.FnExactHarderPuzzle': WHATEVER THE INPUT: true; the input reads as it did. -/
def fnExactHarderPuzzleSpec : ChangeSpec := { name := "fnExactHarderPuzzle", fn := fun _ => fun
  | [d] => { results := [.lit (.bool true)], args := [d] }
  | _ => none }
def fnExactHarderPuzzleRow : OpenClaim := { program := "ytbgoimhgmgldpaa", sum := "a37a822dc7bca6dd2c06bc1b0c0bf2442444959900ace2d5377d302861217b9d", func := "loop.example/g01235/laws.FnExactHarderPuzzle", spec := "fnExactHarderPuzzle", inPlace := ["(*sync.WaitGroup).Add", "internal/race.ReleaseMerge", "internal/race.Disable", "internal/race.Enable", "internal/synctest.IsInBubble", "internal/synctest.Associate[sync.WaitGroup]", "sync.fatal", "sync/atomic.OrUint64", "sync/atomic.AddUint64", "internal/race.Read", "sync/atomic.LoadUint64", "sync/atomic.StoreUint64", "internal/synctest.Disassociate[sync.WaitGroup]", "sync.runtime_Semrelease", "(*sync.WaitGroup).Done", "(*sync.WaitGroup).Wait", "internal/race.Acquire", "internal/synctest.IsAssociated[sync.WaitGroup]", "sync/atomic.CompareAndSwapUint64", "internal/race.Write", "sync.runtime_SemacquireWaitGroup"], unfollowed := true, recurses := true, leaving := true, apart := false }
def FnExactHarderPuzzleSaid : Prop := fnExactHarderPuzzleRow.holds Try.pinned (OpenSpec.ofChange fnExactHarderPuzzleSpec)

/-- ITS FALSE NEIGHBOUR: 'it returns false'. Refute it at one input. -/
def fnExactHarderPuzzleWrong : ChangeSpec := { name := "fnExactHarderPuzzle", fn := fun _ => fun
  | [d] => { results := [.lit (.bool false)], args := [d] }
  | _ => none }
def FnExactHarderPuzzleWrongFalsely : Prop := fnExactHarderPuzzleRow.holds Try.pinned (OpenSpec.ofChange fnExactHarderPuzzleWrong)

/- THE SECOND FORM. 'bulk': how many values and letters a reading holds, each counted each time it is reached (what is shared counts as often as it is met; a slice's spare places count too). A statement '..UptoSaid' is the law's where the arguments, and the package variables that the reading takes, are together of bulk at most 1048576: NARROWER than '..Said'. Prove '..Said' where nothing that the law and all that it calls make is longer than what came in: it says more and counts as full. Else prove '..UptoSaid'. A law counts once. -/
mutual
def uptoBulk {H : Type} : DataW H → Nat
  | .lit (.string bytes) => bytes.length + 1
  | .lit _ => 1
  | .nil => 1
  | .ptr d => uptoBulk d + 1
  | .slice elems spare => uptoBulkAll elems + uptoBulkAll spare + 1
  | .agg parts => uptoBulkAll parts + 1
  | .iface _ d => uptoBulk d + 1
  | .map entries => uptoBulkEntries entries + 1
  | .held _ => 1
def uptoBulkAll {H : Type} : List (DataW H) → Nat
  | [] => 0
  | d :: r => uptoBulk d + uptoBulkAll r
def uptoBulkEntries {H : Type} : List (Lit × DataW H) → Nat
  | [] => 0
  | x :: r => uptoBulkEntry x + uptoBulkEntries r
def uptoBulkEntry {H : Type} : Lit × DataW H → Nat
  | (.string bytes, d) => bytes.length + uptoBulk d + 1
  | (_, d) => uptoBulk d + 1
 end
def uptoSmall : (H : Type) → List (DataW H) → Bool := fun _ ds => decide (uptoBulkAll ds ≤ 1048576)
def OpenSpec.upto (s : _root_.Go.ChangeSpec) : _root_.Go.OpenSpec := { _root_.Go.OpenSpec.ofChange s with cond := some uptoSmall }

/-- 'laws.FnExactIsPuzzle', WHERE WHAT IT READS IS OF BULK AT MOST 1048576: true; the input reads as it did. -/
def fnExactIsPuzzleUptoRow : OpenClaim := { program := "ytbgoimhgmgldpaa", sum := "a37a822dc7bca6dd2c06bc1b0c0bf2442444959900ace2d5377d302861217b9d", func := "loop.example/g01235/laws.FnExactIsPuzzle", spec := "fnExactIsPuzzle", apart := false, narrowed := true }
def FnExactIsPuzzleUptoSaid : Prop := fnExactIsPuzzleUptoRow.holds Try.pinned (OpenSpec.upto fnExactIsPuzzleSpec)

/-- 'laws.FnExactPatternOf', WHERE WHAT IT READS IS OF BULK AT MOST 1048576: true; the input reads as it did. -/
def fnExactPatternOfUptoRow : OpenClaim := { program := "ytbgoimhgmgldpaa", sum := "a37a822dc7bca6dd2c06bc1b0c0bf2442444959900ace2d5377d302861217b9d", func := "loop.example/g01235/laws.FnExactPatternOf", spec := "fnExactPatternOf", apart := false, narrowed := true }
def FnExactPatternOfUptoSaid : Prop := fnExactPatternOfUptoRow.holds Try.pinned (OpenSpec.upto fnExactPatternOfSpec)

/-- 'laws.FnExactRulesThatFit', WHERE WHAT IT READS IS OF BULK AT MOST 1048576: true; the input reads as it did. -/
def fnExactRulesThatFitUptoRow : OpenClaim := { program := "ytbgoimhgmgldpaa", sum := "a37a822dc7bca6dd2c06bc1b0c0bf2442444959900ace2d5377d302861217b9d", func := "loop.example/g01235/laws.FnExactRulesThatFit", spec := "fnExactRulesThatFit", apart := false, narrowed := true }
def FnExactRulesThatFitUptoSaid : Prop := fnExactRulesThatFitUptoRow.holds Try.pinned (OpenSpec.upto fnExactRulesThatFitSpec)

/-- 'laws.FnExactIsAnswer', WHERE WHAT IT READS IS OF BULK AT MOST 1048576: true; the input reads as it did. -/
def fnExactIsAnswerUptoRow : OpenClaim := { program := "ytbgoimhgmgldpaa", sum := "a37a822dc7bca6dd2c06bc1b0c0bf2442444959900ace2d5377d302861217b9d", func := "loop.example/g01235/laws.FnExactIsAnswer", spec := "fnExactIsAnswer", apart := false, narrowed := true }
def FnExactIsAnswerUptoSaid : Prop := fnExactIsAnswerUptoRow.holds Try.pinned (OpenSpec.upto fnExactIsAnswerSpec)

/-- 'laws.FnExactAnswers', WHERE WHAT IT READS IS OF BULK AT MOST 1048576: true; the input reads as it did. -/
def fnExactAnswersUptoRow : OpenClaim := { program := "ytbgoimhgmgldpaa", sum := "a37a822dc7bca6dd2c06bc1b0c0bf2442444959900ace2d5377d302861217b9d", func := "loop.example/g01235/laws.FnExactAnswers", spec := "fnExactAnswers", inPlace := ["(*sync.WaitGroup).Add", "internal/race.ReleaseMerge", "internal/race.Disable", "internal/race.Enable", "internal/synctest.IsInBubble", "internal/synctest.Associate[sync.WaitGroup]", "sync.fatal", "sync/atomic.OrUint64", "sync/atomic.AddUint64", "internal/race.Read", "sync/atomic.LoadUint64", "sync/atomic.StoreUint64", "internal/synctest.Disassociate[sync.WaitGroup]", "sync.runtime_Semrelease", "(*sync.WaitGroup).Done", "(*sync.WaitGroup).Wait", "internal/race.Acquire", "internal/synctest.IsAssociated[sync.WaitGroup]", "sync/atomic.CompareAndSwapUint64", "internal/race.Write", "sync.runtime_SemacquireWaitGroup"], unfollowed := true, recurses := true, leaving := true, apart := false, narrowed := true }
def FnExactAnswersUptoSaid : Prop := fnExactAnswersUptoRow.holds Try.pinned (OpenSpec.upto fnExactAnswersSpec)

/-- 'laws.FnExactCountAnswers', WHERE WHAT IT READS IS OF BULK AT MOST 1048576: true; the input reads as it did. -/
def fnExactCountAnswersUptoRow : OpenClaim := { program := "ytbgoimhgmgldpaa", sum := "a37a822dc7bca6dd2c06bc1b0c0bf2442444959900ace2d5377d302861217b9d", func := "loop.example/g01235/laws.FnExactCountAnswers", spec := "fnExactCountAnswers", inPlace := ["(*sync.WaitGroup).Add", "internal/race.ReleaseMerge", "internal/race.Disable", "internal/race.Enable", "internal/synctest.IsInBubble", "internal/synctest.Associate[sync.WaitGroup]", "sync.fatal", "sync/atomic.OrUint64", "sync/atomic.AddUint64", "internal/race.Read", "sync/atomic.LoadUint64", "sync/atomic.StoreUint64", "internal/synctest.Disassociate[sync.WaitGroup]", "sync.runtime_Semrelease", "(*sync.WaitGroup).Done", "(*sync.WaitGroup).Wait", "internal/race.Acquire", "internal/synctest.IsAssociated[sync.WaitGroup]", "sync/atomic.CompareAndSwapUint64", "internal/race.Write", "sync.runtime_SemacquireWaitGroup"], unfollowed := true, recurses := true, leaving := true, apart := false, narrowed := true }
def FnExactCountAnswersUptoSaid : Prop := fnExactCountAnswersUptoRow.holds Try.pinned (OpenSpec.upto fnExactCountAnswersSpec)

/-- 'laws.FnExactFirstAnswer', WHERE WHAT IT READS IS OF BULK AT MOST 1048576: true; the input reads as it did. -/
def fnExactFirstAnswerUptoRow : OpenClaim := { program := "ytbgoimhgmgldpaa", sum := "a37a822dc7bca6dd2c06bc1b0c0bf2442444959900ace2d5377d302861217b9d", func := "loop.example/g01235/laws.FnExactFirstAnswer", spec := "fnExactFirstAnswer", inPlace := ["(*sync.WaitGroup).Add", "internal/race.ReleaseMerge", "internal/race.Disable", "internal/race.Enable", "internal/synctest.IsInBubble", "internal/synctest.Associate[sync.WaitGroup]", "sync.fatal", "sync/atomic.OrUint64", "sync/atomic.AddUint64", "internal/race.Read", "sync/atomic.LoadUint64", "sync/atomic.StoreUint64", "internal/synctest.Disassociate[sync.WaitGroup]", "sync.runtime_Semrelease", "(*sync.WaitGroup).Done", "(*sync.WaitGroup).Wait", "internal/race.Acquire", "internal/synctest.IsAssociated[sync.WaitGroup]", "sync/atomic.CompareAndSwapUint64", "internal/race.Write", "sync.runtime_SemacquireWaitGroup"], unfollowed := true, recurses := true, leaving := true, apart := false, narrowed := true }
def FnExactFirstAnswerUptoSaid : Prop := fnExactFirstAnswerUptoRow.holds Try.pinned (OpenSpec.upto fnExactFirstAnswerSpec)

/-- 'laws.FnExactFewestRules', WHERE WHAT IT READS IS OF BULK AT MOST 1048576: true; the input reads as it did. -/
def fnExactFewestRulesUptoRow : OpenClaim := { program := "ytbgoimhgmgldpaa", sum := "a37a822dc7bca6dd2c06bc1b0c0bf2442444959900ace2d5377d302861217b9d", func := "loop.example/g01235/laws.FnExactFewestRules", spec := "fnExactFewestRules", inPlace := ["(*sync.WaitGroup).Add", "internal/race.ReleaseMerge", "internal/race.Disable", "internal/race.Enable", "internal/synctest.IsInBubble", "internal/synctest.Associate[sync.WaitGroup]", "sync.fatal", "sync/atomic.OrUint64", "sync/atomic.AddUint64", "internal/race.Read", "sync/atomic.LoadUint64", "sync/atomic.StoreUint64", "internal/synctest.Disassociate[sync.WaitGroup]", "sync.runtime_Semrelease", "(*sync.WaitGroup).Done", "(*sync.WaitGroup).Wait", "internal/race.Acquire", "internal/synctest.IsAssociated[sync.WaitGroup]", "sync/atomic.CompareAndSwapUint64", "internal/race.Write", "sync.runtime_SemacquireWaitGroup"], unfollowed := true, recurses := true, leaving := true, apart := false, narrowed := true }
def FnExactFewestRulesUptoSaid : Prop := fnExactFewestRulesUptoRow.holds Try.pinned (OpenSpec.upto fnExactFewestRulesSpec)

/-- 'laws.FnExactSureRules', WHERE WHAT IT READS IS OF BULK AT MOST 1048576: true; the input reads as it did. -/
def fnExactSureRulesUptoRow : OpenClaim := { program := "ytbgoimhgmgldpaa", sum := "a37a822dc7bca6dd2c06bc1b0c0bf2442444959900ace2d5377d302861217b9d", func := "loop.example/g01235/laws.FnExactSureRules", spec := "fnExactSureRules", inPlace := ["(*sync.WaitGroup).Add", "internal/race.ReleaseMerge", "internal/race.Disable", "internal/race.Enable", "internal/synctest.IsInBubble", "internal/synctest.Associate[sync.WaitGroup]", "sync.fatal", "sync/atomic.OrUint64", "sync/atomic.AddUint64", "internal/race.Read", "sync/atomic.LoadUint64", "sync/atomic.StoreUint64", "internal/synctest.Disassociate[sync.WaitGroup]", "sync.runtime_Semrelease", "(*sync.WaitGroup).Done", "(*sync.WaitGroup).Wait", "internal/race.Acquire", "internal/synctest.IsAssociated[sync.WaitGroup]", "sync/atomic.CompareAndSwapUint64", "internal/race.Write", "sync.runtime_SemacquireWaitGroup"], unfollowed := true, recurses := true, leaving := true, apart := false, narrowed := true }
def FnExactSureRulesUptoSaid : Prop := fnExactSureRulesUptoRow.holds Try.pinned (OpenSpec.upto fnExactSureRulesSpec)

/-- 'laws.FnExactHintOf', WHERE WHAT IT READS IS OF BULK AT MOST 1048576: true; the input reads as it did. -/
def fnExactHintOfUptoRow : OpenClaim := { program := "ytbgoimhgmgldpaa", sum := "a37a822dc7bca6dd2c06bc1b0c0bf2442444959900ace2d5377d302861217b9d", func := "loop.example/g01235/laws.FnExactHintOf", spec := "fnExactHintOf", apart := false, narrowed := true }
def FnExactHintOfUptoSaid : Prop := fnExactHintOfUptoRow.holds Try.pinned (OpenSpec.upto fnExactHintOfSpec)

/-- 'laws.FnExactShowNumber', WHERE WHAT IT READS IS OF BULK AT MOST 1048576: true; the input reads as it did. -/
def fnExactShowNumberUptoRow : OpenClaim := { program := "ytbgoimhgmgldpaa", sum := "a37a822dc7bca6dd2c06bc1b0c0bf2442444959900ace2d5377d302861217b9d", func := "loop.example/g01235/laws.FnExactShowNumber", spec := "fnExactShowNumber", apart := false, narrowed := true }
def FnExactShowNumberUptoSaid : Prop := fnExactShowNumberUptoRow.holds Try.pinned (OpenSpec.upto fnExactShowNumberSpec)

/-- 'laws.FnExactHideNumber', WHERE WHAT IT READS IS OF BULK AT MOST 1048576: true; the input reads as it did. -/
def fnExactHideNumberUptoRow : OpenClaim := { program := "ytbgoimhgmgldpaa", sum := "a37a822dc7bca6dd2c06bc1b0c0bf2442444959900ace2d5377d302861217b9d", func := "loop.example/g01235/laws.FnExactHideNumber", spec := "fnExactHideNumber", apart := false, narrowed := true }
def FnExactHideNumberUptoSaid : Prop := fnExactHideNumberUptoRow.holds Try.pinned (OpenSpec.upto fnExactHideNumberSpec)

/-- 'laws.FnExactMakePuzzle', WHERE WHAT IT READS IS OF BULK AT MOST 1048576: true; the input reads as it did. -/
def fnExactMakePuzzleUptoRow : OpenClaim := { program := "ytbgoimhgmgldpaa", sum := "a37a822dc7bca6dd2c06bc1b0c0bf2442444959900ace2d5377d302861217b9d", func := "loop.example/g01235/laws.FnExactMakePuzzle", spec := "fnExactMakePuzzle", apart := false, narrowed := true }
def FnExactMakePuzzleUptoSaid : Prop := fnExactMakePuzzleUptoRow.holds Try.pinned (OpenSpec.upto fnExactMakePuzzleSpec)

/-- 'laws.FnExactHarderPuzzle', WHERE WHAT IT READS IS OF BULK AT MOST 1048576: true; the input reads as it did. -/
def fnExactHarderPuzzleUptoRow : OpenClaim := { program := "ytbgoimhgmgldpaa", sum := "a37a822dc7bca6dd2c06bc1b0c0bf2442444959900ace2d5377d302861217b9d", func := "loop.example/g01235/laws.FnExactHarderPuzzle", spec := "fnExactHarderPuzzle", inPlace := ["(*sync.WaitGroup).Add", "internal/race.ReleaseMerge", "internal/race.Disable", "internal/race.Enable", "internal/synctest.IsInBubble", "internal/synctest.Associate[sync.WaitGroup]", "sync.fatal", "sync/atomic.OrUint64", "sync/atomic.AddUint64", "internal/race.Read", "sync/atomic.LoadUint64", "sync/atomic.StoreUint64", "internal/synctest.Disassociate[sync.WaitGroup]", "sync.runtime_Semrelease", "(*sync.WaitGroup).Done", "(*sync.WaitGroup).Wait", "internal/race.Acquire", "internal/synctest.IsAssociated[sync.WaitGroup]", "sync/atomic.CompareAndSwapUint64", "internal/race.Write", "sync.runtime_SemacquireWaitGroup"], unfollowed := true, recurses := true, leaving := true, apart := false, narrowed := true }
def FnExactHarderPuzzleUptoSaid : Prop := fnExactHarderPuzzleUptoRow.holds Try.pinned (OpenSpec.upto fnExactHarderPuzzleSpec)

end Rows
end Go.Proofs.Ytbgoimhgmgldpaa
