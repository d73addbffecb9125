/-
  No cell of these rows narrows 'for every input' (looked for: loops, veiled, ifaces, maps, wideKeys, modest, calm, conditions, laid).
  DERIVED. THE GIVEN ROWS OF THIS SEAT. 16 by the template 'for every input the law returns true; each argument reads behind the call as it read before'; 0 by the template 'total and deterministic' (their statements: YtkpililllihgcaaTotals.lean).
  GIVEN WITH THE SEED: the statements are not yours to turn. If you find one false, say at which input.
  Laid BY PROGRAM, IN A SANDBOX (cutbox-rows.mjs): the forced cells as the released guide's own fill.sh prints them over the translation b23f43b384ccdfbf… (all of the seat's roots in one cut). By AI agents, Wed Nov 11 2026. No macro, syntax, notation, axiom, sorry.
-/
import Derived.Test.YtkpililllihgcaaChecked
import GoSem.Claim
import GoSem.ClaimJoined
import GoSem.ClaimMapViews
import Derived.JoinedTies
import Derived.KernelRfl
namespace Go.Proofs.Ytkpililllihgcaa
/- THE CELL 'sum', in the pinned program and in every row, IS THE sha256 OF THE DUMP (.gsa) THAT YtkpililllihgcaaProg.lean LOADS. Nothing in Lean hashes anything: it is a label: what it is worth is what the hold of that sum in a sandbox is worth. -/
noncomputable def Try.pinned : Pinned := { name := "ytkpililllihgcaa", sum := "b23f43b384ccdfbf546512b1207f5c47e042880be25fbe4e81ab3c954ddd1e70", checked := Try.checked }
namespace Rows
def none {H : Type} : Left H := { results := [], args := [] }

/-- 'laws.FnExactDivisorsOf': WHATEVER THE INPUT: true; the input reads as it did. -/
def fnExactDivisorsOfSpec : ChangeSpec := { name := "fnExactDivisorsOf", fn := fun _ => fun
  | [d] => { results := [.lit (.bool true)], args := [d] }
  | _ => none }
def fnExactDivisorsOfRow : OpenClaim := { program := "ytkpililllihgcaa", sum := "b23f43b384ccdfbf546512b1207f5c47e042880be25fbe4e81ab3c954ddd1e70", func := "loop.example/g01235/laws.FnExactDivisorsOf", spec := "fnExactDivisorsOf", unfollowed := true, recurses := true, apart := false }
def FnExactDivisorsOfSaid : Prop := fnExactDivisorsOfRow.holds Try.pinned (OpenSpec.ofChange fnExactDivisorsOfSpec)

/-- ITS FALSE NEIGHBOUR: 'it returns false'. Refute it at one input. -/
def fnExactDivisorsOfWrong : ChangeSpec := { name := "fnExactDivisorsOf", fn := fun _ => fun
  | [d] => { results := [.lit (.bool false)], args := [d] }
  | _ => none }
def FnExactDivisorsOfWrongFalsely : Prop := fnExactDivisorsOfRow.holds Try.pinned (OpenSpec.ofChange fnExactDivisorsOfWrong)

/-- 'laws.FnExactCountDivisors': WHATEVER THE INPUT: true; the input reads as it did. -/
def fnExactCountDivisorsSpec : ChangeSpec := { name := "fnExactCountDivisors", fn := fun _ => fun
  | [d] => { results := [.lit (.bool true)], args := [d] }
  | _ => none }
def fnExactCountDivisorsRow : OpenClaim := { program := "ytkpililllihgcaa", sum := "b23f43b384ccdfbf546512b1207f5c47e042880be25fbe4e81ab3c954ddd1e70", func := "loop.example/g01235/laws.FnExactCountDivisors", spec := "fnExactCountDivisors", unfollowed := true, recurses := true, apart := false }
def FnExactCountDivisorsSaid : Prop := fnExactCountDivisorsRow.holds Try.pinned (OpenSpec.ofChange fnExactCountDivisorsSpec)

/-- ITS FALSE NEIGHBOUR: 'it returns false'. Refute it at one input. -/
def fnExactCountDivisorsWrong : ChangeSpec := { name := "fnExactCountDivisors", fn := fun _ => fun
  | [d] => { results := [.lit (.bool false)], args := [d] }
  | _ => none }
def FnExactCountDivisorsWrongFalsely : Prop := fnExactCountDivisorsRow.holds Try.pinned (OpenSpec.ofChange fnExactCountDivisorsWrong)

/-- 'laws.FnExactSumDivisors': WHATEVER THE INPUT: true; the input reads as it did. -/
def fnExactSumDivisorsSpec : ChangeSpec := { name := "fnExactSumDivisors", fn := fun _ => fun
  | [d] => { results := [.lit (.bool true)], args := [d] }
  | _ => none }
def fnExactSumDivisorsRow : OpenClaim := { program := "ytkpililllihgcaa", sum := "b23f43b384ccdfbf546512b1207f5c47e042880be25fbe4e81ab3c954ddd1e70", func := "loop.example/g01235/laws.FnExactSumDivisors", spec := "fnExactSumDivisors", unfollowed := true, recurses := true, apart := false }
def FnExactSumDivisorsSaid : Prop := fnExactSumDivisorsRow.holds Try.pinned (OpenSpec.ofChange fnExactSumDivisorsSpec)

/-- ITS FALSE NEIGHBOUR: 'it returns false'. Refute it at one input. -/
def fnExactSumDivisorsWrong : ChangeSpec := { name := "fnExactSumDivisors", fn := fun _ => fun
  | [d] => { results := [.lit (.bool false)], args := [d] }
  | _ => none }
def FnExactSumDivisorsWrongFalsely : Prop := fnExactSumDivisorsRow.holds Try.pinned (OpenSpec.ofChange fnExactSumDivisorsWrong)

/-- 'laws.FnExactTotientOf': WHATEVER THE INPUT: true; the input reads as it did. -/
def fnExactTotientOfSpec : ChangeSpec := { name := "fnExactTotientOf", fn := fun _ => fun
  | [d] => { results := [.lit (.bool true)], args := [d] }
  | _ => none }
def fnExactTotientOfRow : OpenClaim := { program := "ytkpililllihgcaa", sum := "b23f43b384ccdfbf546512b1207f5c47e042880be25fbe4e81ab3c954ddd1e70", func := "loop.example/g01235/laws.FnExactTotientOf", spec := "fnExactTotientOf", unfollowed := true, recurses := true, apart := false }
def FnExactTotientOfSaid : Prop := fnExactTotientOfRow.holds Try.pinned (OpenSpec.ofChange fnExactTotientOfSpec)

/-- ITS FALSE NEIGHBOUR: 'it returns false'. Refute it at one input. -/
def fnExactTotientOfWrong : ChangeSpec := { name := "fnExactTotientOf", fn := fun _ => fun
  | [d] => { results := [.lit (.bool false)], args := [d] }
  | _ => none }
def FnExactTotientOfWrongFalsely : Prop := fnExactTotientOfRow.holds Try.pinned (OpenSpec.ofChange fnExactTotientOfWrong)

/-- 'laws.FnExactMoebiusOf': WHATEVER THE INPUT: true; the input reads as it did. -/
def fnExactMoebiusOfSpec : ChangeSpec := { name := "fnExactMoebiusOf", fn := fun _ => fun
  | [d] => { results := [.lit (.bool true)], args := [d] }
  | _ => none }
def fnExactMoebiusOfRow : OpenClaim := { program := "ytkpililllihgcaa", sum := "b23f43b384ccdfbf546512b1207f5c47e042880be25fbe4e81ab3c954ddd1e70", func := "loop.example/g01235/laws.FnExactMoebiusOf", spec := "fnExactMoebiusOf", unfollowed := true, recurses := true, apart := false }
def FnExactMoebiusOfSaid : Prop := fnExactMoebiusOfRow.holds Try.pinned (OpenSpec.ofChange fnExactMoebiusOfSpec)

/-- ITS FALSE NEIGHBOUR: 'it returns false'. Refute it at one input. -/
def fnExactMoebiusOfWrong : ChangeSpec := { name := "fnExactMoebiusOf", fn := fun _ => fun
  | [d] => { results := [.lit (.bool false)], args := [d] }
  | _ => none }
def FnExactMoebiusOfWrongFalsely : Prop := fnExactMoebiusOfRow.holds Try.pinned (OpenSpec.ofChange fnExactMoebiusOfWrong)

/-- 'laws.FnExactTableOf': WHATEVER THE INPUT: true; the input reads as it did. -/
def fnExactTableOfSpec : ChangeSpec := { name := "fnExactTableOf", fn := fun _ => fun
  | [d1, d2] => { results := [.lit (.bool true)], args := [d1, d2] }
  | _ => none }
def fnExactTableOfRow : OpenClaim := { program := "ytkpililllihgcaa", sum := "b23f43b384ccdfbf546512b1207f5c47e042880be25fbe4e81ab3c954ddd1e70", func := "loop.example/g01235/laws.FnExactTableOf", spec := "fnExactTableOf", unfollowed := true, recurses := true, apart := false }
def FnExactTableOfSaid : Prop := fnExactTableOfRow.holds Try.pinned (OpenSpec.ofChange fnExactTableOfSpec)

/-- ITS FALSE NEIGHBOUR: 'it returns false'. Refute it at one input. -/
def fnExactTableOfWrong : ChangeSpec := { name := "fnExactTableOf", fn := fun _ => fun
  | [d1, d2] => { results := [.lit (.bool false)], args := [d1, d2] }
  | _ => none }
def FnExactTableOfWrongFalsely : Prop := fnExactTableOfRow.holds Try.pinned (OpenSpec.ofChange fnExactTableOfWrong)

/-- 'laws.FnExactOverDivisors': WHATEVER THE INPUT: true; the input reads as it did. -/
def fnExactOverDivisorsSpec : ChangeSpec := { name := "fnExactOverDivisors", fn := fun _ => fun
  | [d1, d2] => { results := [.lit (.bool true)], args := [d1, d2] }
  | _ => none }
def fnExactOverDivisorsRow : OpenClaim := { program := "ytkpililllihgcaa", sum := "b23f43b384ccdfbf546512b1207f5c47e042880be25fbe4e81ab3c954ddd1e70", func := "loop.example/g01235/laws.FnExactOverDivisors", spec := "fnExactOverDivisors", unfollowed := true, recurses := true, apart := false }
def FnExactOverDivisorsSaid : Prop := fnExactOverDivisorsRow.holds Try.pinned (OpenSpec.ofChange fnExactOverDivisorsSpec)

/-- ITS FALSE NEIGHBOUR: 'it returns false'. Refute it at one input. -/
def fnExactOverDivisorsWrong : ChangeSpec := { name := "fnExactOverDivisors", fn := fun _ => fun
  | [d1, d2] => { results := [.lit (.bool false)], args := [d1, d2] }
  | _ => none }
def FnExactOverDivisorsWrongFalsely : Prop := fnExactOverDivisorsRow.holds Try.pinned (OpenSpec.ofChange fnExactOverDivisorsWrong)

/-- 'laws.FnExactUndoTable': WHATEVER THE INPUT: true; the input reads as it did. -/
def fnExactUndoTableSpec : ChangeSpec := { name := "fnExactUndoTable", fn := fun _ => fun
  | [d] => { results := [.lit (.bool true)], args := [d] }
  | _ => none }
def fnExactUndoTableRow : OpenClaim := { program := "ytkpililllihgcaa", sum := "b23f43b384ccdfbf546512b1207f5c47e042880be25fbe4e81ab3c954ddd1e70", func := "loop.example/g01235/laws.FnExactUndoTable", spec := "fnExactUndoTable", unfollowed := true, recurses := true, apart := false }
def FnExactUndoTableSaid : Prop := fnExactUndoTableRow.holds Try.pinned (OpenSpec.ofChange fnExactUndoTableSpec)

/-- ITS FALSE NEIGHBOUR: 'it returns false'. Refute it at one input. -/
def fnExactUndoTableWrong : ChangeSpec := { name := "fnExactUndoTable", fn := fun _ => fun
  | [d] => { results := [.lit (.bool false)], args := [d] }
  | _ => none }
def FnExactUndoTableWrongFalsely : Prop := fnExactUndoTableRow.holds Try.pinned (OpenSpec.ofChange fnExactUndoTableWrong)

/-- 'laws.FnExactSumOverDivisors': WHATEVER THE INPUT: true; the input reads as it did. -/
def fnExactSumOverDivisorsSpec : ChangeSpec := { name := "fnExactSumOverDivisors", fn := fun _ => fun
  | [d] => { results := [.lit (.bool true)], args := [d] }
  | _ => none }
def fnExactSumOverDivisorsRow : OpenClaim := { program := "ytkpililllihgcaa", sum := "b23f43b384ccdfbf546512b1207f5c47e042880be25fbe4e81ab3c954ddd1e70", func := "loop.example/g01235/laws.FnExactSumOverDivisors", spec := "fnExactSumOverDivisors", unfollowed := true, recurses := true, apart := false }
def FnExactSumOverDivisorsSaid : Prop := fnExactSumOverDivisorsRow.holds Try.pinned (OpenSpec.ofChange fnExactSumOverDivisorsSpec)

/-- ITS FALSE NEIGHBOUR: 'it returns false'. Refute it at one input. -/
def fnExactSumOverDivisorsWrong : ChangeSpec := { name := "fnExactSumOverDivisors", fn := fun _ => fun
  | [d] => { results := [.lit (.bool false)], args := [d] }
  | _ => none }
def FnExactSumOverDivisorsWrongFalsely : Prop := fnExactSumOverDivisorsRow.holds Try.pinned (OpenSpec.ofChange fnExactSumOverDivisorsWrong)

/-- 'laws.FnExactIsSpread': WHATEVER THE INPUT: true; the input reads as it did. -/
def fnExactIsSpreadSpec : ChangeSpec := { name := "fnExactIsSpread", fn := fun _ => fun
  | [d] => { results := [.lit (.bool true)], args := [d] }
  | _ => none }
def fnExactIsSpreadRow : OpenClaim := { program := "ytkpililllihgcaa", sum := "b23f43b384ccdfbf546512b1207f5c47e042880be25fbe4e81ab3c954ddd1e70", func := "loop.example/g01235/laws.FnExactIsSpread", spec := "fnExactIsSpread", apart := false }
def FnExactIsSpreadSaid : Prop := fnExactIsSpreadRow.holds Try.pinned (OpenSpec.ofChange fnExactIsSpreadSpec)

/-- ITS FALSE NEIGHBOUR: 'it returns false'. Refute it at one input. -/
def fnExactIsSpreadWrong : ChangeSpec := { name := "fnExactIsSpread", fn := fun _ => fun
  | [d] => { results := [.lit (.bool false)], args := [d] }
  | _ => none }
def FnExactIsSpreadWrongFalsely : Prop := fnExactIsSpreadRow.holds Try.pinned (OpenSpec.ofChange fnExactIsSpreadWrong)

/-- 'laws.FnExactPerfectUpTo': WHATEVER THE INPUT: true; the input reads as it did. -/
def fnExactPerfectUpToSpec : ChangeSpec := { name := "fnExactPerfectUpTo", fn := fun _ => fun
  | [d] => { results := [.lit (.bool true)], args := [d] }
  | _ => none }
def fnExactPerfectUpToRow : OpenClaim := { program := "ytkpililllihgcaa", sum := "b23f43b384ccdfbf546512b1207f5c47e042880be25fbe4e81ab3c954ddd1e70", func := "loop.example/g01235/laws.FnExactPerfectUpTo", spec := "fnExactPerfectUpTo", unfollowed := true, recurses := true, apart := false }
def FnExactPerfectUpToSaid : Prop := fnExactPerfectUpToRow.holds Try.pinned (OpenSpec.ofChange fnExactPerfectUpToSpec)

/-- ITS FALSE NEIGHBOUR: 'it returns false'. Refute it at one input. -/
def fnExactPerfectUpToWrong : ChangeSpec := { name := "fnExactPerfectUpTo", fn := fun _ => fun
  | [d] => { results := [.lit (.bool false)], args := [d] }
  | _ => none }
def FnExactPerfectUpToWrongFalsely : Prop := fnExactPerfectUpToRow.holds Try.pinned (OpenSpec.ofChange fnExactPerfectUpToWrong)

/-- 'laws.FnExactSumStep': WHATEVER THE INPUT: true; the input reads as it did. -/
def fnExactSumStepSpec : ChangeSpec := { name := "fnExactSumStep", fn := fun _ => fun
  | [d] => { results := [.lit (.bool true)], args := [d] }
  | _ => none }
def fnExactSumStepRow : OpenClaim := { program := "ytkpililllihgcaa", sum := "b23f43b384ccdfbf546512b1207f5c47e042880be25fbe4e81ab3c954ddd1e70", func := "loop.example/g01235/laws.FnExactSumStep", spec := "fnExactSumStep", unfollowed := true, recurses := true, apart := false }
def FnExactSumStepSaid : Prop := fnExactSumStepRow.holds Try.pinned (OpenSpec.ofChange fnExactSumStepSpec)

/-- ITS FALSE NEIGHBOUR: 'it returns false'. Refute it at one input. -/
def fnExactSumStepWrong : ChangeSpec := { name := "fnExactSumStep", fn := fun _ => fun
  | [d] => { results := [.lit (.bool false)], args := [d] }
  | _ => none }
def FnExactSumStepWrongFalsely : Prop := fnExactSumStepRow.holds Try.pinned (OpenSpec.ofChange fnExactSumStepWrong)

/-- 'laws.FnExactSumWay': WHATEVER THE INPUT: true; the input reads as it did. -/
def fnExactSumWaySpec : ChangeSpec := { name := "fnExactSumWay", fn := fun _ => fun
  | [d1, d2] => { results := [.lit (.bool true)], args := [d1, d2] }
  | _ => none }
def fnExactSumWayRow : OpenClaim := { program := "ytkpililllihgcaa", sum := "b23f43b384ccdfbf546512b1207f5c47e042880be25fbe4e81ab3c954ddd1e70", func := "loop.example/g01235/laws.FnExactSumWay", spec := "fnExactSumWay", apart := false }
def FnExactSumWaySaid : Prop := fnExactSumWayRow.holds Try.pinned (OpenSpec.ofChange fnExactSumWaySpec)

/-- ITS FALSE NEIGHBOUR: 'it returns false'. Refute it at one input. -/
def fnExactSumWayWrong : ChangeSpec := { name := "fnExactSumWay", fn := fun _ => fun
  | [d1, d2] => { results := [.lit (.bool false)], args := [d1, d2] }
  | _ => none }
def FnExactSumWayWrongFalsely : Prop := fnExactSumWayRow.holds Try.pinned (OpenSpec.ofChange fnExactSumWayWrong)

/-- 'laws.FnExactAmicableOf': WHATEVER THE INPUT: true; the input reads as it did. -/
def fnExactAmicableOfSpec : ChangeSpec := { name := "fnExactAmicableOf", fn := fun _ => fun
  | [d] => { results := [.lit (.bool true)], args := [d] }
  | _ => none }
def fnExactAmicableOfRow : OpenClaim := { program := "ytkpililllihgcaa", sum := "b23f43b384ccdfbf546512b1207f5c47e042880be25fbe4e81ab3c954ddd1e70", func := "loop.example/g01235/laws.FnExactAmicableOf", spec := "fnExactAmicableOf", unfollowed := true, recurses := true, apart := false }
def FnExactAmicableOfSaid : Prop := fnExactAmicableOfRow.holds Try.pinned (OpenSpec.ofChange fnExactAmicableOfSpec)

/-- ITS FALSE NEIGHBOUR: 'it returns false'. Refute it at one input. -/
def fnExactAmicableOfWrong : ChangeSpec := { name := "fnExactAmicableOf", fn := fun _ => fun
  | [d] => { results := [.lit (.bool false)], args := [d] }
  | _ => none }
def FnExactAmicableOfWrongFalsely : Prop := fnExactAmicableOfRow.holds Try.pinned (OpenSpec.ofChange fnExactAmicableOfWrong)

/-- 'laws.FnExactRecordsUpTo': WHATEVER THE INPUT: true; the input reads as it did. -/
def fnExactRecordsUpToSpec : ChangeSpec := { name := "fnExactRecordsUpTo", fn := fun _ => fun
  | [d] => { results := [.lit (.bool true)], args := [d] }
  | _ => none }
def fnExactRecordsUpToRow : OpenClaim := { program := "ytkpililllihgcaa", sum := "b23f43b384ccdfbf546512b1207f5c47e042880be25fbe4e81ab3c954ddd1e70", func := "loop.example/g01235/laws.FnExactRecordsUpTo", spec := "fnExactRecordsUpTo", apart := false }
def FnExactRecordsUpToSaid : Prop := fnExactRecordsUpToRow.holds Try.pinned (OpenSpec.ofChange fnExactRecordsUpToSpec)

/-- ITS FALSE NEIGHBOUR: 'it returns false'. Refute it at one input. -/
def fnExactRecordsUpToWrong : ChangeSpec := { name := "fnExactRecordsUpTo", fn := fun _ => fun
  | [d] => { results := [.lit (.bool false)], args := [d] }
  | _ => none }
def FnExactRecordsUpToWrongFalsely : Prop := fnExactRecordsUpToRow.holds Try.pinned (OpenSpec.ofChange fnExactRecordsUpToWrong)

/-- 'laws.FnExactCoprimePairs': WHATEVER THE INPUT: true; the input reads as it did. -/
def fnExactCoprimePairsSpec : ChangeSpec := { name := "fnExactCoprimePairs", fn := fun _ => fun
  | [d] => { results := [.lit (.bool true)], args := [d] }
  | _ => none }
def fnExactCoprimePairsRow : OpenClaim := { program := "ytkpililllihgcaa", sum := "b23f43b384ccdfbf546512b1207f5c47e042880be25fbe4e81ab3c954ddd1e70", func := "loop.example/g01235/laws.FnExactCoprimePairs", spec := "fnExactCoprimePairs", unfollowed := true, recurses := true, apart := false }
def FnExactCoprimePairsSaid : Prop := fnExactCoprimePairsRow.holds Try.pinned (OpenSpec.ofChange fnExactCoprimePairsSpec)

/-- ITS FALSE NEIGHBOUR: 'it returns false'. Refute it at one input. -/
def fnExactCoprimePairsWrong : ChangeSpec := { name := "fnExactCoprimePairs", fn := fun _ => fun
  | [d] => { results := [.lit (.bool false)], args := [d] }
  | _ => none }
def FnExactCoprimePairsWrongFalsely : Prop := fnExactCoprimePairsRow.holds Try.pinned (OpenSpec.ofChange fnExactCoprimePairsWrong)

/- THE SECOND FORM. 'bulk': how many values and letters a reading holds, each counted each time it is reached (what is shared counts as often as it is met; a slice's spare places count too). A statement '..UptoSaid' is the law's where the arguments, and the package variables that the reading takes, are together of bulk at most 1048576: NARROWER than '..Said'. Prove '..Said' where nothing that the law and all that it calls make is longer than what came in: it says more and counts as full. Else prove '..UptoSaid'. A law counts once. -/
mutual
def uptoBulk {H : Type} : DataW H → Nat
  | .lit (.string bytes) => bytes.length + 1
  | .lit _ => 1
  | .nil => 1
  | .ptr d => uptoBulk d + 1
  | .slice elems spare => uptoBulkAll elems + uptoBulkAll spare + 1
  | .agg parts => uptoBulkAll parts + 1
  | .iface _ d => uptoBulk d + 1
  | .map entries => uptoBulkEntries entries + 1
  | .held _ => 1
def uptoBulkAll {H : Type} : List (DataW H) → Nat
  | [] => 0
  | d :: r => uptoBulk d + uptoBulkAll r
def uptoBulkEntries {H : Type} : List (Lit × DataW H) → Nat
  | [] => 0
  | x :: r => uptoBulkEntry x + uptoBulkEntries r
def uptoBulkEntry {H : Type} : Lit × DataW H → Nat
  | (.string bytes, d) => bytes.length + uptoBulk d + 1
  | (_, d) => uptoBulk d + 1
 end
def uptoSmall : (H : Type) → List (DataW H) → Bool := fun _ ds => decide (uptoBulkAll ds ≤ 1048576)
def OpenSpec.upto (s : _root_.Go.ChangeSpec) : _root_.Go.OpenSpec := { _root_.Go.OpenSpec.ofChange s with cond := some uptoSmall }

/-- 'laws.FnExactDivisorsOf', WHERE WHAT IT READS IS OF BULK AT MOST 1048576: true; the input reads as it did. -/
def fnExactDivisorsOfUptoRow : OpenClaim := { program := "ytkpililllihgcaa", sum := "b23f43b384ccdfbf546512b1207f5c47e042880be25fbe4e81ab3c954ddd1e70", func := "loop.example/g01235/laws.FnExactDivisorsOf", spec := "fnExactDivisorsOf", unfollowed := true, recurses := true, apart := false, narrowed := true }
def FnExactDivisorsOfUptoSaid : Prop := fnExactDivisorsOfUptoRow.holds Try.pinned (OpenSpec.upto fnExactDivisorsOfSpec)

/-- 'laws.FnExactCountDivisors', WHERE WHAT IT READS IS OF BULK AT MOST 1048576: true; the input reads as it did. -/
def fnExactCountDivisorsUptoRow : OpenClaim := { program := "ytkpililllihgcaa", sum := "b23f43b384ccdfbf546512b1207f5c47e042880be25fbe4e81ab3c954ddd1e70", func := "loop.example/g01235/laws.FnExactCountDivisors", spec := "fnExactCountDivisors", unfollowed := true, recurses := true, apart := false, narrowed := true }
def FnExactCountDivisorsUptoSaid : Prop := fnExactCountDivisorsUptoRow.holds Try.pinned (OpenSpec.upto fnExactCountDivisorsSpec)

/-- 'laws.FnExactSumDivisors', WHERE WHAT IT READS IS OF BULK AT MOST 1048576: true; the input reads as it did. -/
def fnExactSumDivisorsUptoRow : OpenClaim := { program := "ytkpililllihgcaa", sum := "b23f43b384ccdfbf546512b1207f5c47e042880be25fbe4e81ab3c954ddd1e70", func := "loop.example/g01235/laws.FnExactSumDivisors", spec := "fnExactSumDivisors", unfollowed := true, recurses := true, apart := false, narrowed := true }
def FnExactSumDivisorsUptoSaid : Prop := fnExactSumDivisorsUptoRow.holds Try.pinned (OpenSpec.upto fnExactSumDivisorsSpec)

/-- 'laws.FnExactTotientOf', WHERE WHAT IT READS IS OF BULK AT MOST 1048576: true; the input reads as it did. -/
def fnExactTotientOfUptoRow : OpenClaim := { program := "ytkpililllihgcaa", sum := "b23f43b384ccdfbf546512b1207f5c47e042880be25fbe4e81ab3c954ddd1e70", func := "loop.example/g01235/laws.FnExactTotientOf", spec := "fnExactTotientOf", unfollowed := true, recurses := true, apart := false, narrowed := true }
def FnExactTotientOfUptoSaid : Prop := fnExactTotientOfUptoRow.holds Try.pinned (OpenSpec.upto fnExactTotientOfSpec)

/-- 'laws.FnExactMoebiusOf', WHERE WHAT IT READS IS OF BULK AT MOST 1048576: true; the input reads as it did. -/
def fnExactMoebiusOfUptoRow : OpenClaim := { program := "ytkpililllihgcaa", sum := "b23f43b384ccdfbf546512b1207f5c47e042880be25fbe4e81ab3c954ddd1e70", func := "loop.example/g01235/laws.FnExactMoebiusOf", spec := "fnExactMoebiusOf", unfollowed := true, recurses := true, apart := false, narrowed := true }
def FnExactMoebiusOfUptoSaid : Prop := fnExactMoebiusOfUptoRow.holds Try.pinned (OpenSpec.upto fnExactMoebiusOfSpec)

/-- 'laws.FnExactTableOf', WHERE WHAT IT READS IS OF BULK AT MOST 1048576: true; the input reads as it did. -/
def fnExactTableOfUptoRow : OpenClaim := { program := "ytkpililllihgcaa", sum := "b23f43b384ccdfbf546512b1207f5c47e042880be25fbe4e81ab3c954ddd1e70", func := "loop.example/g01235/laws.FnExactTableOf", spec := "fnExactTableOf", unfollowed := true, recurses := true, apart := false, narrowed := true }
def FnExactTableOfUptoSaid : Prop := fnExactTableOfUptoRow.holds Try.pinned (OpenSpec.upto fnExactTableOfSpec)

/-- 'laws.FnExactOverDivisors', WHERE WHAT IT READS IS OF BULK AT MOST 1048576: true; the input reads as it did. -/
def fnExactOverDivisorsUptoRow : OpenClaim := { program := "ytkpililllihgcaa", sum := "b23f43b384ccdfbf546512b1207f5c47e042880be25fbe4e81ab3c954ddd1e70", func := "loop.example/g01235/laws.FnExactOverDivisors", spec := "fnExactOverDivisors", unfollowed := true, recurses := true, apart := false, narrowed := true }
def FnExactOverDivisorsUptoSaid : Prop := fnExactOverDivisorsUptoRow.holds Try.pinned (OpenSpec.upto fnExactOverDivisorsSpec)

/-- 'laws.FnExactUndoTable', WHERE WHAT IT READS IS OF BULK AT MOST 1048576: true; the input reads as it did. -/
def fnExactUndoTableUptoRow : OpenClaim := { program := "ytkpililllihgcaa", sum := "b23f43b384ccdfbf546512b1207f5c47e042880be25fbe4e81ab3c954ddd1e70", func := "loop.example/g01235/laws.FnExactUndoTable", spec := "fnExactUndoTable", unfollowed := true, recurses := true, apart := false, narrowed := true }
def FnExactUndoTableUptoSaid : Prop := fnExactUndoTableUptoRow.holds Try.pinned (OpenSpec.upto fnExactUndoTableSpec)

/-- 'laws.FnExactSumOverDivisors', WHERE WHAT IT READS IS OF BULK AT MOST 1048576: true; the input reads as it did. -/
def fnExactSumOverDivisorsUptoRow : OpenClaim := { program := "ytkpililllihgcaa", sum := "b23f43b384ccdfbf546512b1207f5c47e042880be25fbe4e81ab3c954ddd1e70", func := "loop.example/g01235/laws.FnExactSumOverDivisors", spec := "fnExactSumOverDivisors", unfollowed := true, recurses := true, apart := false, narrowed := true }
def FnExactSumOverDivisorsUptoSaid : Prop := fnExactSumOverDivisorsUptoRow.holds Try.pinned (OpenSpec.upto fnExactSumOverDivisorsSpec)

/-- 'laws.FnExactIsSpread', WHERE WHAT IT READS IS OF BULK AT MOST 1048576: true; the input reads as it did. -/
def fnExactIsSpreadUptoRow : OpenClaim := { program := "ytkpililllihgcaa", sum := "b23f43b384ccdfbf546512b1207f5c47e042880be25fbe4e81ab3c954ddd1e70", func := "loop.example/g01235/laws.FnExactIsSpread", spec := "fnExactIsSpread", apart := false, narrowed := true }
def FnExactIsSpreadUptoSaid : Prop := fnExactIsSpreadUptoRow.holds Try.pinned (OpenSpec.upto fnExactIsSpreadSpec)

/-- 'laws.FnExactPerfectUpTo', WHERE WHAT IT READS IS OF BULK AT MOST 1048576: true; the input reads as it did. -/
def fnExactPerfectUpToUptoRow : OpenClaim := { program := "ytkpililllihgcaa", sum := "b23f43b384ccdfbf546512b1207f5c47e042880be25fbe4e81ab3c954ddd1e70", func := "loop.example/g01235/laws.FnExactPerfectUpTo", spec := "fnExactPerfectUpTo", unfollowed := true, recurses := true, apart := false, narrowed := true }
def FnExactPerfectUpToUptoSaid : Prop := fnExactPerfectUpToUptoRow.holds Try.pinned (OpenSpec.upto fnExactPerfectUpToSpec)

/-- 'laws.FnExactSumStep', WHERE WHAT IT READS IS OF BULK AT MOST 1048576: true; the input reads as it did. -/
def fnExactSumStepUptoRow : OpenClaim := { program := "ytkpililllihgcaa", sum := "b23f43b384ccdfbf546512b1207f5c47e042880be25fbe4e81ab3c954ddd1e70", func := "loop.example/g01235/laws.FnExactSumStep", spec := "fnExactSumStep", unfollowed := true, recurses := true, apart := false, narrowed := true }
def FnExactSumStepUptoSaid : Prop := fnExactSumStepUptoRow.holds Try.pinned (OpenSpec.upto fnExactSumStepSpec)

/-- 'laws.FnExactSumWay', WHERE WHAT IT READS IS OF BULK AT MOST 1048576: true; the input reads as it did. -/
def fnExactSumWayUptoRow : OpenClaim := { program := "ytkpililllihgcaa", sum := "b23f43b384ccdfbf546512b1207f5c47e042880be25fbe4e81ab3c954ddd1e70", func := "loop.example/g01235/laws.FnExactSumWay", spec := "fnExactSumWay", apart := false, narrowed := true }
def FnExactSumWayUptoSaid : Prop := fnExactSumWayUptoRow.holds Try.pinned (OpenSpec.upto fnExactSumWaySpec)

/-- 'laws.FnExactAmicableOf', WHERE WHAT IT READS IS OF BULK AT MOST 1048576: true; the input reads as it did. -/
def fnExactAmicableOfUptoRow : OpenClaim := { program := "ytkpililllihgcaa", sum := "b23f43b384ccdfbf546512b1207f5c47e042880be25fbe4e81ab3c954ddd1e70", func := "loop.example/g01235/laws.FnExactAmicableOf", spec := "fnExactAmicableOf", unfollowed := true, recurses := true, apart := false, narrowed := true }
def FnExactAmicableOfUptoSaid : Prop := fnExactAmicableOfUptoRow.holds Try.pinned (OpenSpec.upto fnExactAmicableOfSpec)

/-- 'laws.FnExactRecordsUpTo', WHERE WHAT IT READS IS OF BULK AT MOST 1048576: true; the input reads as it did. -/
def fnExactRecordsUpToUptoRow : OpenClaim := { program := "ytkpililllihgcaa", sum := "b23f43b384ccdfbf546512b1207f5c47e042880be25fbe4e81ab3c954ddd1e70", func := "loop.example/g01235/laws.FnExactRecordsUpTo", spec := "fnExactRecordsUpTo", apart := false, narrowed := true }
def FnExactRecordsUpToUptoSaid : Prop := fnExactRecordsUpToUptoRow.holds Try.pinned (OpenSpec.upto fnExactRecordsUpToSpec)

/-- 'laws.FnExactCoprimePairs', WHERE WHAT IT READS IS OF BULK AT MOST 1048576: true; the input reads as it did. -/
def fnExactCoprimePairsUptoRow : OpenClaim := { program := "ytkpililllihgcaa", sum := "b23f43b384ccdfbf546512b1207f5c47e042880be25fbe4e81ab3c954ddd1e70", func := "loop.example/g01235/laws.FnExactCoprimePairs", spec := "fnExactCoprimePairs", unfollowed := true, recurses := true, apart := false, narrowed := true }
def FnExactCoprimePairsUptoSaid : Prop := fnExactCoprimePairsUptoRow.holds Try.pinned (OpenSpec.upto fnExactCoprimePairsSpec)

end Rows
end Go.Proofs.Ytkpililllihgcaa
