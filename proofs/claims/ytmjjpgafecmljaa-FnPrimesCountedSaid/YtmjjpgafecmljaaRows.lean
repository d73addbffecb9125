/-
  No cell of these rows narrows 'for every input' (looked for: loops, veiled, ifaces, maps, wideKeys, modest, calm, conditions, laid).
  DERIVED. THE GIVEN ROWS OF THIS SEAT. 8 by the template 'for every input the law returns true; each argument reads behind the call as it read before'; 0 by the template 'total and deterministic' (their statements: YtmjjpgafecmljaaTotals.lean).
  GIVEN WITH THE SEED: the statements are not yours to turn. If you find one false, say at which input.
  Laid BY PROGRAM, IN A SANDBOX (cutbox-rows.mjs): the forced cells as the released guide's own fill.sh prints them over the translation db90d0a7958bb749… (all of the seat's roots in one cut). By AI agents, Wed Nov 11 2026. No macro, syntax, notation, axiom, sorry.
-/
import Derived.Test.YtmjjpgafecmljaaChecked
import GoSem.Claim
import GoSem.ClaimJoined
import GoSem.ClaimMapViews
import Derived.JoinedTies
import Derived.KernelRfl
namespace Go.Proofs.Ytmjjpgafecmljaa
/- THE CELL 'sum', in the pinned program and in every row, IS THE sha256 OF THE DUMP (.gsa) THAT YtmjjpgafecmljaaProg.lean LOADS. Nothing in Lean hashes anything: it is a label: what it is worth is what the hold of that sum in a sandbox is worth. -/
noncomputable def Try.pinned : Pinned := { name := "ytmjjpgafecmljaa", sum := "db90d0a7958bb749a12ab1d5d78bad68a11c236e7fa0d8eb7cb5247186b9cd40", checked := Try.checked }
namespace Rows
def none {H : Type} : Left H := { results := [], args := [] }

/-- 'laws.FnSumsOfPrimes': WHATEVER THE INPUT: true; the input reads as it did. -/
def fnSumsOfPrimesSpec : ChangeSpec := { name := "fnSumsOfPrimes", fn := fun _ => fun
  | [d1, d2] => { results := [.lit (.bool true)], args := [d1, d2] }
  | _ => none }
def fnSumsOfPrimesRow : OpenClaim := { program := "ytmjjpgafecmljaa", sum := "db90d0a7958bb749a12ab1d5d78bad68a11c236e7fa0d8eb7cb5247186b9cd40", func := "loop.example/g01235/laws.FnSumsOfPrimes", spec := "fnSumsOfPrimes", apart := false }
def FnSumsOfPrimesSaid : Prop := fnSumsOfPrimesRow.holds Try.pinned (OpenSpec.ofChange fnSumsOfPrimesSpec)

/-- ITS FALSE NEIGHBOUR: 'it returns false'. Refute it at one input. -/
def fnSumsOfPrimesWrong : ChangeSpec := { name := "fnSumsOfPrimes", fn := fun _ => fun
  | [d1, d2] => { results := [.lit (.bool false)], args := [d1, d2] }
  | _ => none }
def FnSumsOfPrimesWrongFalsely : Prop := fnSumsOfPrimesRow.holds Try.pinned (OpenSpec.ofChange fnSumsOfPrimesWrong)

/-- 'laws.FnPrimesCounted': WHATEVER THE INPUT: true; the input reads as it did. -/
def fnPrimesCountedSpec : ChangeSpec := { name := "fnPrimesCounted", fn := fun _ => fun
  | [d1, d2] => { results := [.lit (.bool true)], args := [d1, d2] }
  | _ => none }
def fnPrimesCountedRow : OpenClaim := { program := "ytmjjpgafecmljaa", sum := "db90d0a7958bb749a12ab1d5d78bad68a11c236e7fa0d8eb7cb5247186b9cd40", func := "loop.example/g01235/laws.FnPrimesCounted", spec := "fnPrimesCounted", unfollowed := true, recurses := true, apart := false }
def FnPrimesCountedSaid : Prop := fnPrimesCountedRow.holds Try.pinned (OpenSpec.ofChange fnPrimesCountedSpec)

/-- ITS FALSE NEIGHBOUR: 'it returns false'. Refute it at one input. -/
def fnPrimesCountedWrong : ChangeSpec := { name := "fnPrimesCounted", fn := fun _ => fun
  | [d1, d2] => { results := [.lit (.bool false)], args := [d1, d2] }
  | _ => none }
def FnPrimesCountedWrongFalsely : Prop := fnPrimesCountedRow.holds Try.pinned (OpenSpec.ofChange fnPrimesCountedWrong)

/-- 'laws.FnPrimesCountedOfAll': WHATEVER THE INPUT: true; the input reads as it did. -/
def fnPrimesCountedOfAllSpec : ChangeSpec := { name := "fnPrimesCountedOfAll", fn := fun _ => fun
  | [d1, d2, d3, d4, d5, d6] => { results := [.lit (.bool true)], args := [d1, d2, d3, d4, d5, d6] }
  | _ => none }
def fnPrimesCountedOfAllRow : OpenClaim := { program := "ytmjjpgafecmljaa", sum := "db90d0a7958bb749a12ab1d5d78bad68a11c236e7fa0d8eb7cb5247186b9cd40", func := "loop.example/g01235/laws.FnPrimesCountedOfAll", spec := "fnPrimesCountedOfAll", unfollowed := true, recurses := true, apart := false }
def FnPrimesCountedOfAllSaid : Prop := fnPrimesCountedOfAllRow.holds Try.pinned (OpenSpec.ofChange fnPrimesCountedOfAllSpec)

/-- ITS FALSE NEIGHBOUR: 'it returns false'. Refute it at one input. -/
def fnPrimesCountedOfAllWrong : ChangeSpec := { name := "fnPrimesCountedOfAll", fn := fun _ => fun
  | [d1, d2, d3, d4, d5, d6] => { results := [.lit (.bool false)], args := [d1, d2, d3, d4, d5, d6] }
  | _ => none }
def FnPrimesCountedOfAllWrongFalsely : Prop := fnPrimesCountedOfAllRow.holds Try.pinned (OpenSpec.ofChange fnPrimesCountedOfAllWrong)

/-- 'laws.FnFactorsTold': WHATEVER THE INPUT: true; the input reads as it did. -/
def fnFactorsToldSpec : ChangeSpec := { name := "fnFactorsTold", fn := fun _ => fun
  | [d1, d2] => { results := [.lit (.bool true)], args := [d1, d2] }
  | _ => none }
def fnFactorsToldRow : OpenClaim := { program := "ytmjjpgafecmljaa", sum := "db90d0a7958bb749a12ab1d5d78bad68a11c236e7fa0d8eb7cb5247186b9cd40", func := "loop.example/g01235/laws.FnFactorsTold", spec := "fnFactorsTold", apart := false }
def FnFactorsToldSaid : Prop := fnFactorsToldRow.holds Try.pinned (OpenSpec.ofChange fnFactorsToldSpec)

/-- ITS FALSE NEIGHBOUR: 'it returns false'. Refute it at one input. -/
def fnFactorsToldWrong : ChangeSpec := { name := "fnFactorsTold", fn := fun _ => fun
  | [d1, d2] => { results := [.lit (.bool false)], args := [d1, d2] }
  | _ => none }
def FnFactorsToldWrongFalsely : Prop := fnFactorsToldRow.holds Try.pinned (OpenSpec.ofChange fnFactorsToldWrong)

/-- 'laws.FnFactorsToldOfAll': WHATEVER THE INPUT: true; the input reads as it did. -/
def fnFactorsToldOfAllSpec : ChangeSpec := { name := "fnFactorsToldOfAll", fn := fun _ => fun
  | [d1, d2, d3, d4] => { results := [.lit (.bool true)], args := [d1, d2, d3, d4] }
  | _ => none }
def fnFactorsToldOfAllRow : OpenClaim := { program := "ytmjjpgafecmljaa", sum := "db90d0a7958bb749a12ab1d5d78bad68a11c236e7fa0d8eb7cb5247186b9cd40", func := "loop.example/g01235/laws.FnFactorsToldOfAll", spec := "fnFactorsToldOfAll", apart := false }
def FnFactorsToldOfAllSaid : Prop := fnFactorsToldOfAllRow.holds Try.pinned (OpenSpec.ofChange fnFactorsToldOfAllSpec)

/-- ITS FALSE NEIGHBOUR: 'it returns false'. Refute it at one input. -/
def fnFactorsToldOfAllWrong : ChangeSpec := { name := "fnFactorsToldOfAll", fn := fun _ => fun
  | [d1, d2, d3, d4] => { results := [.lit (.bool false)], args := [d1, d2, d3, d4] }
  | _ => none }
def FnFactorsToldOfAllWrongFalsely : Prop := fnFactorsToldOfAllRow.holds Try.pinned (OpenSpec.ofChange fnFactorsToldOfAllWrong)

/-- 'laws.FnSievesLeave': WHATEVER THE INPUT: true; the input reads as it did. -/
def fnSievesLeaveSpec : ChangeSpec := { name := "fnSievesLeave", fn := fun _ => fun
  | [d1, d2] => { results := [.lit (.bool true)], args := [d1, d2] }
  | _ => none }
def fnSievesLeaveRow : OpenClaim := { program := "ytmjjpgafecmljaa", sum := "db90d0a7958bb749a12ab1d5d78bad68a11c236e7fa0d8eb7cb5247186b9cd40", func := "loop.example/g01235/laws.FnSievesLeave", spec := "fnSievesLeave", apart := false }
def FnSievesLeaveSaid : Prop := fnSievesLeaveRow.holds Try.pinned (OpenSpec.ofChange fnSievesLeaveSpec)

/-- ITS FALSE NEIGHBOUR: 'it returns false'. Refute it at one input. -/
def fnSievesLeaveWrong : ChangeSpec := { name := "fnSievesLeave", fn := fun _ => fun
  | [d1, d2] => { results := [.lit (.bool false)], args := [d1, d2] }
  | _ => none }
def FnSievesLeaveWrongFalsely : Prop := fnSievesLeaveRow.holds Try.pinned (OpenSpec.ofChange fnSievesLeaveWrong)

/-- 'laws.FnWheelsTurn': WHATEVER THE INPUT: true; the input reads as it did. -/
def fnWheelsTurnSpec : ChangeSpec := { name := "fnWheelsTurn", fn := fun _ => fun
  | [d1, d2] => { results := [.lit (.bool true)], args := [d1, d2] }
  | _ => none }
def fnWheelsTurnRow : OpenClaim := { program := "ytmjjpgafecmljaa", sum := "db90d0a7958bb749a12ab1d5d78bad68a11c236e7fa0d8eb7cb5247186b9cd40", func := "loop.example/g01235/laws.FnWheelsTurn", spec := "fnWheelsTurn", apart := false }
def FnWheelsTurnSaid : Prop := fnWheelsTurnRow.holds Try.pinned (OpenSpec.ofChange fnWheelsTurnSpec)

/-- ITS FALSE NEIGHBOUR: 'it returns false'. Refute it at one input. -/
def fnWheelsTurnWrong : ChangeSpec := { name := "fnWheelsTurn", fn := fun _ => fun
  | [d1, d2] => { results := [.lit (.bool false)], args := [d1, d2] }
  | _ => none }
def FnWheelsTurnWrongFalsely : Prop := fnWheelsTurnRow.holds Try.pinned (OpenSpec.ofChange fnWheelsTurnWrong)

/-- 'laws.FnWheelsTurnOfAll': WHATEVER THE INPUT: true; the input reads as it did. -/
def fnWheelsTurnOfAllSpec : ChangeSpec := { name := "fnWheelsTurnOfAll", fn := fun _ => fun
  | [d1, d2] => { results := [.lit (.bool true)], args := [d1, d2] }
  | _ => none }
def fnWheelsTurnOfAllRow : OpenClaim := { program := "ytmjjpgafecmljaa", sum := "db90d0a7958bb749a12ab1d5d78bad68a11c236e7fa0d8eb7cb5247186b9cd40", func := "loop.example/g01235/laws.FnWheelsTurnOfAll", spec := "fnWheelsTurnOfAll", apart := false }
def FnWheelsTurnOfAllSaid : Prop := fnWheelsTurnOfAllRow.holds Try.pinned (OpenSpec.ofChange fnWheelsTurnOfAllSpec)

/-- ITS FALSE NEIGHBOUR: 'it returns false'. Refute it at one input. -/
def fnWheelsTurnOfAllWrong : ChangeSpec := { name := "fnWheelsTurnOfAll", fn := fun _ => fun
  | [d1, d2] => { results := [.lit (.bool false)], args := [d1, d2] }
  | _ => none }
def FnWheelsTurnOfAllWrongFalsely : Prop := fnWheelsTurnOfAllRow.holds Try.pinned (OpenSpec.ofChange fnWheelsTurnOfAllWrong)

/- THE SECOND FORM. 'bulk': how many values and letters a reading holds, each counted each time it is reached (what is shared counts as often as it is met; a slice's spare places count too). A statement '..UptoSaid' is the law's where the arguments, and the package variables that the reading takes, are together of bulk at most 1048576: NARROWER than '..Said'. Prove '..Said' where nothing that the law and all that it calls make is longer than what came in: it says more and counts as full. Else prove '..UptoSaid'. A law counts once. -/
mutual
def uptoBulk {H : Type} : DataW H → Nat
  | .lit (.string bytes) => bytes.length + 1
  | .lit _ => 1
  | .nil => 1
  | .ptr d => uptoBulk d + 1
  | .slice elems spare => uptoBulkAll elems + uptoBulkAll spare + 1
  | .agg parts => uptoBulkAll parts + 1
  | .iface _ d => uptoBulk d + 1
  | .map entries => uptoBulkEntries entries + 1
  | .held _ => 1
def uptoBulkAll {H : Type} : List (DataW H) → Nat
  | [] => 0
  | d :: r => uptoBulk d + uptoBulkAll r
def uptoBulkEntries {H : Type} : List (Lit × DataW H) → Nat
  | [] => 0
  | x :: r => uptoBulkEntry x + uptoBulkEntries r
def uptoBulkEntry {H : Type} : Lit × DataW H → Nat
  | (.string bytes, d) => bytes.length + uptoBulk d + 1
  | (_, d) => uptoBulk d + 1
 end
def uptoSmall : (H : Type) → List (DataW H) → Bool := fun _ ds => decide (uptoBulkAll ds ≤ 1048576)
def OpenSpec.upto (s : _root_.Go.ChangeSpec) : _root_.Go.OpenSpec := { _root_.Go.OpenSpec.ofChange s with cond := some uptoSmall }

/-- 'laws.FnSumsOfPrimes', WHERE WHAT IT READS IS OF BULK AT MOST 1048576: true; the input reads as it did. -/
def fnSumsOfPrimesUptoRow : OpenClaim := { program := "ytmjjpgafecmljaa", sum := "db90d0a7958bb749a12ab1d5d78bad68a11c236e7fa0d8eb7cb5247186b9cd40", func := "loop.example/g01235/laws.FnSumsOfPrimes", spec := "fnSumsOfPrimes", apart := false, narrowed := true }
def FnSumsOfPrimesUptoSaid : Prop := fnSumsOfPrimesUptoRow.holds Try.pinned (OpenSpec.upto fnSumsOfPrimesSpec)

/-- 'laws.FnPrimesCounted', WHERE WHAT IT READS IS OF BULK AT MOST 1048576: true; the input reads as it did. -/
def fnPrimesCountedUptoRow : OpenClaim := { program := "ytmjjpgafecmljaa", sum := "db90d0a7958bb749a12ab1d5d78bad68a11c236e7fa0d8eb7cb5247186b9cd40", func := "loop.example/g01235/laws.FnPrimesCounted", spec := "fnPrimesCounted", unfollowed := true, recurses := true, apart := false, narrowed := true }
def FnPrimesCountedUptoSaid : Prop := fnPrimesCountedUptoRow.holds Try.pinned (OpenSpec.upto fnPrimesCountedSpec)

/-- 'laws.FnPrimesCountedOfAll', WHERE WHAT IT READS IS OF BULK AT MOST 1048576: true; the input reads as it did. -/
def fnPrimesCountedOfAllUptoRow : OpenClaim := { program := "ytmjjpgafecmljaa", sum := "db90d0a7958bb749a12ab1d5d78bad68a11c236e7fa0d8eb7cb5247186b9cd40", func := "loop.example/g01235/laws.FnPrimesCountedOfAll", spec := "fnPrimesCountedOfAll", unfollowed := true, recurses := true, apart := false, narrowed := true }
def FnPrimesCountedOfAllUptoSaid : Prop := fnPrimesCountedOfAllUptoRow.holds Try.pinned (OpenSpec.upto fnPrimesCountedOfAllSpec)

/-- 'laws.FnFactorsTold', WHERE WHAT IT READS IS OF BULK AT MOST 1048576: true; the input reads as it did. -/
def fnFactorsToldUptoRow : OpenClaim := { program := "ytmjjpgafecmljaa", sum := "db90d0a7958bb749a12ab1d5d78bad68a11c236e7fa0d8eb7cb5247186b9cd40", func := "loop.example/g01235/laws.FnFactorsTold", spec := "fnFactorsTold", apart := false, narrowed := true }
def FnFactorsToldUptoSaid : Prop := fnFactorsToldUptoRow.holds Try.pinned (OpenSpec.upto fnFactorsToldSpec)

/-- 'laws.FnFactorsToldOfAll', WHERE WHAT IT READS IS OF BULK AT MOST 1048576: true; the input reads as it did. -/
def fnFactorsToldOfAllUptoRow : OpenClaim := { program := "ytmjjpgafecmljaa", sum := "db90d0a7958bb749a12ab1d5d78bad68a11c236e7fa0d8eb7cb5247186b9cd40", func := "loop.example/g01235/laws.FnFactorsToldOfAll", spec := "fnFactorsToldOfAll", apart := false, narrowed := true }
def FnFactorsToldOfAllUptoSaid : Prop := fnFactorsToldOfAllUptoRow.holds Try.pinned (OpenSpec.upto fnFactorsToldOfAllSpec)

/-- 'laws.FnSievesLeave', WHERE WHAT IT READS IS OF BULK AT MOST 1048576: true; the input reads as it did. -/
def fnSievesLeaveUptoRow : OpenClaim := { program := "ytmjjpgafecmljaa", sum := "db90d0a7958bb749a12ab1d5d78bad68a11c236e7fa0d8eb7cb5247186b9cd40", func := "loop.example/g01235/laws.FnSievesLeave", spec := "fnSievesLeave", apart := false, narrowed := true }
def FnSievesLeaveUptoSaid : Prop := fnSievesLeaveUptoRow.holds Try.pinned (OpenSpec.upto fnSievesLeaveSpec)

/-- 'laws.FnWheelsTurn', WHERE WHAT IT READS IS OF BULK AT MOST 1048576: true; the input reads as it did. -/
def fnWheelsTurnUptoRow : OpenClaim := { program := "ytmjjpgafecmljaa", sum := "db90d0a7958bb749a12ab1d5d78bad68a11c236e7fa0d8eb7cb5247186b9cd40", func := "loop.example/g01235/laws.FnWheelsTurn", spec := "fnWheelsTurn", apart := false, narrowed := true }
def FnWheelsTurnUptoSaid : Prop := fnWheelsTurnUptoRow.holds Try.pinned (OpenSpec.upto fnWheelsTurnSpec)

/-- 'laws.FnWheelsTurnOfAll', WHERE WHAT IT READS IS OF BULK AT MOST 1048576: true; the input reads as it did. -/
def fnWheelsTurnOfAllUptoRow : OpenClaim := { program := "ytmjjpgafecmljaa", sum := "db90d0a7958bb749a12ab1d5d78bad68a11c236e7fa0d8eb7cb5247186b9cd40", func := "loop.example/g01235/laws.FnWheelsTurnOfAll", spec := "fnWheelsTurnOfAll", apart := false, narrowed := true }
def FnWheelsTurnOfAllUptoSaid : Prop := fnWheelsTurnOfAllUptoRow.holds Try.pinned (OpenSpec.upto fnWheelsTurnOfAllSpec)

end Rows
end Go.Proofs.Ytmjjpgafecmljaa
