/-
  No cell of these rows narrows 'for every input' (looked for: loops, veiled, ifaces, maps, wideKeys, modest, calm, conditions, laid).
  DERIVED. THE GIVEN ROWS OF THIS SEAT. 12 by the template 'for every input the law returns true; each argument reads behind the call as it read before'; 0 by the template 'total and deterministic' (their statements: YtkpililllihgcabTotals.lean).
  GIVEN WITH THE SEED: the statements are not yours to turn. If you find one false, say at which input.
  Laid BY PROGRAM, IN A SANDBOX (cutbox-rows.mjs): the forced cells as the released guide's own fill.sh prints them over the translation e5478e467ca119e9… (all of the seat's roots in one cut). By AI agents, Wed Nov 11 2026. No macro, syntax, notation, axiom, sorry.
-/
import Derived.Test.YtkpililllihgcabChecked
import GoSem.Claim
import GoSem.ClaimJoined
import GoSem.ClaimMapViews
import Derived.JoinedTies
import Derived.KernelRfl
namespace Go.Proofs.Ytkpililllihgcab
/- THE CELL 'sum', in the pinned program and in every row, IS THE sha256 OF THE DUMP (.gsa) THAT YtkpililllihgcabProg.lean LOADS. Nothing in Lean hashes anything: it is a label: what it is worth is what the hold of that sum in a sandbox is worth. -/
noncomputable def Try.pinned : Pinned := { name := "ytkpililllihgcab", sum := "e5478e467ca119e9db872a1a0507ad0767f033b537c58c388bb8686b575d9ad0", checked := Try.checked }
namespace Rows
def none {H : Type} : Left H := { results := [], args := [] }

/-- 'laws.FnExactIsSquareFree': WHATEVER THE INPUT: true; the input reads as it did. -/
def fnExactIsSquareFreeSpec : ChangeSpec := { name := "fnExactIsSquareFree", fn := fun _ => fun
  | [d] => { results := [.lit (.bool true)], args := [d] }
  | _ => none }
def fnExactIsSquareFreeRow : OpenClaim := { program := "ytkpililllihgcab", sum := "e5478e467ca119e9db872a1a0507ad0767f033b537c58c388bb8686b575d9ad0", func := "loop.example/g01235/laws.FnExactIsSquareFree", spec := "fnExactIsSquareFree", unfollowed := true, recurses := true, apart := false }
def FnExactIsSquareFreeSaid : Prop := fnExactIsSquareFreeRow.holds Try.pinned (OpenSpec.ofChange fnExactIsSquareFreeSpec)

/-- ITS FALSE NEIGHBOUR: 'it returns false'. Refute it at one input. -/
def fnExactIsSquareFreeWrong : ChangeSpec := { name := "fnExactIsSquareFree", fn := fun _ => fun
  | [d] => { results := [.lit (.bool false)], args := [d] }
  | _ => none }
def FnExactIsSquareFreeWrongFalsely : Prop := fnExactIsSquareFreeRow.holds Try.pinned (OpenSpec.ofChange fnExactIsSquareFreeWrong)

/-- 'laws.FnExactSquarePart': WHATEVER THE INPUT: true; the input reads as it did. -/
def fnExactSquarePartSpec : ChangeSpec := { name := "fnExactSquarePart", fn := fun _ => fun
  | [d] => { results := [.lit (.bool true)], args := [d] }
  | _ => none }
def fnExactSquarePartRow : OpenClaim := { program := "ytkpililllihgcab", sum := "e5478e467ca119e9db872a1a0507ad0767f033b537c58c388bb8686b575d9ad0", func := "loop.example/g01235/laws.FnExactSquarePart", spec := "fnExactSquarePart", unfollowed := true, recurses := true, apart := false }
def FnExactSquarePartSaid : Prop := fnExactSquarePartRow.holds Try.pinned (OpenSpec.ofChange fnExactSquarePartSpec)

/-- ITS FALSE NEIGHBOUR: 'it returns false'. Refute it at one input. -/
def fnExactSquarePartWrong : ChangeSpec := { name := "fnExactSquarePart", fn := fun _ => fun
  | [d] => { results := [.lit (.bool false)], args := [d] }
  | _ => none }
def FnExactSquarePartWrongFalsely : Prop := fnExactSquarePartRow.holds Try.pinned (OpenSpec.ofChange fnExactSquarePartWrong)

/-- 'laws.FnExactFreeSign': WHATEVER THE INPUT: true; the input reads as it did. -/
def fnExactFreeSignSpec : ChangeSpec := { name := "fnExactFreeSign", fn := fun _ => fun
  | [d] => { results := [.lit (.bool true)], args := [d] }
  | _ => none }
def fnExactFreeSignRow : OpenClaim := { program := "ytkpililllihgcab", sum := "e5478e467ca119e9db872a1a0507ad0767f033b537c58c388bb8686b575d9ad0", func := "loop.example/g01235/laws.FnExactFreeSign", spec := "fnExactFreeSign", unfollowed := true, recurses := true, apart := false }
def FnExactFreeSignSaid : Prop := fnExactFreeSignRow.holds Try.pinned (OpenSpec.ofChange fnExactFreeSignSpec)

/-- ITS FALSE NEIGHBOUR: 'it returns false'. Refute it at one input. -/
def fnExactFreeSignWrong : ChangeSpec := { name := "fnExactFreeSign", fn := fun _ => fun
  | [d] => { results := [.lit (.bool false)], args := [d] }
  | _ => none }
def FnExactFreeSignWrongFalsely : Prop := fnExactFreeSignRow.holds Try.pinned (OpenSpec.ofChange fnExactFreeSignWrong)

/-- 'laws.FnExactCountSquareFree': WHATEVER THE INPUT: true; the input reads as it did. -/
def fnExactCountSquareFreeSpec : ChangeSpec := { name := "fnExactCountSquareFree", fn := fun _ => fun
  | [d] => { results := [.lit (.bool true)], args := [d] }
  | _ => none }
def fnExactCountSquareFreeRow : OpenClaim := { program := "ytkpililllihgcab", sum := "e5478e467ca119e9db872a1a0507ad0767f033b537c58c388bb8686b575d9ad0", func := "loop.example/g01235/laws.FnExactCountSquareFree", spec := "fnExactCountSquareFree", unfollowed := true, recurses := true, apart := false }
def FnExactCountSquareFreeSaid : Prop := fnExactCountSquareFreeRow.holds Try.pinned (OpenSpec.ofChange fnExactCountSquareFreeSpec)

/-- ITS FALSE NEIGHBOUR: 'it returns false'. Refute it at one input. -/
def fnExactCountSquareFreeWrong : ChangeSpec := { name := "fnExactCountSquareFree", fn := fun _ => fun
  | [d] => { results := [.lit (.bool false)], args := [d] }
  | _ => none }
def FnExactCountSquareFreeWrongFalsely : Prop := fnExactCountSquareFreeRow.holds Try.pinned (OpenSpec.ofChange fnExactCountSquareFreeWrong)

/-- 'laws.FnExactNextSquareFree': WHATEVER THE INPUT: true; the input reads as it did. -/
def fnExactNextSquareFreeSpec : ChangeSpec := { name := "fnExactNextSquareFree", fn := fun _ => fun
  | [d] => { results := [.lit (.bool true)], args := [d] }
  | _ => none }
def fnExactNextSquareFreeRow : OpenClaim := { program := "ytkpililllihgcab", sum := "e5478e467ca119e9db872a1a0507ad0767f033b537c58c388bb8686b575d9ad0", func := "loop.example/g01235/laws.FnExactNextSquareFree", spec := "fnExactNextSquareFree", unfollowed := true, recurses := true, apart := false }
def FnExactNextSquareFreeSaid : Prop := fnExactNextSquareFreeRow.holds Try.pinned (OpenSpec.ofChange fnExactNextSquareFreeSpec)

/-- ITS FALSE NEIGHBOUR: 'it returns false'. Refute it at one input. -/
def fnExactNextSquareFreeWrong : ChangeSpec := { name := "fnExactNextSquareFree", fn := fun _ => fun
  | [d] => { results := [.lit (.bool false)], args := [d] }
  | _ => none }
def FnExactNextSquareFreeWrongFalsely : Prop := fnExactNextSquareFreeRow.holds Try.pinned (OpenSpec.ofChange fnExactNextSquareFreeWrong)

/-- 'laws.FnExactTwoSquares': WHATEVER THE INPUT: true; the input reads as it did. -/
def fnExactTwoSquaresSpec : ChangeSpec := { name := "fnExactTwoSquares", fn := fun _ => fun
  | [d] => { results := [.lit (.bool true)], args := [d] }
  | _ => none }
def fnExactTwoSquaresRow : OpenClaim := { program := "ytkpililllihgcab", sum := "e5478e467ca119e9db872a1a0507ad0767f033b537c58c388bb8686b575d9ad0", func := "loop.example/g01235/laws.FnExactTwoSquares", spec := "fnExactTwoSquares", unfollowed := true, recurses := true, apart := false }
def FnExactTwoSquaresSaid : Prop := fnExactTwoSquaresRow.holds Try.pinned (OpenSpec.ofChange fnExactTwoSquaresSpec)

/-- ITS FALSE NEIGHBOUR: 'it returns false'. Refute it at one input. -/
def fnExactTwoSquaresWrong : ChangeSpec := { name := "fnExactTwoSquares", fn := fun _ => fun
  | [d] => { results := [.lit (.bool false)], args := [d] }
  | _ => none }
def FnExactTwoSquaresWrongFalsely : Prop := fnExactTwoSquaresRow.holds Try.pinned (OpenSpec.ofChange fnExactTwoSquaresWrong)

/-- 'laws.FnExactCountAsTwo': WHATEVER THE INPUT: true; the input reads as it did. -/
def fnExactCountAsTwoSpec : ChangeSpec := { name := "fnExactCountAsTwo", fn := fun _ => fun
  | [d] => { results := [.lit (.bool true)], args := [d] }
  | _ => none }
def fnExactCountAsTwoRow : OpenClaim := { program := "ytkpililllihgcab", sum := "e5478e467ca119e9db872a1a0507ad0767f033b537c58c388bb8686b575d9ad0", func := "loop.example/g01235/laws.FnExactCountAsTwo", spec := "fnExactCountAsTwo", unfollowed := true, recurses := true, apart := false }
def FnExactCountAsTwoSaid : Prop := fnExactCountAsTwoRow.holds Try.pinned (OpenSpec.ofChange fnExactCountAsTwoSpec)

/-- ITS FALSE NEIGHBOUR: 'it returns false'. Refute it at one input. -/
def fnExactCountAsTwoWrong : ChangeSpec := { name := "fnExactCountAsTwo", fn := fun _ => fun
  | [d] => { results := [.lit (.bool false)], args := [d] }
  | _ => none }
def FnExactCountAsTwoWrongFalsely : Prop := fnExactCountAsTwoRow.holds Try.pinned (OpenSpec.ofChange fnExactCountAsTwoWrong)

/-- 'laws.FnExactIsSumOfTwo': WHATEVER THE INPUT: true; the input reads as it did. -/
def fnExactIsSumOfTwoSpec : ChangeSpec := { name := "fnExactIsSumOfTwo", fn := fun _ => fun
  | [d] => { results := [.lit (.bool true)], args := [d] }
  | _ => none }
def fnExactIsSumOfTwoRow : OpenClaim := { program := "ytkpililllihgcab", sum := "e5478e467ca119e9db872a1a0507ad0767f033b537c58c388bb8686b575d9ad0", func := "loop.example/g01235/laws.FnExactIsSumOfTwo", spec := "fnExactIsSumOfTwo", unfollowed := true, recurses := true, apart := false }
def FnExactIsSumOfTwoSaid : Prop := fnExactIsSumOfTwoRow.holds Try.pinned (OpenSpec.ofChange fnExactIsSumOfTwoSpec)

/-- ITS FALSE NEIGHBOUR: 'it returns false'. Refute it at one input. -/
def fnExactIsSumOfTwoWrong : ChangeSpec := { name := "fnExactIsSumOfTwo", fn := fun _ => fun
  | [d] => { results := [.lit (.bool false)], args := [d] }
  | _ => none }
def FnExactIsSumOfTwoWrongFalsely : Prop := fnExactIsSumOfTwoRow.holds Try.pinned (OpenSpec.ofChange fnExactIsSumOfTwoWrong)

/-- 'laws.FnExactIsSumOfThree': WHATEVER THE INPUT: true; the input reads as it did. -/
def fnExactIsSumOfThreeSpec : ChangeSpec := { name := "fnExactIsSumOfThree", fn := fun _ => fun
  | [d] => { results := [.lit (.bool true)], args := [d] }
  | _ => none }
def fnExactIsSumOfThreeRow : OpenClaim := { program := "ytkpililllihgcab", sum := "e5478e467ca119e9db872a1a0507ad0767f033b537c58c388bb8686b575d9ad0", func := "loop.example/g01235/laws.FnExactIsSumOfThree", spec := "fnExactIsSumOfThree", unfollowed := true, recurses := true, apart := false }
def FnExactIsSumOfThreeSaid : Prop := fnExactIsSumOfThreeRow.holds Try.pinned (OpenSpec.ofChange fnExactIsSumOfThreeSpec)

/-- ITS FALSE NEIGHBOUR: 'it returns false'. Refute it at one input. -/
def fnExactIsSumOfThreeWrong : ChangeSpec := { name := "fnExactIsSumOfThree", fn := fun _ => fun
  | [d] => { results := [.lit (.bool false)], args := [d] }
  | _ => none }
def FnExactIsSumOfThreeWrongFalsely : Prop := fnExactIsSumOfThreeRow.holds Try.pinned (OpenSpec.ofChange fnExactIsSumOfThreeWrong)

/-- 'laws.FnExactCountAsFour': WHATEVER THE INPUT: true; the input reads as it did. -/
def fnExactCountAsFourSpec : ChangeSpec := { name := "fnExactCountAsFour", fn := fun _ => fun
  | [d] => { results := [.lit (.bool true)], args := [d] }
  | _ => none }
def fnExactCountAsFourRow : OpenClaim := { program := "ytkpililllihgcab", sum := "e5478e467ca119e9db872a1a0507ad0767f033b537c58c388bb8686b575d9ad0", func := "loop.example/g01235/laws.FnExactCountAsFour", spec := "fnExactCountAsFour", unfollowed := true, recurses := true, apart := false }
def FnExactCountAsFourSaid : Prop := fnExactCountAsFourRow.holds Try.pinned (OpenSpec.ofChange fnExactCountAsFourSpec)

/-- ITS FALSE NEIGHBOUR: 'it returns false'. Refute it at one input. -/
def fnExactCountAsFourWrong : ChangeSpec := { name := "fnExactCountAsFour", fn := fun _ => fun
  | [d] => { results := [.lit (.bool false)], args := [d] }
  | _ => none }
def FnExactCountAsFourWrongFalsely : Prop := fnExactCountAsFourRow.holds Try.pinned (OpenSpec.ofChange fnExactCountAsFourWrong)

/-- 'laws.FnExactCountInCircle': WHATEVER THE INPUT: true; the input reads as it did. -/
def fnExactCountInCircleSpec : ChangeSpec := { name := "fnExactCountInCircle", fn := fun _ => fun
  | [d] => { results := [.lit (.bool true)], args := [d] }
  | _ => none }
def fnExactCountInCircleRow : OpenClaim := { program := "ytkpililllihgcab", sum := "e5478e467ca119e9db872a1a0507ad0767f033b537c58c388bb8686b575d9ad0", func := "loop.example/g01235/laws.FnExactCountInCircle", spec := "fnExactCountInCircle", unfollowed := true, recurses := true, apart := false }
def FnExactCountInCircleSaid : Prop := fnExactCountInCircleRow.holds Try.pinned (OpenSpec.ofChange fnExactCountInCircleSpec)

/-- ITS FALSE NEIGHBOUR: 'it returns false'. Refute it at one input. -/
def fnExactCountInCircleWrong : ChangeSpec := { name := "fnExactCountInCircle", fn := fun _ => fun
  | [d] => { results := [.lit (.bool false)], args := [d] }
  | _ => none }
def FnExactCountInCircleWrongFalsely : Prop := fnExactCountInCircleRow.holds Try.pinned (OpenSpec.ofChange fnExactCountInCircleWrong)

/-- 'laws.FnExactSumOfSigns': WHATEVER THE INPUT: true; the input reads as it did. -/
def fnExactSumOfSignsSpec : ChangeSpec := { name := "fnExactSumOfSigns", fn := fun _ => fun
  | [d] => { results := [.lit (.bool true)], args := [d] }
  | _ => none }
def fnExactSumOfSignsRow : OpenClaim := { program := "ytkpililllihgcab", sum := "e5478e467ca119e9db872a1a0507ad0767f033b537c58c388bb8686b575d9ad0", func := "loop.example/g01235/laws.FnExactSumOfSigns", spec := "fnExactSumOfSigns", unfollowed := true, recurses := true, apart := false }
def FnExactSumOfSignsSaid : Prop := fnExactSumOfSignsRow.holds Try.pinned (OpenSpec.ofChange fnExactSumOfSignsSpec)

/-- ITS FALSE NEIGHBOUR: 'it returns false'. Refute it at one input. -/
def fnExactSumOfSignsWrong : ChangeSpec := { name := "fnExactSumOfSigns", fn := fun _ => fun
  | [d] => { results := [.lit (.bool false)], args := [d] }
  | _ => none }
def FnExactSumOfSignsWrongFalsely : Prop := fnExactSumOfSignsRow.holds Try.pinned (OpenSpec.ofChange fnExactSumOfSignsWrong)

/- THE SECOND FORM. 'bulk': how many values and letters a reading holds, each counted each time it is reached (what is shared counts as often as it is met; a slice's spare places count too). A statement '..UptoSaid' is the law's where the arguments, and the package variables that the reading takes, are together of bulk at most 1048576: NARROWER than '..Said'. Prove '..Said' where nothing that the law and all that it calls make is longer than what came in: it says more and counts as full. Else prove '..UptoSaid'. A law counts once. -/
mutual
def uptoBulk {H : Type} : DataW H → Nat
  | .lit (.string bytes) => bytes.length + 1
  | .lit _ => 1
  | .nil => 1
  | .ptr d => uptoBulk d + 1
  | .slice elems spare => uptoBulkAll elems + uptoBulkAll spare + 1
  | .agg parts => uptoBulkAll parts + 1
  | .iface _ d => uptoBulk d + 1
  | .map entries => uptoBulkEntries entries + 1
  | .held _ => 1
def uptoBulkAll {H : Type} : List (DataW H) → Nat
  | [] => 0
  | d :: r => uptoBulk d + uptoBulkAll r
def uptoBulkEntries {H : Type} : List (Lit × DataW H) → Nat
  | [] => 0
  | x :: r => uptoBulkEntry x + uptoBulkEntries r
def uptoBulkEntry {H : Type} : Lit × DataW H → Nat
  | (.string bytes, d) => bytes.length + uptoBulk d + 1
  | (_, d) => uptoBulk d + 1
 end
def uptoSmall : (H : Type) → List (DataW H) → Bool := fun _ ds => decide (uptoBulkAll ds ≤ 1048576)
def OpenSpec.upto (s : _root_.Go.ChangeSpec) : _root_.Go.OpenSpec := { _root_.Go.OpenSpec.ofChange s with cond := some uptoSmall }

/-- 'laws.FnExactIsSquareFree', WHERE WHAT IT READS IS OF BULK AT MOST 1048576: true; the input reads as it did. -/
def fnExactIsSquareFreeUptoRow : OpenClaim := { program := "ytkpililllihgcab", sum := "e5478e467ca119e9db872a1a0507ad0767f033b537c58c388bb8686b575d9ad0", func := "loop.example/g01235/laws.FnExactIsSquareFree", spec := "fnExactIsSquareFree", unfollowed := true, recurses := true, apart := false, narrowed := true }
def FnExactIsSquareFreeUptoSaid : Prop := fnExactIsSquareFreeUptoRow.holds Try.pinned (OpenSpec.upto fnExactIsSquareFreeSpec)

/-- 'laws.FnExactSquarePart', WHERE WHAT IT READS IS OF BULK AT MOST 1048576: true; the input reads as it did. -/
def fnExactSquarePartUptoRow : OpenClaim := { program := "ytkpililllihgcab", sum := "e5478e467ca119e9db872a1a0507ad0767f033b537c58c388bb8686b575d9ad0", func := "loop.example/g01235/laws.FnExactSquarePart", spec := "fnExactSquarePart", unfollowed := true, recurses := true, apart := false, narrowed := true }
def FnExactSquarePartUptoSaid : Prop := fnExactSquarePartUptoRow.holds Try.pinned (OpenSpec.upto fnExactSquarePartSpec)

/-- 'laws.FnExactFreeSign', WHERE WHAT IT READS IS OF BULK AT MOST 1048576: true; the input reads as it did. -/
def fnExactFreeSignUptoRow : OpenClaim := { program := "ytkpililllihgcab", sum := "e5478e467ca119e9db872a1a0507ad0767f033b537c58c388bb8686b575d9ad0", func := "loop.example/g01235/laws.FnExactFreeSign", spec := "fnExactFreeSign", unfollowed := true, recurses := true, apart := false, narrowed := true }
def FnExactFreeSignUptoSaid : Prop := fnExactFreeSignUptoRow.holds Try.pinned (OpenSpec.upto fnExactFreeSignSpec)

/-- 'laws.FnExactCountSquareFree', WHERE WHAT IT READS IS OF BULK AT MOST 1048576: true; the input reads as it did. -/
def fnExactCountSquareFreeUptoRow : OpenClaim := { program := "ytkpililllihgcab", sum := "e5478e467ca119e9db872a1a0507ad0767f033b537c58c388bb8686b575d9ad0", func := "loop.example/g01235/laws.FnExactCountSquareFree", spec := "fnExactCountSquareFree", unfollowed := true, recurses := true, apart := false, narrowed := true }
def FnExactCountSquareFreeUptoSaid : Prop := fnExactCountSquareFreeUptoRow.holds Try.pinned (OpenSpec.upto fnExactCountSquareFreeSpec)

/-- 'laws.FnExactNextSquareFree', WHERE WHAT IT READS IS OF BULK AT MOST 1048576: true; the input reads as it did. -/
def fnExactNextSquareFreeUptoRow : OpenClaim := { program := "ytkpililllihgcab", sum := "e5478e467ca119e9db872a1a0507ad0767f033b537c58c388bb8686b575d9ad0", func := "loop.example/g01235/laws.FnExactNextSquareFree", spec := "fnExactNextSquareFree", unfollowed := true, recurses := true, apart := false, narrowed := true }
def FnExactNextSquareFreeUptoSaid : Prop := fnExactNextSquareFreeUptoRow.holds Try.pinned (OpenSpec.upto fnExactNextSquareFreeSpec)

/-- 'laws.FnExactTwoSquares', WHERE WHAT IT READS IS OF BULK AT MOST 1048576: true; the input reads as it did. -/
def fnExactTwoSquaresUptoRow : OpenClaim := { program := "ytkpililllihgcab", sum := "e5478e467ca119e9db872a1a0507ad0767f033b537c58c388bb8686b575d9ad0", func := "loop.example/g01235/laws.FnExactTwoSquares", spec := "fnExactTwoSquares", unfollowed := true, recurses := true, apart := false, narrowed := true }
def FnExactTwoSquaresUptoSaid : Prop := fnExactTwoSquaresUptoRow.holds Try.pinned (OpenSpec.upto fnExactTwoSquaresSpec)

/-- 'laws.FnExactCountAsTwo', WHERE WHAT IT READS IS OF BULK AT MOST 1048576: true; the input reads as it did. -/
def fnExactCountAsTwoUptoRow : OpenClaim := { program := "ytkpililllihgcab", sum := "e5478e467ca119e9db872a1a0507ad0767f033b537c58c388bb8686b575d9ad0", func := "loop.example/g01235/laws.FnExactCountAsTwo", spec := "fnExactCountAsTwo", unfollowed := true, recurses := true, apart := false, narrowed := true }
def FnExactCountAsTwoUptoSaid : Prop := fnExactCountAsTwoUptoRow.holds Try.pinned (OpenSpec.upto fnExactCountAsTwoSpec)

/-- 'laws.FnExactIsSumOfTwo', WHERE WHAT IT READS IS OF BULK AT MOST 1048576: true; the input reads as it did. -/
def fnExactIsSumOfTwoUptoRow : OpenClaim := { program := "ytkpililllihgcab", sum := "e5478e467ca119e9db872a1a0507ad0767f033b537c58c388bb8686b575d9ad0", func := "loop.example/g01235/laws.FnExactIsSumOfTwo", spec := "fnExactIsSumOfTwo", unfollowed := true, recurses := true, apart := false, narrowed := true }
def FnExactIsSumOfTwoUptoSaid : Prop := fnExactIsSumOfTwoUptoRow.holds Try.pinned (OpenSpec.upto fnExactIsSumOfTwoSpec)

/-- 'laws.FnExactIsSumOfThree', WHERE WHAT IT READS IS OF BULK AT MOST 1048576: true; the input reads as it did. -/
def fnExactIsSumOfThreeUptoRow : OpenClaim := { program := "ytkpililllihgcab", sum := "e5478e467ca119e9db872a1a0507ad0767f033b537c58c388bb8686b575d9ad0", func := "loop.example/g01235/laws.FnExactIsSumOfThree", spec := "fnExactIsSumOfThree", unfollowed := true, recurses := true, apart := false, narrowed := true }
def FnExactIsSumOfThreeUptoSaid : Prop := fnExactIsSumOfThreeUptoRow.holds Try.pinned (OpenSpec.upto fnExactIsSumOfThreeSpec)

/-- 'laws.FnExactCountAsFour', WHERE WHAT IT READS IS OF BULK AT MOST 1048576: true; the input reads as it did. -/
def fnExactCountAsFourUptoRow : OpenClaim := { program := "ytkpililllihgcab", sum := "e5478e467ca119e9db872a1a0507ad0767f033b537c58c388bb8686b575d9ad0", func := "loop.example/g01235/laws.FnExactCountAsFour", spec := "fnExactCountAsFour", unfollowed := true, recurses := true, apart := false, narrowed := true }
def FnExactCountAsFourUptoSaid : Prop := fnExactCountAsFourUptoRow.holds Try.pinned (OpenSpec.upto fnExactCountAsFourSpec)

/-- 'laws.FnExactCountInCircle', WHERE WHAT IT READS IS OF BULK AT MOST 1048576: true; the input reads as it did. -/
def fnExactCountInCircleUptoRow : OpenClaim := { program := "ytkpililllihgcab", sum := "e5478e467ca119e9db872a1a0507ad0767f033b537c58c388bb8686b575d9ad0", func := "loop.example/g01235/laws.FnExactCountInCircle", spec := "fnExactCountInCircle", unfollowed := true, recurses := true, apart := false, narrowed := true }
def FnExactCountInCircleUptoSaid : Prop := fnExactCountInCircleUptoRow.holds Try.pinned (OpenSpec.upto fnExactCountInCircleSpec)

/-- 'laws.FnExactSumOfSigns', WHERE WHAT IT READS IS OF BULK AT MOST 1048576: true; the input reads as it did. -/
def fnExactSumOfSignsUptoRow : OpenClaim := { program := "ytkpililllihgcab", sum := "e5478e467ca119e9db872a1a0507ad0767f033b537c58c388bb8686b575d9ad0", func := "loop.example/g01235/laws.FnExactSumOfSigns", spec := "fnExactSumOfSigns", unfollowed := true, recurses := true, apart := false, narrowed := true }
def FnExactSumOfSignsUptoSaid : Prop := fnExactSumOfSignsUptoRow.holds Try.pinned (OpenSpec.upto fnExactSumOfSignsSpec)

end Rows
end Go.Proofs.Ytkpililllihgcab
