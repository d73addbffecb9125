/-
  No cell of these rows narrows 'for every input' (looked for: loops, veiled, ifaces, maps, wideKeys, modest, calm, conditions, laid).
  DERIVED. THE GIVEN ROWS OF THIS SEAT. 17 by the template 'for every input the law returns true; each argument reads behind the call as it read before'; 0 by the template 'total and deterministic' (their statements: YtgldlcfkdblphaaTotals.lean).
  GIVEN WITH THE SEED: the statements are not yours to turn. If you find one false, say at which input.
  Laid BY PROGRAM, IN A SANDBOX (cutbox-rows.mjs): the forced cells as the released guide's own fill.sh prints them over the translation 53972498caa5fe00… (all of the seat's roots in one cut). By AI agents, Wed Nov 11 2026. No macro, syntax, notation, axiom, sorry.
-/
import Derived.Test.YtgldlcfkdblphaaChecked
import GoSem.Claim
import GoSem.ClaimJoined
import GoSem.ClaimMapViews
import Derived.JoinedTies
import Derived.KernelRfl
namespace Go.Proofs.Ytgldlcfkdblphaa
/- THE CELL 'sum', in the pinned program and in every row, IS THE sha256 OF THE DUMP (.gsa) THAT YtgldlcfkdblphaaProg.lean LOADS. Nothing in Lean hashes anything: it is a label: what it is worth is what the hold of that sum in a sandbox is worth. -/
noncomputable def Try.pinned : Pinned := { name := "ytgldlcfkdblphaa", sum := "53972498caa5fe00b53512cbc106a33d358ae841aab6fcc8b7e77c2a30ca1514", checked := Try.checked }
namespace Rows
def none {H : Type} : Left H := { results := [], args := [] }

/-- 'laws.FnExactIsPrime': WHATEVER THE INPUT: true; the input reads as it did. -/
def fnExactIsPrimeSpec : ChangeSpec := { name := "fnExactIsPrime", fn := fun _ => fun
  | [d] => { results := [.lit (.bool true)], args := [d] }
  | _ => none }
def fnExactIsPrimeRow : OpenClaim := { program := "ytgldlcfkdblphaa", sum := "53972498caa5fe00b53512cbc106a33d358ae841aab6fcc8b7e77c2a30ca1514", func := "loop.example/g01235/laws.FnExactIsPrime", spec := "fnExactIsPrime", apart := false }
def FnExactIsPrimeSaid : Prop := fnExactIsPrimeRow.holds Try.pinned (OpenSpec.ofChange fnExactIsPrimeSpec)

/-- ITS FALSE NEIGHBOUR: 'it returns false'. Refute it at one input. -/
def fnExactIsPrimeWrong : ChangeSpec := { name := "fnExactIsPrime", fn := fun _ => fun
  | [d] => { results := [.lit (.bool false)], args := [d] }
  | _ => none }
def FnExactIsPrimeWrongFalsely : Prop := fnExactIsPrimeRow.holds Try.pinned (OpenSpec.ofChange fnExactIsPrimeWrong)

/-- 'laws.FnExactPrimesBetween': WHATEVER THE INPUT: true; the input reads as it did. -/
def fnExactPrimesBetweenSpec : ChangeSpec := { name := "fnExactPrimesBetween", fn := fun _ => fun
  | [d1, d2] => { results := [.lit (.bool true)], args := [d1, d2] }
  | _ => none }
def fnExactPrimesBetweenRow : OpenClaim := { program := "ytgldlcfkdblphaa", sum := "53972498caa5fe00b53512cbc106a33d358ae841aab6fcc8b7e77c2a30ca1514", func := "loop.example/g01235/laws.FnExactPrimesBetween", spec := "fnExactPrimesBetween", apart := false }
def FnExactPrimesBetweenSaid : Prop := fnExactPrimesBetweenRow.holds Try.pinned (OpenSpec.ofChange fnExactPrimesBetweenSpec)

/-- ITS FALSE NEIGHBOUR: 'it returns false'. Refute it at one input. -/
def fnExactPrimesBetweenWrong : ChangeSpec := { name := "fnExactPrimesBetween", fn := fun _ => fun
  | [d1, d2] => { results := [.lit (.bool false)], args := [d1, d2] }
  | _ => none }
def FnExactPrimesBetweenWrongFalsely : Prop := fnExactPrimesBetweenRow.holds Try.pinned (OpenSpec.ofChange fnExactPrimesBetweenWrong)

/-- 'laws.FnExactCountPrimes': WHATEVER THE INPUT: true; the input reads as it did. -/
def fnExactCountPrimesSpec : ChangeSpec := { name := "fnExactCountPrimes", fn := fun _ => fun
  | [d] => { results := [.lit (.bool true)], args := [d] }
  | _ => none }
def fnExactCountPrimesRow : OpenClaim := { program := "ytgldlcfkdblphaa", sum := "53972498caa5fe00b53512cbc106a33d358ae841aab6fcc8b7e77c2a30ca1514", func := "loop.example/g01235/laws.FnExactCountPrimes", spec := "fnExactCountPrimes", apart := false }
def FnExactCountPrimesSaid : Prop := fnExactCountPrimesRow.holds Try.pinned (OpenSpec.ofChange fnExactCountPrimesSpec)

/-- ITS FALSE NEIGHBOUR: 'it returns false'. Refute it at one input. -/
def fnExactCountPrimesWrong : ChangeSpec := { name := "fnExactCountPrimes", fn := fun _ => fun
  | [d] => { results := [.lit (.bool false)], args := [d] }
  | _ => none }
def FnExactCountPrimesWrongFalsely : Prop := fnExactCountPrimesRow.holds Try.pinned (OpenSpec.ofChange fnExactCountPrimesWrong)

/-- 'laws.FnExactCountWithout': WHATEVER THE INPUT: true; the input reads as it did. -/
def fnExactCountWithoutSpec : ChangeSpec := { name := "fnExactCountWithout", fn := fun _ => fun
  | [d1, d2] => { results := [.lit (.bool true)], args := [d1, d2] }
  | _ => none }
def fnExactCountWithoutRow : OpenClaim := { program := "ytgldlcfkdblphaa", sum := "53972498caa5fe00b53512cbc106a33d358ae841aab6fcc8b7e77c2a30ca1514", func := "loop.example/g01235/laws.FnExactCountWithout", spec := "fnExactCountWithout", unfollowed := true, recurses := true, apart := false }
def FnExactCountWithoutSaid : Prop := fnExactCountWithoutRow.holds Try.pinned (OpenSpec.ofChange fnExactCountWithoutSpec)

/-- ITS FALSE NEIGHBOUR: 'it returns false'. Refute it at one input. -/
def fnExactCountWithoutWrong : ChangeSpec := { name := "fnExactCountWithout", fn := fun _ => fun
  | [d1, d2] => { results := [.lit (.bool false)], args := [d1, d2] }
  | _ => none }
def FnExactCountWithoutWrongFalsely : Prop := fnExactCountWithoutRow.holds Try.pinned (OpenSpec.ofChange fnExactCountWithoutWrong)

/-- 'laws.FnExactPrimeOfRank': WHATEVER THE INPUT: true; the input reads as it did. -/
def fnExactPrimeOfRankSpec : ChangeSpec := { name := "fnExactPrimeOfRank", fn := fun _ => fun
  | [d] => { results := [.lit (.bool true)], args := [d] }
  | _ => none }
def fnExactPrimeOfRankRow : OpenClaim := { program := "ytgldlcfkdblphaa", sum := "53972498caa5fe00b53512cbc106a33d358ae841aab6fcc8b7e77c2a30ca1514", func := "loop.example/g01235/laws.FnExactPrimeOfRank", spec := "fnExactPrimeOfRank", apart := false }
def FnExactPrimeOfRankSaid : Prop := fnExactPrimeOfRankRow.holds Try.pinned (OpenSpec.ofChange fnExactPrimeOfRankSpec)

/-- ITS FALSE NEIGHBOUR: 'it returns false'. Refute it at one input. -/
def fnExactPrimeOfRankWrong : ChangeSpec := { name := "fnExactPrimeOfRank", fn := fun _ => fun
  | [d] => { results := [.lit (.bool false)], args := [d] }
  | _ => none }
def FnExactPrimeOfRankWrongFalsely : Prop := fnExactPrimeOfRankRow.holds Try.pinned (OpenSpec.ofChange fnExactPrimeOfRankWrong)

/-- 'laws.FnExactNextPrime': WHATEVER THE INPUT: true; the input reads as it did. -/
def fnExactNextPrimeSpec : ChangeSpec := { name := "fnExactNextPrime", fn := fun _ => fun
  | [d] => { results := [.lit (.bool true)], args := [d] }
  | _ => none }
def fnExactNextPrimeRow : OpenClaim := { program := "ytgldlcfkdblphaa", sum := "53972498caa5fe00b53512cbc106a33d358ae841aab6fcc8b7e77c2a30ca1514", func := "loop.example/g01235/laws.FnExactNextPrime", spec := "fnExactNextPrime", apart := false }
def FnExactNextPrimeSaid : Prop := fnExactNextPrimeRow.holds Try.pinned (OpenSpec.ofChange fnExactNextPrimeSpec)

/-- ITS FALSE NEIGHBOUR: 'it returns false'. Refute it at one input. -/
def fnExactNextPrimeWrong : ChangeSpec := { name := "fnExactNextPrime", fn := fun _ => fun
  | [d] => { results := [.lit (.bool false)], args := [d] }
  | _ => none }
def FnExactNextPrimeWrongFalsely : Prop := fnExactNextPrimeRow.holds Try.pinned (OpenSpec.ofChange fnExactNextPrimeWrong)

/-- 'laws.FnExactLeastFactor': WHATEVER THE INPUT: true; the input reads as it did. -/
def fnExactLeastFactorSpec : ChangeSpec := { name := "fnExactLeastFactor", fn := fun _ => fun
  | [d] => { results := [.lit (.bool true)], args := [d] }
  | _ => none }
def fnExactLeastFactorRow : OpenClaim := { program := "ytgldlcfkdblphaa", sum := "53972498caa5fe00b53512cbc106a33d358ae841aab6fcc8b7e77c2a30ca1514", func := "loop.example/g01235/laws.FnExactLeastFactor", spec := "fnExactLeastFactor", apart := false }
def FnExactLeastFactorSaid : Prop := fnExactLeastFactorRow.holds Try.pinned (OpenSpec.ofChange fnExactLeastFactorSpec)

/-- ITS FALSE NEIGHBOUR: 'it returns false'. Refute it at one input. -/
def fnExactLeastFactorWrong : ChangeSpec := { name := "fnExactLeastFactor", fn := fun _ => fun
  | [d] => { results := [.lit (.bool false)], args := [d] }
  | _ => none }
def FnExactLeastFactorWrongFalsely : Prop := fnExactLeastFactorRow.holds Try.pinned (OpenSpec.ofChange fnExactLeastFactorWrong)

/-- 'laws.FnExactFactorsOf': WHATEVER THE INPUT: true; the input reads as it did. -/
def fnExactFactorsOfSpec : ChangeSpec := { name := "fnExactFactorsOf", fn := fun _ => fun
  | [d] => { results := [.lit (.bool true)], args := [d] }
  | _ => none }
def fnExactFactorsOfRow : OpenClaim := { program := "ytgldlcfkdblphaa", sum := "53972498caa5fe00b53512cbc106a33d358ae841aab6fcc8b7e77c2a30ca1514", func := "loop.example/g01235/laws.FnExactFactorsOf", spec := "fnExactFactorsOf", apart := false }
def FnExactFactorsOfSaid : Prop := fnExactFactorsOfRow.holds Try.pinned (OpenSpec.ofChange fnExactFactorsOfSpec)

/-- ITS FALSE NEIGHBOUR: 'it returns false'. Refute it at one input. -/
def fnExactFactorsOfWrong : ChangeSpec := { name := "fnExactFactorsOf", fn := fun _ => fun
  | [d] => { results := [.lit (.bool false)], args := [d] }
  | _ => none }
def FnExactFactorsOfWrongFalsely : Prop := fnExactFactorsOfRow.holds Try.pinned (OpenSpec.ofChange fnExactFactorsOfWrong)

/-- 'laws.FnExactNumberOfFactors': WHATEVER THE INPUT: true; the input reads as it did. -/
def fnExactNumberOfFactorsSpec : ChangeSpec := { name := "fnExactNumberOfFactors", fn := fun _ => fun
  | [d] => { results := [.lit (.bool true)], args := [d] }
  | _ => none }
def fnExactNumberOfFactorsRow : OpenClaim := { program := "ytgldlcfkdblphaa", sum := "53972498caa5fe00b53512cbc106a33d358ae841aab6fcc8b7e77c2a30ca1514", func := "loop.example/g01235/laws.FnExactNumberOfFactors", spec := "fnExactNumberOfFactors", apart := false }
def FnExactNumberOfFactorsSaid : Prop := fnExactNumberOfFactorsRow.holds Try.pinned (OpenSpec.ofChange fnExactNumberOfFactorsSpec)

/-- ITS FALSE NEIGHBOUR: 'it returns false'. Refute it at one input. -/
def fnExactNumberOfFactorsWrong : ChangeSpec := { name := "fnExactNumberOfFactors", fn := fun _ => fun
  | [d] => { results := [.lit (.bool false)], args := [d] }
  | _ => none }
def FnExactNumberOfFactorsWrongFalsely : Prop := fnExactNumberOfFactorsRow.holds Try.pinned (OpenSpec.ofChange fnExactNumberOfFactorsWrong)

/-- 'laws.FnExactRadicalOf': WHATEVER THE INPUT: true; the input reads as it did. -/
def fnExactRadicalOfSpec : ChangeSpec := { name := "fnExactRadicalOf", fn := fun _ => fun
  | [d] => { results := [.lit (.bool true)], args := [d] }
  | _ => none }
def fnExactRadicalOfRow : OpenClaim := { program := "ytgldlcfkdblphaa", sum := "53972498caa5fe00b53512cbc106a33d358ae841aab6fcc8b7e77c2a30ca1514", func := "loop.example/g01235/laws.FnExactRadicalOf", spec := "fnExactRadicalOf", apart := false }
def FnExactRadicalOfSaid : Prop := fnExactRadicalOfRow.holds Try.pinned (OpenSpec.ofChange fnExactRadicalOfSpec)

/-- ITS FALSE NEIGHBOUR: 'it returns false'. Refute it at one input. -/
def fnExactRadicalOfWrong : ChangeSpec := { name := "fnExactRadicalOf", fn := fun _ => fun
  | [d] => { results := [.lit (.bool false)], args := [d] }
  | _ => none }
def FnExactRadicalOfWrongFalsely : Prop := fnExactRadicalOfRow.holds Try.pinned (OpenSpec.ofChange fnExactRadicalOfWrong)

/-- 'laws.FnExactTwinsUpTo': WHATEVER THE INPUT: true; the input reads as it did. -/
def fnExactTwinsUpToSpec : ChangeSpec := { name := "fnExactTwinsUpTo", fn := fun _ => fun
  | [d] => { results := [.lit (.bool true)], args := [d] }
  | _ => none }
def fnExactTwinsUpToRow : OpenClaim := { program := "ytgldlcfkdblphaa", sum := "53972498caa5fe00b53512cbc106a33d358ae841aab6fcc8b7e77c2a30ca1514", func := "loop.example/g01235/laws.FnExactTwinsUpTo", spec := "fnExactTwinsUpTo", apart := false }
def FnExactTwinsUpToSaid : Prop := fnExactTwinsUpToRow.holds Try.pinned (OpenSpec.ofChange fnExactTwinsUpToSpec)

/-- ITS FALSE NEIGHBOUR: 'it returns false'. Refute it at one input. -/
def fnExactTwinsUpToWrong : ChangeSpec := { name := "fnExactTwinsUpTo", fn := fun _ => fun
  | [d] => { results := [.lit (.bool false)], args := [d] }
  | _ => none }
def FnExactTwinsUpToWrongFalsely : Prop := fnExactTwinsUpToRow.holds Try.pinned (OpenSpec.ofChange fnExactTwinsUpToWrong)

/-- 'laws.FnExactFirstTwoPrimes': WHATEVER THE INPUT: true; the input reads as it did. -/
def fnExactFirstTwoPrimesSpec : ChangeSpec := { name := "fnExactFirstTwoPrimes", fn := fun _ => fun
  | [d] => { results := [.lit (.bool true)], args := [d] }
  | _ => none }
def fnExactFirstTwoPrimesRow : OpenClaim := { program := "ytgldlcfkdblphaa", sum := "53972498caa5fe00b53512cbc106a33d358ae841aab6fcc8b7e77c2a30ca1514", func := "loop.example/g01235/laws.FnExactFirstTwoPrimes", spec := "fnExactFirstTwoPrimes", apart := false }
def FnExactFirstTwoPrimesSaid : Prop := fnExactFirstTwoPrimesRow.holds Try.pinned (OpenSpec.ofChange fnExactFirstTwoPrimesSpec)

/-- ITS FALSE NEIGHBOUR: 'it returns false'. Refute it at one input. -/
def fnExactFirstTwoPrimesWrong : ChangeSpec := { name := "fnExactFirstTwoPrimes", fn := fun _ => fun
  | [d] => { results := [.lit (.bool false)], args := [d] }
  | _ => none }
def FnExactFirstTwoPrimesWrongFalsely : Prop := fnExactFirstTwoPrimesRow.holds Try.pinned (OpenSpec.ofChange fnExactFirstTwoPrimesWrong)

/-- 'laws.FnExactCountTwoPrimes': WHATEVER THE INPUT: true; the input reads as it did. -/
def fnExactCountTwoPrimesSpec : ChangeSpec := { name := "fnExactCountTwoPrimes", fn := fun _ => fun
  | [d] => { results := [.lit (.bool true)], args := [d] }
  | _ => none }
def fnExactCountTwoPrimesRow : OpenClaim := { program := "ytgldlcfkdblphaa", sum := "53972498caa5fe00b53512cbc106a33d358ae841aab6fcc8b7e77c2a30ca1514", func := "loop.example/g01235/laws.FnExactCountTwoPrimes", spec := "fnExactCountTwoPrimes", apart := false }
def FnExactCountTwoPrimesSaid : Prop := fnExactCountTwoPrimesRow.holds Try.pinned (OpenSpec.ofChange fnExactCountTwoPrimesSpec)

/-- ITS FALSE NEIGHBOUR: 'it returns false'. Refute it at one input. -/
def fnExactCountTwoPrimesWrong : ChangeSpec := { name := "fnExactCountTwoPrimes", fn := fun _ => fun
  | [d] => { results := [.lit (.bool false)], args := [d] }
  | _ => none }
def FnExactCountTwoPrimesWrongFalsely : Prop := fnExactCountTwoPrimesRow.holds Try.pinned (OpenSpec.ofChange fnExactCountTwoPrimesWrong)

/-- 'laws.FnExactSmoothUpTo': WHATEVER THE INPUT: true; the input reads as it did. -/
def fnExactSmoothUpToSpec : ChangeSpec := { name := "fnExactSmoothUpTo", fn := fun _ => fun
  | [d1, d2] => { results := [.lit (.bool true)], args := [d1, d2] }
  | _ => none }
def fnExactSmoothUpToRow : OpenClaim := { program := "ytgldlcfkdblphaa", sum := "53972498caa5fe00b53512cbc106a33d358ae841aab6fcc8b7e77c2a30ca1514", func := "loop.example/g01235/laws.FnExactSmoothUpTo", spec := "fnExactSmoothUpTo", apart := false }
def FnExactSmoothUpToSaid : Prop := fnExactSmoothUpToRow.holds Try.pinned (OpenSpec.ofChange fnExactSmoothUpToSpec)

/-- ITS FALSE NEIGHBOUR: 'it returns false'. Refute it at one input. -/
def fnExactSmoothUpToWrong : ChangeSpec := { name := "fnExactSmoothUpTo", fn := fun _ => fun
  | [d1, d2] => { results := [.lit (.bool false)], args := [d1, d2] }
  | _ => none }
def FnExactSmoothUpToWrongFalsely : Prop := fnExactSmoothUpToRow.holds Try.pinned (OpenSpec.ofChange fnExactSmoothUpToWrong)

/-- 'laws.FnExactRulesOfPrimes': WHATEVER THE INPUT: true; the input reads as it did. -/
def fnExactRulesOfPrimesSpec : ChangeSpec := { name := "fnExactRulesOfPrimes", fn := fun _ => fun
  | [d] => { results := [.lit (.bool true)], args := [d] }
  | _ => none }
def fnExactRulesOfPrimesRow : OpenClaim := { program := "ytgldlcfkdblphaa", sum := "53972498caa5fe00b53512cbc106a33d358ae841aab6fcc8b7e77c2a30ca1514", func := "loop.example/g01235/laws.FnExactRulesOfPrimes", spec := "fnExactRulesOfPrimes", apart := false }
def FnExactRulesOfPrimesSaid : Prop := fnExactRulesOfPrimesRow.holds Try.pinned (OpenSpec.ofChange fnExactRulesOfPrimesSpec)

/-- ITS FALSE NEIGHBOUR: 'it returns false'. Refute it at one input. -/
def fnExactRulesOfPrimesWrong : ChangeSpec := { name := "fnExactRulesOfPrimes", fn := fun _ => fun
  | [d] => { results := [.lit (.bool false)], args := [d] }
  | _ => none }
def FnExactRulesOfPrimesWrongFalsely : Prop := fnExactRulesOfPrimesRow.holds Try.pinned (OpenSpec.ofChange fnExactRulesOfPrimesWrong)

/-- 'laws.FnExactCrossersUpTo': WHATEVER THE INPUT: true; the input reads as it did. -/
def fnExactCrossersUpToSpec : ChangeSpec := { name := "fnExactCrossersUpTo", fn := fun _ => fun
  | [d] => { results := [.lit (.bool true)], args := [d] }
  | _ => none }
def fnExactCrossersUpToRow : OpenClaim := { program := "ytgldlcfkdblphaa", sum := "53972498caa5fe00b53512cbc106a33d358ae841aab6fcc8b7e77c2a30ca1514", func := "loop.example/g01235/laws.FnExactCrossersUpTo", spec := "fnExactCrossersUpTo", apart := false }
def FnExactCrossersUpToSaid : Prop := fnExactCrossersUpToRow.holds Try.pinned (OpenSpec.ofChange fnExactCrossersUpToSpec)

/-- ITS FALSE NEIGHBOUR: 'it returns false'. Refute it at one input. -/
def fnExactCrossersUpToWrong : ChangeSpec := { name := "fnExactCrossersUpTo", fn := fun _ => fun
  | [d] => { results := [.lit (.bool false)], args := [d] }
  | _ => none }
def FnExactCrossersUpToWrongFalsely : Prop := fnExactCrossersUpToRow.holds Try.pinned (OpenSpec.ofChange fnExactCrossersUpToWrong)

/-- 'laws.FnExactIsSmooth': WHATEVER THE INPUT: true; the input reads as it did. -/
def fnExactIsSmoothSpec : ChangeSpec := { name := "fnExactIsSmooth", fn := fun _ => fun
  | [d1, d2] => { results := [.lit (.bool true)], args := [d1, d2] }
  | _ => none }
def fnExactIsSmoothRow : OpenClaim := { program := "ytgldlcfkdblphaa", sum := "53972498caa5fe00b53512cbc106a33d358ae841aab6fcc8b7e77c2a30ca1514", func := "loop.example/g01235/laws.FnExactIsSmooth", spec := "fnExactIsSmooth", apart := false }
def FnExactIsSmoothSaid : Prop := fnExactIsSmoothRow.holds Try.pinned (OpenSpec.ofChange fnExactIsSmoothSpec)

/-- ITS FALSE NEIGHBOUR: 'it returns false'. Refute it at one input. -/
def fnExactIsSmoothWrong : ChangeSpec := { name := "fnExactIsSmooth", fn := fun _ => fun
  | [d1, d2] => { results := [.lit (.bool false)], args := [d1, d2] }
  | _ => none }
def FnExactIsSmoothWrongFalsely : Prop := fnExactIsSmoothRow.holds Try.pinned (OpenSpec.ofChange fnExactIsSmoothWrong)

/- THE SECOND FORM. 'bulk': how many values and letters a reading holds, each counted each time it is reached (what is shared counts as often as it is met; a slice's spare places count too). A statement '..UptoSaid' is the law's where the arguments, and the package variables that the reading takes, are together of bulk at most 1048576: NARROWER than '..Said'. Prove '..Said' where nothing that the law and all that it calls make is longer than what came in: it says more and counts as full. Else prove '..UptoSaid'. A law counts once. -/
mutual
def uptoBulk {H : Type} : DataW H → Nat
  | .lit (.string bytes) => bytes.length + 1
  | .lit _ => 1
  | .nil => 1
  | .ptr d => uptoBulk d + 1
  | .slice elems spare => uptoBulkAll elems + uptoBulkAll spare + 1
  | .agg parts => uptoBulkAll parts + 1
  | .iface _ d => uptoBulk d + 1
  | .map entries => uptoBulkEntries entries + 1
  | .held _ => 1
def uptoBulkAll {H : Type} : List (DataW H) → Nat
  | [] => 0
  | d :: r => uptoBulk d + uptoBulkAll r
def uptoBulkEntries {H : Type} : List (Lit × DataW H) → Nat
  | [] => 0
  | x :: r => uptoBulkEntry x + uptoBulkEntries r
def uptoBulkEntry {H : Type} : Lit × DataW H → Nat
  | (.string bytes, d) => bytes.length + uptoBulk d + 1
  | (_, d) => uptoBulk d + 1
 end
def uptoSmall : (H : Type) → List (DataW H) → Bool := fun _ ds => decide (uptoBulkAll ds ≤ 1048576)
def OpenSpec.upto (s : _root_.Go.ChangeSpec) : _root_.Go.OpenSpec := { _root_.Go.OpenSpec.ofChange s with cond := some uptoSmall }

/-- 'laws.FnExactIsPrime', WHERE WHAT IT READS IS OF BULK AT MOST 1048576: true; the input reads as it did. -/
def fnExactIsPrimeUptoRow : OpenClaim := { program := "ytgldlcfkdblphaa", sum := "53972498caa5fe00b53512cbc106a33d358ae841aab6fcc8b7e77c2a30ca1514", func := "loop.example/g01235/laws.FnExactIsPrime", spec := "fnExactIsPrime", apart := false, narrowed := true }
def FnExactIsPrimeUptoSaid : Prop := fnExactIsPrimeUptoRow.holds Try.pinned (OpenSpec.upto fnExactIsPrimeSpec)

/-- 'laws.FnExactPrimesBetween', WHERE WHAT IT READS IS OF BULK AT MOST 1048576: true; the input reads as it did. -/
def fnExactPrimesBetweenUptoRow : OpenClaim := { program := "ytgldlcfkdblphaa", sum := "53972498caa5fe00b53512cbc106a33d358ae841aab6fcc8b7e77c2a30ca1514", func := "loop.example/g01235/laws.FnExactPrimesBetween", spec := "fnExactPrimesBetween", apart := false, narrowed := true }
def FnExactPrimesBetweenUptoSaid : Prop := fnExactPrimesBetweenUptoRow.holds Try.pinned (OpenSpec.upto fnExactPrimesBetweenSpec)

/-- 'laws.FnExactCountPrimes', WHERE WHAT IT READS IS OF BULK AT MOST 1048576: true; the input reads as it did. -/
def fnExactCountPrimesUptoRow : OpenClaim := { program := "ytgldlcfkdblphaa", sum := "53972498caa5fe00b53512cbc106a33d358ae841aab6fcc8b7e77c2a30ca1514", func := "loop.example/g01235/laws.FnExactCountPrimes", spec := "fnExactCountPrimes", apart := false, narrowed := true }
def FnExactCountPrimesUptoSaid : Prop := fnExactCountPrimesUptoRow.holds Try.pinned (OpenSpec.upto fnExactCountPrimesSpec)

/-- 'laws.FnExactCountWithout', WHERE WHAT IT READS IS OF BULK AT MOST 1048576: true; the input reads as it did. -/
def fnExactCountWithoutUptoRow : OpenClaim := { program := "ytgldlcfkdblphaa", sum := "53972498caa5fe00b53512cbc106a33d358ae841aab6fcc8b7e77c2a30ca1514", func := "loop.example/g01235/laws.FnExactCountWithout", spec := "fnExactCountWithout", unfollowed := true, recurses := true, apart := false, narrowed := true }
def FnExactCountWithoutUptoSaid : Prop := fnExactCountWithoutUptoRow.holds Try.pinned (OpenSpec.upto fnExactCountWithoutSpec)

/-- 'laws.FnExactPrimeOfRank', WHERE WHAT IT READS IS OF BULK AT MOST 1048576: true; the input reads as it did. -/
def fnExactPrimeOfRankUptoRow : OpenClaim := { program := "ytgldlcfkdblphaa", sum := "53972498caa5fe00b53512cbc106a33d358ae841aab6fcc8b7e77c2a30ca1514", func := "loop.example/g01235/laws.FnExactPrimeOfRank", spec := "fnExactPrimeOfRank", apart := false, narrowed := true }
def FnExactPrimeOfRankUptoSaid : Prop := fnExactPrimeOfRankUptoRow.holds Try.pinned (OpenSpec.upto fnExactPrimeOfRankSpec)

/-- 'laws.FnExactNextPrime', WHERE WHAT IT READS IS OF BULK AT MOST 1048576: true; the input reads as it did. -/
def fnExactNextPrimeUptoRow : OpenClaim := { program := "ytgldlcfkdblphaa", sum := "53972498caa5fe00b53512cbc106a33d358ae841aab6fcc8b7e77c2a30ca1514", func := "loop.example/g01235/laws.FnExactNextPrime", spec := "fnExactNextPrime", apart := false, narrowed := true }
def FnExactNextPrimeUptoSaid : Prop := fnExactNextPrimeUptoRow.holds Try.pinned (OpenSpec.upto fnExactNextPrimeSpec)

/-- 'laws.FnExactLeastFactor', WHERE WHAT IT READS IS OF BULK AT MOST 1048576: true; the input reads as it did. -/
def fnExactLeastFactorUptoRow : OpenClaim := { program := "ytgldlcfkdblphaa", sum := "53972498caa5fe00b53512cbc106a33d358ae841aab6fcc8b7e77c2a30ca1514", func := "loop.example/g01235/laws.FnExactLeastFactor", spec := "fnExactLeastFactor", apart := false, narrowed := true }
def FnExactLeastFactorUptoSaid : Prop := fnExactLeastFactorUptoRow.holds Try.pinned (OpenSpec.upto fnExactLeastFactorSpec)

/-- 'laws.FnExactFactorsOf', WHERE WHAT IT READS IS OF BULK AT MOST 1048576: true; the input reads as it did. -/
def fnExactFactorsOfUptoRow : OpenClaim := { program := "ytgldlcfkdblphaa", sum := "53972498caa5fe00b53512cbc106a33d358ae841aab6fcc8b7e77c2a30ca1514", func := "loop.example/g01235/laws.FnExactFactorsOf", spec := "fnExactFactorsOf", apart := false, narrowed := true }
def FnExactFactorsOfUptoSaid : Prop := fnExactFactorsOfUptoRow.holds Try.pinned (OpenSpec.upto fnExactFactorsOfSpec)

/-- 'laws.FnExactNumberOfFactors', WHERE WHAT IT READS IS OF BULK AT MOST 1048576: true; the input reads as it did. -/
def fnExactNumberOfFactorsUptoRow : OpenClaim := { program := "ytgldlcfkdblphaa", sum := "53972498caa5fe00b53512cbc106a33d358ae841aab6fcc8b7e77c2a30ca1514", func := "loop.example/g01235/laws.FnExactNumberOfFactors", spec := "fnExactNumberOfFactors", apart := false, narrowed := true }
def FnExactNumberOfFactorsUptoSaid : Prop := fnExactNumberOfFactorsUptoRow.holds Try.pinned (OpenSpec.upto fnExactNumberOfFactorsSpec)

/-- 'laws.FnExactRadicalOf', WHERE WHAT IT READS IS OF BULK AT MOST 1048576: true; the input reads as it did. -/
def fnExactRadicalOfUptoRow : OpenClaim := { program := "ytgldlcfkdblphaa", sum := "53972498caa5fe00b53512cbc106a33d358ae841aab6fcc8b7e77c2a30ca1514", func := "loop.example/g01235/laws.FnExactRadicalOf", spec := "fnExactRadicalOf", apart := false, narrowed := true }
def FnExactRadicalOfUptoSaid : Prop := fnExactRadicalOfUptoRow.holds Try.pinned (OpenSpec.upto fnExactRadicalOfSpec)

/-- 'laws.FnExactTwinsUpTo', WHERE WHAT IT READS IS OF BULK AT MOST 1048576: true; the input reads as it did. -/
def fnExactTwinsUpToUptoRow : OpenClaim := { program := "ytgldlcfkdblphaa", sum := "53972498caa5fe00b53512cbc106a33d358ae841aab6fcc8b7e77c2a30ca1514", func := "loop.example/g01235/laws.FnExactTwinsUpTo", spec := "fnExactTwinsUpTo", apart := false, narrowed := true }
def FnExactTwinsUpToUptoSaid : Prop := fnExactTwinsUpToUptoRow.holds Try.pinned (OpenSpec.upto fnExactTwinsUpToSpec)

/-- 'laws.FnExactFirstTwoPrimes', WHERE WHAT IT READS IS OF BULK AT MOST 1048576: true; the input reads as it did. -/
def fnExactFirstTwoPrimesUptoRow : OpenClaim := { program := "ytgldlcfkdblphaa", sum := "53972498caa5fe00b53512cbc106a33d358ae841aab6fcc8b7e77c2a30ca1514", func := "loop.example/g01235/laws.FnExactFirstTwoPrimes", spec := "fnExactFirstTwoPrimes", apart := false, narrowed := true }
def FnExactFirstTwoPrimesUptoSaid : Prop := fnExactFirstTwoPrimesUptoRow.holds Try.pinned (OpenSpec.upto fnExactFirstTwoPrimesSpec)

/-- 'laws.FnExactCountTwoPrimes', WHERE WHAT IT READS IS OF BULK AT MOST 1048576: true; the input reads as it did. -/
def fnExactCountTwoPrimesUptoRow : OpenClaim := { program := "ytgldlcfkdblphaa", sum := "53972498caa5fe00b53512cbc106a33d358ae841aab6fcc8b7e77c2a30ca1514", func := "loop.example/g01235/laws.FnExactCountTwoPrimes", spec := "fnExactCountTwoPrimes", apart := false, narrowed := true }
def FnExactCountTwoPrimesUptoSaid : Prop := fnExactCountTwoPrimesUptoRow.holds Try.pinned (OpenSpec.upto fnExactCountTwoPrimesSpec)

/-- 'laws.FnExactSmoothUpTo', WHERE WHAT IT READS IS OF BULK AT MOST 1048576: true; the input reads as it did. -/
def fnExactSmoothUpToUptoRow : OpenClaim := { program := "ytgldlcfkdblphaa", sum := "53972498caa5fe00b53512cbc106a33d358ae841aab6fcc8b7e77c2a30ca1514", func := "loop.example/g01235/laws.FnExactSmoothUpTo", spec := "fnExactSmoothUpTo", apart := false, narrowed := true }
def FnExactSmoothUpToUptoSaid : Prop := fnExactSmoothUpToUptoRow.holds Try.pinned (OpenSpec.upto fnExactSmoothUpToSpec)

/-- 'laws.FnExactRulesOfPrimes', WHERE WHAT IT READS IS OF BULK AT MOST 1048576: true; the input reads as it did. -/
def fnExactRulesOfPrimesUptoRow : OpenClaim := { program := "ytgldlcfkdblphaa", sum := "53972498caa5fe00b53512cbc106a33d358ae841aab6fcc8b7e77c2a30ca1514", func := "loop.example/g01235/laws.FnExactRulesOfPrimes", spec := "fnExactRulesOfPrimes", apart := false, narrowed := true }
def FnExactRulesOfPrimesUptoSaid : Prop := fnExactRulesOfPrimesUptoRow.holds Try.pinned (OpenSpec.upto fnExactRulesOfPrimesSpec)

/-- 'laws.FnExactCrossersUpTo', WHERE WHAT IT READS IS OF BULK AT MOST 1048576: true; the input reads as it did. -/
def fnExactCrossersUpToUptoRow : OpenClaim := { program := "ytgldlcfkdblphaa", sum := "53972498caa5fe00b53512cbc106a33d358ae841aab6fcc8b7e77c2a30ca1514", func := "loop.example/g01235/laws.FnExactCrossersUpTo", spec := "fnExactCrossersUpTo", apart := false, narrowed := true }
def FnExactCrossersUpToUptoSaid : Prop := fnExactCrossersUpToUptoRow.holds Try.pinned (OpenSpec.upto fnExactCrossersUpToSpec)

/-- 'laws.FnExactIsSmooth', WHERE WHAT IT READS IS OF BULK AT MOST 1048576: true; the input reads as it did. -/
def fnExactIsSmoothUptoRow : OpenClaim := { program := "ytgldlcfkdblphaa", sum := "53972498caa5fe00b53512cbc106a33d358ae841aab6fcc8b7e77c2a30ca1514", func := "loop.example/g01235/laws.FnExactIsSmooth", spec := "fnExactIsSmooth", apart := false, narrowed := true }
def FnExactIsSmoothUptoSaid : Prop := fnExactIsSmoothUptoRow.holds Try.pinned (OpenSpec.upto fnExactIsSmoothSpec)

end Rows
end Go.Proofs.Ytgldlcfkdblphaa
