/-
  No cell of these rows narrows 'for every input' (looked for: loops, veiled, ifaces, maps, wideKeys, modest, calm, conditions, laid).
  DERIVED. THE GIVEN ROWS OF THIS SEAT. 16 by the template 'for every input the law returns true; each argument reads behind the call as it read before'; 0 by the template 'total and deterministic' (their statements: YtgnmookklplnmaaTotals.lean).
  GIVEN WITH THE SEED: the statements are not yours to turn. If you find one false, say at which input.
  Laid BY PROGRAM, IN A SANDBOX (cutbox-rows.mjs): the forced cells as the released guide's own fill.sh prints them over the translation 99ccb4006002b147… (all of the seat's roots in one cut). By AI agents, Wed Nov 11 2026. No macro, syntax, notation, axiom, sorry.
-/
import Derived.Test.YtgnmookklplnmaaChecked
import GoSem.Claim
import GoSem.ClaimJoined
import GoSem.ClaimMapViews
import Derived.JoinedTies
import Derived.KernelRfl
namespace Go.Proofs.Ytgnmookklplnmaa
/- THE CELL 'sum', in the pinned program and in every row, IS THE sha256 OF THE DUMP (.gsa) THAT YtgnmookklplnmaaProg.lean LOADS. Nothing in Lean hashes anything: it is a label: what it is worth is what the hold of that sum in a sandbox is worth. -/
noncomputable def Try.pinned : Pinned := { name := "ytgnmookklplnmaa", sum := "99ccb4006002b1476a5bcc89c8a748585c1a8dbfd1e9edc576e134656dc9ab6d", checked := Try.checked }
namespace Rows
def none {H : Type} : Left H := { results := [], args := [] }

/-- 'laws.FnExactIsPattern': WHATEVER THE INPUT: true; the input reads as it did. -/
def fnExactIsPatternSpec : ChangeSpec := { name := "fnExactIsPattern", fn := fun _ => fun
  | [d] => { results := [.lit (.bool true)], args := [d] }
  | _ => none }
def fnExactIsPatternRow : OpenClaim := { program := "ytgnmookklplnmaa", sum := "99ccb4006002b1476a5bcc89c8a748585c1a8dbfd1e9edc576e134656dc9ab6d", func := "loop.example/g01235/laws.FnExactIsPattern", spec := "fnExactIsPattern", apart := false }
def FnExactIsPatternSaid : Prop := fnExactIsPatternRow.holds Try.pinned (OpenSpec.ofChange fnExactIsPatternSpec)

/-- ITS FALSE NEIGHBOUR: 'it returns false'. Refute it at one input. -/
def fnExactIsPatternWrong : ChangeSpec := { name := "fnExactIsPattern", fn := fun _ => fun
  | [d] => { results := [.lit (.bool false)], args := [d] }
  | _ => none }
def FnExactIsPatternWrongFalsely : Prop := fnExactIsPatternRow.holds Try.pinned (OpenSpec.ofChange fnExactIsPatternWrong)

/-- 'laws.FnExactRestsOf': WHATEVER THE INPUT: true; the input reads as it did. -/
def fnExactRestsOfSpec : ChangeSpec := { name := "fnExactRestsOf", fn := fun _ => fun
  | [d1, d2] => { results := [.lit (.bool true)], args := [d1, d2] }
  | _ => none }
def fnExactRestsOfRow : OpenClaim := { program := "ytgnmookklplnmaa", sum := "99ccb4006002b1476a5bcc89c8a748585c1a8dbfd1e9edc576e134656dc9ab6d", func := "loop.example/g01235/laws.FnExactRestsOf", spec := "fnExactRestsOf", apart := false }
def FnExactRestsOfSaid : Prop := fnExactRestsOfRow.holds Try.pinned (OpenSpec.ofChange fnExactRestsOfSpec)

/-- ITS FALSE NEIGHBOUR: 'it returns false'. Refute it at one input. -/
def fnExactRestsOfWrong : ChangeSpec := { name := "fnExactRestsOf", fn := fun _ => fun
  | [d1, d2] => { results := [.lit (.bool false)], args := [d1, d2] }
  | _ => none }
def FnExactRestsOfWrongFalsely : Prop := fnExactRestsOfRow.holds Try.pinned (OpenSpec.ofChange fnExactRestsOfWrong)

/-- 'laws.FnExactIsOpen': WHATEVER THE INPUT: true; the input reads as it did. -/
def fnExactIsOpenSpec : ChangeSpec := { name := "fnExactIsOpen", fn := fun _ => fun
  | [d] => { results := [.lit (.bool true)], args := [d] }
  | _ => none }
def fnExactIsOpenRow : OpenClaim := { program := "ytgnmookklplnmaa", sum := "99ccb4006002b1476a5bcc89c8a748585c1a8dbfd1e9edc576e134656dc9ab6d", func := "loop.example/g01235/laws.FnExactIsOpen", spec := "fnExactIsOpen", apart := false }
def FnExactIsOpenSaid : Prop := fnExactIsOpenRow.holds Try.pinned (OpenSpec.ofChange fnExactIsOpenSpec)

/-- ITS FALSE NEIGHBOUR: 'it returns false'. Refute it at one input. -/
def fnExactIsOpenWrong : ChangeSpec := { name := "fnExactIsOpen", fn := fun _ => fun
  | [d] => { results := [.lit (.bool false)], args := [d] }
  | _ => none }
def FnExactIsOpenWrongFalsely : Prop := fnExactIsOpenRow.holds Try.pinned (OpenSpec.ofChange fnExactIsOpenWrong)

/-- 'laws.FnExactFirstClosing': WHATEVER THE INPUT: true; the input reads as it did. -/
def fnExactFirstClosingSpec : ChangeSpec := { name := "fnExactFirstClosing", fn := fun _ => fun
  | [d] => { results := [.lit (.bool true)], args := [d] }
  | _ => none }
def fnExactFirstClosingRow : OpenClaim := { program := "ytgnmookklplnmaa", sum := "99ccb4006002b1476a5bcc89c8a748585c1a8dbfd1e9edc576e134656dc9ab6d", func := "loop.example/g01235/laws.FnExactFirstClosing", spec := "fnExactFirstClosing", apart := false }
def FnExactFirstClosingSaid : Prop := fnExactFirstClosingRow.holds Try.pinned (OpenSpec.ofChange fnExactFirstClosingSpec)

/-- ITS FALSE NEIGHBOUR: 'it returns false'. Refute it at one input. -/
def fnExactFirstClosingWrong : ChangeSpec := { name := "fnExactFirstClosing", fn := fun _ => fun
  | [d] => { results := [.lit (.bool false)], args := [d] }
  | _ => none }
def FnExactFirstClosingWrongFalsely : Prop := fnExactFirstClosingRow.holds Try.pinned (OpenSpec.ofChange fnExactFirstClosingWrong)

/-- 'laws.FnExactNarrowestOpen': WHATEVER THE INPUT: true; the input reads as it did. -/
def fnExactNarrowestOpenSpec : ChangeSpec := { name := "fnExactNarrowestOpen", fn := fun _ => fun
  | [d] => { results := [.lit (.bool true)], args := [d] }
  | _ => none }
def fnExactNarrowestOpenRow : OpenClaim := { program := "ytgnmookklplnmaa", sum := "99ccb4006002b1476a5bcc89c8a748585c1a8dbfd1e9edc576e134656dc9ab6d", func := "loop.example/g01235/laws.FnExactNarrowestOpen", spec := "fnExactNarrowestOpen", recurses := true, apart := false }
def FnExactNarrowestOpenSaid : Prop := fnExactNarrowestOpenRow.holds Try.pinned (OpenSpec.ofChange fnExactNarrowestOpenSpec)

/-- ITS FALSE NEIGHBOUR: 'it returns false'. Refute it at one input. -/
def fnExactNarrowestOpenWrong : ChangeSpec := { name := "fnExactNarrowestOpen", fn := fun _ => fun
  | [d] => { results := [.lit (.bool false)], args := [d] }
  | _ => none }
def FnExactNarrowestOpenWrongFalsely : Prop := fnExactNarrowestOpenRow.holds Try.pinned (OpenSpec.ofChange fnExactNarrowestOpenWrong)

/-- 'laws.FnExactCountOpen': WHATEVER THE INPUT: true; the input reads as it did. -/
def fnExactCountOpenSpec : ChangeSpec := { name := "fnExactCountOpen", fn := fun _ => fun
  | [d1, d2] => { results := [.lit (.bool true)], args := [d1, d2] }
  | _ => none }
def fnExactCountOpenRow : OpenClaim := { program := "ytgnmookklplnmaa", sum := "99ccb4006002b1476a5bcc89c8a748585c1a8dbfd1e9edc576e134656dc9ab6d", func := "loop.example/g01235/laws.FnExactCountOpen", spec := "fnExactCountOpen", recurses := true, apart := false }
def FnExactCountOpenSaid : Prop := fnExactCountOpenRow.holds Try.pinned (OpenSpec.ofChange fnExactCountOpenSpec)

/-- ITS FALSE NEIGHBOUR: 'it returns false'. Refute it at one input. -/
def fnExactCountOpenWrong : ChangeSpec := { name := "fnExactCountOpen", fn := fun _ => fun
  | [d1, d2] => { results := [.lit (.bool false)], args := [d1, d2] }
  | _ => none }
def FnExactCountOpenWrongFalsely : Prop := fnExactCountOpenRow.holds Try.pinned (OpenSpec.ofChange fnExactCountOpenWrong)

/-- 'laws.FnExactAllOpen': WHATEVER THE INPUT: true; the input reads as it did. -/
def fnExactAllOpenSpec : ChangeSpec := { name := "fnExactAllOpen", fn := fun _ => fun
  | [d1, d2] => { results := [.lit (.bool true)], args := [d1, d2] }
  | _ => none }
def fnExactAllOpenRow : OpenClaim := { program := "ytgnmookklplnmaa", sum := "99ccb4006002b1476a5bcc89c8a748585c1a8dbfd1e9edc576e134656dc9ab6d", func := "loop.example/g01235/laws.FnExactAllOpen", spec := "fnExactAllOpen", recurses := true, apart := false }
def FnExactAllOpenSaid : Prop := fnExactAllOpenRow.holds Try.pinned (OpenSpec.ofChange fnExactAllOpenSpec)

/-- ITS FALSE NEIGHBOUR: 'it returns false'. Refute it at one input. -/
def fnExactAllOpenWrong : ChangeSpec := { name := "fnExactAllOpen", fn := fun _ => fun
  | [d1, d2] => { results := [.lit (.bool false)], args := [d1, d2] }
  | _ => none }
def FnExactAllOpenWrongFalsely : Prop := fnExactAllOpenRow.holds Try.pinned (OpenSpec.ofChange fnExactAllOpenWrong)

/-- 'laws.FnExactBackPattern': WHATEVER THE INPUT: true; the input reads as it did. -/
def fnExactBackPatternSpec : ChangeSpec := { name := "fnExactBackPattern", fn := fun _ => fun
  | [d] => { results := [.lit (.bool true)], args := [d] }
  | _ => none }
def fnExactBackPatternRow : OpenClaim := { program := "ytgnmookklplnmaa", sum := "99ccb4006002b1476a5bcc89c8a748585c1a8dbfd1e9edc576e134656dc9ab6d", func := "loop.example/g01235/laws.FnExactBackPattern", spec := "fnExactBackPattern", unfollowed := true, recurses := true, apart := false }
def FnExactBackPatternSaid : Prop := fnExactBackPatternRow.holds Try.pinned (OpenSpec.ofChange fnExactBackPatternSpec)

/-- ITS FALSE NEIGHBOUR: 'it returns false'. Refute it at one input. -/
def fnExactBackPatternWrong : ChangeSpec := { name := "fnExactBackPattern", fn := fun _ => fun
  | [d] => { results := [.lit (.bool false)], args := [d] }
  | _ => none }
def FnExactBackPatternWrongFalsely : Prop := fnExactBackPatternRow.holds Try.pinned (OpenSpec.ofChange fnExactBackPatternWrong)

/-- 'laws.FnExactRulesOfPattern': WHATEVER THE INPUT: true; the input reads as it did. -/
def fnExactRulesOfPatternSpec : ChangeSpec := { name := "fnExactRulesOfPattern", fn := fun _ => fun
  | [d1, d2] => { results := [.lit (.bool true)], args := [d1, d2] }
  | _ => none }
def fnExactRulesOfPatternRow : OpenClaim := { program := "ytgnmookklplnmaa", sum := "99ccb4006002b1476a5bcc89c8a748585c1a8dbfd1e9edc576e134656dc9ab6d", func := "loop.example/g01235/laws.FnExactRulesOfPattern", spec := "fnExactRulesOfPattern", apart := false }
def FnExactRulesOfPatternSaid : Prop := fnExactRulesOfPatternRow.holds Try.pinned (OpenSpec.ofChange fnExactRulesOfPatternSpec)

/-- ITS FALSE NEIGHBOUR: 'it returns false'. Refute it at one input. -/
def fnExactRulesOfPatternWrong : ChangeSpec := { name := "fnExactRulesOfPattern", fn := fun _ => fun
  | [d1, d2] => { results := [.lit (.bool false)], args := [d1, d2] }
  | _ => none }
def FnExactRulesOfPatternWrongFalsely : Prop := fnExactRulesOfPatternRow.holds Try.pinned (OpenSpec.ofChange fnExactRulesOfPatternWrong)

/-- 'laws.FnExactPlacesInPeriod': WHATEVER THE INPUT: true; the input reads as it did. -/
def fnExactPlacesInPeriodSpec : ChangeSpec := { name := "fnExactPlacesInPeriod", fn := fun _ => fun
  | [d1, d2] => { results := [.lit (.bool true)], args := [d1, d2] }
  | _ => none }
def fnExactPlacesInPeriodRow : OpenClaim := { program := "ytgnmookklplnmaa", sum := "99ccb4006002b1476a5bcc89c8a748585c1a8dbfd1e9edc576e134656dc9ab6d", func := "loop.example/g01235/laws.FnExactPlacesInPeriod", spec := "fnExactPlacesInPeriod", apart := false }
def FnExactPlacesInPeriodSaid : Prop := fnExactPlacesInPeriodRow.holds Try.pinned (OpenSpec.ofChange fnExactPlacesInPeriodSpec)

/-- ITS FALSE NEIGHBOUR: 'it returns false'. Refute it at one input. -/
def fnExactPlacesInPeriodWrong : ChangeSpec := { name := "fnExactPlacesInPeriod", fn := fun _ => fun
  | [d1, d2] => { results := [.lit (.bool false)], args := [d1, d2] }
  | _ => none }
def FnExactPlacesInPeriodWrongFalsely : Prop := fnExactPlacesInPeriodRow.holds Try.pinned (OpenSpec.ofChange fnExactPlacesInPeriodWrong)

/-- 'laws.FnExactFirstPlaces': WHATEVER THE INPUT: true; the input reads as it did. -/
def fnExactFirstPlacesSpec : ChangeSpec := { name := "fnExactFirstPlaces", fn := fun _ => fun
  | [d1, d2, d3] => { results := [.lit (.bool true)], args := [d1, d2, d3] }
  | _ => none }
def fnExactFirstPlacesRow : OpenClaim := { program := "ytgnmookklplnmaa", sum := "99ccb4006002b1476a5bcc89c8a748585c1a8dbfd1e9edc576e134656dc9ab6d", func := "loop.example/g01235/laws.FnExactFirstPlaces", spec := "fnExactFirstPlaces", unfollowed := true, recurses := true, apart := false }
def FnExactFirstPlacesSaid : Prop := fnExactFirstPlacesRow.holds Try.pinned (OpenSpec.ofChange fnExactFirstPlacesSpec)

/-- ITS FALSE NEIGHBOUR: 'it returns false'. Refute it at one input. -/
def fnExactFirstPlacesWrong : ChangeSpec := { name := "fnExactFirstPlaces", fn := fun _ => fun
  | [d1, d2, d3] => { results := [.lit (.bool false)], args := [d1, d2, d3] }
  | _ => none }
def FnExactFirstPlacesWrongFalsely : Prop := fnExactFirstPlacesRow.holds Try.pinned (OpenSpec.ofChange fnExactFirstPlacesWrong)

/-- 'laws.FnExactPrimePlaces': WHATEVER THE INPUT: true; the input reads as it did. -/
def fnExactPrimePlacesSpec : ChangeSpec := { name := "fnExactPrimePlaces", fn := fun _ => fun
  | [d1, d2] => { results := [.lit (.bool true)], args := [d1, d2] }
  | _ => none }
def fnExactPrimePlacesRow : OpenClaim := { program := "ytgnmookklplnmaa", sum := "99ccb4006002b1476a5bcc89c8a748585c1a8dbfd1e9edc576e134656dc9ab6d", func := "loop.example/g01235/laws.FnExactPrimePlaces", spec := "fnExactPrimePlaces", unfollowed := true, recurses := true, apart := false }
def FnExactPrimePlacesSaid : Prop := fnExactPrimePlacesRow.holds Try.pinned (OpenSpec.ofChange fnExactPrimePlacesSpec)

/-- ITS FALSE NEIGHBOUR: 'it returns false'. Refute it at one input. -/
def fnExactPrimePlacesWrong : ChangeSpec := { name := "fnExactPrimePlaces", fn := fun _ => fun
  | [d1, d2] => { results := [.lit (.bool false)], args := [d1, d2] }
  | _ => none }
def FnExactPrimePlacesWrongFalsely : Prop := fnExactPrimePlacesRow.holds Try.pinned (OpenSpec.ofChange fnExactPrimePlacesWrong)

/-- 'laws.FnExactNumberWithRests': WHATEVER THE INPUT: true; the input reads as it did. -/
def fnExactNumberWithRestsSpec : ChangeSpec := { name := "fnExactNumberWithRests", fn := fun _ => fun
  | [d1, d2] => { results := [.lit (.bool true)], args := [d1, d2] }
  | _ => none }
def fnExactNumberWithRestsRow : OpenClaim := { program := "ytgnmookklplnmaa", sum := "99ccb4006002b1476a5bcc89c8a748585c1a8dbfd1e9edc576e134656dc9ab6d", func := "loop.example/g01235/laws.FnExactNumberWithRests", spec := "fnExactNumberWithRests", apart := false }
def FnExactNumberWithRestsSaid : Prop := fnExactNumberWithRestsRow.holds Try.pinned (OpenSpec.ofChange fnExactNumberWithRestsSpec)

/-- ITS FALSE NEIGHBOUR: 'it returns false'. Refute it at one input. -/
def fnExactNumberWithRestsWrong : ChangeSpec := { name := "fnExactNumberWithRests", fn := fun _ => fun
  | [d1, d2] => { results := [.lit (.bool false)], args := [d1, d2] }
  | _ => none }
def FnExactNumberWithRestsWrongFalsely : Prop := fnExactNumberWithRestsRow.holds Try.pinned (OpenSpec.ofChange fnExactNumberWithRestsWrong)

/-- 'laws.FnExactRestsOfNumber': WHATEVER THE INPUT: true; the input reads as it did. -/
def fnExactRestsOfNumberSpec : ChangeSpec := { name := "fnExactRestsOfNumber", fn := fun _ => fun
  | [d1, d2] => { results := [.lit (.bool true)], args := [d1, d2] }
  | _ => none }
def fnExactRestsOfNumberRow : OpenClaim := { program := "ytgnmookklplnmaa", sum := "99ccb4006002b1476a5bcc89c8a748585c1a8dbfd1e9edc576e134656dc9ab6d", func := "loop.example/g01235/laws.FnExactRestsOfNumber", spec := "fnExactRestsOfNumber", apart := false }
def FnExactRestsOfNumberSaid : Prop := fnExactRestsOfNumberRow.holds Try.pinned (OpenSpec.ofChange fnExactRestsOfNumberSpec)

/-- ITS FALSE NEIGHBOUR: 'it returns false'. Refute it at one input. -/
def fnExactRestsOfNumberWrong : ChangeSpec := { name := "fnExactRestsOfNumber", fn := fun _ => fun
  | [d1, d2] => { results := [.lit (.bool false)], args := [d1, d2] }
  | _ => none }
def FnExactRestsOfNumberWrongFalsely : Prop := fnExactRestsOfNumberRow.holds Try.pinned (OpenSpec.ofChange fnExactRestsOfNumberWrong)

/-- 'laws.FnExactAddOffsets': WHATEVER THE INPUT: true; the input reads as it did. -/
def fnExactAddOffsetsSpec : ChangeSpec := { name := "fnExactAddOffsets", fn := fun _ => fun
  | [d1, d2] => { results := [.lit (.bool true)], args := [d1, d2] }
  | _ => none }
def fnExactAddOffsetsRow : OpenClaim := { program := "ytgnmookklplnmaa", sum := "99ccb4006002b1476a5bcc89c8a748585c1a8dbfd1e9edc576e134656dc9ab6d", func := "loop.example/g01235/laws.FnExactAddOffsets", spec := "fnExactAddOffsets", unfollowed := true, recurses := true, apart := false }
def FnExactAddOffsetsSaid : Prop := fnExactAddOffsetsRow.holds Try.pinned (OpenSpec.ofChange fnExactAddOffsetsSpec)

/-- ITS FALSE NEIGHBOUR: 'it returns false'. Refute it at one input. -/
def fnExactAddOffsetsWrong : ChangeSpec := { name := "fnExactAddOffsets", fn := fun _ => fun
  | [d1, d2] => { results := [.lit (.bool false)], args := [d1, d2] }
  | _ => none }
def FnExactAddOffsetsWrongFalsely : Prop := fnExactAddOffsetsRow.holds Try.pinned (OpenSpec.ofChange fnExactAddOffsetsWrong)

/-- 'laws.FnExactShareOfPlaces': WHATEVER THE INPUT: true; the input reads as it did. -/
def fnExactShareOfPlacesSpec : ChangeSpec := { name := "fnExactShareOfPlaces", fn := fun _ => fun
  | [d1, d2] => { results := [.lit (.bool true)], args := [d1, d2] }
  | _ => none }
def fnExactShareOfPlacesRow : OpenClaim := { program := "ytgnmookklplnmaa", sum := "99ccb4006002b1476a5bcc89c8a748585c1a8dbfd1e9edc576e134656dc9ab6d", func := "loop.example/g01235/laws.FnExactShareOfPlaces", spec := "fnExactShareOfPlaces", apart := false }
def FnExactShareOfPlacesSaid : Prop := fnExactShareOfPlacesRow.holds Try.pinned (OpenSpec.ofChange fnExactShareOfPlacesSpec)

/-- ITS FALSE NEIGHBOUR: 'it returns false'. Refute it at one input. -/
def fnExactShareOfPlacesWrong : ChangeSpec := { name := "fnExactShareOfPlaces", fn := fun _ => fun
  | [d1, d2] => { results := [.lit (.bool false)], args := [d1, d2] }
  | _ => none }
def FnExactShareOfPlacesWrongFalsely : Prop := fnExactShareOfPlacesRow.holds Try.pinned (OpenSpec.ofChange fnExactShareOfPlacesWrong)

/- THE SECOND FORM. 'bulk': how many values and letters a reading holds, each counted each time it is reached (what is shared counts as often as it is met; a slice's spare places count too). A statement '..UptoSaid' is the law's where the arguments, and the package variables that the reading takes, are together of bulk at most 1048576: NARROWER than '..Said'. Prove '..Said' where nothing that the law and all that it calls make is longer than what came in: it says more and counts as full. Else prove '..UptoSaid'. A law counts once. -/
mutual
def uptoBulk {H : Type} : DataW H → Nat
  | .lit (.string bytes) => bytes.length + 1
  | .lit _ => 1
  | .nil => 1
  | .ptr d => uptoBulk d + 1
  | .slice elems spare => uptoBulkAll elems + uptoBulkAll spare + 1
  | .agg parts => uptoBulkAll parts + 1
  | .iface _ d => uptoBulk d + 1
  | .map entries => uptoBulkEntries entries + 1
  | .held _ => 1
def uptoBulkAll {H : Type} : List (DataW H) → Nat
  | [] => 0
  | d :: r => uptoBulk d + uptoBulkAll r
def uptoBulkEntries {H : Type} : List (Lit × DataW H) → Nat
  | [] => 0
  | x :: r => uptoBulkEntry x + uptoBulkEntries r
def uptoBulkEntry {H : Type} : Lit × DataW H → Nat
  | (.string bytes, d) => bytes.length + uptoBulk d + 1
  | (_, d) => uptoBulk d + 1
 end
def uptoSmall : (H : Type) → List (DataW H) → Bool := fun _ ds => decide (uptoBulkAll ds ≤ 1048576)
def OpenSpec.upto (s : _root_.Go.ChangeSpec) : _root_.Go.OpenSpec := { _root_.Go.OpenSpec.ofChange s with cond := some uptoSmall }

/-- 'laws.FnExactIsPattern', WHERE WHAT IT READS IS OF BULK AT MOST 1048576: true; the input reads as it did. -/
def fnExactIsPatternUptoRow : OpenClaim := { program := "ytgnmookklplnmaa", sum := "99ccb4006002b1476a5bcc89c8a748585c1a8dbfd1e9edc576e134656dc9ab6d", func := "loop.example/g01235/laws.FnExactIsPattern", spec := "fnExactIsPattern", apart := false, narrowed := true }
def FnExactIsPatternUptoSaid : Prop := fnExactIsPatternUptoRow.holds Try.pinned (OpenSpec.upto fnExactIsPatternSpec)

/-- 'laws.FnExactRestsOf', WHERE WHAT IT READS IS OF BULK AT MOST 1048576: true; the input reads as it did. -/
def fnExactRestsOfUptoRow : OpenClaim := { program := "ytgnmookklplnmaa", sum := "99ccb4006002b1476a5bcc89c8a748585c1a8dbfd1e9edc576e134656dc9ab6d", func := "loop.example/g01235/laws.FnExactRestsOf", spec := "fnExactRestsOf", apart := false, narrowed := true }
def FnExactRestsOfUptoSaid : Prop := fnExactRestsOfUptoRow.holds Try.pinned (OpenSpec.upto fnExactRestsOfSpec)

/-- 'laws.FnExactIsOpen', WHERE WHAT IT READS IS OF BULK AT MOST 1048576: true; the input reads as it did. -/
def fnExactIsOpenUptoRow : OpenClaim := { program := "ytgnmookklplnmaa", sum := "99ccb4006002b1476a5bcc89c8a748585c1a8dbfd1e9edc576e134656dc9ab6d", func := "loop.example/g01235/laws.FnExactIsOpen", spec := "fnExactIsOpen", apart := false, narrowed := true }
def FnExactIsOpenUptoSaid : Prop := fnExactIsOpenUptoRow.holds Try.pinned (OpenSpec.upto fnExactIsOpenSpec)

/-- 'laws.FnExactFirstClosing', WHERE WHAT IT READS IS OF BULK AT MOST 1048576: true; the input reads as it did. -/
def fnExactFirstClosingUptoRow : OpenClaim := { program := "ytgnmookklplnmaa", sum := "99ccb4006002b1476a5bcc89c8a748585c1a8dbfd1e9edc576e134656dc9ab6d", func := "loop.example/g01235/laws.FnExactFirstClosing", spec := "fnExactFirstClosing", apart := false, narrowed := true }
def FnExactFirstClosingUptoSaid : Prop := fnExactFirstClosingUptoRow.holds Try.pinned (OpenSpec.upto fnExactFirstClosingSpec)

/-- 'laws.FnExactNarrowestOpen', WHERE WHAT IT READS IS OF BULK AT MOST 1048576: true; the input reads as it did. -/
def fnExactNarrowestOpenUptoRow : OpenClaim := { program := "ytgnmookklplnmaa", sum := "99ccb4006002b1476a5bcc89c8a748585c1a8dbfd1e9edc576e134656dc9ab6d", func := "loop.example/g01235/laws.FnExactNarrowestOpen", spec := "fnExactNarrowestOpen", recurses := true, apart := false, narrowed := true }
def FnExactNarrowestOpenUptoSaid : Prop := fnExactNarrowestOpenUptoRow.holds Try.pinned (OpenSpec.upto fnExactNarrowestOpenSpec)

/-- 'laws.FnExactCountOpen', WHERE WHAT IT READS IS OF BULK AT MOST 1048576: true; the input reads as it did. -/
def fnExactCountOpenUptoRow : OpenClaim := { program := "ytgnmookklplnmaa", sum := "99ccb4006002b1476a5bcc89c8a748585c1a8dbfd1e9edc576e134656dc9ab6d", func := "loop.example/g01235/laws.FnExactCountOpen", spec := "fnExactCountOpen", recurses := true, apart := false, narrowed := true }
def FnExactCountOpenUptoSaid : Prop := fnExactCountOpenUptoRow.holds Try.pinned (OpenSpec.upto fnExactCountOpenSpec)

/-- 'laws.FnExactAllOpen', WHERE WHAT IT READS IS OF BULK AT MOST 1048576: true; the input reads as it did. -/
def fnExactAllOpenUptoRow : OpenClaim := { program := "ytgnmookklplnmaa", sum := "99ccb4006002b1476a5bcc89c8a748585c1a8dbfd1e9edc576e134656dc9ab6d", func := "loop.example/g01235/laws.FnExactAllOpen", spec := "fnExactAllOpen", recurses := true, apart := false, narrowed := true }
def FnExactAllOpenUptoSaid : Prop := fnExactAllOpenUptoRow.holds Try.pinned (OpenSpec.upto fnExactAllOpenSpec)

/-- 'laws.FnExactBackPattern', WHERE WHAT IT READS IS OF BULK AT MOST 1048576: true; the input reads as it did. -/
def fnExactBackPatternUptoRow : OpenClaim := { program := "ytgnmookklplnmaa", sum := "99ccb4006002b1476a5bcc89c8a748585c1a8dbfd1e9edc576e134656dc9ab6d", func := "loop.example/g01235/laws.FnExactBackPattern", spec := "fnExactBackPattern", unfollowed := true, recurses := true, apart := false, narrowed := true }
def FnExactBackPatternUptoSaid : Prop := fnExactBackPatternUptoRow.holds Try.pinned (OpenSpec.upto fnExactBackPatternSpec)

/-- 'laws.FnExactRulesOfPattern', WHERE WHAT IT READS IS OF BULK AT MOST 1048576: true; the input reads as it did. -/
def fnExactRulesOfPatternUptoRow : OpenClaim := { program := "ytgnmookklplnmaa", sum := "99ccb4006002b1476a5bcc89c8a748585c1a8dbfd1e9edc576e134656dc9ab6d", func := "loop.example/g01235/laws.FnExactRulesOfPattern", spec := "fnExactRulesOfPattern", apart := false, narrowed := true }
def FnExactRulesOfPatternUptoSaid : Prop := fnExactRulesOfPatternUptoRow.holds Try.pinned (OpenSpec.upto fnExactRulesOfPatternSpec)

/-- 'laws.FnExactPlacesInPeriod', WHERE WHAT IT READS IS OF BULK AT MOST 1048576: true; the input reads as it did. -/
def fnExactPlacesInPeriodUptoRow : OpenClaim := { program := "ytgnmookklplnmaa", sum := "99ccb4006002b1476a5bcc89c8a748585c1a8dbfd1e9edc576e134656dc9ab6d", func := "loop.example/g01235/laws.FnExactPlacesInPeriod", spec := "fnExactPlacesInPeriod", apart := false, narrowed := true }
def FnExactPlacesInPeriodUptoSaid : Prop := fnExactPlacesInPeriodUptoRow.holds Try.pinned (OpenSpec.upto fnExactPlacesInPeriodSpec)

/-- 'laws.FnExactFirstPlaces', WHERE WHAT IT READS IS OF BULK AT MOST 1048576: true; the input reads as it did. -/
def fnExactFirstPlacesUptoRow : OpenClaim := { program := "ytgnmookklplnmaa", sum := "99ccb4006002b1476a5bcc89c8a748585c1a8dbfd1e9edc576e134656dc9ab6d", func := "loop.example/g01235/laws.FnExactFirstPlaces", spec := "fnExactFirstPlaces", unfollowed := true, recurses := true, apart := false, narrowed := true }
def FnExactFirstPlacesUptoSaid : Prop := fnExactFirstPlacesUptoRow.holds Try.pinned (OpenSpec.upto fnExactFirstPlacesSpec)

/-- 'laws.FnExactPrimePlaces', WHERE WHAT IT READS IS OF BULK AT MOST 1048576: true; the input reads as it did. -/
def fnExactPrimePlacesUptoRow : OpenClaim := { program := "ytgnmookklplnmaa", sum := "99ccb4006002b1476a5bcc89c8a748585c1a8dbfd1e9edc576e134656dc9ab6d", func := "loop.example/g01235/laws.FnExactPrimePlaces", spec := "fnExactPrimePlaces", unfollowed := true, recurses := true, apart := false, narrowed := true }
def FnExactPrimePlacesUptoSaid : Prop := fnExactPrimePlacesUptoRow.holds Try.pinned (OpenSpec.upto fnExactPrimePlacesSpec)

/-- 'laws.FnExactNumberWithRests', WHERE WHAT IT READS IS OF BULK AT MOST 1048576: true; the input reads as it did. -/
def fnExactNumberWithRestsUptoRow : OpenClaim := { program := "ytgnmookklplnmaa", sum := "99ccb4006002b1476a5bcc89c8a748585c1a8dbfd1e9edc576e134656dc9ab6d", func := "loop.example/g01235/laws.FnExactNumberWithRests", spec := "fnExactNumberWithRests", apart := false, narrowed := true }
def FnExactNumberWithRestsUptoSaid : Prop := fnExactNumberWithRestsUptoRow.holds Try.pinned (OpenSpec.upto fnExactNumberWithRestsSpec)

/-- 'laws.FnExactRestsOfNumber', WHERE WHAT IT READS IS OF BULK AT MOST 1048576: true; the input reads as it did. -/
def fnExactRestsOfNumberUptoRow : OpenClaim := { program := "ytgnmookklplnmaa", sum := "99ccb4006002b1476a5bcc89c8a748585c1a8dbfd1e9edc576e134656dc9ab6d", func := "loop.example/g01235/laws.FnExactRestsOfNumber", spec := "fnExactRestsOfNumber", apart := false, narrowed := true }
def FnExactRestsOfNumberUptoSaid : Prop := fnExactRestsOfNumberUptoRow.holds Try.pinned (OpenSpec.upto fnExactRestsOfNumberSpec)

/-- 'laws.FnExactAddOffsets', WHERE WHAT IT READS IS OF BULK AT MOST 1048576: true; the input reads as it did. -/
def fnExactAddOffsetsUptoRow : OpenClaim := { program := "ytgnmookklplnmaa", sum := "99ccb4006002b1476a5bcc89c8a748585c1a8dbfd1e9edc576e134656dc9ab6d", func := "loop.example/g01235/laws.FnExactAddOffsets", spec := "fnExactAddOffsets", unfollowed := true, recurses := true, apart := false, narrowed := true }
def FnExactAddOffsetsUptoSaid : Prop := fnExactAddOffsetsUptoRow.holds Try.pinned (OpenSpec.upto fnExactAddOffsetsSpec)

/-- 'laws.FnExactShareOfPlaces', WHERE WHAT IT READS IS OF BULK AT MOST 1048576: true; the input reads as it did. -/
def fnExactShareOfPlacesUptoRow : OpenClaim := { program := "ytgnmookklplnmaa", sum := "99ccb4006002b1476a5bcc89c8a748585c1a8dbfd1e9edc576e134656dc9ab6d", func := "loop.example/g01235/laws.FnExactShareOfPlaces", spec := "fnExactShareOfPlaces", apart := false, narrowed := true }
def FnExactShareOfPlacesUptoSaid : Prop := fnExactShareOfPlacesUptoRow.holds Try.pinned (OpenSpec.upto fnExactShareOfPlacesSpec)

end Rows
end Go.Proofs.Ytgnmookklplnmaa
