/-
  No cell of these rows narrows 'for every input' (looked for: loops, veiled, ifaces, maps, wideKeys, modest, calm, conditions, laid).
  DERIVED. THE GIVEN ROWS OF THIS SEAT. 15 by the template 'for every input the law returns true; each argument reads behind the call as it read before'; 0 by the template 'total and deterministic' (their statements: YtaapfapejekkfaaTotals.lean).
  GIVEN WITH THE SEED: the statements are not yours to turn. If you find one false, say at which input.
  Laid BY PROGRAM, IN A SANDBOX (cutbox-rows.mjs): the forced cells as the released guide's own fill.sh prints them over the translation 3a66887391bea590… (all of the seat's roots in one cut). By AI agents, Wed Nov 11 2026. No macro, syntax, notation, axiom, sorry.
-/
import Derived.Test.YtaapfapejekkfaaChecked
import GoSem.Claim
import GoSem.ClaimJoined
import GoSem.ClaimMapViews
import Derived.JoinedTies
import Derived.KernelRfl
namespace Go.Proofs.Ytaapfapejekkfaa
/- THE CELL 'sum', in the pinned program and in every row, IS THE sha256 OF THE DUMP (.gsa) THAT YtaapfapejekkfaaProg.lean LOADS. Nothing in Lean hashes anything: it is a label: what it is worth is what the hold of that sum in a sandbox is worth. -/
noncomputable def Try.pinned : Pinned := { name := "ytaapfapejekkfaa", sum := "3a66887391bea5903f93c890d0eb56805734eaf0ab50930ec6324432c1db7516", checked := Try.checked }
namespace Rows
def none {H : Type} : Left H := { results := [], args := [] }

/-- 'laws.FnExactFirstDesk': WHATEVER THE INPUT: true; the input reads as it did. -/
def fnExactFirstDeskSpec : ChangeSpec := { name := "fnExactFirstDesk", fn := fun _ => fun
  | [] => { results := [.lit (.bool true)], args := [] }
  | _ => none }
def fnExactFirstDeskRow : OpenClaim := { program := "ytaapfapejekkfaa", sum := "3a66887391bea5903f93c890d0eb56805734eaf0ab50930ec6324432c1db7516", func := "loop.example/g01235/laws.FnExactFirstDesk", spec := "fnExactFirstDesk", apart := false }
def FnExactFirstDeskSaid : Prop := fnExactFirstDeskRow.holds Try.pinned (OpenSpec.ofChange fnExactFirstDeskSpec)

/-- ITS FALSE NEIGHBOUR: 'it returns false'. Refute it at one input. -/
def fnExactFirstDeskWrong : ChangeSpec := { name := "fnExactFirstDesk", fn := fun _ => fun
  | [] => { results := [.lit (.bool false)], args := [] }
  | _ => none }
def FnExactFirstDeskWrongFalsely : Prop := fnExactFirstDeskRow.holds Try.pinned (OpenSpec.ofChange fnExactFirstDeskWrong)

/-- 'laws.FnExactIsDesk': WHATEVER THE INPUT: true; the input reads as it did. -/
def fnExactIsDeskSpec : ChangeSpec := { name := "fnExactIsDesk", fn := fun _ => fun
  | [d] => { results := [.lit (.bool true)], args := [d] }
  | _ => none }
def fnExactIsDeskRow : OpenClaim := { program := "ytaapfapejekkfaa", sum := "3a66887391bea5903f93c890d0eb56805734eaf0ab50930ec6324432c1db7516", func := "loop.example/g01235/laws.FnExactIsDesk", spec := "fnExactIsDesk", apart := false }
def FnExactIsDeskSaid : Prop := fnExactIsDeskRow.holds Try.pinned (OpenSpec.ofChange fnExactIsDeskSpec)

/-- ITS FALSE NEIGHBOUR: 'it returns false'. Refute it at one input. -/
def fnExactIsDeskWrong : ChangeSpec := { name := "fnExactIsDesk", fn := fun _ => fun
  | [d] => { results := [.lit (.bool false)], args := [d] }
  | _ => none }
def FnExactIsDeskWrongFalsely : Prop := fnExactIsDeskRow.holds Try.pinned (OpenSpec.ofChange fnExactIsDeskWrong)

/-- 'laws.FnFactorsTold': WHATEVER THE INPUT: true; the input reads as it did. -/
def fnFactorsToldSpec : ChangeSpec := { name := "fnFactorsTold", fn := fun _ => fun
  | [d1, d2] => { results := [.lit (.bool true)], args := [d1, d2] }
  | _ => none }
def fnFactorsToldRow : OpenClaim := { program := "ytaapfapejekkfaa", sum := "3a66887391bea5903f93c890d0eb56805734eaf0ab50930ec6324432c1db7516", func := "loop.example/g01235/laws.FnFactorsTold", spec := "fnFactorsTold", apart := false }
def FnFactorsToldSaid : Prop := fnFactorsToldRow.holds Try.pinned (OpenSpec.ofChange fnFactorsToldSpec)

/-- ITS FALSE NEIGHBOUR: 'it returns false'. Refute it at one input. -/
def fnFactorsToldWrong : ChangeSpec := { name := "fnFactorsTold", fn := fun _ => fun
  | [d1, d2] => { results := [.lit (.bool false)], args := [d1, d2] }
  | _ => none }
def FnFactorsToldWrongFalsely : Prop := fnFactorsToldRow.holds Try.pinned (OpenSpec.ofChange fnFactorsToldWrong)

/-- 'laws.FnFactorsToldOfAll': WHATEVER THE INPUT: true; the input reads as it did. -/
def fnFactorsToldOfAllSpec : ChangeSpec := { name := "fnFactorsToldOfAll", fn := fun _ => fun
  | [d1, d2, d3, d4] => { results := [.lit (.bool true)], args := [d1, d2, d3, d4] }
  | _ => none }
def fnFactorsToldOfAllRow : OpenClaim := { program := "ytaapfapejekkfaa", sum := "3a66887391bea5903f93c890d0eb56805734eaf0ab50930ec6324432c1db7516", func := "loop.example/g01235/laws.FnFactorsToldOfAll", spec := "fnFactorsToldOfAll", apart := false }
def FnFactorsToldOfAllSaid : Prop := fnFactorsToldOfAllRow.holds Try.pinned (OpenSpec.ofChange fnFactorsToldOfAllSpec)

/-- ITS FALSE NEIGHBOUR: 'it returns false'. Refute it at one input. -/
def fnFactorsToldOfAllWrong : ChangeSpec := { name := "fnFactorsToldOfAll", fn := fun _ => fun
  | [d1, d2, d3, d4] => { results := [.lit (.bool false)], args := [d1, d2, d3, d4] }
  | _ => none }
def FnFactorsToldOfAllWrongFalsely : Prop := fnFactorsToldOfAllRow.holds Try.pinned (OpenSpec.ofChange fnFactorsToldOfAllWrong)

/-- 'laws.FnWheelsTurn': WHATEVER THE INPUT: true; the input reads as it did. -/
def fnWheelsTurnSpec : ChangeSpec := { name := "fnWheelsTurn", fn := fun _ => fun
  | [d1, d2] => { results := [.lit (.bool true)], args := [d1, d2] }
  | _ => none }
def fnWheelsTurnRow : OpenClaim := { program := "ytaapfapejekkfaa", sum := "3a66887391bea5903f93c890d0eb56805734eaf0ab50930ec6324432c1db7516", func := "loop.example/g01235/laws.FnWheelsTurn", spec := "fnWheelsTurn", apart := false }
def FnWheelsTurnSaid : Prop := fnWheelsTurnRow.holds Try.pinned (OpenSpec.ofChange fnWheelsTurnSpec)

/-- ITS FALSE NEIGHBOUR: 'it returns false'. Refute it at one input. -/
def fnWheelsTurnWrong : ChangeSpec := { name := "fnWheelsTurn", fn := fun _ => fun
  | [d1, d2] => { results := [.lit (.bool false)], args := [d1, d2] }
  | _ => none }
def FnWheelsTurnWrongFalsely : Prop := fnWheelsTurnRow.holds Try.pinned (OpenSpec.ofChange fnWheelsTurnWrong)

/-- 'laws.FnWheelsTurnOfAll': WHATEVER THE INPUT: true; the input reads as it did. -/
def fnWheelsTurnOfAllSpec : ChangeSpec := { name := "fnWheelsTurnOfAll", fn := fun _ => fun
  | [d1, d2] => { results := [.lit (.bool true)], args := [d1, d2] }
  | _ => none }
def fnWheelsTurnOfAllRow : OpenClaim := { program := "ytaapfapejekkfaa", sum := "3a66887391bea5903f93c890d0eb56805734eaf0ab50930ec6324432c1db7516", func := "loop.example/g01235/laws.FnWheelsTurnOfAll", spec := "fnWheelsTurnOfAll", apart := false }
def FnWheelsTurnOfAllSaid : Prop := fnWheelsTurnOfAllRow.holds Try.pinned (OpenSpec.ofChange fnWheelsTurnOfAllSpec)

/-- ITS FALSE NEIGHBOUR: 'it returns false'. Refute it at one input. -/
def fnWheelsTurnOfAllWrong : ChangeSpec := { name := "fnWheelsTurnOfAll", fn := fun _ => fun
  | [d1, d2] => { results := [.lit (.bool false)], args := [d1, d2] }
  | _ => none }
def FnWheelsTurnOfAllWrongFalsely : Prop := fnWheelsTurnOfAllRow.holds Try.pinned (OpenSpec.ofChange fnWheelsTurnOfAllWrong)

/-- 'laws.FnSievesLeave': WHATEVER THE INPUT: true; the input reads as it did. -/
def fnSievesLeaveSpec : ChangeSpec := { name := "fnSievesLeave", fn := fun _ => fun
  | [d1, d2] => { results := [.lit (.bool true)], args := [d1, d2] }
  | _ => none }
def fnSievesLeaveRow : OpenClaim := { program := "ytaapfapejekkfaa", sum := "3a66887391bea5903f93c890d0eb56805734eaf0ab50930ec6324432c1db7516", func := "loop.example/g01235/laws.FnSievesLeave", spec := "fnSievesLeave", apart := false }
def FnSievesLeaveSaid : Prop := fnSievesLeaveRow.holds Try.pinned (OpenSpec.ofChange fnSievesLeaveSpec)

/-- ITS FALSE NEIGHBOUR: 'it returns false'. Refute it at one input. -/
def fnSievesLeaveWrong : ChangeSpec := { name := "fnSievesLeave", fn := fun _ => fun
  | [d1, d2] => { results := [.lit (.bool false)], args := [d1, d2] }
  | _ => none }
def FnSievesLeaveWrongFalsely : Prop := fnSievesLeaveRow.holds Try.pinned (OpenSpec.ofChange fnSievesLeaveWrong)

/-- 'laws.FnStepsAround': WHATEVER THE INPUT: true; the input reads as it did. -/
def fnStepsAroundSpec : ChangeSpec := { name := "fnStepsAround", fn := fun _ => fun
  | [d1, d2] => { results := [.lit (.bool true)], args := [d1, d2] }
  | _ => none }
def fnStepsAroundRow : OpenClaim := { program := "ytaapfapejekkfaa", sum := "3a66887391bea5903f93c890d0eb56805734eaf0ab50930ec6324432c1db7516", func := "loop.example/g01235/laws.FnStepsAround", spec := "fnStepsAround", recurses := true, apart := false }
def FnStepsAroundSaid : Prop := fnStepsAroundRow.holds Try.pinned (OpenSpec.ofChange fnStepsAroundSpec)

/-- ITS FALSE NEIGHBOUR: 'it returns false'. Refute it at one input. -/
def fnStepsAroundWrong : ChangeSpec := { name := "fnStepsAround", fn := fun _ => fun
  | [d1, d2] => { results := [.lit (.bool false)], args := [d1, d2] }
  | _ => none }
def FnStepsAroundWrongFalsely : Prop := fnStepsAroundRow.holds Try.pinned (OpenSpec.ofChange fnStepsAroundWrong)

/-- 'laws.FnStepsAroundOfAll': WHATEVER THE INPUT: true; the input reads as it did. -/
def fnStepsAroundOfAllSpec : ChangeSpec := { name := "fnStepsAroundOfAll", fn := fun _ => fun
  | [d1, d2, d3, d4, d5, d6, d7, d8, d9] => { results := [.lit (.bool true)], args := [d1, d2, d3, d4, d5, d6, d7, d8, d9] }
  | _ => none }
def fnStepsAroundOfAllRow : OpenClaim := { program := "ytaapfapejekkfaa", sum := "3a66887391bea5903f93c890d0eb56805734eaf0ab50930ec6324432c1db7516", func := "loop.example/g01235/laws.FnStepsAroundOfAll", spec := "fnStepsAroundOfAll", recurses := true, apart := false }
def FnStepsAroundOfAllSaid : Prop := fnStepsAroundOfAllRow.holds Try.pinned (OpenSpec.ofChange fnStepsAroundOfAllSpec)

/-- ITS FALSE NEIGHBOUR: 'it returns false'. Refute it at one input. -/
def fnStepsAroundOfAllWrong : ChangeSpec := { name := "fnStepsAroundOfAll", fn := fun _ => fun
  | [d1, d2, d3, d4, d5, d6, d7, d8, d9] => { results := [.lit (.bool false)], args := [d1, d2, d3, d4, d5, d6, d7, d8, d9] }
  | _ => none }
def FnStepsAroundOfAllWrongFalsely : Prop := fnStepsAroundOfAllRow.holds Try.pinned (OpenSpec.ofChange fnStepsAroundOfAllWrong)

/-- 'laws.FnTablesMultiplied': WHATEVER THE INPUT: true; the input reads as it did. -/
def fnTablesMultipliedSpec : ChangeSpec := { name := "fnTablesMultiplied", fn := fun _ => fun
  | [d1, d2] => { results := [.lit (.bool true)], args := [d1, d2] }
  | _ => none }
def fnTablesMultipliedRow : OpenClaim := { program := "ytaapfapejekkfaa", sum := "3a66887391bea5903f93c890d0eb56805734eaf0ab50930ec6324432c1db7516", func := "loop.example/g01235/laws.FnTablesMultiplied", spec := "fnTablesMultiplied", unfollowed := true, recurses := true, apart := false }
def FnTablesMultipliedSaid : Prop := fnTablesMultipliedRow.holds Try.pinned (OpenSpec.ofChange fnTablesMultipliedSpec)

/-- ITS FALSE NEIGHBOUR: 'it returns false'. Refute it at one input. -/
def fnTablesMultipliedWrong : ChangeSpec := { name := "fnTablesMultiplied", fn := fun _ => fun
  | [d1, d2] => { results := [.lit (.bool false)], args := [d1, d2] }
  | _ => none }
def FnTablesMultipliedWrongFalsely : Prop := fnTablesMultipliedRow.holds Try.pinned (OpenSpec.ofChange fnTablesMultipliedWrong)

/-- 'laws.FnTablesMultipliedOfAll': WHATEVER THE INPUT: true; the input reads as it did. -/
def fnTablesMultipliedOfAllSpec : ChangeSpec := { name := "fnTablesMultipliedOfAll", fn := fun _ => fun
  | [d1, d2, d3, d4, d5, d6] => { results := [.lit (.bool true)], args := [d1, d2, d3, d4, d5, d6] }
  | _ => none }
def fnTablesMultipliedOfAllRow : OpenClaim := { program := "ytaapfapejekkfaa", sum := "3a66887391bea5903f93c890d0eb56805734eaf0ab50930ec6324432c1db7516", func := "loop.example/g01235/laws.FnTablesMultipliedOfAll", spec := "fnTablesMultipliedOfAll", unfollowed := true, recurses := true, apart := false }
def FnTablesMultipliedOfAllSaid : Prop := fnTablesMultipliedOfAllRow.holds Try.pinned (OpenSpec.ofChange fnTablesMultipliedOfAllSpec)

/-- ITS FALSE NEIGHBOUR: 'it returns false'. Refute it at one input. -/
def fnTablesMultipliedOfAllWrong : ChangeSpec := { name := "fnTablesMultipliedOfAll", fn := fun _ => fun
  | [d1, d2, d3, d4, d5, d6] => { results := [.lit (.bool false)], args := [d1, d2, d3, d4, d5, d6] }
  | _ => none }
def FnTablesMultipliedOfAllWrongFalsely : Prop := fnTablesMultipliedOfAllRow.holds Try.pinned (OpenSpec.ofChange fnTablesMultipliedOfAllWrong)

/-- 'laws.FnPatternsOpen': WHATEVER THE INPUT: true; the input reads as it did. -/
def fnPatternsOpenSpec : ChangeSpec := { name := "fnPatternsOpen", fn := fun _ => fun
  | [d1, d2] => { results := [.lit (.bool true)], args := [d1, d2] }
  | _ => none }
def fnPatternsOpenRow : OpenClaim := { program := "ytaapfapejekkfaa", sum := "3a66887391bea5903f93c890d0eb56805734eaf0ab50930ec6324432c1db7516", func := "loop.example/g01235/laws.FnPatternsOpen", spec := "fnPatternsOpen", unfollowed := true, recurses := true, apart := false }
def FnPatternsOpenSaid : Prop := fnPatternsOpenRow.holds Try.pinned (OpenSpec.ofChange fnPatternsOpenSpec)

/-- ITS FALSE NEIGHBOUR: 'it returns false'. Refute it at one input. -/
def fnPatternsOpenWrong : ChangeSpec := { name := "fnPatternsOpen", fn := fun _ => fun
  | [d1, d2] => { results := [.lit (.bool false)], args := [d1, d2] }
  | _ => none }
def FnPatternsOpenWrongFalsely : Prop := fnPatternsOpenRow.holds Try.pinned (OpenSpec.ofChange fnPatternsOpenWrong)

/-- 'laws.FnPatternsOpenOfAll': WHATEVER THE INPUT: true; the input reads as it did. -/
def fnPatternsOpenOfAllSpec : ChangeSpec := { name := "fnPatternsOpenOfAll", fn := fun _ => fun
  | [d1, d2, d3, d4, d5, d6, d7, d8] => { results := [.lit (.bool true)], args := [d1, d2, d3, d4, d5, d6, d7, d8] }
  | _ => none }
def fnPatternsOpenOfAllRow : OpenClaim := { program := "ytaapfapejekkfaa", sum := "3a66887391bea5903f93c890d0eb56805734eaf0ab50930ec6324432c1db7516", func := "loop.example/g01235/laws.FnPatternsOpenOfAll", spec := "fnPatternsOpenOfAll", unfollowed := true, recurses := true, apart := false }
def FnPatternsOpenOfAllSaid : Prop := fnPatternsOpenOfAllRow.holds Try.pinned (OpenSpec.ofChange fnPatternsOpenOfAllSpec)

/-- ITS FALSE NEIGHBOUR: 'it returns false'. Refute it at one input. -/
def fnPatternsOpenOfAllWrong : ChangeSpec := { name := "fnPatternsOpenOfAll", fn := fun _ => fun
  | [d1, d2, d3, d4, d5, d6, d7, d8] => { results := [.lit (.bool false)], args := [d1, d2, d3, d4, d5, d6, d7, d8] }
  | _ => none }
def FnPatternsOpenOfAllWrongFalsely : Prop := fnPatternsOpenOfAllRow.holds Try.pinned (OpenSpec.ofChange fnPatternsOpenOfAllWrong)

/-- 'laws.FnPlacesOfPatterns': WHATEVER THE INPUT: true; the input reads as it did. -/
def fnPlacesOfPatternsSpec : ChangeSpec := { name := "fnPlacesOfPatterns", fn := fun _ => fun
  | [d1, d2] => { results := [.lit (.bool true)], args := [d1, d2] }
  | _ => none }
def fnPlacesOfPatternsRow : OpenClaim := { program := "ytaapfapejekkfaa", sum := "3a66887391bea5903f93c890d0eb56805734eaf0ab50930ec6324432c1db7516", func := "loop.example/g01235/laws.FnPlacesOfPatterns", spec := "fnPlacesOfPatterns", unfollowed := true, recurses := true, apart := false }
def FnPlacesOfPatternsSaid : Prop := fnPlacesOfPatternsRow.holds Try.pinned (OpenSpec.ofChange fnPlacesOfPatternsSpec)

/-- ITS FALSE NEIGHBOUR: 'it returns false'. Refute it at one input. -/
def fnPlacesOfPatternsWrong : ChangeSpec := { name := "fnPlacesOfPatterns", fn := fun _ => fun
  | [d1, d2] => { results := [.lit (.bool false)], args := [d1, d2] }
  | _ => none }
def FnPlacesOfPatternsWrongFalsely : Prop := fnPlacesOfPatternsRow.holds Try.pinned (OpenSpec.ofChange fnPlacesOfPatternsWrong)

/-- 'laws.FnPlacesOfPatternsOfAll': WHATEVER THE INPUT: true; the input reads as it did. -/
def fnPlacesOfPatternsOfAllSpec : ChangeSpec := { name := "fnPlacesOfPatternsOfAll", fn := fun _ => fun
  | [d1, d2, d3, d4, d5, d6, d7, d8, d9, d10, d11] => { results := [.lit (.bool true)], args := [d1, d2, d3, d4, d5, d6, d7, d8, d9, d10, d11] }
  | _ => none }
def fnPlacesOfPatternsOfAllRow : OpenClaim := { program := "ytaapfapejekkfaa", sum := "3a66887391bea5903f93c890d0eb56805734eaf0ab50930ec6324432c1db7516", func := "loop.example/g01235/laws.FnPlacesOfPatternsOfAll", spec := "fnPlacesOfPatternsOfAll", unfollowed := true, recurses := true, apart := false }
def FnPlacesOfPatternsOfAllSaid : Prop := fnPlacesOfPatternsOfAllRow.holds Try.pinned (OpenSpec.ofChange fnPlacesOfPatternsOfAllSpec)

/-- ITS FALSE NEIGHBOUR: 'it returns false'. Refute it at one input. -/
def fnPlacesOfPatternsOfAllWrong : ChangeSpec := { name := "fnPlacesOfPatternsOfAll", fn := fun _ => fun
  | [d1, d2, d3, d4, d5, d6, d7, d8, d9, d10, d11] => { results := [.lit (.bool false)], args := [d1, d2, d3, d4, d5, d6, d7, d8, d9, d10, d11] }
  | _ => none }
def FnPlacesOfPatternsOfAllWrongFalsely : Prop := fnPlacesOfPatternsOfAllRow.holds Try.pinned (OpenSpec.ofChange fnPlacesOfPatternsOfAllWrong)

/- THE SECOND FORM. 'bulk': how many values and letters a reading holds, each counted each time it is reached (what is shared counts as often as it is met; a slice's spare places count too). A statement '..UptoSaid' is the law's where the arguments, and the package variables that the reading takes, are together of bulk at most 1048576: NARROWER than '..Said'. Prove '..Said' where nothing that the law and all that it calls make is longer than what came in: it says more and counts as full. Else prove '..UptoSaid'. A law counts once. -/
mutual
def uptoBulk {H : Type} : DataW H → Nat
  | .lit (.string bytes) => bytes.length + 1
  | .lit _ => 1
  | .nil => 1
  | .ptr d => uptoBulk d + 1
  | .slice elems spare => uptoBulkAll elems + uptoBulkAll spare + 1
  | .agg parts => uptoBulkAll parts + 1
  | .iface _ d => uptoBulk d + 1
  | .map entries => uptoBulkEntries entries + 1
  | .held _ => 1
def uptoBulkAll {H : Type} : List (DataW H) → Nat
  | [] => 0
  | d :: r => uptoBulk d + uptoBulkAll r
def uptoBulkEntries {H : Type} : List (Lit × DataW H) → Nat
  | [] => 0
  | x :: r => uptoBulkEntry x + uptoBulkEntries r
def uptoBulkEntry {H : Type} : Lit × DataW H → Nat
  | (.string bytes, d) => bytes.length + uptoBulk d + 1
  | (_, d) => uptoBulk d + 1
 end
def uptoSmall : (H : Type) → List (DataW H) → Bool := fun _ ds => decide (uptoBulkAll ds ≤ 1048576)
def OpenSpec.upto (s : _root_.Go.ChangeSpec) : _root_.Go.OpenSpec := { _root_.Go.OpenSpec.ofChange s with cond := some uptoSmall }

/-- 'laws.FnExactFirstDesk', WHERE WHAT IT READS IS OF BULK AT MOST 1048576: true; the input reads as it did. -/
def fnExactFirstDeskUptoRow : OpenClaim := { program := "ytaapfapejekkfaa", sum := "3a66887391bea5903f93c890d0eb56805734eaf0ab50930ec6324432c1db7516", func := "loop.example/g01235/laws.FnExactFirstDesk", spec := "fnExactFirstDesk", apart := false, narrowed := true }
def FnExactFirstDeskUptoSaid : Prop := fnExactFirstDeskUptoRow.holds Try.pinned (OpenSpec.upto fnExactFirstDeskSpec)

/-- 'laws.FnExactIsDesk', WHERE WHAT IT READS IS OF BULK AT MOST 1048576: true; the input reads as it did. -/
def fnExactIsDeskUptoRow : OpenClaim := { program := "ytaapfapejekkfaa", sum := "3a66887391bea5903f93c890d0eb56805734eaf0ab50930ec6324432c1db7516", func := "loop.example/g01235/laws.FnExactIsDesk", spec := "fnExactIsDesk", apart := false, narrowed := true }
def FnExactIsDeskUptoSaid : Prop := fnExactIsDeskUptoRow.holds Try.pinned (OpenSpec.upto fnExactIsDeskSpec)

/-- 'laws.FnFactorsTold', WHERE WHAT IT READS IS OF BULK AT MOST 1048576: true; the input reads as it did. -/
def fnFactorsToldUptoRow : OpenClaim := { program := "ytaapfapejekkfaa", sum := "3a66887391bea5903f93c890d0eb56805734eaf0ab50930ec6324432c1db7516", func := "loop.example/g01235/laws.FnFactorsTold", spec := "fnFactorsTold", apart := false, narrowed := true }
def FnFactorsToldUptoSaid : Prop := fnFactorsToldUptoRow.holds Try.pinned (OpenSpec.upto fnFactorsToldSpec)

/-- 'laws.FnFactorsToldOfAll', WHERE WHAT IT READS IS OF BULK AT MOST 1048576: true; the input reads as it did. -/
def fnFactorsToldOfAllUptoRow : OpenClaim := { program := "ytaapfapejekkfaa", sum := "3a66887391bea5903f93c890d0eb56805734eaf0ab50930ec6324432c1db7516", func := "loop.example/g01235/laws.FnFactorsToldOfAll", spec := "fnFactorsToldOfAll", apart := false, narrowed := true }
def FnFactorsToldOfAllUptoSaid : Prop := fnFactorsToldOfAllUptoRow.holds Try.pinned (OpenSpec.upto fnFactorsToldOfAllSpec)

/-- 'laws.FnWheelsTurn', WHERE WHAT IT READS IS OF BULK AT MOST 1048576: true; the input reads as it did. -/
def fnWheelsTurnUptoRow : OpenClaim := { program := "ytaapfapejekkfaa", sum := "3a66887391bea5903f93c890d0eb56805734eaf0ab50930ec6324432c1db7516", func := "loop.example/g01235/laws.FnWheelsTurn", spec := "fnWheelsTurn", apart := false, narrowed := true }
def FnWheelsTurnUptoSaid : Prop := fnWheelsTurnUptoRow.holds Try.pinned (OpenSpec.upto fnWheelsTurnSpec)

/-- 'laws.FnWheelsTurnOfAll', WHERE WHAT IT READS IS OF BULK AT MOST 1048576: true; the input reads as it did. -/
def fnWheelsTurnOfAllUptoRow : OpenClaim := { program := "ytaapfapejekkfaa", sum := "3a66887391bea5903f93c890d0eb56805734eaf0ab50930ec6324432c1db7516", func := "loop.example/g01235/laws.FnWheelsTurnOfAll", spec := "fnWheelsTurnOfAll", apart := false, narrowed := true }
def FnWheelsTurnOfAllUptoSaid : Prop := fnWheelsTurnOfAllUptoRow.holds Try.pinned (OpenSpec.upto fnWheelsTurnOfAllSpec)

/-- 'laws.FnSievesLeave', WHERE WHAT IT READS IS OF BULK AT MOST 1048576: true; the input reads as it did. -/
def fnSievesLeaveUptoRow : OpenClaim := { program := "ytaapfapejekkfaa", sum := "3a66887391bea5903f93c890d0eb56805734eaf0ab50930ec6324432c1db7516", func := "loop.example/g01235/laws.FnSievesLeave", spec := "fnSievesLeave", apart := false, narrowed := true }
def FnSievesLeaveUptoSaid : Prop := fnSievesLeaveUptoRow.holds Try.pinned (OpenSpec.upto fnSievesLeaveSpec)

/-- 'laws.FnStepsAround', WHERE WHAT IT READS IS OF BULK AT MOST 1048576: true; the input reads as it did. -/
def fnStepsAroundUptoRow : OpenClaim := { program := "ytaapfapejekkfaa", sum := "3a66887391bea5903f93c890d0eb56805734eaf0ab50930ec6324432c1db7516", func := "loop.example/g01235/laws.FnStepsAround", spec := "fnStepsAround", recurses := true, apart := false, narrowed := true }
def FnStepsAroundUptoSaid : Prop := fnStepsAroundUptoRow.holds Try.pinned (OpenSpec.upto fnStepsAroundSpec)

/-- 'laws.FnStepsAroundOfAll', WHERE WHAT IT READS IS OF BULK AT MOST 1048576: true; the input reads as it did. -/
def fnStepsAroundOfAllUptoRow : OpenClaim := { program := "ytaapfapejekkfaa", sum := "3a66887391bea5903f93c890d0eb56805734eaf0ab50930ec6324432c1db7516", func := "loop.example/g01235/laws.FnStepsAroundOfAll", spec := "fnStepsAroundOfAll", recurses := true, apart := false, narrowed := true }
def FnStepsAroundOfAllUptoSaid : Prop := fnStepsAroundOfAllUptoRow.holds Try.pinned (OpenSpec.upto fnStepsAroundOfAllSpec)

/-- 'laws.FnTablesMultiplied', WHERE WHAT IT READS IS OF BULK AT MOST 1048576: true; the input reads as it did. -/
def fnTablesMultipliedUptoRow : OpenClaim := { program := "ytaapfapejekkfaa", sum := "3a66887391bea5903f93c890d0eb56805734eaf0ab50930ec6324432c1db7516", func := "loop.example/g01235/laws.FnTablesMultiplied", spec := "fnTablesMultiplied", unfollowed := true, recurses := true, apart := false, narrowed := true }
def FnTablesMultipliedUptoSaid : Prop := fnTablesMultipliedUptoRow.holds Try.pinned (OpenSpec.upto fnTablesMultipliedSpec)

/-- 'laws.FnTablesMultipliedOfAll', WHERE WHAT IT READS IS OF BULK AT MOST 1048576: true; the input reads as it did. -/
def fnTablesMultipliedOfAllUptoRow : OpenClaim := { program := "ytaapfapejekkfaa", sum := "3a66887391bea5903f93c890d0eb56805734eaf0ab50930ec6324432c1db7516", func := "loop.example/g01235/laws.FnTablesMultipliedOfAll", spec := "fnTablesMultipliedOfAll", unfollowed := true, recurses := true, apart := false, narrowed := true }
def FnTablesMultipliedOfAllUptoSaid : Prop := fnTablesMultipliedOfAllUptoRow.holds Try.pinned (OpenSpec.upto fnTablesMultipliedOfAllSpec)

/-- 'laws.FnPatternsOpen', WHERE WHAT IT READS IS OF BULK AT MOST 1048576: true; the input reads as it did. -/
def fnPatternsOpenUptoRow : OpenClaim := { program := "ytaapfapejekkfaa", sum := "3a66887391bea5903f93c890d0eb56805734eaf0ab50930ec6324432c1db7516", func := "loop.example/g01235/laws.FnPatternsOpen", spec := "fnPatternsOpen", unfollowed := true, recurses := true, apart := false, narrowed := true }
def FnPatternsOpenUptoSaid : Prop := fnPatternsOpenUptoRow.holds Try.pinned (OpenSpec.upto fnPatternsOpenSpec)

/-- 'laws.FnPatternsOpenOfAll', WHERE WHAT IT READS IS OF BULK AT MOST 1048576: true; the input reads as it did. -/
def fnPatternsOpenOfAllUptoRow : OpenClaim := { program := "ytaapfapejekkfaa", sum := "3a66887391bea5903f93c890d0eb56805734eaf0ab50930ec6324432c1db7516", func := "loop.example/g01235/laws.FnPatternsOpenOfAll", spec := "fnPatternsOpenOfAll", unfollowed := true, recurses := true, apart := false, narrowed := true }
def FnPatternsOpenOfAllUptoSaid : Prop := fnPatternsOpenOfAllUptoRow.holds Try.pinned (OpenSpec.upto fnPatternsOpenOfAllSpec)

/-- 'laws.FnPlacesOfPatterns', WHERE WHAT IT READS IS OF BULK AT MOST 1048576: true; the input reads as it did. -/
def fnPlacesOfPatternsUptoRow : OpenClaim := { program := "ytaapfapejekkfaa", sum := "3a66887391bea5903f93c890d0eb56805734eaf0ab50930ec6324432c1db7516", func := "loop.example/g01235/laws.FnPlacesOfPatterns", spec := "fnPlacesOfPatterns", unfollowed := true, recurses := true, apart := false, narrowed := true }
def FnPlacesOfPatternsUptoSaid : Prop := fnPlacesOfPatternsUptoRow.holds Try.pinned (OpenSpec.upto fnPlacesOfPatternsSpec)

/-- 'laws.FnPlacesOfPatternsOfAll', WHERE WHAT IT READS IS OF BULK AT MOST 1048576: true; the input reads as it did. -/
def fnPlacesOfPatternsOfAllUptoRow : OpenClaim := { program := "ytaapfapejekkfaa", sum := "3a66887391bea5903f93c890d0eb56805734eaf0ab50930ec6324432c1db7516", func := "loop.example/g01235/laws.FnPlacesOfPatternsOfAll", spec := "fnPlacesOfPatternsOfAll", unfollowed := true, recurses := true, apart := false, narrowed := true }
def FnPlacesOfPatternsOfAllUptoSaid : Prop := fnPlacesOfPatternsOfAllUptoRow.holds Try.pinned (OpenSpec.upto fnPlacesOfPatternsOfAllSpec)

end Rows
end Go.Proofs.Ytaapfapejekkfaa
