import Derived.Test.YtjoklbkbggdlgaaE0
import Derived.ProofKit
import Derived.OpenShut
import Derived.ShutString
import Derived.ChangeOld
import Derived.Deep.SlicePairs
import Derived.Deep.Fields
import Derived.Lib.SmallJoins
namespace Go.Proofs.Ytjoklbkbggdlgaa
open Go.ChangeShapes Go.WideShapes Go.ChangeAt Go.RowKit Go.Deep
set_option maxRecDepth 100000
set_option linter.unusedVariables false
set_option linter.unusedSimpArgs false

theorem own : ownKnob Try.prog.godebug = none := by kernel_rfl
theorem laidOut : laidOutB Try.prog = true := by kernel_rfl

/-- The words at the head of the translation, sign by sign. -/
def headSigns : List Char := [
  Char.ofNat 104, Char.ofNat 97, Char.ofNat 114, Char.ofNat 110, Char.ofNat 101, Char.ofNat 115, Char.ofNat 115, Char.ofNat 32, Char.ofNat 55, Char.ofNat 99, Char.ofNat 48, Char.ofNat 100,
  Char.ofNat 102, Char.ofNat 55, Char.ofNat 98, Char.ofNat 97, Char.ofNat 98, Char.ofNat 97, Char.ofNat 57, Char.ofNat 56, Char.ofNat 98, Char.ofNat 52, Char.ofNat 49, Char.ofNat 99,
  Char.ofNat 98, Char.ofNat 101, Char.ofNat 50, Char.ofNat 49, Char.ofNat 54, Char.ofNat 51, Char.ofNat 54, Char.ofNat 51, Char.ofNat 49, Char.ofNat 54, Char.ofNat 57, Char.ofNat 48,
  Char.ofNat 98, Char.ofNat 54, Char.ofNat 101, Char.ofNat 102, Char.ofNat 98, Char.ofNat 98, Char.ofNat 99, Char.ofNat 98, Char.ofNat 57, Char.ofNat 54, Char.ofNat 102, Char.ofNat 53,
  Char.ofNat 101, Char.ofNat 100, Char.ofNat 101, Char.ofNat 102, Char.ofNat 48, Char.ofNat 50, Char.ofNat 51, Char.ofNat 102, Char.ofNat 97, Char.ofNat 97, Char.ofNat 97, Char.ofNat 48,
  Char.ofNat 50, Char.ofNat 51, Char.ofNat 49, Char.ofNat 57, Char.ofNat 48, Char.ofNat 56, Char.ofNat 98, Char.ofNat 56, Char.ofNat 100, Char.ofNat 57, Char.ofNat 52, Char.ofNat 56,
  Char.ofNat 32, Char.ofNat 99, Char.ofNat 117, Char.ofNat 116, Char.ofNat 32, Char.ofNat 97, Char.ofNat 116, Char.ofNat 32, Char.ofNat 108, Char.ofNat 111, Char.ofNat 111, Char.ofNat 112,
  Char.ofNat 46, Char.ofNat 101, Char.ofNat 120, Char.ofNat 97, Char.ofNat 109, Char.ofNat 112, Char.ofNat 108, Char.ofNat 101, Char.ofNat 47, Char.ofNat 103, Char.ofNat 48, Char.ofNat 49,
  Char.ofNat 50, Char.ofNat 51, Char.ofNat 53, Char.ofNat 47, Char.ofNat 108, Char.ofNat 97, Char.ofNat 119, Char.ofNat 115, Char.ofNat 46, Char.ofNat 70, Char.ofNat 110, Char.ofNat 83,
  Char.ofNat 105, Char.ofNat 101, Char.ofNat 118, Char.ofNat 101, Char.ofNat 115, Char.ofNat 76, Char.ofNat 101, Char.ofNat 97, Char.ofNat 118, Char.ofNat 101, Char.ofNat 32, Char.ofNat 108,
  Char.ofNat 111, Char.ofNat 111, Char.ofNat 112, Char.ofNat 46, Char.ofNat 101, Char.ofNat 120, Char.ofNat 97, Char.ofNat 109, Char.ofNat 112, Char.ofNat 108, Char.ofNat 101, Char.ofNat 47,
  Char.ofNat 103, Char.ofNat 48, Char.ofNat 49, Char.ofNat 50, Char.ofNat 51, Char.ofNat 53, Char.ofNat 47, Char.ofNat 108, Char.ofNat 97, Char.ofNat 119, Char.ofNat 115, Char.ofNat 46,
  Char.ofNat 70, Char.ofNat 110, Char.ofNat 67, Char.ofNat 111, Char.ofNat 118, Char.ofNat 101, Char.ofNat 114, Char.ofNat 115, Char.ofNat 70, Char.ofNat 111, Char.ofNat 117, Char.ofNat 110,
  Char.ofNat 100, Char.ofNat 79, Char.ofNat 102, Char.ofNat 65, Char.ofNat 108, Char.ofNat 108]
set_option maxRecDepth 100000 in
theorem head_is : Try.prog.initOrder = String.ofList headSigns := by kernel_rfl
theorem head_list : Try.prog.initOrder.toList = headSigns := by rw [head_is, String.toList_ofList]
theorem cut_of {P : Program} {l : List Char} (h : P.initOrder.toList = l) (hw : (behindMainWord (wordsSigns l)).head? = some "cut".toList) : ∃ rest, behindMainWord (wordsSigns P.initOrder.toList) = "cut".toList :: rest := by
  rw [h]
  cases hb : behindMainWord (wordsSigns l) with
  | nil => rw [hb] at hw; cases hw
  | cons c rest => rw [hb] at hw; simp only [List.head?_cons, Option.some.injEq] at hw; exact ⟨rest, by rw [hw]⟩
theorem strip_cut (rest : List (List Char)) : stripLifts liftWords ("cut".toList :: rest) = ([], "cut".toList :: rest) := by rfl
theorem lifts_of {P : Program} {l : List Char} (h : P.initOrder.toList = l) (hw : (behindMainWord (wordsSigns l)).head? = some "cut".toList) : P.headLifts = [] := by
  obtain ⟨rest, e⟩ := cut_of h hw
  unfold Program.headLifts
  rw [e]
  simp only [strip_cut]
  split <;> rfl
theorem make_of {P : Program} {l : List Char} (h : P.initOrder.toList = l) (hw : (behindMainWord (wordsSigns l)).head? = some "cut".toList) : P.make = some .cut := by
  obtain ⟨rest, e⟩ := cut_of h hw
  unfold Program.make
  rw [e]
  rfl
theorem final_of {P : Program} {l : List Char} (h : P.initOrder.toList = l) (hw : (behindMainWord (wordsSigns l)).head? = some "cut".toList) : P.liftsFinal = false := by
  obtain ⟨rest, e⟩ := cut_of h hw
  unfold Program.liftsFinal
  rw [e, lifts_of h hw]
  rfl
theorem enters_of {P : Program} {l : List Char} (h : P.initOrder.toList = l) (hw : (behindMainWord (wordsSigns l)).head? = some "cut".toList) (h1 : P.laysLater = false) (h2 : P.bearsReflect = false) (h3 : P.doorFits [] = true) : P.mayEnter = true := by
  obtain ⟨rest, e⟩ := cut_of h hw
  unfold Program.mayEnter
  rw [e]
  simp only [strip_cut, h1, h2, h3]
  rfl
set_option maxRecDepth 100000 in
theorem words_cut : (behindMainWord (wordsSigns headSigns)).head? = some "cut".toList := by kernel_rfl
theorem head_enters : Try.prog.mayEnter = true := enters_of head_list words_cut (by kernel_rfl) (by kernel_rfl) (by kernel_rfl)
theorem head_final : Try.prog.liftsFinal = false := final_of head_list words_cut
theorem head_make : Try.prog.make = some .cut := make_of head_list words_cut

section
variable {H : Type} {enc : TypeId × Value → H} {W : World} {base b0 : Nat} {r : Reach} {spare : Nat → Bool} {held : Bool}

theorem addr_plain {w : World} {a : Addr} {u : Value} (h : w.cell? (a.add 0) = some u) : ∃ b off, a = ⟨b, off, none⟩ := by
  obtain ⟨b, off, spot⟩ := a
  have hs : spot = none := by simpa [Addr.add] using World.cell?_spot h
  exact ⟨b, off, by rw [hs]⟩

end

end Go.Proofs.Ytjoklbkbggdlgaa
