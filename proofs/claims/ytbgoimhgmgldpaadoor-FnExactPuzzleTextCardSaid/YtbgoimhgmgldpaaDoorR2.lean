import Derived.Test.YtbgoimhgmgldpaaDoorR1
import Derived.Test.YtbgoimhgmgldpaaDoorL0
import Derived.Laws.IdiomStrings
import Derived.IntWalk
namespace Go.Proofs.YtbgoimhgmgldpaaDoor
open Go.RowKit
set_option linter.unusedVariables false
set_option linter.unusedSimpArgs false

/-- The signs of 1 to k. -/
def ptT (rs : List (Int × Int)) : Nat → ByteArray
  | 0 => ⟨#[]⟩
  | k + 1 => if leftF rs ((k : Int) + 1) = true then ptT rs k ++ ⟨#[111]⟩ else ptT rs k ++ ⟨#[120]⟩
theorem ptT_size (rs : List (Int × Int)) : ∀ k, (ptT rs k).size = k
  | 0 => rfl
  | k + 1 => by
    have h := ptT_size rs k
    have h1 : (⟨#[111]⟩ : ByteArray).size = 1 := rfl
    have h2 : (⟨#[120]⟩ : ByteArray).size = 1 := rfl
    rw [ptT]
    split <;> rw [ByteArray.size_append] <;> omega
theorem ptT_yes {rs : List (Int × Int)} {k : Nat} (h : leftF rs ((k : Int) + 1) = true) : ptT rs (k + 1) = ptT rs k ++ ⟨#[111]⟩ := by rw [ptT, if_pos h]
theorem ptT_no {rs : List (Int × Int)} {k : Nat} (h : leftF rs ((k : Int) + 1) = false) : ptT rs (k + 1) = ptT rs k ++ ⟨#[120]⟩ := by rw [ptT, if_neg (by rw [h]; decide)]
theorem addP (a b : ByteArray) (h : a.size + b.size ≤ 1000) : ∀ w : World, (Op.stringOp .add a b).run Tryd.prog w = .ok (.string (a ++ b)) w :=
  fun w => run_string_add_sum w _ _ (by omega)
def ptO (rs : List (Int × Int)) (n : Int) : Bool := goodL rs && inB n 1 48
def ptV (rs : List (Int × Int)) (n : Int) : ByteArray := if ptO rs n then ptT rs n.toNat else ⟨#[]⟩
theorem ptV_no {rs : List (Int × Int)} {n : Int} (h : ptO rs n = false) : ptV rs n = ⟨#[]⟩ := by rw [ptV, h]; rfl
theorem ptV_yes {rs : List (Int × Int)} {n : Nat} (h : ptO rs (n : Int) = true) : ptV rs (n : Int) = ptT rs n := by rw [ptV, h, Int.toNat_natCast]; rfl

end Go.Proofs.YtbgoimhgmgldpaaDoor
