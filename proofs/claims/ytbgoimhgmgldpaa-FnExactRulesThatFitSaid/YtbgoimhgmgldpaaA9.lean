import Derived.Test.YtbgoimhgmgldpaaA8
namespace Go.Proofs.Ytbgoimhgmgldpaa
open Go.RowKit
set_option linter.unusedVariables false
set_option linter.unusedSimpArgs false

theorem OwnR.nil (w : World) (B : Nat) : OwnR w B (.slice none 0 0) [] := World.ownsRow_nil _ _ _ _

def upV (rs : List (Int × Int)) (n : Int) : List Int := if okM rs n then upF (leftF rs) n.toNat else []
theorem okM_most {rs : List (Int × Int)} {n : Int} (h : okM rs n = true) : goodL rs = true ∧ 0 ≤ n ∧ n ≤ 600 := by
  simp only [okM, Bool.and_eq_true] at h
  exact ⟨h.1, mostB_true.1 h.2⟩
theorem upV_no {rs : List (Int × Int)} {n : Int} (h : okM rs n = false) : upV rs n = [] := by rw [upV, h]; rfl
theorem upV_yes {rs : List (Int × Int)} {M : Nat} (h : okM rs (M : Int) = true) : upV rs (M : Int) = upF (leftF rs) M := by rw [upV, h, Int.toNat_natCast]; rfl




end Go.Proofs.Ytbgoimhgmgldpaa
