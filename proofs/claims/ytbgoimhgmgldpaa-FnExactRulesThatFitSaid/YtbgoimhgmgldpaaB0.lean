import Derived.Test.YtbgoimhgmgldpaaA9
namespace Go.Proofs.Ytbgoimhgmgldpaa
open Go.RowKit
set_option linter.unusedVariables false
set_option linter.unusedSimpArgs false


def cntV (rs : List (Int × Int)) (n : Int) : Int := if okM rs n then ((upF (leftF rs) n.toNat).length : Int) else 0


/-- How many of lo, .., lo + k - 1 have p. -/
def cntF (p : Int → Bool) (lo : Nat) : Nat → Nat
  | 0 => 0
  | k + 1 => cntF p lo k + if p ((lo : Int) + (k : Int)) then 1 else 0
theorem cntF_yes {p : Int → Bool} {lo k : Nat} (h : p ((lo : Int) + (k : Int)) = true) : cntF p lo (k + 1) = cntF p lo k + 1 := by rw [cntF, if_pos h]
theorem cntF_no {p : Int → Bool} {lo k : Nat} (h : p ((lo : Int) + (k : Int)) = false) : cntF p lo (k + 1) = cntF p lo k := by rw [cntF, if_neg (by rw [h]; exact Bool.false_ne_true)]; rfl
theorem cntF_le (p : Int → Bool) (lo k : Nat) : cntF p lo k ≤ k := by
  induction k with
  | zero => exact Nat.le_refl _
  | succ k ih => rw [cntF]; split <;> omega
theorem cntF_up (p : Int → Bool) (k : Nat) : cntF p 1 k = (upF p k).length := by
  induction k with
  | zero => rfl
  | succ k ih =>
    have e : ((1 : Nat) : Int) + (k : Int) = (k : Int) + 1 := by omega
    cases h : p ((k : Int) + 1) with
    | true => rw [cntF_yes (by rw [e]; exact h), upF_yes h, ih, List.length_append]; rfl
    | false => rw [cntF_no (by rw [e]; exact h), upF_no h, ih]

def okB (rs : List (Int × Int)) (lo hi : Int) : Bool := goodL rs && mostB lo && mostB hi
def btwV (rs : List (Int × Int)) (lo hi : Int) : Int := if okB rs lo hi then (cntF (leftF rs) lo.toNat (hi.toNat + 1 - lo.toNat) : Int) else 0
theorem okB_eq (rs : List (Int × Int)) (lo hi : Int) : okB rs lo hi = (okM rs lo && okM rs hi) := by unfold okB okM; cases goodL rs <;> cases mostB lo <;> cases mostB hi <;> rfl
theorem btwV_no {rs : List (Int × Int)} {lo hi : Int} (h : okB rs lo hi = false) : btwV rs lo hi = 0 := by rw [btwV, h]; rfl
theorem btwV_yes {rs : List (Int × Int)} {L M : Nat} (h : okB rs (L : Int) (M : Int) = true) : btwV rs (L : Int) (M : Int) = (cntF (leftF rs) L (M + 1 - L) : Int) := by
  rw [btwV, h, Int.toNat_natCast, Int.toNat_natCast]; rfl
theorem btw_cnt (rs : List (Int × Int)) (n : Int) : btwV rs 1 n = cntV rs n ∧ okB rs 1 n = okM rs n := by
  have h1 : mostB 1 = true := mostB_true.2 (by omega)
  have h2 : okB rs 1 n = okM rs n := by simp [okB, okM, h1]
  refine ⟨?_, h2⟩
  rw [btwV, cntV, h2]
  cases h : okM rs n with
  | false => rfl
  | true => rw [if_pos rfl, if_pos rfl, ← cntF_up]; rfl




end Go.Proofs.Ytbgoimhgmgldpaa
