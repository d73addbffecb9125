import Derived.Test.YtaapfapejekkfaaG5
import Derived.Test.YtaapfapejekkfaaP0
namespace Go.Proofs.Ytaapfapejekkfaa
open Go.RowKit
set_option linter.unusedVariables false
set_option linter.unusedSimpArgs false

/-- A list of numbers filtered by a test on whole numbers. -/
theorem flF_filterZ {p q : Nat → Bool} {z : Int → Bool} {a k : Nat} (h : ∀ n : Nat, a ≤ n → n < a + k → z (n : Int) = q n) : (flF p a k).filter z = flF (fun n => p n && q n) a k := by
  rw [← flF_filter]
  apply List.filter_congr
  intro x hx
  obtain ⟨n, rfl, h1, h2, _⟩ := flF_mem.1 hx
  rw [h n h1 h2, Int.toNat_natCast]
theorem filter_take_yes {xs : List Int} {z : Int → Bool} {k : Nat} (hk : k < xs.length) (h : z (ivL xs k) = true) : (xs.take (k + 1)).filter z = (xs.take k).filter z ++ [ivL xs k] := by
  have e : ivL xs k = xs[k] := by simp [ivL, hk]
  rw [List.take_succ_eq_append_getElem hk, List.filter_append, ← e]
  simp [h]
theorem filter_take_no {xs : List Int} {z : Int → Bool} {k : Nat} (hk : k < xs.length) (h : z (ivL xs k) = false) : (xs.take (k + 1)).filter z = (xs.take k).filter z := by
  have e : ivL xs k = xs[k] := by simp [ivL, hk]
  rw [List.take_succ_eq_append_getElem hk, List.filter_append, ← e]
  simp [h]
theorem filter_take_len (xs : List Int) (z : Int → Bool) (k : Nat) : ((xs.take k).filter z).length ≤ xs.length :=
  Nat.le_trans (List.length_filter_le _ _) (List.length_take_le' _ _)
theorem filter_take_all {xs : List Int} {z : Int → Bool} {k : Nat} (h : ¬ k < xs.length) : (xs.take k).filter z = xs.filter z := by
  rw [List.take_of_length_le (by omega)]
theorem prB_at (lo hi k : Nat) (hk : k < (prB lo hi).length) : ∃ n : Nat, ivL (prB lo hi) k = (n : Int) ∧ lo ≤ n ∧ n ≤ hi ∧ primeB n = true := by
  have e : ivL (prB lo hi) k = (prB lo hi)[k] := by simp [ivL, hk]
  obtain ⟨n, h1, h2, h3, h4⟩ := flF_mem.1 (List.getElem_mem hk : (prB lo hi)[k] ∈ flF primeB lo (hi + 1 - lo))
  exact ⟨n, by rw [e, ← h1], h2, by omega, h4⟩

theorem isMostI_c (n : Int) (w : World) :
    Calls Try.prog 179 #[.int .i64 n] w fun e w' => e = .returned (.bool (inB n 0 600)) ∧ w = w' := isMost_c n w

/-- Twins: p and p + 2 are primes. -/
def twB (n : Nat) : Bool := primeB n && primeB (n + 2)
def twOk (m : Int) : Bool := inB m 0 600
def twA (m : Int) : List Int := if twOk m then flF twB 2 (m.toNat + 1 - 2) else []
theorem twA_no {m : Int} (h : twOk m = false) : twA m = [] := by rw [twA, h]; rfl
theorem twA_yes {m : Nat} (h : twOk (m : Int) = true) : twA (m : Int) = flF twB 2 (m + 1 - 2) := by rw [twA, h, Int.toNat_natCast]; rfl
theorem twA_len (m : Int) : (twA m).length ≤ 1048576 := by
  cases h : twOk m with
  | false => rw [twA_no h]; exact Nat.zero_le _
  | true =>
    rw [twA, h, if_pos rfl]
    have := flF_len twB 2 (m.toNat + 1 - 2)
    have := inB_true.1 h
    omega
def twZ (x : Int) : Bool := primeB (x + 2).toNat
theorem tw_filter (m : Nat) : (prB 2 m).filter twZ = flF twB 2 (m + 1 - 2) := flF_filterZ (q := fun n => primeB (n + 2)) fun n _ _ => rfl



end Go.Proofs.Ytaapfapejekkfaa
