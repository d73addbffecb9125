import Derived.Test.YtgkciiklgadgkaaGA
import Derived.Test.YtgkciiklgadgkaaK1
namespace Go.Proofs.Ytgkciiklgadgkaa
open Go.RowKit
set_option linter.unusedVariables false
set_option linter.unusedSimpArgs false

/-- The factors as lists of two numbers. -/
def flL (n : Nat) : List (List Int) := (facs n).map fun x => [(x.1 : Int), (x.2 : Int)]
theorem flL_yes {n : Nat} (h : 2 ≤ n) : flL n = [(leastF n : Int), (strK (leastF n) n : Int)] :: flL (strR (leastF n) n) := by rw [flL, facs_yes h]; rfl
theorem flL_no {n : Nat} (h : ¬ 2 ≤ n) : flL n = [] := by rw [flL, facs_no h]; rfl
theorem facs_len : ∀ (n : Nat), 1 ≤ n → 2 ^ (facs n).length ≤ n := by
  intro n
  induction n using Nat.strongRecOn with
  | ind n ih =>
    intro h1
    by_cases hn : 2 ≤ n
    · have hp := leastF_ge hn
      have hd := leastF_dvd n
      obtain ⟨f1, f2, f3, f4⟩ := str_facts hp n (by omega)
      have hk := str_pos hp (by omega) hd
      have h2 := ih _ (str_lt hp (by omega) hd) f1
      rw [facs_yes hn, List.length_cons, Nat.pow_succ]
      have h3 : 2 ≤ leastF n ^ strK (leastF n) n := by
        have := Nat.pow_le_pow_right (show 0 < leastF n by omega) hk
        rw [Nat.pow_one] at this
        omega
      have h4 := Nat.mul_le_mul h3 h2
      rw [← f4] at h4
      omega
    · rw [facs_no hn]
      exact h1
theorem facs_len30 {n : Nat} (h1 : 1 ≤ n) (h : n ≤ 1000000000) : (facs n).length ≤ 29 := by
  have h2 := facs_len n h1
  rcases Nat.lt_or_ge (facs n).length 30 with h3 | h3
  · omega
  · have := Nat.pow_le_pow_right (show 0 < 2 by omega) h3
    omega
theorem flL_len {n : Nat} (h1 : 1 ≤ n) (h : n ≤ 1000000000) : (flL n).length ≤ 29 := by rw [flL, List.length_map]; exact facs_len30 h1 h
theorem flL_get {n i : Nat} (h : i < (facs n).length) : psL (flL n) i = [((facs n)[i].1 : Int), ((facs n)[i].2 : Int)] := by
  simp [psL, flL, h]
theorem flL_sum (n : Nat) : ∀ i, i ≤ (flL n).length → sumL (flL n) i = 2 * i
  | 0, _ => rfl
  | i + 1, h => by
    rw [sumL_succ (by omega), flL_sum n i (by omega), flL_get (by rw [flL, List.length_map] at h; omega)]
    rfl

/-- A literal of two ints. -/
theorem own_two (w : World) (B : Nat) (hB : B ≤ w.heap.size) (x y : Int) : OwnI (w.alloc (.cells #[.int .i64 x, .int .i64 y] 3)) B (.slice (some ⟨w.heap.size, 0, none⟩) 2 2) [x, y] :=
  OwnI.mono (World.ownsRow_lit w #[.int .i64 x, .int .i64 y] 2 (Nat.le_refl _) (by unfold maxLen; omega) rfl : (w.alloc (.cells #[.int .i64 x, .int .i64 y] 3)).ownsRow w.heap.size 3 1 _ 2 _) hB


end Go.Proofs.Ytgkciiklgadgkaa
