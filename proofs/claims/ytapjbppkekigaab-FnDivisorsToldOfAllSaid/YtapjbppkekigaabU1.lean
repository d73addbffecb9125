import Derived.Test.YtapjbppkekigaabU0
import Derived.Test.YtapjbppkekigaabG1
namespace Go.Proofs.Ytapjbppkekigaab
open Go.RowKit
set_option linter.unusedVariables false
set_option linter.unusedSimpArgs false

theorem PartI.inn {N p n d : Nat} (h : PartI N p n d) (hm : n % (d * d) = 0) : PartI N (p * d) (n / (d * d)) d := by
  have hd := h.two
  have hD : 0 < d * d := Nat.mul_pos (by omega) (by omega)
  have he : n = d * d * (n / (d * d)) := by
    have := Nat.div_add_mod n (d * d)
    omega
  have hp : 1 ≤ n / (d * d) := by
    rcases Nat.eq_zero_or_pos (n / (d * d)) with h1 | h1
    · rw [h1] at he
      have := h.pos
      omega
    · exact h1
  refine ⟨hp, Nat.mul_pos h.part (by omega), hd, ?_, fun m h1 h2 h3 => h.none m h1 h2 ?_⟩
  · rw [h.eq]
    conv => lhs; rw [he]
    rw [← Nat.mul_assoc, Nat.mul_mul_mul_comm]
  · rw [he]
    exact Nat.dvd_trans h3 (Nat.dvd_mul_left _ _)
theorem PartI.out {N p n d : Nat} (h : PartI N p n d) (hm : n % (d * d) ≠ 0) : PartI N p n (d + 1) :=
  ⟨h.pos, h.part, by have := h.two; omega, h.eq, fun m h1 h2 h3 => by
    rcases Nat.lt_succ_iff_lt_or_eq.1 h2 with h4 | h4
    · exact h.none m h1 h4 h3
    · subst h4
      exact hm (Nat.mod_eq_zero_of_dvd h3)⟩
theorem sq_lt_of {d n b : Nat} (h : d * d ≤ n) (hn : n < b * b) : d < b := by
  rcases Nat.lt_or_ge d b with h1 | h1
  · exact h1
  · have := Nat.mul_le_mul h1 h1
    omega
theorem cast_sq {d D : Nat} (h : d * d = D) : (d : Int) * (d : Int) = (D : Int) := by rw [← h, Int.natCast_mul]
theorem cast_mul2 {a b D : Nat} (h : a * b = D) : (a : Int) * (b : Int) = (D : Int) := by rw [← h, Int.natCast_mul]






end Go.Proofs.Ytapjbppkekigaab
