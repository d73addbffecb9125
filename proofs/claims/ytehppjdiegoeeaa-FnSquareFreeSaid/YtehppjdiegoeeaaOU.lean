import Derived.Test.YtehppjdiegoeeaaOQ
import Derived.Test.YtehppjdiegoeeaaP2
import Derived.Test.YtehppjdiegoeeaaO0
import Derived.Test.YtehppjdiegoeeaaY0
namespace Go.Proofs.Ytehppjdiegoeeaa
open Go.RowKit
set_option maxRecDepth 100000
set_option linter.unusedVariables false
set_option linter.unusedSimpArgs false

theorem ivL_getU {xs : List Int} {k : Nat} (h : k < xs.length) : ivL xs k = xs[k] := by simp [ivL, h]
theorem div100 (k : Nat) : (100000 : Int) / (k : Int) = ((100000 / k : Nat) : Int) := by rw [Int.natCast_ediv]; rfl
/-! What FnSquareFree asks of one number, of the numbers up to one, and of signs of products. -/
theorem sq_all {N : Nat} (h1 : 1 ≤ N) (h9 : N ≤ 100000) : ∃ P K X D Q C : Nat, ∃ (S : Int) (SB : Bool),
    ((sqG N = P ∧ prodL (fks N) = K ∧ nsF (N + 1) = X ∧ sgF N = S ∧ csS N (rtF N) = (C : Int) ∧ sfB N = SB) ∧
    ((P : Int) * (P : Int) = (D : Int) ∧ (N : Int) % (D : Int) = 0 ∧ (N : Int) / (D : Int) = (Q : Int) ∧ (N : Int) % (K : Int) = 0) ∧
    (1 ≤ D ∧ D ≤ N ∧ 1 ≤ Q ∧ Q ≤ 100000 ∧ 1 ≤ K ∧ K ≤ N ∧ 1 ≤ P ∧ N < X ∧ X ≤ 100003 ∧ C ≤ 100003 ∧ -1 ≤ S ∧ S ≤ 1) ∧
    (sfB Q = true ∧ sfB K = true ∧ ((P : Int) = 1 ↔ SB = true) ∧ ((K : Int) = (N : Int) ↔ SB = true) ∧ (S ≠ 0 ↔ SB = true)) ∧
    (X ≤ 100000 → sfB X = true ∧ csS X (rtF X) = (C : Int) + 1)) := by
  obtain ⟨a1, a2, a3, a4, a5⟩ := sf_rest h1
  obtain ⟨b1, b2, b3, b4⟩ := sf_next (n := N) (by omega)
  obtain ⟨c1, c2, c3⟩ := ker_free h1
  have d1 := rad_dvd h1
  have d2 := sgF_bound N
  have e1 := sf_count (n := N) (by omega)
  have e2 := flF_len sfB 1 N
  refine ⟨sqG N, prodL (fks N), nsF (N + 1), sqG N * sqG N, N / (sqG N * sqG N), (flF sfB 1 N).length, sgF N, sfB N, ⟨rfl, rfl, rfl, rfl, e1, rfl⟩, ⟨by push_cast; rfl, by exact_mod_cast a1, by push_cast; rfl, by exact_mod_cast d1⟩, ⟨Nat.mul_pos a5 a5, ?_, a2, by omega, c2, c3, a5, b1, b2, by omega, d2.1, d2.2⟩, ⟨a4, c1, ?_, ?_, ?_⟩, ?_⟩
  · exact Nat.le_of_dvd h1 (Nat.dvd_of_mod_eq_zero a1)
  · rw [sfB, beq_iff_eq]; omega
  · rw [sf_kernel h1]; omega
  · exact (sf_sign h1).symm
  · intro hX
    refine ⟨b3, ?_⟩
    rw [sf_count (by omega), b4]
    push_cast; rfl
theorem sg_of {N m : Nat} {S : Int} (h1 : 1 ≤ N) (hS : sgF N = S) (m1 : 1 ≤ m) (m6 : m ≤ 6) (hg : gcdF (N : Int) (m : Int) = 1) : sgF m * S = sgF (N * m) := by
  rw [← hS]
  refine sg_times h1 m1 m6 ?_
  rw [gcdF, Int.toNat_natCast, Int.toNat_natCast] at hg
  exact_mod_cast hg

/-- What is asked of the list of the square-free numbers. -/
theorem sq_list {M : Nat} (h9 : M ≤ 600) : ∃ (XS : List Int) (R F : Nat) (T : Int),
    ((flF sfB 1 M = XS ∧ (lsS M).1 = R ∧ (lsS M).2.1 = F ∧ sgS M = T) ∧
    (XS.length ≤ M ∧ R ≤ M ∧ F ≤ M ∧ -(XS.length : Int) ≤ T ∧ T ≤ (XS.length : Int) ∧ ((XS.length : Int) - T) % 2 = 0) ∧
    (∀ k, k < XS.length → 1 ≤ ivL XS k ∧ ivL XS k ≤ (M : Int) ∧ ∀ j, k = j + 1 → ivL XS j < ivL XS k) ∧
    (0 < R → 1 ≤ F ∧ F + R ≤ M + 1) ∧ (∀ k, k < R → hasF XS ((F : Int) + (k : Int)) = false) ∧
    (csS M (rtF M) = (XS.length : Int)) ∧ (∀ k, k < XS.length → k ≤ 300 → ivL XS k = rkV (k : Int) ∧ rkOk (k : Int) = true)) := by
  obtain ⟨a1, a2, a3⟩ := sl_par M
  obtain ⟨b1, b2, b3⟩ := ls_inv M
  obtain ⟨c1, c2, c3⟩ := lsS_le M
  have e1 := sf_count (n := M) (by omega)
  have e2 := flF_len sfB 1 M
  have hr := flF_strict sfB 1 M
  refine ⟨flF sfB 1 M, (lsS M).1, (lsS M).2.1, sgS M, ⟨rfl, rfl, rfl, rfl⟩, ⟨e2, c1, c2, a1, a2, a3⟩, ?_, fun h => ⟨(b3 h).1, (b3 h).2.1⟩, ?_, e1, ?_⟩
  · intro k hk
    have hm : ivL (flF sfB 1 M) k ∈ flF sfB 1 M := by rw [ivL_getU hk]; exact List.getElem_mem hk
    obtain ⟨n, hn, n1, n2, _⟩ := flF_mem.1 hm
    refine ⟨by omega, by omega, fun j hj => ?_⟩
    subst hj
    rw [ivL_getU hk, ivL_getU (by omega : j < _)]
    exact (List.pairwise_iff_getElem.1 hr) j (j + 1) (by omega) hk (by omega)
  · intro k hk
    obtain ⟨f1, f2, f3⟩ := b3 (by omega)
    have hz := f3 ((lsS M).2.1 + k) (by omega) (by omega)
    by_cases hb : (lsS M).2.1 + k ≤ M
    · have := hasF_flF (p := sfB) (a := 1) (k := M) (n := (lsS M).2.1 + k) (by omega) (by omega)
      rw [hz] at this
      exact_mod_cast this
    · omega
  · intro k hk h3
    have hok : rkOk (k : Int) = true := inB_true.2 (by omega)
    exact ⟨by rw [rkV_yes hok]; exact sr_list hk h3, hok⟩

end Go.Proofs.Ytehppjdiegoeeaa
