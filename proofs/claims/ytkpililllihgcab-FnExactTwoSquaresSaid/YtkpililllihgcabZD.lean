import Derived.Test.YtkpililllihgcabZC
import Derived.Test.YtkpililllihgcabZ2
namespace Go.Proofs.Ytkpililllihgcab
open Go.RowKit
set_option linter.unusedVariables false
set_option linter.unusedSimpArgs false

theorem tsA_len (n : Int) : (tsA n).length ≤ 1048576 ∧ sumL (tsA n) (tsA n).length ≤ 1048576 := by
  cases h : sqOk n with
  | false => rw [tsA_no h]; exact ⟨Nat.zero_le _, Nat.zero_le _⟩
  | true =>
    obtain ⟨n1, n9⟩ := inB_true.1 h
    obtain ⟨N, rfl⟩ := Int.eq_ofNat_of_zero_le (Int.le_trans (by omega) n1)
    rw [tsA_yes h]
    have h1 := tsL_len N (rtF (N / 2) + 1)
    have h2 := rtF_lt (n := N / 2) (by omega)
    have h3 := sum2 (tsL_two N (rtF (N / 2) + 1)) _ (Nat.le_refl _)
    omega
set_option maxRecDepth 100000 in
set_option maxHeartbeats 400000 in
theorem upTo_TwoSquares_c (w : World) (n : Int) :
    Calls Try.prog 72 #[.int .i64 n, .int .i64 100000, .func (.func 56) #[] #[]] w fun en w' => (∃ v, en = .returned (.tuple #[v, .bool (sqOk n)]) ∧ FlatLL w' w.heap.size v (tsA n)) ∧ Below w.heap.size w w' := by
  by_cases h1 : 1 ≤ n
  · by_cases h2 : n ≤ 100000
    · have hg : sqOk n = true := inB_true.2 ⟨h1, h2⟩
      obtain ⟨N, rfl⟩ := Int.eq_ofNat_of_zero_le (show 0 ≤ n by omega)
      rw [tsA_yes hg, hg]
      have N1 : 1 ≤ N := by omega
      have N9 : N ≤ 200000 := by omega
      clear hg
      go_enter Try.func72, Try.ntmps72
      go_wp2_with fail
      refine (twoSquares_c _ N N1 N9).mono ?_
      rintro e w2 ⟨⟨v, rfl, o2⟩, b2⟩
      go_wp2
      go_ret2
      exact ⟨⟨_, rfl, o2⟩, b2⟩
    · have hg : sqOk n = false := inB_false.2 (by omega)
      rw [tsA_no hg, hg]
      clear hg
      go_enter Try.func72, Try.ntmps72
      go_wp2
      go_ret2
      exact ⟨⟨_, rfl, FlatLL.nil _ _⟩, Below.refl _ _⟩
  · have hg : sqOk n = false := inB_false.2 (by omega)
    rw [tsA_no hg, hg]
    clear hg
    go_enter Try.func72, Try.ntmps72
    go_wp2
    go_ret2
    exact ⟨⟨_, rfl, FlatLL.nil _ _⟩, Below.refl _ _⟩
set_option maxRecDepth 100000 in
set_option maxHeartbeats 400000 in
theorem told_TwoSquares_c (w : World) (n : Int) :
    Calls Try.prog 55 #[.int .i64 n, .func (.func 56) #[] #[]] w fun en w' => (∃ v, en = .returned (.tuple #[v, .bool (sqOk n)]) ∧ FlatLL w' w.heap.size v (tsA n)) ∧ Below w.heap.size w w' := by
  go_enter Try.func55, Try.ntmps55
  go_wp2_with fail
  refine (upTo_TwoSquares_c _ _).mono ?_
  rintro e w2 ⟨⟨v, rfl, o2⟩, b2⟩
  go_wp2
  go_ret2
  exact ⟨⟨_, rfl, o2⟩, b2⟩
theorem impl_TwoSquares_c (w : World) (n : Int) :
    Calls Try.prog 26 #[.int .i64 n] w fun en w' => (∃ v, en = .returned (.tuple #[v, .bool (sqOk n)]) ∧ FlatLL w' w.heap.size v (tsA n)) ∧ Below w.heap.size w w' := by
  go_enter Try.func26, Try.ntmps26
  go_wp2_with fail
  refine (told_TwoSquares_c _ _).mono ?_
  rintro e w2 ⟨⟨v, rfl, o2⟩, b2⟩
  go_wp2
  go_ret2
  exact ⟨⟨_, rfl, o2⟩, b2⟩

end Go.Proofs.Ytkpililllihgcab
