import Derived.Test.YtehppjdiegoeeaaZ3
import Derived.Test.YtehppjdiegoeeaaP9
namespace Go.Proofs.Ytehppjdiegoeeaa
open Go.RowKit
set_option linter.unusedVariables false
set_option linter.unusedSimpArgs false

theorem sfB_one : sfB 1 = true := (sfB_iff (Nat.le_refl _)).2 fun m hm h => by
  have := Nat.le_of_dvd (by omega) h
  have := Nat.mul_le_mul hm hm
  omega
theorem srF_rank : ∀ k, k ≤ 300 → (flF sfB 1 (srF k - 1)).length = k ∧ sfB (srF k) = true ∧ 1 ≤ srF k
  | 0, _ => ⟨rfl, sfB_one, Nat.le_refl _⟩
  | k + 1, hk => by
    obtain ⟨a, b, c⟩ := srF_rank k (by omega)
    have hle := srF_le hk
    have h1 := nsF_ge (srF k + 1)
    have hn : srF (k + 1) = nsF (srF k + 1) := rfl
    rw [hn] at hle ⊢
    obtain ⟨d, e⟩ := nsF_is (n := srF k + 1) (by omega)
    generalize nsF (srF k + 1) = n' at *
    generalize srF k = n at *
    refine ⟨?_, d, by omega⟩
    obtain ⟨j, rfl⟩ : ∃ j, n = j + 1 := ⟨n - 1, by omega⟩
    rw [show n' - 1 = (j + 1) + (n' - 1 - (j + 1)) by omega, flF_cut (fun m h2 h3 => e m (by omega) (by omega)), flF_yes (by rw [Nat.add_comm]; exact b)]
    rw [show j + 1 - 1 = j by omega] at a
    rw [List.length_append, a]
    rfl
theorem srF_at {k : Nat} (hk : k ≤ 300) : k < (flF sfB 1 600).length ∧ ivL (flF sfB 1 600) k = (srF k : Int) := by
  obtain ⟨a, b, c⟩ := srF_rank k hk
  have hle := srF_le hk
  have h := flF_at (p := sfB) (a := 1) (j := srF k - 1) (k := 600) (by rw [show 1 + (srF k - 1) = srF k by omega]; exact b) (by omega)
  rw [a, show 1 + (srF k - 1) = srF k by omega] at h
  obtain ⟨h1, h2⟩ := List.getElem?_eq_some_iff.1 h
  exact ⟨h1, by rw [ivL, List.getD_eq_getElem?_getD, h]; rfl⟩

set_option maxRecDepth 100000 in
set_option maxHeartbeats 400000 in
theorem askedUpTo1_isSquareFree_c (w : World) (bp : Nat) (hc : w.cell? ⟨bp, 0, none⟩ = some (.func (.func 35) #[] #[])) (n : Nat) (h1 : 1 ≤ n) (h9 : n ≤ 600) :
    Calls Try.prog 64 #[.int .i64 (n : Int), .pointer (some ⟨bp, 0, none⟩)] w fun en w' => en = .returned (.bool (sfB n)) ∧ Below w.heap.size w w' := by
  go_enter Try.func64, Try.ntmps64
  go_wp2_with fail
  refine (isSquareFree_c _ n h1 (by omega)).mono ?_
  rintro e w1 ⟨rfl, b1⟩
  go_wp2
  go_ret
  exact ⟨rfl, b1⟩
set_option maxRecDepth 100000 in
set_option maxHeartbeats 400000 in
theorem askedUpTo_isSquareFree_c (w : World) (K : Nat) (hK : K ≤ 600) :
    Calls Try.prog 51 #[.int .i64 (K : Int), .func (.func 35) #[] #[]] w fun en w' => (∃ v, en = .returned v ∧ OwnI w' w.heap.size v (flF sfB 1 K)) ∧ Below w.heap.size w w' := by
  have hmf : ∀ (fn : Fn) (first cap : Array Value) (w : World), (Instr.makeFunc fn first cap).run Try.prog w = .ok (.func fn first cap) w := fun _ _ _ _ => rfl
  have b0 : Below w.heap.size w (w.alloc (.cells #[.func (.func 35) #[] #[]] 45)) := (Below.refl _ _).alloc (Nat.le_refl _) _
  have hc0 : (w.alloc (.cells #[.func (.func 35) #[] #[]] 45)).cell? ⟨w.heap.size, 0, none⟩ = some (.func (.func 35) #[] #[]) := by simp
  have hs0 : w.heap.size < (w.alloc (.cells #[.func (.func 35) #[] #[]] 45)).heap.size := by simp
  have Hc := Lib.hid (takenAsked_c _ K hK sfB w.heap.size fun n n1 n9 W hW => askedUpTo1_isSquareFree_c W w.heap.size ((hW.cell (p := ⟨w.heap.size, 0, none⟩) hs0).trans hc0) n n1 (by omega))
  have B0 := Lib.hid b0
  have hsz := b0.size
  clear hc0 hs0 b0
  go_enter Try.func51, Try.ntmps51
  go_wp2_with fail
  refine Hc.out.mono ?_
  rintro e w1 ⟨⟨v, rfl, o1⟩, b1⟩
  go_wp2
  go_ret
  exact ⟨⟨_, rfl, OwnI.mono o1 hsz⟩, B0.out.trans (b1.mono hsz)⟩


set_option maxRecDepth 100000 in
set_option maxHeartbeats 400000 in
theorem impl_SquareFreeUpTo_c (w : World) (n : Int) :
    Calls Try.prog 21 #[.int .i64 n] w fun en w' => (∃ v, en = .returned (.tuple #[v, .bool (smOk n)]) ∧ OwnI w' w.heap.size v (suqV n)) ∧ Below w.heap.size w w' := by
  cases hg : smOk n with
  | false =>
    rw [suqV_no hg]
    have Hg : Hid (mostB n = false) := hg
    clear hg
    go_enter Try.func21, Try.ntmps21
    go_wp2_with fail
    refine (isMost_c _ _).mono ?_
    rw [Hg.out]
    rintro e w1 ⟨rfl, rfl⟩
    go_wp2
    go_ret2
    exact ⟨⟨_, rfl, OwnI.nil _ _⟩, Below.refl _ _⟩
  | true =>
    obtain ⟨n1, n9⟩ := inB_true.1 hg
    obtain ⟨M, rfl⟩ := Int.eq_ofNat_of_zero_le n1
    rw [suqV_yes hg]
    have Hg : Hid (mostB (M : Int) = true) := hg
    have M9 : M ≤ 600 := by omega
    clear hg n1 n9
    go_enter Try.func21, Try.ntmps21
    go_wp2_with fail
    refine (isMost_c _ _).mono ?_
    rw [Hg.out]
    rintro e w1 ⟨rfl, rfl⟩
    go_wp2_with fail
    refine (askedUpTo_isSquareFree_c _ M M9).mono ?_
    rintro e w2 ⟨⟨v, rfl, o2⟩, b2⟩
    go_wp2
    go_ret2
    exact ⟨⟨_, rfl, o2⟩, b2⟩


set_option maxRecDepth 100000 in
set_option maxHeartbeats 400000 in
theorem impl_SquareFreeOfRank_c (w : World) (n : Int) :
    Calls Try.prog 28 #[.int .i64 n] w fun en w' => en = .returned (.tuple #[.int .i64 (rkV n), .bool (rkOk n)]) ∧ Below w.heap.size w w' := by
  by_cases hg : 0 ≤ n
  rotate_left
  · skip
    have ho : rkOk n = false := inB_false.2 (by omega)
    rw [rkV_no ho, ho]
    clear ho
    go_enter Try.func28, Try.ntmps28
    go_wp2
    go_ret2
    exact ⟨rfl, (Below.refl _ _)⟩
  · skip
    by_cases hg2 : n ≤ 300
    rotate_left
    · skip
      have ho : rkOk n = false := inB_false.2 (by omega)
      rw [rkV_no ho, ho]
      clear ho
      go_enter Try.func28, Try.ntmps28
      go_wp2
      go_ret2
      exact ⟨rfl, (Below.refl _ _)⟩
    · skip
      have ho : rkOk n = true := inB_true.2 ⟨by omega, by omega⟩
      obtain ⟨k, rfl⟩ := Int.eq_ofNat_of_zero_le (show 0 ≤ n by omega)
      rw [rkV_yes ho, ho]
      clear ho
      obtain ⟨hk, hv0⟩ := srF_at (k := k) (by omega)
      have hc := fun W => askedUpTo_isSquareFree_c W 600 (Nat.le_refl _)
      rw [show ((600 : Nat) : Int) = 600 from rfl] at hc
      obtain ⟨L, hL⟩ : ∃ L, flF sfB 1 600 = L := ⟨_, rfl⟩
      rw [hL] at hk hv0 hc
      clear hL
      have Hc := Lib.hid hc
      have Hv := Lib.hid hv0
      clear hv0 hc
      obtain ⟨R, hR⟩ : ∃ R, srF k = R := ⟨_, rfl⟩
      rw [hR] at Hv ⊢
      clear hR
      go_enter Try.func28, Try.ntmps28
      go_wp2_with fail
      refine (Hc.out _).mono ?_
      rintro e w2 ⟨⟨v, rfl, o2⟩, b2⟩
      obtain ⟨A, c, rfl⟩ := o2.shape
      obtain ⟨b, off, rfl, hb, hr⟩ := Il_of_own o2 (by omega)
      have hck := hr k hk
      rw [Hv.out] at hck
      clear hr
      go_wp2
      go_ret2
      exact ⟨rfl, b2⟩

end Go.Proofs.Ytehppjdiegoeeaa
