import Derived.Test.YtmjjpgafecmljaaGH
import Derived.Laws.EntriesVeiled
namespace Go.Proofs.Ytmjjpgafecmljaa
open Go.RowKit
set_option linter.unusedVariables false
set_option linter.unusedSimpArgs false

set_option maxRecDepth 100000 in
set_option maxHeartbeats 1000000 in
theorem impl_CountWithout_c (w : World) (n k : Int) :
    Calls Try.prog 30 #[.int .i64 n, .int .i64 k] w fun en w' => en = .returned (.tuple #[.int .i64 (cwV n k), .bool (cwOk n k)]) ∧ Below w.heap.size w w' := by
  cases hg : inB n 0 10000 with
  | false =>
    have ho : cwOk n k = false := by simp [cwOk, *]
    rw [cwV_no ho, ho]
    clear ho
    go_enter Try.func30, Try.ntmps30
    go_wp2_with fail
    refine (isCounted_c _ _).mono ?_
    rintro e w1 ⟨rfl, rfl⟩
    go_wp2
    go_ret2
    exact ⟨rfl, (Below.refl _ _)⟩
  | true =>
    cases hh : inB k 0 12 with
    | false =>
      have ho : cwOk n k = false := by simp [cwOk, *]
      rw [cwV_no ho, ho]
      clear ho
      go_enter Try.func30, Try.ntmps30
      go_wp2_with fail
      refine (isCounted_c _ _).mono ?_
      rintro e w1 ⟨rfl, rfl⟩
      go_wp2_with fail
      refine (isCountOfFirst_c _ _).mono ?_
      rintro e w2 ⟨rfl, rfl⟩
      go_wp2
      go_ret2
      exact ⟨rfl, (Below.refl _ _)⟩
    | true =>
      have ho : cwOk n k = true := by simp [cwOk, *]
      obtain ⟨n1, n2⟩ := inB_true.1 hg
      obtain ⟨k1, k2⟩ := inB_true.1 hh
      obtain ⟨K, rfl⟩ := Int.eq_ofNat_of_zero_le k1
      rw [cwV_yes ho, ho]
      clear ho
      have hmf : ∀ (fn : Fn) (first cap : Array Value) (w : World), (Instr.makeFunc fn first cap).run Try.prog w = .ok (.func fn first cap) w := fun _ _ _ _ => rfl
      have Hg := Lib.hid hg
      have Hh := Lib.hid hh
      go_enter Try.func30, Try.ntmps30
      go_wp2_with fail
      refine (isCounted_c _ _).mono ?_
      rintro e w1 ⟨rfl, rfl⟩
      go_wp2_with fail
      refine (isCountOfFirst_c _ _).mono ?_
      rintro e w2 ⟨rfl, rfl⟩
      go_wp2_with fail
      refine (firstPrimes_c _ K (by omega)).mono ?_
      rintro e w2 ⟨⟨g, c, rfl, hA1, hA2, hI⟩, b2⟩
      have HI := Lib.hid hI
      clear hI
      go_wp2_with fail
      refine (without_c (w2.heap.size + 1) w2.heap.size g c K (by omega) K n _ (Nat.le_refl _) n1 n2 (by simp) (by rw [World.cell?_alloc_past _ _ _ (by simp)]; simp) (fun j hj => by rw [World.cell?_alloc_past _ _ _ (by simp; omega), World.cell?_alloc_past _ _ _ (by simpa using hA2)]; exact HI.out j hj)).mono ?_
      rintro e w4 ⟨rfl, m4, rfl⟩
      clear hmf
      go_wp2
      go_ret2
      exact ⟨rfl, below_drewN ((b2.alloc b2.size _).alloc (by have := b2.size; simp; omega) _) _⟩

end Go.Proofs.Ytmjjpgafecmljaa
