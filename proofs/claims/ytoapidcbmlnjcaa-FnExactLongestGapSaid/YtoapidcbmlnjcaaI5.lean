import Derived.Test.YtoapidcbmlnjcaaI4
import Derived.Test.YtoapidcbmlnjcaaSh
import Derived.Lib.Slices
namespace Go.Proofs.Ytoapidcbmlnjcaa
open Go.RowKit
set_option linter.unusedVariables false
set_option linter.unusedSimpArgs false

theorem maxOf_mxL (zs : List Int) : ∀ k, 0 < k → k ≤ zs.length → Lib.maxOf (zs.take k) = mxL zs k
  | 0, h, _ => absurd h (Nat.lt_irrefl _)
  | 1, _, _ => by rw [Lib.maxOf_one, mxL, mxL]; show ivL zs 0 = _; omega
  | k + 2, _, hk => by
    rw [Lib.maxOf_step zs (k + 1) (by omega) (by omega), maxOf_mxL zs (k + 1) (by omega) (by omega), mxL]
    show max _ (ivL zs (k + 1)) = _
    rfl

theorem mxL_bound {xs : List Int} {lo hi : Int} : ∀ {k}, 0 < k → (∀ i, i < k → lo ≤ ivL xs i ∧ ivL xs i ≤ hi) → lo ≤ mxL xs k ∧ mxL xs k ≤ hi := by
  intro k hk h
  obtain ⟨i, hi, e⟩ := mxL_at xs hk
  rw [e]
  exact h i hi
theorem dfL_at {xs : List Int} {k i : Nat} (h : i < k) : ivL (dfL xs k) i = ivL xs (i + 1) - ivL xs i := by simp [dfL, ivL, h]
set_option maxRecDepth 100000 in
set_option maxHeartbeats 800000 in
theorem longestRunBetween_c (w : World) (A : Option Addr) (n c : Nat) (xs : List Int) (hA : Il w A xs) (hn : n = xs.length) (hl : n ≤ 300000) (h2 : 2 ≤ n) (hb : ∀ j, j < n → 0 ≤ ivL xs j ∧ ivL xs j ≤ 300000) :
    Calls Try.prog 111 #[.slice A n c] w fun en w' => en = .returned (.int .i64 (mxL (dfL xs (n - 1)) (n - 1) - 1)) ∧ Below w.heap.size w w' := by
  have Hg := Lib.hid (gapsBetween_c w A n c xs hA hn hl hb)
  have hS := dfL_len xs (n - 1)
  have hmx := mxL_bound (xs := dfL xs (n - 1)) (lo := -300000) (hi := 300000) (k := n - 1) (by omega) fun i hi => by
    rw [dfL_at hi]
    have := hb i (by omega)
    have := hb (i + 1) (by omega)
    omega
  have hmo := maxOf_mxL (dfL xs (n - 1)) (n - 1) (by omega) (by omega)
  obtain ⟨S, hSe⟩ : ∃ S, n - 1 = S := ⟨_, rfl⟩
  have hS0 : 0 < S := by omega
  have hS9 : S ≤ 300000 := by omega
  obtain ⟨gs, hgs⟩ : ∃ gs, dfL xs (n - 1) = gs := ⟨_, rfl⟩
  rw [hgs] at Hg hS hmx hmo ⊢
  rw [hSe] at hS hmx hmo ⊢
  have HS := Lib.hid hS
  have Hmo := Lib.hid hmo
  obtain ⟨M, hM⟩ : ∃ M, mxL gs S = M := ⟨_, rfl⟩
  rw [hM] at Hmo hmx ⊢
  have hw : IntKind.i64.wrap (M - 1) = M - 1 := IntWalk.i64_in _ (by omega)
  clear hA hn hb hgs hSe hS hmo hM
  go_enter Try.func111, Try.ntmps111
  go_wp2_with fail
  refine Hg.out.mono ?_
  rintro e w2 ⟨⟨v2, rfl, o2⟩, b2⟩
  obtain ⟨A2, c2, rfl, hcl⟩ := own_row o2
  rw [HS.out] at hcl ⊢
  obtain ⟨g, rfl, _, hg2, hc⟩ := hcl hS0
  have Hc := Lib.hid hc
  clear o2 hcl hc
  go_wp2_with fail
  refine (Try.slices_Max_int g 0 S c2 gs _ hS0 (by rw [HS.out]; exact Nat.le_refl _) (by omega) (fun j hj => by rw [Nat.zero_add]; exact Hc.out j (by rw [← HS.out]; exact hj))).mono ?_
  rw [Hmo.out]
  rintro e w3 ⟨rfl, rfl⟩
  go_wp2
  go_ret
  exact ⟨rfl, b2⟩

end Go.Proofs.Ytoapidcbmlnjcaa
