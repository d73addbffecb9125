import Derived.Test.YtjoklbkbggdlgaaOS
namespace Go.Proofs.Ytjoklbkbggdlgaa
open Go.RowKit
set_option maxRecDepth 100000
set_option linter.unusedVariables false
set_option linter.unusedSimpArgs false

theorem upV_lenS (rs : List (Int × Int)) (n : Int) : (upV rs n).length ≤ 1048576 := by
  rw [upV]
  split
  · rename_i h
    have h1 := (okM_most h).2
    exact Nat.le_trans (upF_len _ _) (by omega)
  · exact Nat.zero_le _
theorem Il_atS {w : World} {b off : Nat} {xs : List Int} (h : Il w (some ⟨b, off, none⟩) xs) (hp : 0 < xs.length) : b < w.heap.size ∧ ∀ k, k < xs.length → w.cell? ⟨b, off + k, none⟩ = some (.int .i64 (ivL xs k)) := by
  obtain ⟨b', off', e, h1, h2⟩ := h hp
  cases e
  exact ⟨h1, h2⟩
/-- What FnSievesLeave asks of rules and of numbers up to one. -/
theorem sl_all {rs : List (Int × Int)} {n : Int} (h : okM rs n = true) : ∃ (M : Nat) (XS : List Int), n = (M : Int) ∧ M ≤ 600 ∧ goodL rs = true ∧ upV rs n = XS ∧ cntV rs n = (XS.length : Int) ∧
    (∀ k, k < XS.length → 1 ≤ ivL XS k ∧ ivL XS k ≤ (M : Int) ∧ ∀ j, k = j + 1 → ivL XS j < ivL XS k) ∧
    (∀ k : Nat, 1 ≤ k → k ≤ M → ∃ B : Bool, okN rs (k : Int) = true ∧ isLeftV rs (k : Int) = B ∧ firstOk rs (k : Int) = !B ∧ hasF XS (k : Int) = B ∧ (B = false → ∃ F, F < rs.length ∧ firstV rs (k : Int) = (F : Int) ∧ (k : Int) % evL rs F = reL rs F ∧ 2 ≤ evL rs F)) ∧
    (∀ k, k < XS.length → rankOk rs (k : Int) = true ∧ rankV rs (k : Int) = ivL XS k) ∧
    (∀ k, k + 1 < XS.length → nextOk rs (ivL XS k) = true ∧ nextV rs (ivL XS k) = ivL XS (k + 1)) ∧
    (∀ k, k < rs.length → ∃ YS : List Int, okC rs (k : Int) (M : Int) = true ∧ crossV rs (k : Int) (M : Int) = YS ∧ YS.length ≤ 1048576 ∧ totC rs M (k + 1) = totC rs M k + YS.length ∧ (∀ j, j < YS.length → 1 ≤ ivL YS j ∧ ivL YS j ≤ (M : Int) ∧ ∀ i, j = i + 1 → ivL YS i < ivL YS j)) ∧
    (totC rs M rs.length + XS.length = M) ∧ (∀ k, totC rs M k ≤ M) := by
  have hM := okM_most h
  have hg : goodL rs = true := by rw [okM, Bool.and_eq_true] at h; exact h.1
  have hmb : mostB n = true := by rw [okM, Bool.and_eq_true] at h; exact h.2
  obtain ⟨m0, m6⟩ := mostB_true.1 hmb
  obtain ⟨M, rfl⟩ := Int.eq_ofNat_of_zero_le m0
  have hM6 : M ≤ 600 := by omega
  refine ⟨M, upF (leftF rs) M, rfl, hM6, hg, upV_yes h, by rw [cntV, h, if_pos rfl, Int.toNat_natCast], upF_rises _ _, ?_, fun k hk => sl_rank hg hM6 hk, fun k hk => sl_next hg hM6 hk, ?_, totC_all rs M, totC_le rs M⟩
  · intro k k1 k2
    obtain ⟨a1, a2, a3, a4⟩ := sl_first hg k1 (by omega)
    exact ⟨leftF rs (k : Int), a1, a2, a3, sl_has k1 k2, a4⟩
  · intro k hk
    obtain ⟨b1, b2⟩ := sl_crossed hg hmb hk
    exact ⟨_, b1, b2, Nat.le_trans (upF_len _ _) (by omega), rfl, upF_rises _ _⟩

end Go.Proofs.Ytjoklbkbggdlgaa
