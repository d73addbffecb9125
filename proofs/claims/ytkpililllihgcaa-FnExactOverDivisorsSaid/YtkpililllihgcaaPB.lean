import Derived.Test.YtkpililllihgcaaE0
namespace Go.Proofs.Ytkpililllihgcaa
open Go.RowKit
set_option linter.unusedVariables false
set_option linter.unusedSimpArgs false


set_option maxHeartbeats 800000 in
theorem markIntSk_c (A : Option Addr) (B n c : Nat) (xs : List Value) (w : World) (s : Int) (hs : 0 ≤ s ∧ s ≤ 4000000) (h0 : w.ownsRow B 3 1 (.slice A n c) n xs) (hn1 : n ≤ 1048576) :
    Calls Try.prog 22 #[.slice A n c, .int .i64 s] w fun en w' => en = .returned (.int .i64 (s + (n : Int))) ∧ w.grownBy w' (Value.ownBlock (.slice A n c)) := by
  go_enter Try.func22, Try.ntmps22
  go_wp2
  go_loopw [1, 5] (fun q i wr => ∃ k : Nat, k ≤ n ∧ i = .int .i64 k ∧ q = .int .i64 (s + (k : Int)) ∧ (∃ ys, wr.ownsRow B 3 1 (.slice A n c) n ys) ∧ w.grownBy wr (Value.ownBlock (.slice A n c))) (fun _ i _ => n - (intOf i).toNat)
  case atStart => exact ⟨0, Nat.zero_le _, rfl, by go_num, ⟨_, h0⟩, World.grownBy.refl _ _⟩
  case round =>
    obtain ⟨k, hk, rfl, rfl, ⟨ys, hown⟩, hgr⟩ := hrel
    have Hown := Lib.hid hown
    have Hgr := Lib.hid hgr
    clear hown hgr h0
    by_cases hlt : k < n
    · obtain ⟨g, rfl, hB, hg⟩ := own_form Hown.out (by omega)
      obtain ⟨x0, hx0, hf0⟩ := own_get Hown.out k (by omega)
      go_wp2
      go_roundw
      case rel =>
        have h1 := Hown.out.stored k (.int .i64 (s + (k : Int)))
        exact ⟨k + 1, by omega, by go_num, by go_num, ⟨_, h1.1⟩, grown_trans Hgr.out h1.2⟩
      case measure => simp [intOf]; omega
    · have hkn : n ≤ k := by omega
      go_wp2
      go_ret
      exact ⟨by rw [show (n : Int) = (k : Int) by omega]; rfl, Hgr.out⟩
end Go.Proofs.Ytkpililllihgcaa
