import Derived.Test.YtehppjdiegoeeaaG0
namespace Go.Proofs.Ytehppjdiegoeeaa
open Go.RowKit
set_option linter.unusedVariables false
set_option linter.unusedSimpArgs false

set_option maxRecDepth 100000 in
set_option maxHeartbeats 800000 in
theorem takenAsked_c (w : World) (K : Nat) (hK : K ≤ 600) (p : Nat → Bool) (bp : Nat)
    (hcl : ∀ n : Nat, 1 ≤ n → n ≤ K → ∀ W, Below w.heap.size w W → Calls Try.prog 64 #[.int .i64 (n : Int), .pointer (some ⟨bp, 0, none⟩)] W fun e W' => e = .returned (.bool (p n)) ∧ Below W.heap.size W W') :
    Calls Try.prog 63 #[.int .i64 (K : Int), .func (.func 64) #[] #[.pointer (some ⟨bp, 0, none⟩)]] w fun en w' => (∃ v, en = .returned v ∧ OwnI w' w.heap.size v (flF p 1 K)) ∧ Below w.heap.size w w' := by
  have Hcl := Lib.hid hcl
  clear hcl
  go_enter Try.func63, Try.ntmps63
  go_wp2
  go_loopw [5, 6] (fun v i wr => ∃ k : Nat, k ≤ K ∧ i = .int .i64 ((k : Int) + 1) ∧ OwnI wr w.heap.size v (flF p 1 k) ∧ Below w.heap.size w wr) (fun _ i _ => K + 1 - (intOf i).toNat)
  case atStart => exact ⟨0, Nat.zero_le _, rfl, OwnI.nil _ _, Below.refl _ _⟩
  case round =>
    obtain ⟨k, hk, rfl, hown, hbel⟩ := hrel
    have Hown := Lib.hid hown
    clear hown
    have hs := hbel.size
    by_cases hlt : k < K
    · have hul := flF_len p 1 k
      have Hc := Lib.hid (Hcl.out (1 + k) (by omega) (by omega) _ hbel)
      rw [show ((1 + k : Nat) : Int) = (k : Int) + 1 by omega] at Hc
      cases hl : p (1 + k) with
      | true =>
        have Hy := Lib.hid (flF_yes hl)
        rw [hl] at Hc
        clear hl
        go_wp2_with fail
        refine Hc.out.mono ?_
        rintro e w5 ⟨rfl, b5⟩
        have Hown5 := Lib.hid (OwnI.below Hown.out b5)
        have hb5 := hbel.trans (b5.mono hs)
        have hs5 := hb5.size
        go_wp2_with (at_builtin; refine wp_app_int _ rfl _ _ rfl w.heap.size _ _ rfl Hown5.out _ rfl (by omega) hs5 ?_; intro v' w6 hown6 b6)
        go_roundw
        case rel => exact ⟨k + 1, by omega, by go_num, by rw [Hy.out, Nat.add_comm 1 k]; exact hown6, hb5.trans b6⟩
        case measure => simp [intOf]; omega
      | false =>
        have Hy := Lib.hid (flF_no hl)
        rw [hl] at Hc
        clear hl
        go_wp2_with fail
        refine Hc.out.mono ?_
        rintro e w5 ⟨rfl, b5⟩
        have Hown5 := Lib.hid (OwnI.below Hown.out b5)
        go_wp2
        go_roundw
        case rel => exact ⟨k + 1, by omega, by go_num, by rw [Hy.out]; exact Hown5.out, hbel.trans (b5.mono hs)⟩
        case measure => simp [intOf]; omega
    · have hkK : k = K := by omega
      subst hkK
      go_wp2
      go_ret
      exact ⟨⟨_, rfl, Hown.out⟩, hbel⟩

end Go.Proofs.Ytehppjdiegoeeaa
