import Derived.Test.YtgkciiklgadgkaaT0
import Derived.IntWalk
namespace Go.Proofs.Ytgkciiklgadgkaa
open Go.RowKit
set_option linter.unusedVariables false
set_option linter.unusedSimpArgs false

theorem rp_index (k : Nat) (w : World) (hk : k < 6) :
    (Instr.index 84 (.agg #[.int .i64 2, .int .i64 3, .int .i64 5, .int .i64 7, .int .i64 11, .int .i64 13]) (.int .i64 (k : Int))).run Try.prog w = .ok (.int .i64 (rpF k : Int)) w := by
  have h := Try.underlying84
  match k, hk with
  | 0, _ => simp [Instr.index, run_underlying h, asIntOf, go_sem, rpF]
  | 1, _ => simp [Instr.index, run_underlying h, asIntOf, go_sem, rpF]
  | 2, _ => simp [Instr.index, run_underlying h, asIntOf, go_sem, rpF]
  | 3, _ => simp [Instr.index, run_underlying h, asIntOf, go_sem, rpF]
  | 4, _ => simp [Instr.index, run_underlying h, asIntOf, go_sem, rpF]
  | 5, _ => simp [Instr.index, run_underlying h, asIntOf, go_sem, rpF]
set_option maxRecDepth 100000 in
theorem rePrime_c (k : Nat) (w : World) (hk : k < 6) :
    Calls Try.prog 42 #[.int .i64 (k : Int)] w fun e w' => e = .returned (.int .i64 (rpF k : Int)) ∧ w = w' := by
  have hi := fun W => rp_index k W hk
  obtain ⟨v, hv⟩ : ∃ v, (rpF k : Int) = v := ⟨_, rfl⟩
  rw [hv] at hi ⊢
  clear hv
  go_enter Try.func42, Try.ntmps42
  go_wp2
  go_ret
  exact ⟨rfl, rfl⟩

set_option maxRecDepth 100000 in
set_option maxHeartbeats 400000 in
theorem reIs_c (p : Int) (w : World) :
    Calls Try.prog 65 #[.int .i64 p] w fun e w' => e = .returned (.bool (reB p)) ∧ w = w' := by
  go_enter Try.func65, Try.ntmps65
  go_wp2
  go_loop [3] (fun i => ∃ k : Nat, k ≤ 6 ∧ i = .int .i64 (k : Int) ∧ (∀ j, j < k → (rpF j : Int) ≠ p)) (fun i => 6 - (intOf i).toNat)
  case atStart => exact ⟨0, Nat.zero_le _, rfl, fun j hj => by omega⟩
  case round =>
    obtain ⟨k, hk, rfl, hall⟩ := hrel
    have Hall := Lib.hid hall
    clear hall
    by_cases hlt : k < 6
    · obtain ⟨x, hx⟩ : ∃ x, rpF k = x := ⟨_, rfl⟩
      by_cases hp : (x : Int) = p
      · have Hy := Lib.hid ((reB_iff (p := p)).2 ⟨k, hlt, by rw [hx]; exact hp.symm⟩)
        have hb : ((x : Int) == p) = true := beq_iff_eq.2 hp
        go_wp2_with fail
        refine (rePrime_c k _ hlt).mono ?_
        rw [hx]
        rintro e w' ⟨rfl, rfl⟩
        clear hp hx
        go_wp2
        go_ret
        exact ⟨by rw [Hy.out]; rfl, rfl⟩
      · have Hall2 := Lib.hid (fun j (hj : j < k + 1) => show (rpF j : Int) ≠ p by
          rcases Nat.lt_succ_iff_lt_or_eq.1 hj with h | h
          · exact Hall.out j h
          · rw [h, hx]; exact hp)
        have hb : ((x : Int) == p) = false := beq_eq_false_iff_ne.2 hp
        go_wp2_with fail
        refine (rePrime_c k _ hlt).mono ?_
        rw [hx]
        rintro e w' ⟨rfl, rfl⟩
        clear hp hx
        go_wp2
        go_round
        case rel => exact ⟨k + 1, by omega, by go_num, Hall2.out⟩
        case measure => simp [intOf]; omega
    · have Hy := Lib.hid (reB_no (p := p) fun j hj => Hall.out j (by omega))
      go_wp2
      go_ret
      exact ⟨by rw [Hy.out]; rfl, rfl⟩


end Go.Proofs.Ytgkciiklgadgkaa
