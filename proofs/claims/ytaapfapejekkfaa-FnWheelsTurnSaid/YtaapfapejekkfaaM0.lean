import Derived.Test.YtaapfapejekkfaaB0
namespace Go.Proofs.Ytaapfapejekkfaa
open Go.RowKit
set_option linter.unusedVariables false
set_option linter.unusedSimpArgs false






set_option maxHeartbeats 800000 in
theorem markRuleS_c (A : Option Addr) (B n c : Nat) (xs : List Value) (w : World) (h0 : w.ownsRow B 69 2 (.slice A n c) n xs) (hn1 : n ≤ 1048576) :
    Calls Try.prog 174 #[.slice A n c, .int .i64 1] w fun en w' => en = .returned (.int .i64 (1 + 2 * (n : Int))) ∧ Marked w' B 69 2 (.slice A n c) n ∧ w.grownBy w' (Value.ownBlock (.slice A n c)) := by
  go_enter Try.func174, Try.ntmps174
  go_wp2
  go_loopw [1, 5] (fun q i wr => ∃ k : Nat, k ≤ n ∧ i = .int .i64 k ∧ q = .int .i64 (1 + 2 * (k : Int)) ∧ (∃ ys, wr.ownsRow B 69 2 (.slice A n c) n ys ∧ ∀ j, j < k * 2 → ys[j]? = some (.int .i64 (1 + (j : Int)))) ∧ w.grownBy wr (Value.ownBlock (.slice A n c))) (fun _ i _ => n - (intOf i).toNat)
  case atStart => exact ⟨0, Nat.zero_le _, rfl, rfl, ⟨_, h0, by omega⟩, World.grownBy.refl _ _⟩
  case round =>
    obtain ⟨k, hk, rfl, rfl, ⟨ys, hown, hys⟩, hgr⟩ := hrel
    have Hown := Lib.hid hown
    have Hys := Lib.hid hys
    have Hgr := Lib.hid hgr
    clear hown hys hgr h0
    by_cases hlt : k < n
    · obtain ⟨g, rfl, hB, hg⟩ := own_form Hown.out (by omega)
      obtain ⟨x0, hx0, hf0⟩ := own_get Hown.out (k * 2) (by omega)
      obtain ⟨x1, hx1, hf1⟩ := own_get Hown.out (k * 2 + 1) (by omega)
      go_wp2
      go_roundw
      case rel =>
        have h1 := Hown.out.stored (k * 2) (.int .i64 (1 + 2 * (k : Int)))
        have h2 := h1.1.stored (k * 2 + 1) (.int .i64 (1 + 2 * (k : Int) + 1))
        have hl : ys.length = n * 2 := Hown.out.1
        refine ⟨k + 1, by omega, by go_num, by go_num, ⟨_, h2.1, fun j hj => ?_⟩, grown_trans (grown_trans Hgr.out h1.2) h2.2⟩
        by_cases e1 : j = k * 2 + 1
        · subst e1; rw [List.getElem?_set_self (by rw [List.length_set]; omega)]; congr 2; omega
        · rw [List.getElem?_set_ne (by omega)]
          by_cases e2 : j = k * 2
          · subst e2; rw [List.getElem?_set_self (by omega)]; congr 2; omega
          · rw [List.getElem?_set_ne (by omega)]; exact Hys.out j (by omega)
      case measure => simp [intOf]; omega
    · have hkn : n ≤ k := by omega
      go_wp2
      go_ret
      refine ⟨by rw [show (n : Int) = (k : Int) by omega]; rfl, ⟨ys, Hown.out, fun j hj => Hys.out j (by omega)⟩, Hgr.out⟩

set_option maxHeartbeats 800000 in
theorem heldRuleS_c (A : Option Addr) (B n c : Nat) (w : World) (h0 : Marked w B 69 2 (.slice A n c) n) (hn1 : n ≤ 1048576) :
    Calls Try.prog 175 #[.slice A n c, .int .i64 1] w fun en w' => en = .returned (.int .i64 (1 + 2 * (n : Int))) ∧ w = w' := by
  obtain ⟨cells, hown, hc⟩ := h0
  have Hown := Lib.hid hown
  have Hc := Lib.hid hc
  clear hown hc
  go_enter Try.func175, Try.ntmps175
  go_wp2
  go_loop [1, 5] (fun q i => ∃ k : Nat, k ≤ n ∧ i = .int .i64 k ∧ q = .int .i64 (1 + 2 * (k : Int))) (fun _ i => n - (intOf i).toNat)
  case atStart => exact ⟨0, Nat.zero_le _, rfl, rfl⟩
  case round =>
    obtain ⟨k, hk, rfl, rfl⟩ := hrel
    by_cases hlt : k < n
    · obtain ⟨g, rfl, hB, hg⟩ := own_form Hown.out (by omega)
      have hx0 : w.cell? ⟨g, k * 2, none⟩ = some (.int .i64 (1 + 2 * (k : Int))) := (Hown.out.cellAt (k * 2) (by omega)).trans ((Hc.out (k * 2) (by omega)).trans (by congr 2; omega))
      have hx1 : w.cell? ⟨g, k * 2 + 1, none⟩ = some (.int .i64 (1 + 2 * (k : Int) + 1)) := (Hown.out.cellAt (k * 2 + 1) (by omega)).trans ((Hc.out (k * 2 + 1) (by omega)).trans (by congr 2; omega))
      have hne : ((1 + 2 * (k : Int)) != 1 + 2 * (k : Int)) = false := by simp
      have hne1 : ((1 + 2 * (k : Int) + 1) != 1 + 2 * (k : Int) + 1) = false := by simp
      go_wp2
      go_round
      case rel => exact ⟨k + 1, by omega, by go_num, by go_num⟩
      case measure => simp [intOf]; omega
    · have hkn : n ≤ k := by omega
      go_wp2
      go_ret
      exact ⟨by rw [show (n : Int) = (k : Int) by omega]; rfl, rfl⟩
theorem OwnR.kept {w w' : World} {B g : Nat} {v : Value} {xs : List (Int × Int)} (h : OwnR w B v xs) (hg : w.grownBy w' (some g)) (hB : g < B) : OwnR w' B v xs :=
  World.ownsRow.kept h hg (by
    cases hv : v.ownBlock with
    | none => exact .inl rfl
    | some k => exact .inr fun e => by injection e with e; have := (World.ownsRow.lt h k hv).1; omega)
theorem OwnR.own_n {w : World} {B n : Nat} {v : Value} {rs : List (Int × Int)} (h : OwnR w B v rs) (hn : n = rs.length) : w.ownsRow B 69 2 v n (cellsR rs) := by subst hn; exact h
theorem OwnR.shape {w : World} {B : Nat} {v : Value} {xs : List (Int × Int)} (h : OwnR w B v xs) : ∃ A c, v = .slice A xs.length c := by
  rcases h.2 with ⟨e, h0⟩ | ⟨g, cap, cur, e, _⟩
  · exact ⟨none, 0, by rw [e, h0]⟩
  · exact ⟨_, _, e⟩
theorem OwnR.mono {w : World} {B B' : Nat} {v : Value} {xs : List (Int × Int)} (h : OwnR w B v xs) (hB : B' ≤ B) : OwnR w B' v xs := by
  refine ⟨h.1, ?_⟩
  rcases h.2 with h2 | ⟨g, cap, cur, e, hg, r⟩
  · exact .inl h2
  · exact .inr ⟨g, cap, cur, e, Nat.le_trans hB hg, r⟩
theorem Rl_of_own' {w : World} {B c : Nat} {A : Option Addr} {rs : List (Int × Int)} (h : OwnR w B (.slice A rs.length c) rs) : Rl w A rs := Rl_of_own h rfl

end Go.Proofs.Ytaapfapejekkfaa
