import Derived.Test.YtoapidcbmlnjcaaI0
import Derived.Test.YtoapidcbmlnjcaaP4
namespace Go.Proofs.Ytoapidcbmlnjcaa
open Go.RowKit
set_option linter.unusedVariables false
set_option linter.unusedSimpArgs false

set_option maxRecDepth 100000 in
set_option maxHeartbeats 1600000 in
theorem gapsBetween_c (w : World) (A : Option Addr) (n c : Nat) (xs : List Int) (hA : Il w A xs) (hn : n = xs.length) (hl : n ≤ 300000) (hb : ∀ j, j < n → 0 ≤ ivL xs j ∧ ivL xs j ≤ 300000) :
    Calls Try.prog 72 #[.slice A n c] w fun en w' => (∃ v, en = .returned v ∧ OwnI w' w.heap.size v (dfL xs (n - 1))) ∧ Below w.heap.size w w' := by
  have HA := Lib.hid hA
  have Hn := Lib.hid hn
  have HB := Lib.hid hb
  have HY := Lib.hid (fun k => dfL_succ xs k)
  clear hA hn hb
  go_enter Try.func72, Try.ntmps72
  go_wp2
  go_loopw [3, 4] (fun v i wr => ∃ k K : Nat, K = k + 1 ∧ k ≤ n - 1 ∧ i = .int .i64 (K : Int) ∧ OwnI wr w.heap.size v (dfL xs k) ∧ Below w.heap.size w wr) (fun _ i _ => n + 1 - (intOf i).toNat)
  case atStart => exact ⟨0, 1, rfl, Nat.zero_le _, rfl, OwnI.nil _ _, Below.refl _ _⟩
  case round =>
    obtain ⟨k, K, hK, hk, rfl, hown, hbel⟩ := hrel
    have Hown := Lib.hid hown
    clear hown
    have hs := hbel.size
    have hKp : (K : Int) - 1 = (k : Int) := by omega
    have HK := Lib.hid hK
    by_cases hlt : K < n
    · obtain ⟨g, off, rfl, hg2, hcl⟩ := HA.out (by have := Hn.out; omega)
      have hc1 := (hbel.cell (p := ⟨g, off + K, none⟩) hg2).trans (hcl K (by have := Hn.out; omega))
      have hc0 := (hbel.cell (p := ⟨g, off + k, none⟩) hg2).trans (hcl k (by have := Hn.out; omega))
      have hu1 := HB.out K hlt
      have hu0 := HB.out k (by omega)
      have hy := HY.out k
      rw [← hK] at hy
      obtain ⟨X1, hX1⟩ : ∃ X1, ivL xs K = X1 := ⟨_, rfl⟩
      obtain ⟨X0, hX0⟩ : ∃ X0, ivL xs k = X0 := ⟨_, rfl⟩
      rw [hX1] at hc1 hu1 hy
      rw [hX0] at hc0 hu0 hy
      have Hy := Lib.hid hy
      have Hl := Lib.hid (show (dfL xs k).length ≤ 300000 by rw [dfL_len]; omega)
      have hni : (K : Int) < (n : Int) := by omega
      have hkS : (k : Int) < (n : Int) := by omega
      have hw0 : IntKind.i64.wrap (k : Int) = (k : Int) := IntWalk.i64_in _ (by omega)
      have hw1 : IntKind.i64.wrap (X1 - X0) = X1 - X0 := IntWalk.i64_in _ (by omega)
      clear hX1 hX0 hy hcl hK
      have hne := fun q hq => (World.ownsRow.lt Hown.out q hq).1
      have hb0 : (0 : Int) ≤ (k : Int) := Int.natCast_nonneg k
      have hb1 : (0 : Int) ≤ (K : Int) := Int.natCast_nonneg K
      go_wp2_with fail
      go_region_held3 (fun w' => w'.cell? ⟨g, off + K, none⟩ = some (.int .i64 X1) ∧ w'.cell? ⟨g, off + k, none⟩ = some (.int .i64 X0))
        (go_keep)
        (first | (refine step_app_int wr (by rfl) _ _ (by rfl) w.heap.size _ _ (by rfl) Hown.out (X1 - X0) (by rfl) (by have := Hl.out; omega) hs ?_; intro v' w6 hown6 hgr; have hq0 := hgr.cell hc1 (fun e => by have := hne _ e.symm; simp at this; omega); have hq1 := hgr.cell hc0 (fun e => by have := hne _ e.symm; simp at this; omega)))
      clear hw0 hw1
      go_wp2
      go_roundw
      case rel => exact ⟨K, K + 1, rfl, by omega, by go_num, by rw [Hy.out]; exact hown6, hbel.trans (below_of_grown hgr hs fun q hq => (World.ownsRow.lt Hown.out q hq).1)⟩
      case measure => simp [intOf]; omega
    · have Hk := Lib.hid (show k = n - 1 by omega)
      have hni : (n : Int) ≤ (K : Int) := by omega
      clear hK
      go_wp2
      go_ret
      exact ⟨⟨_, rfl, by rw [← Hk.out]; exact Hown.out⟩, hbel⟩

end Go.Proofs.Ytoapidcbmlnjcaa
