import Derived.Test.YtgnmookklplnmaaV6
import Derived.Test.YtgnmookklplnmaaTA
import Derived.Lib.AppendZeros
namespace Go.Proofs.Ytgnmookklplnmaa
open Go.RowKit
set_option linter.unusedVariables false
set_option linter.unusedSimpArgs false

set_option maxRecDepth 100000 in
set_option maxHeartbeats 800000 in
theorem growNil_c (w : World) (n : Nat) (h1 : 1 ≤ n) (h2 : n ≤ 1048576) :
    Calls Try.prog 124 #[.slice none 0 0, .int .i64 (n : Int)] w fun en w' => (∃ v, en = .returned v ∧ OwnI w' w.heap.size v []) ∧ Below w.heap.size w w' := by
  obtain ⟨i0, hi, hz0, hz1, hz2⟩ := info_parts info_I
  have hap := fun ty => Lib.run_append_nil_zeros (P := Try.prog) w 22 3 ty 3 i0 (.int .i64 0) .i64 .i64 Try.underlying22 Try.underlying3 hi hz0 n h1 (by rw [hz1]; decide) (by omega) (by rw [hz2]; omega)
  have hge := grownCap_ge w n 0 3
  have hlm := grownCap_le_maxLen w n 0 3 (by unfold maxLen; omega)
  have hsz : (Builtin.zeroCells (Value.int .i64 0).cells n ++ Builtin.zeroCells (Value.int .i64 0).cells (grownCap w n 0 3 - n)).size = grownCap w n 0 3 := by
    rw [Array.size_append, size_zeroCells, size_zeroCells, show (Value.int .i64 0).cells.size = 1 from rfl]
    omega
  have hown := World.ownsRow_made (base := w.heap.size) (e := 3) (size := 1) w.drew (Builtin.zeroCells (Value.int .i64 0).cells n ++ Builtin.zeroCells (Value.int .i64 0).cells (grownCap w n 0 3 - n)) (grownCap w n 0 3) (Nat.le_refl _) hlm (by rw [hsz, Nat.mul_one])
  have hb : Below w.heap.size w (w.drew.alloc (.cells (Builtin.zeroCells (Value.int .i64 0).cells n ++ Builtin.zeroCells (Value.int .i64 0).cells (grownCap w n 0 3 - n)) 3)) := Below.alloc (below_drewN (Below.refl _ w) 1) (Nat.le_refl _) _
  have Hap := Lib.hid hap
  have Hown := Lib.hid hown
  have Hb := Lib.hid hb
  clear hap hown hb hsz hz0 hz1 hz2 hi
  generalize w.drew.alloc (.cells (Builtin.zeroCells (Value.int .i64 0).cells n ++ Builtin.zeroCells (Value.int .i64 0).cells (grownCap w n 0 3 - n)) 3) = W at Hap Hown Hb
  have hd : w.drew.heap.size = w.heap.size := rfl
  rw [hd] at Hown
  generalize grownCap w n 0 3 = C at Hap Hown hge hlm
  clear hd
  unfold maxLen at hlm
  go_enter Try.func124, Try.ntmps124
  go_wp2_with (at_builtin; refine Lib.wpList_append_run _ rfl _ _ _ _ rfl _ _ rfl rfl _ _ (Hap.out _) ?_)
  go_ret
  exact ⟨⟨_, rfl, Hown.out⟩, Hb.out⟩

def catF (ys : Nat → List Int) : Nat → List Int
  | 0 => []
  | i + 1 => catF ys i ++ ys i
set_option maxRecDepth 100000 in
set_option maxHeartbeats 1600000 in
theorem concat3_c (w : World) (h : Nat) (hh : h < w.heap.size) (b off k c : Nat → Nat) (ys : Nat → List Int) (hcell : ∀ i, i < 3 → w.cell? ⟨h, i, none⟩ = some (.slice (some ⟨b i, off i, none⟩) (k i) (c i))) (hk : ∀ i, i < 3 → k i = (ys i).length ∧ k i ≤ 1000 ∧ b i < w.heap.size)
    (hat : ∀ i, i < 3 → IsAt w (b i) (off i) (ys i)) (h0 : 1 ≤ k 0) :
    Calls Try.prog 118 #[.slice (some ⟨h, 0, none⟩) 3 3] w fun en w' => (∃ v, en = .returned v ∧ OwnI w' w.heap.size v (catF ys 3)) ∧ Below w.heap.size w w' := by
  have Hcell := Lib.hid hcell
  have Hk := Lib.hid hk
  have Hat := Lib.hid hat
  have Hl : Hid (∀ i, i ≤ 3 → (catF ys i).length ≤ 1000 * i) := by
    intro i
    induction i with
    | zero => intro _; exact Nat.le_refl _
    | succ i ih =>
      intro hi
      have := ih (by omega)
      have := hk i (by omega)
      rw [catF, List.length_append]
      omega
  have Hsu : Hid (∀ i, (catF ys (i + 1)).length = (catF ys i).length + (ys i).length) := fun i => by rw [catF, List.length_append]
  have Hpos : Hid (1 ≤ (catF ys 3).length) := by
    show 1 ≤ _
    have := hk 0 (by omega)
    rw [Hsu.out, Hsu.out, Hsu.out]
    omega
  clear hcell hk hat
  go_enter Try.func118, Try.ntmps118
  go_wp2
  go_loop [3, 11] (fun s i => ∃ j : Nat, j ≤ 3 ∧ i = .int .i64 (j : Int) ∧ s = .int .i64 ((catF ys j).length : Int)) (fun _ i => 3 - (intOf i).toNat)
  case atStart => exact ⟨0, by omega, rfl, rfl⟩
  case round =>
    obtain ⟨j, hj, rfl, rfl⟩ := hrel
    have hl1 := Hl.out j hj
    by_cases hlt : j < 3
    · have hcj := Hcell.out j hlt
      obtain ⟨k1, k2, _⟩ := Hk.out j hlt
      have Hs := Lib.hid (Hsu.out j)
      obtain ⟨L, hL⟩ : ∃ L, (catF ys j).length = L := ⟨_, rfl⟩
      rw [hL] at hl1 Hs ⊢
      clear hL
      have K1 := Lib.hid k1
      clear k1
      go_wp2
      go_round
      case rel => exact ⟨j + 1, by omega, by go_num, by rw [Hs.out, ← K1.out]; go_num⟩
      case measure => simp [intOf]; omega
    · have hj3 : j = 3 := by omega
      subst hj3
      obtain ⟨S, hS⟩ : ∃ S, (catF ys 3).length = S := ⟨_, rfl⟩
      have hp := Hpos.out
      rw [hS] at hl1 hp ⊢
      clear hS
      go_wp2_with fail
      refine (growNil_c _ S (by omega) (by omega)).mono ?_
      rintro e w1 ⟨⟨v1, rfl, o1⟩, b1⟩
      have O1 := Lib.hid o1
      clear o1
      go_wp2
      go_loopw [6, 27] (fun v i wr => ∃ j : Nat, j ≤ 3 ∧ i = .int .i64 (j : Int) ∧ OwnI wr w.heap.size v (catF ys j) ∧ Below w.heap.size w wr) (fun _ i _ => 3 - (intOf i).toNat)
      case atStart => exact ⟨0, by omega, rfl, O1.out, b1⟩
      case round =>
        obtain ⟨q, hq, rfl, hown, hbel⟩ := hrel
        have Hown := Lib.hid hown
        clear hown
        have hs := hbel.size
        by_cases hltq : q < 3
        · have hcq := (hbel.cell (p := ⟨h, q, none⟩) hh).trans (Hcell.out q hltq)
          obtain ⟨k1, k2, k3⟩ := Hk.out q hltq
          have Hatq := Lib.hid (IsAt.below (Hat.out q hltq) k3 hbel)
          have Hll := Lib.hid (show (catF ys q).length + (ys q).length ≤ 1048576 by have := Hl.out q hq; omega)
          have K1 := Lib.hid k1
          clear k1
          go_wp2_with (at_builtin; refine wp_app_ints _ rfl _ _ rfl w.heap.size _ (catF ys q) rfl Hown.out (b q) (off q) _ _ (ys q) rfl K1.out Hatq.out Hll.out hs ?_; intro v2 w2 o2 g2; have b2 := hbel.trans (below_of_grown g2 hs (fun z hz => (World.ownsRow.lt Hown.out z hz).1)); have O2 := Lib.hid o2; clear o2)
          go_roundw
          case rel => exact ⟨q + 1, by omega, by go_num, O2.out, b2⟩
          case measure => simp [intOf]; omega
        · have hq3 : q = 3 := by omega
          subst hq3
          go_wp2
          go_ret
          exact ⟨⟨_, rfl, Hown.out⟩, hbel⟩

end Go.Proofs.Ytgnmookklplnmaa
