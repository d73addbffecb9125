import Derived.Test.YtehppjdiegoeeaaE0
namespace Go.Proofs.Ytehppjdiegoeeaa
open Go.RowKit
set_option linter.unusedVariables false
set_option linter.unusedSimpArgs false

def tdV (V : Nat → Int) (n : Int) (M : Nat) : Int := if inB n 1 (M : Int) then V n.toNat else 0
theorem tdV_no {V : Nat → Int} {n : Int} {M : Nat} (h : inB n 1 (M : Int) = false) : tdV V n M = 0 := by rw [tdV, h]; rfl
theorem tdV_yes {V : Nat → Int} {n M : Nat} (h : inB (n : Int) 1 (M : Int) = true) : tdV V (n : Int) M = V n := by rw [tdV, h, Int.toNat_natCast]; rfl
set_option maxRecDepth 100000 in
set_option maxHeartbeats 400000 in
theorem toldI_c (w : World) (n : Int) (M : Nat) (hM : M ≤ 4000000000) (f : Nat) (V : Nat → Int) (hcf : ∀ (args : Array Value) (w : World), Sem.run Try.prog (callFunc f args) w = .ok (.enter f args) w)
    (hc : ∀ (W : World) (N : Nat), 1 ≤ N → N ≤ M → Calls Try.prog f #[.int .i64 (N : Int)] W fun en w' => en = .returned (.int .i64 (V N)) ∧ Below W.heap.size W w') :
    Calls Try.prog 59 #[.int .i64 n, .int .i64 (M : Int), .func (.func f) #[] #[]] w fun en w' => en = .returned (.tuple #[.int .i64 (tdV V n M), .bool (inB n 1 (M : Int))]) ∧ Below w.heap.size w w' := by
  have Hc := Lib.hid hc
  clear hc
  by_cases h1 : 1 ≤ n
  · by_cases h2 : n ≤ (M : Int)
    · have hg : inB n 1 (M : Int) = true := inB_true.2 ⟨h1, h2⟩
      obtain ⟨N, rfl⟩ := Int.eq_ofNat_of_zero_le (show 0 ≤ n by omega)
      rw [tdV_yes hg, hg]
      have N1 : 1 ≤ N := by omega
      have N9 : N ≤ M := by omega
      clear hg
      go_enter Try.func59, Try.ntmps59
      go_wp2_with fail
      refine (Hc.out _ N N1 N9).mono ?_
      rintro e w2 ⟨rfl, b2⟩
      go_wp2
      go_ret2
      exact ⟨rfl, b2⟩
    · have hg : inB n 1 (M : Int) = false := inB_false.2 (by omega)
      rw [tdV_no hg, hg]
      clear hg
      go_enter Try.func59, Try.ntmps59
      go_wp2
      go_ret2
      exact ⟨rfl, Below.refl _ _⟩
  · have hg : inB n 1 (M : Int) = false := inB_false.2 (by omega)
    rw [tdV_no hg, hg]
    clear hg
    go_enter Try.func59, Try.ntmps59
    go_wp2
    go_ret2
    exact ⟨rfl, Below.refl _ _⟩
def tdB (V : Nat → Bool) (n : Int) (M : Nat) : Bool := inB n 1 (M : Int) && V n.toNat
theorem tdB_no {V : Nat → Bool} {n : Int} {M : Nat} (h : inB n 1 (M : Int) = false) : tdB V n M = false := by rw [tdB, h]; rfl
theorem tdB_yes {V : Nat → Bool} {n M : Nat} (h : inB (n : Int) 1 (M : Int) = true) : tdB V (n : Int) M = V n := by rw [tdB, h, Int.toNat_natCast]; rfl
set_option maxRecDepth 100000 in
set_option maxHeartbeats 400000 in
theorem toldB_c (w : World) (n : Int) (M : Nat) (hM : M ≤ 4000000000) (f : Nat) (V : Nat → Bool) (hcf : ∀ (args : Array Value) (w : World), Sem.run Try.prog (callFunc f args) w = .ok (.enter f args) w)
    (hc : ∀ (W : World) (N : Nat), 1 ≤ N → N ≤ M → Calls Try.prog f #[.int .i64 (N : Int)] W fun en w' => en = .returned (.bool (V N)) ∧ Below W.heap.size W w') :
    Calls Try.prog 58 #[.int .i64 n, .int .i64 (M : Int), .func (.func f) #[] #[]] w fun en w' => en = .returned (.tuple #[.bool (tdB V n M), .bool (inB n 1 (M : Int))]) ∧ Below w.heap.size w w' := by
  have Hc := Lib.hid hc
  clear hc
  by_cases h1 : 1 ≤ n
  · by_cases h2 : n ≤ (M : Int)
    · have hg : inB n 1 (M : Int) = true := inB_true.2 ⟨h1, h2⟩
      obtain ⟨N, rfl⟩ := Int.eq_ofNat_of_zero_le (show 0 ≤ n by omega)
      rw [tdB_yes hg, hg]
      have N1 : 1 ≤ N := by omega
      have N9 : N ≤ M := by omega
      clear hg
      go_enter Try.func58, Try.ntmps58
      go_wp2_with fail
      refine (Hc.out _ N N1 N9).mono ?_
      rintro e w2 ⟨rfl, b2⟩
      go_wp2
      go_ret2
      exact ⟨rfl, b2⟩
    · have hg : inB n 1 (M : Int) = false := inB_false.2 (by omega)
      rw [tdB_no hg, hg]
      clear hg
      go_enter Try.func58, Try.ntmps58
      go_wp2
      go_ret2
      exact ⟨rfl, Below.refl _ _⟩
  · have hg : inB n 1 (M : Int) = false := inB_false.2 (by omega)
    rw [tdB_no hg, hg]
    clear hg
    go_enter Try.func58, Try.ntmps58
    go_wp2
    go_ret2
    exact ⟨rfl, Below.refl _ _⟩
set_option maxRecDepth 100000 in
set_option maxHeartbeats 400000 in
theorem sumTold_c (w : World) (n : Int) (f : Nat) (V S : Nat → Int) (hcf : ∀ (args : Array Value) (w : World), Sem.run Try.prog (callFunc f args) w = .ok (.enter f args) w)
    (h0 : S 0 = 0) (hSs : ∀ k, S (k + 1) = S k + V (k + 1)) (hSb : ∀ k, k ≤ 600 → -1000000000 ≤ S k ∧ S k ≤ 1000000000)
    (hc : ∀ (W : World) (N : Nat), 1 ≤ N → N ≤ 600 → Calls Try.prog f #[.int .i64 (N : Int)] W fun en w' => en = .returned (.int .i64 (V N)) ∧ Below W.heap.size W w') :
    Calls Try.prog 53 #[.int .i64 n, .func (.func f) #[] #[]] w fun en w' => en = .returned (.tuple #[.int .i64 (tdV S n 600), .bool (inB n 1 600)]) ∧ Below w.heap.size w w' := by
  have Hc := Lib.hid hc
  have HSs := Lib.hid hSs
  have HSb := Lib.hid hSb
  have H0 := Lib.hid h0
  clear hc hSs hSb h0
  by_cases h1 : 1 ≤ n
  · by_cases h2 : n ≤ 600
    · have hg : inB n 1 ((600 : Nat) : Int) = true := inB_true.2 ⟨h1, h2⟩
      obtain ⟨N, rfl⟩ := Int.eq_ofNat_of_zero_le (show 0 ≤ n by omega)
      rw [tdV_yes hg, show inB (N : Int) 1 600 = true from hg]
      have N1 : 1 ≤ N := by omega
      have N9 : N ≤ 600 := by omega
      clear hg
      go_enter Try.func53, Try.ntmps53
      go_wp2
      go_loopw [6, 7] (fun v i wr => ∃ k : Nat, k ≤ N ∧ i = .int .i64 ((k : Int) + 1) ∧ v = .int .i64 (S k) ∧ Below w.heap.size w wr) (fun _ i _ => 603 - (intOf i).toNat)
      case atStart => exact ⟨0, Nat.zero_le _, rfl, by rw [H0.out], Below.refl _ _⟩
      case round =>
        obtain ⟨k, hk, rfl, rfl, hbel⟩ := hrel
        have hs := hbel.size
        by_cases hlt : k < N
        · have hb := HSb.out k (by omega)
          have hb1 := HSb.out (k + 1) (by omega)
          have hst := HSs.out k
          have Hc1 := Lib.hid (fun W => Hc.out W (k + 1) (by omega) (by omega))
          rw [show ((k + 1 : Nat) : Int) = (k : Int) + 1 by omega] at Hc1
          obtain ⟨X, hX⟩ : ∃ X, S k = X := ⟨_, rfl⟩
          obtain ⟨Y, hY⟩ : ∃ Y, V (k + 1) = Y := ⟨_, rfl⟩
          rw [hX, hY] at hst
          rw [hX] at hb ⊢
          rw [hY] at Hc1
          rw [hst] at hb1
          have Hst := Lib.hid hst
          clear hst hX hY
          go_wp2_with fail
          refine (Hc1.out _).mono ?_
          rintro e w1 ⟨rfl, b1⟩
          go_wp2
          go_roundw
          case rel => exact ⟨k + 1, by omega, by go_num, by rw [Hst.out], hbel.trans (b1.mono hs)⟩
          case measure => simp [intOf]; omega
        · have Hk := Lib.hid (show k = N by omega)
          go_wp2
          go_ret2
          exact ⟨by rw [← Hk.out]; rfl, hbel⟩
    · have hg : inB n 1 ((600 : Nat) : Int) = false := inB_false.2 (by omega)
      rw [tdV_no hg, show inB n 1 600 = false from hg]
      clear hg
      go_enter Try.func53, Try.ntmps53
      go_wp2
      go_ret2
      exact ⟨rfl, Below.refl _ _⟩
  · have hg : inB n 1 ((600 : Nat) : Int) = false := inB_false.2 (by omega)
    rw [tdV_no hg, show inB n 1 600 = false from hg]
    clear hg
    go_enter Try.func53, Try.ntmps53
    go_wp2
    go_ret2
    exact ⟨rfl, Below.refl _ _⟩
end Go.Proofs.Ytehppjdiegoeeaa
