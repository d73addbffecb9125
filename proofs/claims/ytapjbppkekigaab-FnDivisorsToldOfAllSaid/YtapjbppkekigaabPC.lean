import Derived.Test.YtapjbppkekigaabE0
namespace Go.Proofs.Ytapjbppkekigaab
open Go.RowKit
set_option linter.unusedVariables false
set_option linter.unusedSimpArgs false

def tdV (V : Nat → Int) (n : Int) (M : Nat) : Int := if inB n 1 (M : Int) then V n.toNat else 0
theorem tdV_no {V : Nat → Int} {n : Int} {M : Nat} (h : inB n 1 (M : Int) = false) : tdV V n M = 0 := by rw [tdV, h]; rfl
theorem tdV_yes {V : Nat → Int} {n M : Nat} (h : inB (n : Int) 1 (M : Int) = true) : tdV V (n : Int) M = V n := by rw [tdV, h, Int.toNat_natCast]; rfl
set_option maxRecDepth 100000 in
set_option maxHeartbeats 400000 in
theorem toldI_c (w : World) (n : Int) (M : Nat) (hM : M ≤ 4000000000) (f : Nat) (V : Nat → Int) (hcf : ∀ (args : Array Value) (w : World), Sem.run Try.prog (callFunc f args) w = .ok (.enter f args) w)
    (hc : ∀ (W : World) (N : Nat), 1 ≤ N → N ≤ M → Calls Try.prog f #[.int .i64 (N : Int)] W fun en w' => en = .returned (.int .i64 (V N)) ∧ Below W.heap.size W w') :
    Calls Try.prog 33 #[.int .i64 n, .int .i64 (M : Int), .func (.func f) #[] #[]] w fun en w' => en = .returned (.tuple #[.int .i64 (tdV V n M), .bool (inB n 1 (M : Int))]) ∧ Below w.heap.size w w' := by
  have Hc := Lib.hid hc
  clear hc
  by_cases h1 : 1 ≤ n
  · by_cases h2 : n ≤ (M : Int)
    · have hg : inB n 1 (M : Int) = true := inB_true.2 ⟨h1, h2⟩
      obtain ⟨N, rfl⟩ := Int.eq_ofNat_of_zero_le (show 0 ≤ n by omega)
      rw [tdV_yes hg, hg]
      have N1 : 1 ≤ N := by omega
      have N9 : N ≤ M := by omega
      clear hg
      go_enter Try.func33, Try.ntmps33
      go_wp2_with fail
      refine (Hc.out _ N N1 N9).mono ?_
      rintro e w2 ⟨rfl, b2⟩
      go_wp2
      go_ret2
      exact ⟨rfl, b2⟩
    · have hg : inB n 1 (M : Int) = false := inB_false.2 (by omega)
      rw [tdV_no hg, hg]
      clear hg
      go_enter Try.func33, Try.ntmps33
      go_wp2
      go_ret2
      exact ⟨rfl, Below.refl _ _⟩
  · have hg : inB n 1 (M : Int) = false := inB_false.2 (by omega)
    rw [tdV_no hg, hg]
    clear hg
    go_enter Try.func33, Try.ntmps33
    go_wp2
    go_ret2
    exact ⟨rfl, Below.refl _ _⟩
def tdB (V : Nat → Bool) (n : Int) (M : Nat) : Bool := inB n 1 (M : Int) && V n.toNat
theorem tdB_no {V : Nat → Bool} {n : Int} {M : Nat} (h : inB n 1 (M : Int) = false) : tdB V n M = false := by rw [tdB, h]; rfl
theorem tdB_yes {V : Nat → Bool} {n M : Nat} (h : inB (n : Int) 1 (M : Int) = true) : tdB V (n : Int) M = V n := by rw [tdB, h, Int.toNat_natCast]; rfl
end Go.Proofs.Ytapjbppkekigaab
