import Derived.Test.YtapjbppkekigaabJ3
import Derived.Test.YtapjbppkekigaabPA
namespace Go.Proofs.Ytapjbppkekigaab
open Go.RowKit
set_option linter.unusedVariables false
set_option linter.unusedSimpArgs false

set_option maxRecDepth 100000 in
set_option maxHeartbeats 400000 in
theorem sortedDivisors_c (w : World) (N : Nat) (h1 : 1 ≤ N) (h9 : N ≤ 4000000000) :
    Calls Try.prog 30 #[.int .i64 (N : Int)] w fun en w' => (∃ v, en = .returned v ∧ OwnI w' w.heap.size v (dvD N)) ∧ Below w.heap.size w w' := by
  have Hd := Lib.hid (fun W => divs_c W N h1 h9)
  have HC := Lib.hid (dvI_sort h1)
  have hl := dvI_len N (rtF N)
  have hr := rtF_four h9
  obtain ⟨L, hL⟩ : ∃ L, dvI N (rtF N) = L := ⟨_, rfl⟩
  rw [hL] at HC Hd hl
  have Hl := Lib.hid (show L.length ≤ 1048576 by omega)
  clear hL hl
  go_enter Try.func30, Try.ntmps30
  go_wp2_with fail
  refine (Hd.out _).mono ?_
  rintro e w2 ⟨⟨v, rfl, o2⟩, b2⟩
  rcases o2.form with ⟨rfl, h0⟩ | ⟨g, c, rfl, hg1, hg2, hg3⟩
  · have HE := Lib.hid (show dvD N = [] by rw [← HC.out, h0, List.mergeSort_nil])
    clear h0 o2
    go_wp2_with fail
    refine (Try.slices_Sort_int_none _ _ _).mono ?_
    rintro e w3 ⟨rfl, rfl⟩
    go_wp2
    go_ret
    exact ⟨⟨_, rfl, by rw [HE.out]; exact OwnI.nil _ _⟩, b2⟩
  · have Ho := Lib.hid o2
    clear o2
    go_wp2_with fail
    refine (sort_own Ho.out Hl.out).mono ?_
    rintro e w3 ⟨rfl, o3, gr⟩
    have Ho3 := Lib.hid o3
    clear o3
    go_wp2
    go_ret
    exact ⟨⟨_, rfl, by rw [← HC.out]; exact Ho3.out⟩, b2.grown gr b2.size (fun j hj => by cases hj; exact hg1)⟩
def tdL (V : Nat → List Int) (n : Int) (M : Nat) : List Int := if inB n 1 (M : Int) then V n.toNat else []
theorem tdL_no {V : Nat → List Int} {n : Int} {M : Nat} (h : inB n 1 (M : Int) = false) : tdL V n M = [] := by rw [tdL, h]; rfl
theorem tdL_yes {V : Nat → List Int} {n M : Nat} (h : inB (n : Int) 1 (M : Int) = true) : tdL V (n : Int) M = V n := by rw [tdL, h, Int.toNat_natCast]; rfl
set_option maxRecDepth 100000 in
set_option maxHeartbeats 400000 in
theorem toldL_c (w : World) (n : Int) (M : Nat) (hM : M ≤ 4000000000) (f : Nat) (V : Nat → List Int) (hcf : ∀ (args : Array Value) (w : World), Sem.run Try.prog (callFunc f args) w = .ok (.enter f args) w)
    (hc : ∀ (W : World) (N : Nat), 1 ≤ N → N ≤ M → Calls Try.prog f #[.int .i64 (N : Int)] W fun en w' => (∃ v, en = .returned v ∧ OwnI w' W.heap.size v (V N)) ∧ Below W.heap.size W w') :
    Calls Try.prog 29 #[.int .i64 n, .int .i64 (M : Int), .func (.func f) #[] #[]] w fun en w' => (∃ v, en = .returned (.tuple #[v, .bool (inB n 1 (M : Int))]) ∧ OwnI w' w.heap.size v (tdL V n M)) ∧ Below w.heap.size w w' := by
  have Hc := Lib.hid hc
  clear hc
  by_cases h1 : 1 ≤ n
  · by_cases h2 : n ≤ (M : Int)
    · have hg : inB n 1 (M : Int) = true := inB_true.2 ⟨h1, h2⟩
      obtain ⟨N, rfl⟩ := Int.eq_ofNat_of_zero_le (show 0 ≤ n by omega)
      rw [tdL_yes hg, hg]
      have N1 : 1 ≤ N := by omega
      have N9 : N ≤ M := by omega
      clear hg
      go_enter Try.func29, Try.ntmps29
      go_wp2_with fail
      refine (Hc.out _ N N1 N9).mono ?_
      rintro e w2 ⟨⟨v, rfl, o2⟩, b2⟩
      go_wp2
      go_ret2
      exact ⟨⟨_, rfl, o2⟩, b2⟩
    · have hg : inB n 1 (M : Int) = false := inB_false.2 (by omega)
      rw [tdL_no hg, hg]
      clear hg
      go_enter Try.func29, Try.ntmps29
      go_wp2
      go_ret2
      exact ⟨⟨_, rfl, OwnI.nil _ _⟩, Below.refl _ _⟩
  · have hg : inB n 1 (M : Int) = false := inB_false.2 (by omega)
    rw [tdL_no hg, hg]
    clear hg
    go_enter Try.func29, Try.ntmps29
    go_wp2
    go_ret2
    exact ⟨⟨_, rfl, OwnI.nil _ _⟩, Below.refl _ _⟩
set_option maxRecDepth 100000 in
theorem impl_DivisorsOf_c (w : World) (n : Int) :
    Calls Try.prog 7 #[.int .i64 n] w fun en w' => (∃ v, en = .returned (.tuple #[v, .bool (dvOk n)]) ∧ OwnI w' w.heap.size v (dvA n)) ∧ Below w.heap.size w w' := by
  have Hc := Lib.hid (fun W => toldL_c W n 1000000 (by omega) 30 dvD (fun _ _ => rfl) fun W N a b => sortedDivisors_c W N a (by omega))
  go_enter Try.func7, Try.ntmps7
  go_wp2_with fail
  refine (Hc.out _).mono ?_
  rintro e w2 ⟨⟨v, rfl, o2⟩, b2⟩
  go_wp2
  go_ret2
  exact ⟨⟨_, rfl, o2⟩, b2⟩
end Go.Proofs.Ytapjbppkekigaab
