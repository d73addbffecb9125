import Derived.Test.YtjblgohgkkfoiaaJ3
import Derived.Test.YtjblgohgkkfoiaaPC
import Derived.Test.YtjblgohgkkfoiaaY8
import Derived.Test.YtjblgohgkkfoiaaP0
namespace Go.Proofs.Ytjblgohgkkfoiaa
open Go.RowKit
set_option linter.unusedVariables false
set_option linter.unusedSimpArgs false

set_option maxRecDepth 100000 in
theorem impl_CountDivisors_c (w : World) (n : Int) :
    Calls Try.prog 13 #[.int .i64 n] w fun en w' => en = .returned (.tuple #[.int .i64 (cdV n), .bool (dvOk n)]) ∧ Below w.heap.size w w' := by
  have Hc := Lib.hid (fun W => toldI_c W n 1000000 (by omega) 25 (fun N => ((dvD N).length : Int)) (fun _ _ => rfl) fun W N a b => countDivisors_c W N a (by omega))
  go_enter Try.func13, Try.ntmps13
  go_wp2_with fail
  refine (Hc.out _).mono ?_
  rintro e w2 ⟨rfl, b2⟩
  go_wp2
  go_ret2
  exact ⟨rfl, b2⟩
set_option maxRecDepth 100000 in
theorem impl_SumStep_c (w : World) (n : Int) :
    Calls Try.prog 12 #[.int .i64 n] w fun en w' => en = .returned (.tuple #[.int .i64 (stpV n), .bool (dvOk n)]) ∧ Below w.heap.size w w' := by
  have Hc := Lib.hid (fun W => toldI_c W n 1000000 (by omega) 28 (fun N => dvS N - (N : Int)) (fun _ _ => rfl) fun W N a b => sumStep_c W N a (by omega))
  have Hv : Hid (tdV (fun N => dvS N - (N : Int)) n 1000000 = stpV n) := by
    show _ = _
    cases h : dvOk n with
    | false => rw [stpV_no h]; exact tdV_no h
    | true =>
      obtain ⟨n1, n9⟩ := inB_true.1 h
      obtain ⟨N, rfl⟩ := Int.eq_ofNat_of_zero_le (Int.le_trans (by omega) n1)
      rw [stpV_yes h]
      exact tdV_yes h
  rw [← Hv.out]
  go_enter Try.func12, Try.ntmps12
  go_wp2_with fail
  refine (Hc.out _).mono ?_
  rintro e w2 ⟨rfl, b2⟩
  go_wp2
  go_ret2
  exact ⟨rfl, b2⟩
end Go.Proofs.Ytjblgohgkkfoiaa
