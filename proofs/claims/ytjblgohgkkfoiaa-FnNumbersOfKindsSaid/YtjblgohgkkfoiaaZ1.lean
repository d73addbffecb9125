import Derived.Test.YtjblgohgkkfoiaaZ0
import Derived.Test.YtjblgohgkkfoiaaGD
import Derived.Test.YtjblgohgkkfoiaaU1
namespace Go.Proofs.Ytjblgohgkkfoiaa
open Go.RowKit Go.Maps
set_option linter.unusedVariables false
set_option linter.unusedSimpArgs false

theorem exF_le {N : Nat} (h1 : 1 ≤ N) (p : Nat) : exF N p ≤ N := by
  by_cases h : p ∈ pf N
  · obtain ⟨x, hx, rfl⟩ := fks_mem.1 ((mem_pf h1).1 h)
    rw [exF_of hx]
    exact (facs_lt N h1 x hx).2.2.2.2
  · rw [exF, List.count_eq_zero.2 h]; exact Nat.zero_le _
theorem CntsD.val {D : DataW Unit} {N p : Nat} {c : Int} (h : CntsD D (pf N)) (hat : ∀ zd, D.atKey (.int .i64 (p : Int)) zd = .lit (.int .i64 c)) : c = (exF N p : Int) := CntsD.at h (hat _)
theorem len_erase {p : Nat} {l : List Nat} (h : p ∈ l) : l.length = (l.erase p).length + 1 := by
  have := List.length_erase_of_mem h
  have := List.length_pos_of_mem h
  omega




end Go.Proofs.Ytjblgohgkkfoiaa
