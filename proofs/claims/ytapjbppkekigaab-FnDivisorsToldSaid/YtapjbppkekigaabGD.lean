import Derived.Test.YtapjbppkekigaabGC
namespace Go.Proofs.Ytapjbppkekigaab
open Go.RowKit Go.Maps
set_option linter.unusedVariables false
set_option linter.unusedSimpArgs false

theorem fks_keys {D : DataW Unit} {N : Nat} (h1 : 1 ≤ N) (h : KeysD D (pf N)) : KeysD D (fks N) := h.of_mem fun x => mem_pf h1
theorem fks_len (N : Nat) : (fks N).length = (facs N).length := List.length_map _
theorem flL_fst {N i : Nat} (h : i < (flL N).length) : (psL (flL N) i).length = 2 ∧ ∃ (h2 : i < (fks N).length), ivL (psL (flL N) i) 0 = ((fks N)[i] : Int) := by
  have hl : i < (facs N).length := by rw [flL, List.length_map] at h; exact h
  rw [flL_get hl]
  refine ⟨rfl, by rw [fks_len]; exact hl, ?_⟩
  simp [ivL, fks]
theorem prodL_take {l : List Nat} {i : Nat} (h : i < l.length) : prodL (l.take (i + 1)) = prodL (l.take i) * l[i] := by
  rw [List.take_succ_eq_append_getElem h, prodL_snoc]
theorem prodL_take_le {l : List Nat} (hp : ∀ x ∈ l, 1 ≤ x) : ∀ (d i : Nat), i + d = l.length → prodL (l.take i) ≤ prodL l
  | 0, i, h => by rw [List.take_of_length_le (by omega)]; exact Nat.le_refl _
  | d + 1, i, h => by
    have h1 := prodL_take_le hp d (i + 1) (by omega)
    have h2 := prodL_take (l := l) (i := i) (by omega)
    have h3 := hp l[i] (List.getElem_mem _)
    have h4 := Nat.le_mul_of_pos_right (prodL (l.take i)) (show 0 < l[i] by omega)
    omega


/-- Whether a number is smooth for a bound. -/
def smB (N : Nat) (b : Int) : Bool := decide (∀ p ∈ fks N, (p : Int) ≤ b)
theorem smB_no {N p : Nat} {b : Int} (h : p ∈ fks N) (h2 : b < (p : Int)) : smB N b = false := decide_eq_false fun hh => by have := hh p h; omega
theorem smB_yes {N : Nat} {b : Int} (h : ∀ p ∈ fks N, (p : Int) ≤ b) : smB N b = true := decide_eq_true h

def raOk (n : Int) : Bool := inB n 1 1000000000
def raV (n : Int) : Int := if raOk n then (prodL (fks n.toNat) : Int) else 0
theorem raV_no {n : Int} (h : raOk n = false) : raV n = 0 := by rw [raV, h]; rfl
theorem raV_yes {n : Nat} (h : raOk (n : Int) = true) : raV (n : Int) = (prodL (fks n) : Int) := by rw [raV, h, Int.toNat_natCast]; rfl

end Go.Proofs.Ytapjbppkekigaab
