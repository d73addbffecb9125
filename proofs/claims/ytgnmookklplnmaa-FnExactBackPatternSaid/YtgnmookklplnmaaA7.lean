import Derived.Test.YtgnmookklplnmaaA6
namespace Go.Proofs.Ytgnmookklplnmaa
open Go.RowKit
set_option linter.unusedVariables false
set_option linter.unusedSimpArgs false

def mostB (n : Int) : Bool := inB n 0 600
theorem mostB_true {n : Int} : mostB n = true ↔ 0 ≤ n ∧ n ≤ 600 := inB_true
theorem isMost_c (n : Int) (w : World) :
    Calls Try.prog 89 #[.int .i64 n] w fun en w' => en = .returned (.bool (mostB n)) ∧ w = w' := by
  by_cases h1 : 0 ≤ n
  · by_cases h2 : n ≤ 600
    · rw [show mostB n = true from inB_true.2 ⟨h1, h2⟩]
      go_enter Try.func89, Try.ntmps89
      go_wp2
      go_ret
      exact ⟨rfl, rfl⟩
    · rw [show mostB n = false from inB_false.2 (by omega)]
      go_enter Try.func89, Try.ntmps89
      go_wp2
      go_ret
      exact ⟨rfl, rfl⟩
  · rw [show mostB n = false from inB_false.2 (by omega)]
    go_enter Try.func89, Try.ntmps89
    go_wp2
    go_ret
    exact ⟨rfl, rfl⟩

def okM (rs : List (Int × Int)) (n : Int) : Bool := goodL rs && mostB n

/-- Of 1, .., k those with p, in order. -/
def upF (p : Int → Bool) (k : Nat) : List Int := ((List.range k).map fun i : Nat => (i : Int) + 1).filter p
theorem upF_succ (p : Int → Bool) (k : Nat) : upF p (k + 1) = if p ((k : Int) + 1) = true then upF p k ++ [(k : Int) + 1] else upF p k := by
  simp only [upF, List.range_succ, List.map_append, List.filter_append, List.map_cons, List.map_nil]
  cases h : p ((k : Int) + 1) <;> simp [h]
theorem upF_yes {p : Int → Bool} {k : Nat} (h : p ((k : Int) + 1) = true) : upF p (k + 1) = upF p k ++ [(k : Int) + 1] := by rw [upF_succ, if_pos h]
theorem upF_no {p : Int → Bool} {k : Nat} (h : p ((k : Int) + 1) = false) : upF p (k + 1) = upF p k := by rw [upF_succ, if_neg (by rw [h]; exact Bool.false_ne_true)]
theorem upF_len (p : Int → Bool) (k : Nat) : (upF p k).length ≤ k := Nat.le_trans (List.length_filter_le _ _) (by simp)

theorem OwnR.below {w w' : World} {B : Nat} {v : Value} {rs : List (Int × Int)} (h : OwnR w B v rs) (hb : Below w.heap.size w w') : OwnR w' B v rs := own_below h hb



end Go.Proofs.Ytgnmookklplnmaa
