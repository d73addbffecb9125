import Derived.Test.YtbgoimhgmgldpaaDoorL0
import Derived.Test.YtbgoimhgmgldpaaDoorR1
namespace Go.Proofs.YtbgoimhgmgldpaaDoor
open Go.RowKit Go.ChangeShapes Go.WideShapes Go.ChangeAt
set_option maxRecDepth 100000
set_option linter.unusedVariables false
set_option linter.unusedSimpArgs false

/-- A block of its own with two values: a puzzle, a rule. -/
def BoxP (w : World) (g : Nat) (u v : Value) : Prop := w.cell? ⟨g, 0, none⟩ = some u ∧ w.cell? ⟨g, 1, none⟩ = some v ∧ g < w.heap.size
theorem BoxP.below {w w' : World} {g : Nat} {u v : Value} (h : BoxP w g u v) (hb : Below w.heap.size w w') : BoxP w' g u v :=
  ⟨(hb.cell (p := ⟨g, 0, none⟩) h.2.2).trans h.1, (hb.cell (p := ⟨g, 1, none⟩) h.2.2).trans h.2.1, Nat.lt_of_lt_of_le h.2.2 hb.size⟩
theorem BoxP.new (w : World) (u v : Value) (t : TypeId) : BoxP (w.alloc (.cells #[u, v] t)) w.heap.size u v := ⟨by simp, by simp, by simp⟩
theorem BoxP.grown {w w' : World} {g : Nat} {u v : Value} {o : Option Nat} (h : BoxP w g u v) (gr : w.grownBy w' o) (ho : ∀ q, o = some q → g + 1 ≤ q) : BoxP w' g u v := by
  have hb : Below (g + 1) w w' := below_of_grown gr h.2.2 ho
  exact ⟨(hb.cell (p := ⟨g, 0, none⟩) (Nat.lt_succ_self g)).trans h.1, (hb.cell (p := ⟨g, 1, none⟩) (Nat.lt_succ_self g)).trans h.2.1, Nat.lt_of_lt_of_le h.2.2 hb.size⟩

section
variable {H : Type} {enc : TypeId × Value → H} {W : World} {base : Nat} {spare : Nat → Bool} {held : Bool} {r : Reach} {b0 : Nat}
theorem open_puzzle {v : Value} {d : DataW H} {p : List MemPlace} (hval : Value.okWide Tryd.prog W r b0 23 v) (h : DataW.Trod enc Tryd.prog W base spare held 23 v d p) :
    ∃ (s : ByteArray) (n : Int), v = .agg #[.string s, .int .i64 n] ∧ s.size ≤ maxLen := by
  obtain ⟨c0, c1, y0, y1, m, rfl, rfl, rfl, hy0, hy1⟩ := Go.Joins.open_agg2 Tryd.underlying23 (by kernel_rfl) (by kernel_rfl) hval h
  obtain ⟨s, e0, _, hs⟩ := DataW.trod_string Tryd.underlying9 hy0
  obtain ⟨q, e1, _, _⟩ := DataW.trod_int Tryd.underlying3 hy1
  simp at e0 e1
  subst e0 e1
  exact ⟨s, q, rfl, hs⟩
end
set_option maxHeartbeats 400000 in
theorem toPuzzle_c (s : ByteArray) (n : Int) (w : World) :
    Calls Tryd.prog 7 #[.agg #[.string s, .int .i64 n]] w fun en w' => en = .returned (.agg #[.string s, .int .i64 n]) ∧ Below w.heap.size w w' := by
  go_enter Tryd.func7, Tryd.ntmps7
  go_wp2
  exact bodyPost_ret (v := .agg #[.string s, .int .i64 n]) (by simp [results, Tryd.results7, go_sem]) rfl ⟨rfl, (((Below.refl _ _).alloc (Nat.le_refl _) _).alloc (by simp) _).alloc (by simp; omega) _⟩
set_option maxRecDepth 100000 in
set_option maxHeartbeats 400000 in
theorem szPuzzle_yes (s : ByteArray) (n : Int) (w : World) (hn : s.size ≤ 1048576) :
    Calls Tryd.prog 5 #[.agg #[.string s, .int .i64 n], .int .i64 1048576] w fun en w' => en = .returned (.int .i64 (1048576 - (s.size : Int))) ∧ Below w.heap.size w w' := by
  have h1 : ¬ (1048576 - (s.size : Int) < 0) := by omega
  go_enter Tryd.func5, Tryd.ntmps5
  go_wp2
  go_ret
  exact ⟨rfl, (Below.refl _ _).alloc (Nat.le_refl _) _⟩
set_option maxRecDepth 100000 in
set_option maxHeartbeats 400000 in
theorem szPuzzle_no (s : ByteArray) (n : Int) (w : World) (hm : s.size ≤ maxLen) (hn : ¬ s.size ≤ 1048576) :
    Calls Tryd.prog 5 #[.agg #[.string s, .int .i64 n], .int .i64 1048576] w fun en w' => en = .returned (.int .i64 (-1)) ∧ Below w.heap.size w w' := by
  unfold maxLen at hm
  have h1 : 1048576 - (s.size : Int) < 0 := by omega
  go_enter Tryd.func5, Tryd.ntmps5
  go_wp2
  go_ret
  exact ⟨rfl, (Below.refl _ _).alloc (Nat.le_refl _) _⟩
set_option maxRecDepth 100000 in
set_option maxHeartbeats 400000 in
theorem eqPuzzle_yes (s : ByteArray) (n : Int) (w : World) :
    Calls Tryd.prog 11 #[.agg #[.string s, .int .i64 n], .agg #[.string s, .int .i64 n]] w fun en w' => en = .returned (.bool true) ∧ Below w.heap.size w w' := by
  go_enter Tryd.func11, Tryd.ntmps11
  go_wp2
  go_ret
  exact ⟨rfl, ((Below.refl _ _).alloc (Nat.le_refl _) _).alloc (by simp) _⟩

end Go.Proofs.YtbgoimhgmgldpaaDoor
