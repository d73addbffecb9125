import Derived.Test.YtbgoimhgmgldpaaL0
import Derived.Test.YtbgoimhgmgldpaaR1
namespace Go.Proofs.Ytbgoimhgmgldpaa
open Go.RowKit Go.ChangeShapes Go.WideShapes Go.ChangeAt
set_option maxRecDepth 100000
set_option linter.unusedVariables false
set_option linter.unusedSimpArgs false

/-- A block of its own with two values: a puzzle, a rule. -/
def BoxP (w : World) (g : Nat) (u v : Value) : Prop := w.cell? ⟨g, 0, none⟩ = some u ∧ w.cell? ⟨g, 1, none⟩ = some v ∧ g < w.heap.size
theorem BoxP.below {w w' : World} {g : Nat} {u v : Value} (h : BoxP w g u v) (hb : Below w.heap.size w w') : BoxP w' g u v :=
  ⟨(hb.cell (p := ⟨g, 0, none⟩) h.2.2).trans h.1, (hb.cell (p := ⟨g, 1, none⟩) h.2.2).trans h.2.1, Nat.lt_of_lt_of_le h.2.2 hb.size⟩
theorem BoxP.new (w : World) (u v : Value) (t : TypeId) : BoxP (w.alloc (.cells #[u, v] t)) w.heap.size u v := ⟨by simp, by simp, by simp⟩
theorem BoxP.grown {w w' : World} {g : Nat} {u v : Value} {o : Option Nat} (h : BoxP w g u v) (gr : w.grownBy w' o) (ho : ∀ q, o = some q → g + 1 ≤ q) : BoxP w' g u v := by
  have hb : Below (g + 1) w w' := below_of_grown gr h.2.2 ho
  exact ⟨(hb.cell (p := ⟨g, 0, none⟩) (Nat.lt_succ_self g)).trans h.1, (hb.cell (p := ⟨g, 1, none⟩) (Nat.lt_succ_self g)).trans h.2.1, Nat.lt_of_lt_of_le h.2.2 hb.size⟩

section
variable {H : Type} {enc : TypeId × Value → H} {W : World} {base : Nat} {spare : Nat → Bool} {held : Bool} {r : Reach} {b0 : Nat}
theorem open_puzzle {v : Value} {d : DataW H} {p : List MemPlace} (hval : Value.okWide Try.prog W r b0 23 v) (h : DataW.Trod enc Try.prog W base spare held 23 v d p) :
    ∃ (s : ByteArray) (n : Int), v = .agg #[.string s, .int .i64 n] ∧ s.size ≤ maxLen := by
  obtain ⟨c0, c1, y0, y1, m, rfl, rfl, rfl, hy0, hy1⟩ := Go.Joins.open_agg2 Try.underlying23 (by kernel_rfl) (by kernel_rfl) hval h
  obtain ⟨s, e0, _, hs⟩ := DataW.trod_string Try.underlying9 hy0
  obtain ⟨q, e1, _, _⟩ := DataW.trod_int Try.underlying3 hy1
  simp at e0 e1
  subst e0 e1
  exact ⟨s, q, rfl, hs⟩
end
set_option maxHeartbeats 400000 in
theorem toPuzzle_c (s : ByteArray) (n : Int) (w : World) :
    Calls Try.prog 19 #[.agg #[.string s, .int .i64 n]] w fun en w' => en = .returned (.agg #[.string s, .int .i64 n]) ∧ Below w.heap.size w w' := by
  go_enter Try.func19, Try.ntmps19
  go_wp2
  exact bodyPost_ret (v := .agg #[.string s, .int .i64 n]) (by simp [results, Try.results19, go_sem]) rfl ⟨rfl, (((Below.refl _ _).alloc (Nat.le_refl _) _).alloc (by simp) _).alloc (by simp; omega) _⟩
set_option maxRecDepth 100000 in
set_option maxHeartbeats 400000 in
theorem szPuzzle_yes (s : ByteArray) (n : Int) (w : World) (hn : s.size ≤ 1048576) :
    Calls Try.prog 17 #[.agg #[.string s, .int .i64 n], .int .i64 1048576] w fun en w' => en = .returned (.int .i64 (1048576 - (s.size : Int))) ∧ Below w.heap.size w w' := by
  have h1 : ¬ (1048576 - (s.size : Int) < 0) := by omega
  go_enter Try.func17, Try.ntmps17
  go_wp2
  go_ret
  exact ⟨rfl, (Below.refl _ _).alloc (Nat.le_refl _) _⟩
set_option maxRecDepth 100000 in
set_option maxHeartbeats 400000 in
theorem szPuzzle_no (s : ByteArray) (n : Int) (w : World) (hm : s.size ≤ maxLen) (hn : ¬ s.size ≤ 1048576) :
    Calls Try.prog 17 #[.agg #[.string s, .int .i64 n], .int .i64 1048576] w fun en w' => en = .returned (.int .i64 (-1)) ∧ Below w.heap.size w w' := by
  unfold maxLen at hm
  have h1 : 1048576 - (s.size : Int) < 0 := by omega
  go_enter Try.func17, Try.ntmps17
  go_wp2
  go_ret
  exact ⟨rfl, (Below.refl _ _).alloc (Nat.le_refl _) _⟩
set_option maxRecDepth 100000 in
set_option maxHeartbeats 400000 in
theorem szRq_yes (A : Option Addr) (n c : Nat) (l : Int) (w : World) (hn : n ≤ 1048576) (hz : 0 ≤ l - (n : Int)) (hl : 0 ≤ l ∧ l ≤ 1048576) :
    Calls Try.prog 21 #[.slice A n c, .int .i64 l] w fun en w' => en = .returned (.int .i64 (l - (n : Int))) ∧ w = w' := by
  have h1 : ¬ (l - (n : Int) < 0) := by omega
  have h2 : ¬ (l < (n : Int)) := by omega
  go_enter Try.func21, Try.ntmps21
  go_wp2
  go_ret
  exact ⟨rfl, rfl⟩
set_option maxRecDepth 100000 in
set_option maxHeartbeats 400000 in
theorem szRq_no (A : Option Addr) (n c : Nat) (l : Int) (w : World) (hm : n ≤ 9223372036854775807) (hz : l - (n : Int) < 0) (hl : 0 ≤ l ∧ l ≤ 1048576) :
    Calls Try.prog 21 #[.slice A n c, .int .i64 l] w fun en w' => en = .returned (.int .i64 (-1)) ∧ w = w' := by
  have h2 : l < (n : Int) := by omega
  go_enter Try.func21, Try.ntmps21
  go_wp2
  go_ret
  exact ⟨rfl, rfl⟩
theorem eqRule_same (e r : Int) (w : World) : Calls Try.prog 47 #[.agg #[.int .i64 e, .int .i64 r], .agg #[.int .i64 e, .int .i64 r]] w fun en w' => en = .returned (.bool true) ∧ Below w.heap.size w w' := by
  have h := eqRule_c e r e r w
  rw [sameR_true.2 ⟨rfl, rfl⟩] at h
  exact h
set_option maxRecDepth 100000 in
set_option maxHeartbeats 400000 in
theorem eqPuzzle_yes (s : ByteArray) (n : Int) (w : World) :
    Calls Try.prog 50 #[.agg #[.string s, .int .i64 n], .agg #[.string s, .int .i64 n]] w fun en w' => en = .returned (.bool true) ∧ Below w.heap.size w w' := by
  go_enter Try.func50, Try.ntmps50
  go_wp2
  go_ret
  exact ⟨rfl, ((Below.refl _ _).alloc (Nat.le_refl _) _).alloc (by simp) _⟩

end Go.Proofs.Ytbgoimhgmgldpaa
