import Derived.Test.YtkpililllihgcabU5
namespace Go.Proofs.Ytkpililllihgcab
open Go.RowKit
set_option linter.unusedVariables false
set_option linter.unusedSimpArgs false

/- The first four squares. -/
def q3R (n a b c : Nat) : Nat := n - a * a - b * b - c * c
def q3 (n a b : Nat) : Nat → Nat → Option (List Int)
  | 0, _ => none
  | f + 1, c => if a * a + b * b + 2 * (c * c) ≤ n then (if rtF (q3R n a b c) * rtF (q3R n a b c) = q3R n a b c then some [(a : Int), (b : Int), (c : Int), (rtF (q3R n a b c) : Int)] else q3 n a b f (c + 1)) else none
def q2 (n a : Nat) : Nat → Nat → Option (List Int)
  | 0, _ => none
  | f + 1, b => if a * a + 3 * (b * b) ≤ n then (q3 n a b (100 - b) b).or (q2 n a f (b + 1)) else none
def q1 (n : Nat) : Nat → Nat → Option (List Int)
  | 0, _ => none
  | f + 1, a => if 4 * (a * a) ≤ n then (q2 n a (100 - a) a).or (q1 n f (a + 1)) else none
theorem q3_hit {n a b c : Nat} (hc : c ≤ 71) (h : a * a + b * b + 2 * (c * c) ≤ n) (h2 : rtF (q3R n a b c) * rtF (q3R n a b c) = q3R n a b c) : q3 n a b (100 - c) c = some [(a : Int), (b : Int), (c : Int), (rtF (q3R n a b c) : Int)] := by
  rw [show 100 - c = (99 - c) + 1 by omega, q3, if_pos h, if_pos h2]
theorem q3_miss {n a b c : Nat} (hc : c ≤ 71) (h : a * a + b * b + 2 * (c * c) ≤ n) (h2 : ¬ rtF (q3R n a b c) * rtF (q3R n a b c) = q3R n a b c) : q3 n a b (100 - c) c = q3 n a b (100 - (c + 1)) (c + 1) := by
  rw [show 100 - c = (100 - (c + 1)) + 1 by omega, q3, if_pos h, if_neg h2]
theorem q3_stop {n a b c : Nat} (hc : c ≤ 71) (h : ¬ a * a + b * b + 2 * (c * c) ≤ n) : q3 n a b (100 - c) c = none := by
  rw [show 100 - c = (99 - c) + 1 by omega, q3, if_neg h]
theorem q2_more {n a b : Nat} (hb : b ≤ 71) (h : a * a + 3 * (b * b) ≤ n) : q2 n a (100 - b) b = (q3 n a b (100 - b) b).or (q2 n a (100 - (b + 1)) (b + 1)) := by
  have e : 100 - b = (100 - (b + 1)) + 1 := by omega
  conv => lhs; rw [e]
  rw [q2, if_pos h]
theorem q2_stop {n a b : Nat} (hb : b ≤ 71) (h : ¬ a * a + 3 * (b * b) ≤ n) : q2 n a (100 - b) b = none := by
  rw [show 100 - b = (99 - b) + 1 by omega, q2, if_neg h]
theorem q1_more {n a : Nat} (ha : a ≤ 71) (h : 4 * (a * a) ≤ n) : q1 n (100 - a) a = (q2 n a (100 - a) a).or (q1 n (100 - (a + 1)) (a + 1)) := by
  have e : 100 - a = (100 - (a + 1)) + 1 := by omega
  conv => lhs; rw [e]
  rw [q1, if_pos h]
theorem q1_stop {n a : Nat} (ha : a ≤ 71) (h : ¬ 4 * (a * a) ≤ n) : q1 n (100 - a) a = none := by
  rw [show 100 - a = (99 - a) + 1 by omega, q1, if_neg h]
def q4Ok (n : Int) : Bool := inB n 1 5000
def q4B (n : Int) : Bool := q4Ok n && (q1 n.toNat 100 0).isSome
def q4V (n : Int) : List Int := if q4Ok n then (q1 n.toNat 100 0).getD [] else []
theorem q4B_no {n : Int} (h : q4Ok n = false) : q4B n = false := by rw [q4B, h]; rfl
theorem q4V_no {n : Int} (h : q4Ok n = false) : q4V n = [] := by rw [q4V, h]; rfl
theorem q4B_yes {n : Nat} (h : q4Ok (n : Int) = true) : q4B (n : Int) = (q1 n 100 0).isSome := by rw [q4B, h, Int.toNat_natCast]; rfl
theorem q4V_yes {n : Nat} (h : q4Ok (n : Int) = true) : q4V (n : Int) = (q1 n 100 0).getD [] := by rw [q4V, h, Int.toNat_natCast]; rfl

/-- A literal of four ints. -/
theorem own_four (w : World) (B : Nat) (hB : B ≤ w.heap.size) (x y z u : Int) : OwnI (w.alloc (.cells #[.int .i64 x, .int .i64 y, .int .i64 z, .int .i64 u] 3)) B (.slice (some ⟨w.heap.size, 0, none⟩) 4 4) [x, y, z, u] :=
  OwnI.mono (World.ownsRow_lit w #[.int .i64 x, .int .i64 y, .int .i64 z, .int .i64 u] 4 (Nat.le_refl _) (by unfold maxLen; omega) rfl : (w.alloc (.cells #[.int .i64 x, .int .i64 y, .int .i64 z, .int .i64 u] 3)).ownsRow w.heap.size 3 1 _ 4 _) hB


end Go.Proofs.Ytkpililllihgcab
