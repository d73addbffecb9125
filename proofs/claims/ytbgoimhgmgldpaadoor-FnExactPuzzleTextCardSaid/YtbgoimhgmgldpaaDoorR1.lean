import Derived.Test.YtbgoimhgmgldpaaDoorR0
namespace Go.Proofs.YtbgoimhgmgldpaaDoor
open Go.RowKit
set_option linter.unusedVariables false
set_option linter.unusedSimpArgs false

/-- Whether a pattern and a number of rules are a puzzle. -/
def pzB (s : ByteArray) (n : Int) : Bool := patB s && inB n 0 3
set_option maxRecDepth 100000 in
set_option maxHeartbeats 800000 in
theorem pzGood_c (w : World) (s : ByteArray) (n : Int) (hs : (s.size : Int) ≤ 1000000000) :
    Calls Tryd.prog 12 #[.agg #[.string s, .int .i64 n]] w fun en w' => en = .returned (.bool (pzB s n)) ∧ Below w.heap.size w w' := by
  have Hp := fun W => pzPattern_c W s hs
  cases hg : patB s with
  | false =>
    have ho : pzB s n = false := by rw [pzB, hg]; rfl
    rw [hg] at Hp
    have HP := Lib.hid Hp
    rw [ho]
    clear ho hg Hp
    go_enter Tryd.func12, Tryd.ntmps12
    go_wp2_with fail
    refine (HP.out _).mono ?_
    rintro e w2 ⟨rfl, rfl⟩
    go_wp2
    go_ret
    exact ⟨rfl, (Below.refl _ _).alloc (Nat.le_refl _) _⟩
  | true =>
    have ho : pzB s n = inB n 0 3 := by rw [pzB, hg]; rfl
    rw [hg] at Hp
    have HP := Lib.hid Hp
    rw [ho]
    clear ho hg Hp
    go_enter Tryd.func12, Tryd.ntmps12
    go_wp2_with fail
    refine (HP.out _).mono ?_
    rintro e w2 ⟨rfl, rfl⟩
    go_wp2_with fail
    refine (l1In_c _ _ _ _).mono ?_
    rintro e w3 ⟨rfl, rfl⟩
    go_wp2
    go_ret
    exact ⟨rfl, (Below.refl _ _).alloc (Nat.le_refl _) _⟩

end Go.Proofs.YtbgoimhgmgldpaaDoor
