import Derived.Test.YtbgoimhgmgldpaaDoorR2
import Derived.Test.YtbgoimhgmgldpaaDoorD1
import Derived.Deep.RegionHeld3
namespace Go.Proofs.YtbgoimhgmgldpaaDoor
open Go.RowKit
set_option linter.unusedVariables false
set_option linter.unusedSimpArgs false

/-- A puzzle's text. -/
def ptxT (s : ByteArray) (n : Int) : ByteArray := (s ++ ⟨#[58]⟩) ++ ⟨#[dig n]⟩
def ptxV (s : ByteArray) (n : Int) : ByteArray := if pzB s n then ptxT s n else ⟨#[]⟩
theorem ptxV_no {s : ByteArray} {n : Int} (h : pzB s n = false) : ptxV s n = ⟨#[]⟩ := by rw [ptxV, h]; rfl
theorem ptxV_yes {s : ByteArray} {n : Int} (h : pzB s n = true) : ptxV s n = ptxT s n := by rw [ptxV, h]; rfl
theorem pzB_parts {s : ByteArray} {n : Int} (h : pzB s n = true) : patB s = true ∧ 0 ≤ n ∧ n ≤ 3 := by
  rw [pzB, Bool.and_eq_true] at h
  exact ⟨h.1, inB_true.1 h.2⟩
set_option maxRecDepth 100000 in
set_option maxHeartbeats 800000 in
theorem spec_PuzzleText_c (w : World) (s : ByteArray) (n : Int) (hs : (s.size : Int) ≤ 1000000000) :
    Calls Tryd.prog 6 #[.agg #[.string s, .int .i64 n]] w fun en w' => en = .returned (.tuple #[.string (ptxV s n), .bool (pzB s n)]) ∧ Below w.heap.size w w' := by
  have Hg := Lib.hid (fun W => pzGood_c W s n hs)
  obtain ⟨W0, hW0⟩ : ∃ W0, w.alloc (.cells #[.string s, .int .i64 n] 27) = W0 := ⟨_, rfl⟩
  have B0 : Hid (Below w.heap.size w W0) := by show Below _ _ _; rw [← hW0]; exact (Below.refl _ _).alloc (Nat.le_refl _) _
  have C0 : Hid (W0.cell? ⟨w.heap.size, 0, none⟩ = some (.string s)) := by show _ = _; rw [← hW0]; simp
  have C1 : Hid (W0.cell? ⟨w.heap.size, 1, none⟩ = some (.int .i64 n)) := by show _ = _; rw [← hW0]; simp
  have Z0 : Hid (w.heap.size < W0.heap.size) := by show _ < _; rw [← hW0]; simp
  have HW0 := Lib.hid hW0
  clear hW0
  cases hg : pzB s n with
  | false =>
    rw [ptxV_no hg]
    rw [hg] at Hg
    clear hg
    go_enter Tryd.func6, Tryd.ntmps6
    go_wp2_with fail
    rw [HW0.out]
    refine (Hg.out _).mono ?_
    rintro e w2 ⟨rfl, b2⟩
    have B2 := Lib.hid (B0.out.trans (b2.mono B0.out.size))
    clear b2
    go_wp2
    go_ret2
    exact ⟨rfl, B2.out⟩
  | true =>
    rw [ptxV_yes hg]
    obtain ⟨hp, n0, n3⟩ := pzB_parts hg
    obtain ⟨p1, p2, p3⟩ := patB_parts hp
    rw [hg] at Hg
    have z1 : (⟨#[58]⟩ : ByteArray).size = 1 := rfl
    have z2 : (⟨#[dig n]⟩ : ByteArray).size = 1 := rfl
    have a1 := addP s ⟨#[58]⟩ (by omega)
    have a2 := addP (s ++ ⟨#[58]⟩) ⟨#[dig n]⟩ (by rw [ByteArray.size_append]; omega)
    rw [show s ++ ⟨#[58]⟩ ++ ⟨#[dig n]⟩ = ptxT s n from rfl] at a2
    have Hn := Lib.hid (fun W => l1Num_one n W n0 (by omega))
    obtain ⟨T, hT⟩ : ∃ T, ptxT s n = T := ⟨_, rfl⟩
    rw [hT] at a2 ⊢
    clear hg hp p1 p2 p3 n0 n3 z1 z2 hT
    go_enter Tryd.func6, Tryd.ntmps6
    go_wp2_with fail
    rw [HW0.out]
    refine (Hg.out _).mono ?_
    rintro e w2 ⟨rfl, b2⟩
    have B2 := Lib.hid (B0.out.trans (b2.mono B0.out.size))
    have hc0 := (b2.cell (p := ⟨w.heap.size, 0, none⟩) Z0.out).trans C0.out
    have hc1 := (b2.cell (p := ⟨w.heap.size, 1, none⟩) Z0.out).trans C1.out
    have z3 := Lib.hid (Nat.lt_of_lt_of_le Z0.out b2.size)
    have hd0 : w2.drew.cell? ⟨w.heap.size, 0, none⟩ = some (.string s) := hc0
    have hd1 : w2.drew.cell? ⟨w.heap.size, 1, none⟩ = some (.int .i64 n) := hc1
    clear b2
    go_wp2_with fail
    go_region_held3 (fun w' => w'.cell? ⟨w.heap.size, 0, none⟩ = some (.string s) ∧ w'.cell? ⟨w.heap.size, 1, none⟩ = some (.int .i64 n))
      (first | exact ⟨hd0, hd1⟩ | exact ⟨f5, g5⟩)
      (first | (go_at_call 13; refine (Hn.out w2.drew).mono ?_; rintro e w5 ⟨rfl, b5⟩; have f5 := (b5.cell (p := ⟨w.heap.size, 0, none⟩) z3.out).trans hd0; have g5 := (b5.cell (p := ⟨w.heap.size, 1, none⟩) z3.out).trans hd1))
    go_wp2
    go_ret2
    exact ⟨rfl, B2.out.drew.trans (b5.mono B2.out.drew.size)⟩
end Go.Proofs.YtbgoimhgmgldpaaDoor
