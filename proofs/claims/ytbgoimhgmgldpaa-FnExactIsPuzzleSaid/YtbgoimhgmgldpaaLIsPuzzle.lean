/- For every value of type Puzzle, spec.IsPuzzle and impl.IsPuzzle answer alike: laws.FnExactIsPuzzle returns true. Conditions: none. -/
import Derived.Test.YtbgoimhgmgldpaaRH
namespace Go.Proofs.Ytbgoimhgmgldpaa
open Go.ChangeShapes Go.WideShapes Go.ChangeAt Go.RowKit Go.Deep
set_option maxRecDepth 100000
set_option linter.unusedVariables false
set_option linter.unusedSimpArgs false

set_option maxRecDepth 100000 in
set_option maxHeartbeats 2000000 in
theorem walk_FnExactIsPuzzle (w : World) (s0 : ByteArray) (n0 : Int) (z0 : s0.size ≤ maxLen) :
    Calls Try.prog 3 #[.agg #[.string s0, .int .i64 n0]] w fun e w' => e = .returned (.bool true) ∧ Below w.heap.size w w' := by
  have b0 : Below w.heap.size w (w.alloc (.cells #[.string s0, .int .i64 n0] 23)) := (Below.refl _ _).alloc (Nat.le_refl _) _
  have P0 := BoxP.new w (.string s0) (.int .i64 n0) 23
  have c0P0 := P0.1
  have c1P0 := P0.2.1
  by_cases hs : s0.size ≤ 1048576
  rotate_left
  · go_enter Try.func3, Try.ntmps3
    go_wp2_with fail
    refine (szPuzzle_no _ _ _ z0 hs).mono ?_
    rintro e w1 ⟨rfl, b1⟩
    have P0_1 := P0.below b1
    have c0P0_1 := P0_1.1
    have c1P0_1 := P0_1.2.1
    clear P0
    clear c0P0 c1P0
    have bb1 := b0.trans (b1.mono b0.size)
    go_wp2
    go_ret
    exact ⟨rfl, bb1⟩
  have hsi : (s0.size : Int) ≤ 1000000000 := by omega
  have hsn : ¬ (1048576 - (s0.size : Int) < 0) := by omega
  have Hs := Lib.hid (fun W => spec_IsPuzzle_c W s0 n0 hsi)
  have Hi := Lib.hid (fun W => impl_IsPuzzle_c W s0 n0 hsi)
  go_enter Try.func3, Try.ntmps3
  go_wp2_with fail
  refine (szPuzzle_yes _ _ _ hs).mono ?_
  rintro e w1 ⟨rfl, b1⟩
  have P0_1 := P0.below b1
  have c0P0_1 := P0_1.1
  have c1P0_1 := P0_1.2.1
  clear P0
  clear c0P0 c1P0
  have bb1 := b0.trans (b1.mono b0.size)
  go_wp2_with fail
  refine (toPuzzle_c _ _ _).mono ?_
  rintro e w2 ⟨rfl, b2⟩
  have P0_2 := P0_1.below b2
  have c0P0_2 := P0_2.1
  have c1P0_2 := P0_2.2.1
  clear P0_1
  clear c0P0_1 c1P0_1
  have bb2 := bb1.trans (b2.mono bb1.size)
  go_wp2_with fail
  refine (Hs.out _).mono ?_
  rintro e w3 ⟨rfl, b3⟩
  have P0_3 := P0_2.below b3
  have c0P0_3 := P0_3.1
  have c1P0_3 := P0_3.2.1
  clear P0_2
  clear c0P0_2 c1P0_2
  have bb3 := bb2.trans (b3.mono bb2.size)
  go_wp2_with fail
  refine (toPuzzle_c _ _ _).mono ?_
  rintro e w4 ⟨rfl, b4⟩
  have P0_4 := P0_3.below b4
  have c0P0_4 := P0_4.1
  have c1P0_4 := P0_4.2.1
  clear P0_3
  clear c0P0_3 c1P0_3
  have bb4 := bb3.trans (b4.mono bb3.size)
  go_wp2_with fail
  refine (Hi.out _).mono ?_
  rintro e w5 ⟨rfl, b5⟩
  have P0_5 := P0_4.below b5
  have c0P0_5 := P0_5.1
  have c1P0_5 := P0_5.2.1
  clear P0_4
  clear c0P0_4 c1P0_4
  have bb5 := bb4.trans (b5.mono bb4.size)
  go_wp2
  go_ret
  exact ⟨rfl, bb5⟩

set_option maxRecDepth 100000 in
theorem lifted_FnExactIsPuzzle (os : Os) (started : os.Started) (H : Type) (enc : TypeId × Value → H) :
    ReturnsInHanded {} Try.checked os 3 .any (Rows.fnExactIsPuzzleSpec.pre6 enc Try.prog Try.f3 Rows.fnExactIsPuzzleRow.domain false) (Rows.fnExactIsPuzzleSpec.post enc Try.prog Try.f3 false true false false) := by
  refine returnsInHanded_of_change (C := Try.checked) own started (by kernel_rfl) Try.func3
    (ChangeSpec.witness6 (enc := enc) (C := Try.checked) false ⟨#[], #[.agg #[.string ⟨#[]⟩, .int .i64 0]], []⟩ 8 (by kernel_rfl) (by kernel_rfl) (by kernel_rfl) (by kernel_rfl)) ?_
  intro W base args ds gs before hval0 hW hcnd _
  have hval : ∀ (j : Nat) t v, Try.f3.params[j]? = some t → args[j]? = some v → Value.okWide Try.prog W .any base t v := hval0
  have hW' := hW
  obtain ⟨p, q, hA0, hV, rfl, hfz, hnd⟩ := hW
  have hA : DataW.TrodAll enc Try.prog W 0 (fun _ => true) true Try.f3.params.toList args.toList ds p := hA0
  rw [Try.params3] at hA hval
  obtain ⟨v0, vs0, d0, ds0, p0, q0, hargs, rfl, rfl, h0, r0⟩ := trodAll_cons hA
  obtain ⟨rfl, rfl, rfl⟩ := trodAll_nil r0
  obtain rfl : args = #[v0] := by cases args; simp_all
  obtain ⟨rfl, rfl⟩ := trodVars_none hV
  have k0 := h0
  have lt0 : ∀ x ∈ p0, x.block < W.heap.size := by obtain ⟨m, hm⟩ := k0; exact DataW.trod_lt m _ _ _ hm
  obtain ⟨s0, n0, rfl, z0⟩ := open_puzzle (hval 0 23 v0 rfl rfl) h0
  clear hA0 hval0
  refine (walk_FnExactIsPuzzle W s0 n0 z0).mono fun e W' ⟨he, bel⟩ => ?_
  subst he
  exact ⟨_, rfl, _, _, _, [], _, [], hW', trodAll_mk1 (shut_bool Try.underlying4 _), (trodAll_cons_mk (Below.trod laidOut (by kernel_rfl) (of_decide_eq_true (by kernel_rfl)) k0 bel lt0) trodAll_mk0), rfl, bel.frame _, fun h => by cases h⟩

theorem closed_FnExactIsPuzzle : joinedFacts Try.prog 3 Try.f3 Rows.fnExactIsPuzzleSpec Rows.fnExactIsPuzzleRow = true := by
  unfold joinedFacts
  rw [head_enters, head_final, head_make]
  kernel_rfl
theorem over_FnExactIsPuzzle : Rows.fnExactIsPuzzleRow.holds Try.pinned (OpenSpec.ofChange Rows.fnExactIsPuzzleSpec) :=
  OpenClaim.holds_of_wide 3 Try.f3 rfl rfl rfl rfl rfl rfl rfl ⟨rfl, rfl, rfl, rfl, rfl⟩ rfl rfl rfl rfl rfl (by kernel_rfl) Try.func3 closed_FnExactIsPuzzle
    (of_decide_eq_true (by kernel_rfl)) (by unfold Func.isWrapper; first | (rw [if_pos (by decide +kernel)]; kernel_rfl) | (rw [if_neg (by decide +kernel)]; exact ⟨rfl, rfl⟩))
    (fun os started H enc _ => lifted_FnExactIsPuzzle os started H enc)

theorem fnExactIsPuzzle_holds : Rows.FnExactIsPuzzleSaid := over_FnExactIsPuzzle

end Go.Proofs.Ytbgoimhgmgldpaa
