/- For every value of type Puzzle and every list of rules, spec.IsAnswer and impl.IsAnswer answer alike: laws.FnExactIsAnswer returns true. Conditions: none. -/
import Derived.Test.YtbgoimhgmgldpaaRN
namespace Go.Proofs.Ytbgoimhgmgldpaa
open Go.ChangeShapes Go.WideShapes Go.ChangeAt Go.RowKit Go.Deep
set_option maxRecDepth 100000
set_option linter.unusedVariables false
set_option linter.unusedSimpArgs false

set_option maxRecDepth 100000 in
set_option maxHeartbeats 2000000 in
theorem walk_FnExactIsAnswer (w : World) (s0 : ByteArray) (n0 : Int) (z0 : s0.size ≤ maxLen) (A1 : Option Addr) (n1 c1 : Nat) (rs1 : List (Int × Int)) (l1 : n1 = rs1.length) (m1 : n1 ≤ 9223372036854775807) (R1 : Rl w A1 rs1) :
    Calls Try.prog 6 #[.agg #[.string s0, .int .i64 n0], .slice A1 n1 c1] w fun e w' => e = .returned (.bool true) ∧ Below w.heap.size w w' := by
  have L1 := Lib.hid l1
  clear l1
  have b0 : Below w.heap.size w (w.alloc (.cells #[.string s0, .int .i64 n0] 23)) := (Below.refl _ _).alloc (Nat.le_refl _) _
  have P0 := BoxP.new w (.string s0) (.int .i64 n0) 23
  have c0P0 := P0.1
  have c1P0 := P0.2.1
  replace R1 := R1.below b0
  by_cases hs : s0.size ≤ 1048576
  rotate_left
  · go_enter Try.func6, Try.ntmps6
    go_wp2_with fail
    refine (szPuzzle_no _ _ _ z0 hs).mono ?_
    rintro e w1 ⟨rfl, b1⟩
    have P0_1 := P0.below b1
    have c0P0_1 := P0_1.1
    have c1P0_1 := P0_1.2.1
    clear P0
    clear c0P0 c1P0
    have bb1 := b0.trans (b1.mono b0.size)
    go_wp2
    go_ret
    exact ⟨rfl, bb1⟩
  have hsi : (s0.size : Int) ≤ 1000000000 := by omega
  have hsn : ¬ (1048576 - (s0.size : Int) < 0) := by omega
  by_cases hn1 : n1 ≤ 1048576
  rotate_left
  · go_enter Try.func6, Try.ntmps6
    go_wp2_with fail
    refine (szPuzzle_yes _ _ _ hs).mono ?_
    rintro e w1 ⟨rfl, b1⟩
    have P0_1 := P0.below b1
    have c0P0_1 := P0_1.1
    have c1P0_1 := P0_1.2.1
    clear P0
    clear c0P0 c1P0
    have bb1 := b0.trans (b1.mono b0.size)
    go_wp2_with fail
    refine (szRq_no _ _ _ _ _ m1 (by omega) (by omega)).mono ?_
    rintro e w2 ⟨rfl, rfl⟩
    go_wp2
    go_ret
    exact ⟨rfl, bb1⟩
  by_cases hz1 : 0 ≤ 1048576 - (s0.size : Int) - (n1 : Int)
  rotate_left
  · go_enter Try.func6, Try.ntmps6
    go_wp2_with fail
    refine (szPuzzle_yes _ _ _ hs).mono ?_
    rintro e w1 ⟨rfl, b1⟩
    have P0_1 := P0.below b1
    have c0P0_1 := P0_1.1
    have c1P0_1 := P0_1.2.1
    clear P0
    clear c0P0 c1P0
    have bb1 := b0.trans (b1.mono b0.size)
    go_wp2_with fail
    refine (szRq_no _ _ _ _ _ m1 (by omega) (by omega)).mono ?_
    rintro e w2 ⟨rfl, rfl⟩
    go_wp2
    go_ret
    exact ⟨rfl, bb1⟩
  have hzn1 : ¬ (1048576 - (s0.size : Int) - (n1 : Int) < 0) := by omega
  go_enter Try.func6, Try.ntmps6
  go_wp2_with fail
  refine (szPuzzle_yes _ _ _ hs).mono ?_
  rintro e w1 ⟨rfl, b1⟩
  have P0_1 := P0.below b1
  have c0P0_1 := P0_1.1
  have c1P0_1 := P0_1.2.1
  clear P0
  clear c0P0 c1P0
  have R1_1 := R1.below b1
  have bb1 := b0.trans (b1.mono b0.size)
  go_wp2_with fail
  refine (szRq_yes _ _ _ _ _ hn1 hz1 (by omega)).mono ?_
  rintro e w2 ⟨rfl, rfl⟩
  go_wp2_with fail
  refine (toPuzzle_c _ _ _).mono ?_
  rintro e w3 ⟨rfl, b3⟩
  have P0_3 := P0_1.below b3
  have c0P0_3 := P0_3.1
  have c1P0_3 := P0_3.2.1
  clear P0_1
  clear c0P0_1 c1P0_1
  have R1_3 := R1_1.below b3
  have bb3 := bb1.trans (b3.mono bb1.size)
  go_wp2_with fail
  refine (toRuleS_c A1 c1 n1 rs1 _ R1_3 L1.out hn1).mono ?_
  rintro e w4 ⟨rfl, o1, b4⟩
  have P0_4 := P0_3.below b4
  have c0P0_4 := P0_4.1
  have c1P0_4 := P0_4.2.1
  clear P0_3
  clear c0P0_3 c1P0_3
  have R1_4 := R1_3.below b4
  have bb4 := bb3.trans (b4.mono bb3.size)
  have X1 := Rl_of_own o1 L1.out
  go_wp2_with fail
  refine (spec_IsAnswer_c _ s0 n0 _ _ _ rs1 X1 L1.out hn1 hsi).mono ?_
  rintro e w5 ⟨rfl, b5⟩
  have P0_5 := P0_4.below b5
  have c0P0_5 := P0_5.1
  have c1P0_5 := P0_5.2.1
  clear P0_4
  clear c0P0_4 c1P0_4
  have R1_5 := R1_4.below b5
  have X1_5 := X1.below b5
  have bb5 := bb4.trans (b5.mono bb4.size)
  go_wp2_with fail
  refine (toRuleS_c A1 c1 n1 rs1 _ R1_5 L1.out hn1).mono ?_
  rintro e w6 ⟨rfl, o2, b6⟩
  have P0_6 := P0_5.below b6
  have c0P0_6 := P0_6.1
  have c1P0_6 := P0_6.2.1
  clear P0_5
  clear c0P0_5 c1P0_5
  have R1_6 := R1_5.below b6
  have bb6 := bb5.trans (b6.mono bb5.size)
  have X2 := Rl_of_own o2 L1.out
  go_wp2_with fail
  refine (toPuzzle_c _ _ _).mono ?_
  rintro e w7 ⟨rfl, b7⟩
  have P0_7 := P0_6.below b7
  have c0P0_7 := P0_7.1
  have c1P0_7 := P0_7.2.1
  clear P0_6
  clear c0P0_6 c1P0_6
  have R1_7 := R1_6.below b7
  have X2_7 := X2.below b7
  have bb7 := bb6.trans (b7.mono bb6.size)
  go_wp2_with fail
  refine (impl_IsAnswer_c _ s0 n0 _ _ _ rs1 X2_7 L1.out hn1 hsi).mono ?_
  rintro e w8 ⟨rfl, b8⟩
  have P0_8 := P0_7.below b8
  have c0P0_8 := P0_8.1
  have c1P0_8 := P0_8.2.1
  clear P0_7
  clear c0P0_7 c1P0_7
  have R1_8 := R1_7.below b8
  have X2_8 := X2_7.below b8
  have bb8 := bb7.trans (b8.mono bb7.size)
  go_wp2_with fail
  refine (toRuleS_c A1 c1 n1 rs1 _ R1_8 L1.out hn1).mono ?_
  rintro e w9 ⟨rfl, o3, b9⟩
  have P0_9 := P0_8.below b9
  have c0P0_9 := P0_9.1
  have c1P0_9 := P0_9.2.1
  clear P0_8
  clear c0P0_8 c1P0_8
  have R1_9 := R1_8.below b9
  have X2_9 := X2_8.below b9
  have bb9 := bb8.trans (b9.mono bb8.size)
  have X3 := Rl_of_own o3 L1.out
  go_wp2_with fail
  refine (eqRuleS_yes _ _ _ _ _ _ rs1 _ X2_9 X3 L1.out L1.out hn1 hn1).mono ?_
  rintro e w10 ⟨rfl, b10⟩
  have P0_10 := P0_9.below b10
  have c0P0_10 := P0_10.1
  have c1P0_10 := P0_10.2.1
  clear P0_9
  clear c0P0_9 c1P0_9
  have R1_10 := R1_9.below b10
  have X2_10 := X2_9.below b10
  have X3_10 := X3.below b10
  have bb10 := bb9.trans (b10.mono bb9.size)
  go_wp2
  go_ret
  exact ⟨rfl, bb10⟩

set_option maxRecDepth 100000 in
theorem lifted_FnExactIsAnswer (os : Os) (started : os.Started) (H : Type) (enc : TypeId × Value → H) :
    ReturnsInHanded {} Try.checked os 6 .any (Rows.fnExactIsAnswerSpec.pre6 enc Try.prog Try.f6 Rows.fnExactIsAnswerRow.domain false) (Rows.fnExactIsAnswerSpec.post enc Try.prog Try.f6 false true false false) := by
  refine returnsInHanded_of_change (C := Try.checked) own started (by kernel_rfl) Try.func6
    (ChangeSpec.witness6 (enc := enc) (C := Try.checked) false ⟨#[], #[.agg #[.string ⟨#[]⟩, .int .i64 0], .slice none 0 0], []⟩ 8 (by kernel_rfl) (by kernel_rfl) (by kernel_rfl) (by kernel_rfl)) ?_
  intro W base args ds gs before hval0 hW hcnd _
  have hval : ∀ (j : Nat) t v, Try.f6.params[j]? = some t → args[j]? = some v → Value.okWide Try.prog W .any base t v := hval0
  have hW' := hW
  obtain ⟨p, q, hA0, hV, rfl, hfz, hnd⟩ := hW
  have hA : DataW.TrodAll enc Try.prog W 0 (fun _ => true) true Try.f6.params.toList args.toList ds p := hA0
  rw [Try.params6] at hA hval
  obtain ⟨v0, vs0, d0, ds0, p0, q0, hargs, rfl, rfl, h0, r0⟩ := trodAll_cons hA
  obtain ⟨v1, vs1, d1, ds1, p1, q1, rfl, rfl, rfl, h1, r1⟩ := trodAll_cons r0
  obtain ⟨rfl, rfl, rfl⟩ := trodAll_nil r1
  obtain rfl : args = #[v0, v1] := by cases args; simp_all
  obtain ⟨rfl, rfl⟩ := trodVars_none hV
  have k0 := h0
  have lt0 : ∀ x ∈ p0, x.block < W.heap.size := by obtain ⟨m, hm⟩ := k0; exact DataW.trod_lt m _ _ _ hm
  obtain ⟨s0, n0, rfl, z0⟩ := open_puzzle (hval 0 23 v0 rfl rfl) h0
  have k1 := h1
  have lt1 : ∀ x ∈ p1, x.block < W.heap.size := by obtain ⟨m, hm⟩ := k1; exact DataW.trod_lt m _ _ _ hm
  obtain ⟨A1, n1, c1, rs1, rfl, l1, m1, R1⟩ := open_rules (hval 1 29 v1 rfl rfl) h1
  clear hA0 hval0
  refine (walk_FnExactIsAnswer W s0 n0 z0 A1 n1 c1 rs1 l1 m1 R1).mono fun e W' ⟨he, bel⟩ => ?_
  subst he
  exact ⟨_, rfl, _, _, _, [], _, [], hW', trodAll_mk1 (shut_bool Try.underlying4 _), (trodAll_cons_mk (Below.trod laidOut (by kernel_rfl) (of_decide_eq_true (by kernel_rfl)) k0 bel lt0) (trodAll_cons_mk (Below.trod laidOut (by kernel_rfl) (of_decide_eq_true (by kernel_rfl)) k1 bel lt1) trodAll_mk0)), rfl, bel.frame _, fun h => by cases h⟩

theorem closed_FnExactIsAnswer : joinedFacts Try.prog 6 Try.f6 Rows.fnExactIsAnswerSpec Rows.fnExactIsAnswerRow = true := by
  unfold joinedFacts
  rw [head_enters, head_final, head_make]
  kernel_rfl
theorem over_FnExactIsAnswer : Rows.fnExactIsAnswerRow.holds Try.pinned (OpenSpec.ofChange Rows.fnExactIsAnswerSpec) :=
  OpenClaim.holds_of_wide 6 Try.f6 rfl rfl rfl rfl rfl rfl rfl ⟨rfl, rfl, rfl, rfl, rfl⟩ rfl rfl rfl rfl rfl (by kernel_rfl) Try.func6 closed_FnExactIsAnswer
    (of_decide_eq_true (by kernel_rfl)) (by unfold Func.isWrapper; first | (rw [if_pos (by decide +kernel)]; kernel_rfl) | (rw [if_neg (by decide +kernel)]; exact ⟨rfl, rfl⟩))
    (fun os started H enc _ => lifted_FnExactIsAnswer os started H enc)

theorem fnExactIsAnswer_holds : Rows.FnExactIsAnswerSaid := over_FnExactIsAnswer

end Go.Proofs.Ytbgoimhgmgldpaa
