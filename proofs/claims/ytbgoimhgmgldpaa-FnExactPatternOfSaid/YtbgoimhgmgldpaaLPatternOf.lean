/- For every list of rules and every number, spec.PatternOf and impl.PatternOf answer alike: laws.FnExactPatternOf returns true. Conditions: none. -/
import Derived.Test.YtbgoimhgmgldpaaRI
import Derived.Test.YtbgoimhgmgldpaaL0
namespace Go.Proofs.Ytbgoimhgmgldpaa
open Go.ChangeShapes Go.WideShapes Go.ChangeAt Go.RowKit Go.Deep
set_option maxRecDepth 100000
set_option linter.unusedVariables false
set_option linter.unusedSimpArgs false

set_option maxRecDepth 100000 in
set_option maxHeartbeats 1000000 in
theorem walk_FnExactPatternOf (w : World) (A0 : Option Addr) (n0 c0 : Nat) (rs0 : List (Int × Int)) (l0 : n0 = rs0.length) (m0 : n0 ≤ 9223372036854775807) (R0 : Rl w A0 rs0) (a1 : Int) (i1 : (Lit.int .i64 a1).wf = true) :
    Calls Try.prog 4 #[.slice A0 n0 c0, .int .i64 a1] w fun e w' => e = .returned (.bool true) ∧ Below w.heap.size w w' := by
  have L0 := Lib.hid l0
  clear l0
  by_cases hn : n0 ≤ 1048576
  · go_enter Try.func4, Try.ntmps4
    go_wp2_with fail
    refine (szR_yes _ _ _ _ hn).mono ?_
    rintro e w1 ⟨rfl, rfl⟩
    go_wp2_with fail
    refine (toRuleS_c A0 c0 n0 rs0 _ R0 L0.out hn).mono ?_
    rintro e w2 ⟨rfl, o1, b2⟩
    have R0_2 := R0.below b2
    have X1 := Rl_of_own o1 L0.out
    go_wp2_with fail
    refine (spec_PatternOf_c _ _ _ _ rs0 X1 L0.out hn a1).mono ?_
    rintro e w3 ⟨rfl, b3⟩
    have R0_3 := R0_2.below b3
    have X1_3 := X1.below b3
    have bb3 := b2.trans (b3.mono b2.size)
    go_wp2_with fail
    refine (toRuleS_c A0 c0 n0 rs0 _ R0_3 L0.out hn).mono ?_
    rintro e w4 ⟨rfl, o2, b4⟩
    have R0_4 := R0_3.below b4
    have X1_4 := X1_3.below b4
    have bb4 := bb3.trans (b4.mono bb3.size)
    have X2 := Rl_of_own o2 L0.out
    go_wp2_with fail
    refine (impl_PatternOf_c _ _ _ _ rs0 X2 L0.out hn a1).mono ?_
    rintro e w5 ⟨rfl, b5⟩
    have R0_5 := R0_4.below b5
    have X1_5 := X1_4.below b5
    have X2_5 := X2.below b5
    have bb5 := bb4.trans (b5.mono bb4.size)
    go_wp2_with fail
    refine (toRuleS_c A0 c0 n0 rs0 _ R0_5 L0.out hn).mono ?_
    rintro e w6 ⟨rfl, o3, b6⟩
    have R0_6 := R0_5.below b6
    have X1_6 := X1_5.below b6
    have X2_6 := X2_5.below b6
    have bb6 := bb5.trans (b6.mono bb5.size)
    have X3 := Rl_of_own o3 L0.out
    go_wp2_with fail
    refine (eqRuleS_yes _ _ _ _ _ _ rs0 _ X2_6 X3 L0.out L0.out hn hn).mono ?_
    rintro e w7 ⟨rfl, b7⟩
    have R0_7 := R0_6.below b7
    have X1_7 := X1_6.below b7
    have X2_7 := X2_6.below b7
    have X3_7 := X3.below b7
    have bb7 := bb6.trans (b7.mono bb6.size)
    go_wp2
    go_ret
    exact ⟨rfl, bb7⟩
  · go_enter Try.func4, Try.ntmps4
    go_wp2_with fail
    refine (szR_no _ _ _ _ m0 hn).mono ?_
    rintro e w1 ⟨rfl, rfl⟩
    go_wp2
    go_ret
    exact ⟨rfl, Below.refl _ _⟩

set_option maxRecDepth 100000 in
theorem lifted_FnExactPatternOf (os : Os) (started : os.Started) (H : Type) (enc : TypeId × Value → H) :
    ReturnsInHanded {} Try.checked os 4 .any (Rows.fnExactPatternOfSpec.pre6 enc Try.prog Try.f4 Rows.fnExactPatternOfRow.domain false) (Rows.fnExactPatternOfSpec.post enc Try.prog Try.f4 false true false false) := by
  refine returnsInHanded_of_change (C := Try.checked) own started (by kernel_rfl) Try.func4
    (ChangeSpec.witness6 (enc := enc) (C := Try.checked) false ⟨#[], #[.slice none 0 0, .int .i64 0], []⟩ 8 (by kernel_rfl) (by kernel_rfl) (by kernel_rfl) (by kernel_rfl)) ?_
  intro W base args ds gs before hval0 hW hcnd _
  have hval : ∀ (j : Nat) t v, Try.f4.params[j]? = some t → args[j]? = some v → Value.okWide Try.prog W .any base t v := hval0
  have hW' := hW
  obtain ⟨p, q, hA0, hV, rfl, hfz, hnd⟩ := hW
  have hA : DataW.TrodAll enc Try.prog W 0 (fun _ => true) true Try.f4.params.toList args.toList ds p := hA0
  rw [Try.params4] at hA hval
  obtain ⟨v0, vs0, d0, ds0, p0, q0, hargs, rfl, rfl, h0, r0⟩ := trodAll_cons hA
  obtain ⟨v1, vs1, d1, ds1, p1, q1, rfl, rfl, rfl, h1, r1⟩ := trodAll_cons r0
  obtain ⟨rfl, rfl, rfl⟩ := trodAll_nil r1
  obtain rfl : args = #[v0, v1] := by cases args; simp_all
  obtain ⟨rfl, rfl⟩ := trodVars_none hV
  have k0 := h0
  have lt0 : ∀ x ∈ p0, x.block < W.heap.size := by obtain ⟨m, hm⟩ := k0; exact DataW.trod_lt m _ _ _ hm
  obtain ⟨A0, n0, c0, rs0, rfl, l0, m0, R0⟩ := open_rules (hval 0 29 v0 rfl rfl) h0
  have k1 := h1
  have lt1 : ∀ x ∈ p1, x.block < W.heap.size := by obtain ⟨m, hm⟩ := k1; exact DataW.trod_lt m _ _ _ hm
  obtain ⟨a1, rfl, _, _, i1⟩ := open_int Try.underlying3 (hval 1 3 v1 rfl rfl) h1
  clear hA0 hval0
  refine (walk_FnExactPatternOf W A0 n0 c0 rs0 l0 m0 R0 a1 i1).mono fun e W' ⟨he, bel⟩ => ?_
  subst he
  exact ⟨_, rfl, _, _, _, [], _, [], hW', trodAll_mk1 (shut_bool Try.underlying4 _), (trodAll_cons_mk (Below.trod laidOut (by kernel_rfl) (of_decide_eq_true (by kernel_rfl)) k0 bel lt0) (trodAll_cons_mk (Below.trod laidOut (by kernel_rfl) (of_decide_eq_true (by kernel_rfl)) k1 bel lt1) trodAll_mk0)), rfl, bel.frame _, fun h => by cases h⟩

theorem closed_FnExactPatternOf : joinedFacts Try.prog 4 Try.f4 Rows.fnExactPatternOfSpec Rows.fnExactPatternOfRow = true := by
  unfold joinedFacts
  rw [head_enters, head_final, head_make]
  kernel_rfl
theorem over_FnExactPatternOf : Rows.fnExactPatternOfRow.holds Try.pinned (OpenSpec.ofChange Rows.fnExactPatternOfSpec) :=
  OpenClaim.holds_of_wide 4 Try.f4 rfl rfl rfl rfl rfl rfl rfl ⟨rfl, rfl, rfl, rfl, rfl⟩ rfl rfl rfl rfl rfl (by kernel_rfl) Try.func4 closed_FnExactPatternOf
    (of_decide_eq_true (by kernel_rfl)) (by unfold Func.isWrapper; first | (rw [if_pos (by decide +kernel)]; kernel_rfl) | (rw [if_neg (by decide +kernel)]; exact ⟨rfl, rfl⟩))
    (fun os started H enc _ => lifted_FnExactPatternOf os started H enc)

theorem fnExactPatternOf_holds : Rows.FnExactPatternOfSaid := over_FnExactPatternOf

end Go.Proofs.Ytbgoimhgmgldpaa
