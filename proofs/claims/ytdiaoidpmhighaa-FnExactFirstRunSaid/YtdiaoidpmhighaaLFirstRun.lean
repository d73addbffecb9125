/- For every list of rules and every list of steps that come in, spec.FirstRun and impl.FirstRun answer alike, and impl.FirstRun leaves its arguments as they were: laws.FnExactFirstRun returns true. Conditions: none. -/
import Derived.Test.YtdiaoidpmhighaaW7
namespace Go.Proofs.Ytdiaoidpmhighaa
open Go.ChangeShapes Go.WideShapes Go.ChangeAt Go.RowKit Go.Deep
set_option linter.unusedVariables false
set_option linter.unusedSimpArgs false

set_option maxRecDepth 100000 in
set_option maxHeartbeats 1000000 in
theorem walk_FnExactFirstRun_1 (w : World) (A0 : Option Addr) (n0 c0 : Nat) (rs0 : List (Int × Int)) (l0 : n0 = rs0.length) (m0 : n0 ≤ 9223372036854775807) (R0 : Rl w A0 rs0) (A1 : Option Addr) (n1 c1 : Nat) (xs1 : List Int) (l1 : n1 = xs1.length) (m1 : n1 ≤ 9223372036854775807) (R1 : Il w A1 xs1) (hn : ¬ n1 ≤ 1048576) :
    Calls Try.prog 17 #[.slice A0 n0 c0, .slice A1 n1 c1] w fun en w' => en = .returned (.bool true) ∧ Below w.heap.size w w' := by
  clear l0 l1
  go_enter Try.func17, Try.ntmps17
  go_wp2
  go_ret
  exact ⟨rfl, Below.refl _ _⟩

set_option maxRecDepth 100000 in
set_option maxHeartbeats 1000000 in
theorem walk_FnExactFirstRun_2 (w : World) (A0 : Option Addr) (n0 c0 : Nat) (rs0 : List (Int × Int)) (l0 : n0 = rs0.length) (m0 : n0 ≤ 9223372036854775807) (R0 : Rl w A0 rs0) (A1 : Option Addr) (n1 c1 : Nat) (xs1 : List Int) (l1 : n1 = xs1.length) (m1 : n1 ≤ 9223372036854775807) (R1 : Il w A1 xs1) (hn1 : n1 ≤ 1048576) (hn : ¬ n0 ≤ 1048576) :
    Calls Try.prog 17 #[.slice A0 n0 c0, .slice A1 n1 c1] w fun en w' => en = .returned (.bool true) ∧ Below w.heap.size w w' := by
  clear l0 l1
  go_enter Try.func17, Try.ntmps17
  go_wp2_with fail
  refine (szR_no _ _ _ _ m0 hn).mono ?_
  rintro e w1 ⟨rfl, rfl⟩
  go_wp2
  go_ret
  exact ⟨rfl, Below.refl _ _⟩

set_option maxRecDepth 100000 in
set_option maxHeartbeats 2000000 in
theorem walk_FnExactFirstRun_3 (w : World) (A0 : Option Addr) (n0 c0 : Nat) (rs0 : List (Int × Int)) (l0 : n0 = rs0.length) (m0 : n0 ≤ 9223372036854775807) (R0 : Rl w A0 rs0) (A1 : Option Addr) (n1 c1 : Nat) (xs1 : List Int) (l1 : n1 = xs1.length) (m1 : n1 ≤ 9223372036854775807) (R1 : Il w A1 xs1) (hn1 : n1 ≤ 1048576) (hn : n0 ≤ 1048576) :
    Calls Try.prog 17 #[.slice A0 n0 c0, .slice A1 n1 c1] w fun en w' => en = .returned (.bool true) ∧ Below w.heap.size w w' := by
  have L0 := Lib.hid l0
  have L1 := Lib.hid l1
  clear l0 l1
  go_enter Try.func17, Try.ntmps17
  go_wp2_with fail
  refine (szR_yes _ _ _ _ hn).mono ?_
  rintro e w1 ⟨rfl, rfl⟩
  go_wp2_with fail
  refine (toRuleS_c A0 c0 n0 rs0 _ R0 L0.out hn).mono ?_
  rintro e w2 ⟨rfl, o1, b2⟩
  have R0_2 := R0.below b2
  have R1_2 := R1.below b2
  have X1 := Rl_of_own o1 L0.out
  go_wp2_with fail
  refine (toIntS_c A1 c1 n1 xs1 _ R1_2 L1.out hn1).mono ?_
  rintro e w3 ⟨rfl, o2, b3⟩
  have R0_3 := R0_2.below b3
  have R1_3 := R1_2.below b3
  have X1_3 := X1.below b3
  have bb3 := b2.trans (b3.mono b2.size)
  have X2 := Il_of_own_n o2 L1.out
  go_wp2_with fail
  refine (spec_FirstRun_c _ _ _ _ rs0 X1_3 L0.out hn _ _ _ xs1 X2 L1.out hn1).mono ?_
  rintro e w4 ⟨rfl, b4⟩
  have R0_4 := R0_3.below b4
  have R1_4 := R1_3.below b4
  have X1_4 := X1_3.below b4
  have X2_4 := X2.below b4
  have bb4 := bb3.trans (b4.mono bb3.size)
  go_wp2_with fail
  refine (toRuleS_c A0 c0 n0 rs0 _ R0_4 L0.out hn).mono ?_
  rintro e w5 ⟨rfl, o3, b5⟩
  have R0_5 := R0_4.below b5
  have R1_5 := R1_4.below b5
  have X1_5 := X1_4.below b5
  have X2_5 := X2_4.below b5
  have bb5 := bb4.trans (b5.mono bb4.size)
  have X3 := Rl_of_own o3 L0.out
  go_wp2_with fail
  refine (toIntS_c A1 c1 n1 xs1 _ R1_5 L1.out hn1).mono ?_
  rintro e w6 ⟨rfl, o4, b6⟩
  have R0_6 := R0_5.below b6
  have R1_6 := R1_5.below b6
  have X1_6 := X1_5.below b6
  have X2_6 := X2_5.below b6
  have X3_6 := X3.below b6
  have bb6 := bb5.trans (b6.mono bb5.size)
  have X4 := Il_of_own_n o4 L1.out
  go_wp2_with fail
  refine (impl_FirstRun_c _ _ _ _ rs0 X3_6 L0.out hn _ _ _ xs1 X4 L1.out hn1).mono ?_
  rintro e w7 ⟨rfl, b7⟩
  have R0_7 := R0_6.below b7
  have R1_7 := R1_6.below b7
  have X1_7 := X1_6.below b7
  have X2_7 := X2_6.below b7
  have X3_7 := X3_6.below b7
  have X4_7 := X4.below b7
  have bb7 := bb6.trans (b7.mono bb6.size)
  go_wp2_with fail
  refine (toRuleS_c A0 c0 n0 rs0 _ R0_7 L0.out hn).mono ?_
  rintro e w8 ⟨rfl, o5, b8⟩
  have R0_8 := R0_7.below b8
  have R1_8 := R1_7.below b8
  have X1_8 := X1_7.below b8
  have X2_8 := X2_7.below b8
  have X3_8 := X3_7.below b8
  have X4_8 := X4_7.below b8
  have bb8 := bb7.trans (b8.mono bb7.size)
  have X5 := Rl_of_own o5 L0.out
  go_wp2_with fail
  refine (eqRuleS_yes _ _ _ _ _ _ rs0 _ X3_8 X5 L0.out L0.out hn hn).mono ?_
  rintro e w9 ⟨rfl, b9⟩
  have R0_9 := R0_8.below b9
  have R1_9 := R1_8.below b9
  have X1_9 := X1_8.below b9
  have X2_9 := X2_8.below b9
  have X3_9 := X3_8.below b9
  have X4_9 := X4_8.below b9
  have X5_9 := X5.below b9
  have bb9 := bb8.trans (b9.mono bb8.size)
  go_wp2_with fail
  refine (toIntS_c A1 c1 n1 xs1 _ R1_9 L1.out hn1).mono ?_
  rintro e w10 ⟨rfl, o6, b10⟩
  have R0_10 := R0_9.below b10
  have R1_10 := R1_9.below b10
  have X1_10 := X1_9.below b10
  have X2_10 := X2_9.below b10
  have X3_10 := X3_9.below b10
  have X4_10 := X4_9.below b10
  have X5_10 := X5_9.below b10
  have bb10 := bb9.trans (b10.mono bb9.size)
  have X6 := Il_of_own_n o6 L1.out
  go_wp2_with fail
  refine (eqIntS_yes _ _ _ _ _ _ xs1 _ X4_10 X6 L1.out L1.out hn1).mono ?_
  rintro e w11 ⟨rfl, b11⟩
  have R0_11 := R0_10.below b11
  have R1_11 := R1_10.below b11
  have X1_11 := X1_10.below b11
  have X2_11 := X2_10.below b11
  have X3_11 := X3_10.below b11
  have X4_11 := X4_10.below b11
  have X5_11 := X5_10.below b11
  have X6_11 := X6.below b11
  have bb11 := bb10.trans (b11.mono bb10.size)
  go_wp2
  go_ret
  exact ⟨rfl, bb11⟩

theorem walk_FnExactFirstRun (w : World) (A0 : Option Addr) (n0 c0 : Nat) (rs0 : List (Int × Int)) (l0 : n0 = rs0.length) (m0 : n0 ≤ 9223372036854775807) (R0 : Rl w A0 rs0) (A1 : Option Addr) (n1 c1 : Nat) (xs1 : List Int) (l1 : n1 = xs1.length) (m1 : n1 ≤ 9223372036854775807) (R1 : Il w A1 xs1) :
    Calls Try.prog 17 #[.slice A0 n0 c0, .slice A1 n1 c1] w fun e w' => e = .returned (.bool true) ∧ Below w.heap.size w w' := by
  by_cases hn1 : n1 ≤ 1048576
  · by_cases hn : n0 ≤ 1048576
    · exact walk_FnExactFirstRun_3 w A0 n0 c0 rs0 l0 m0 R0 A1 n1 c1 xs1 l1 m1 R1 hn1 hn
    · exact walk_FnExactFirstRun_2 w A0 n0 c0 rs0 l0 m0 R0 A1 n1 c1 xs1 l1 m1 R1 hn1 hn
  · exact walk_FnExactFirstRun_1 w A0 n0 c0 rs0 l0 m0 R0 A1 n1 c1 xs1 l1 m1 R1 hn1

set_option maxRecDepth 100000 in
theorem lifted_FnExactFirstRun (os : Os) (started : os.Started) (H : Type) (enc : TypeId × Value → H) :
    ReturnsInHanded {} Try.checked os 17 .any (Rows.fnExactFirstRunSpec.pre6 enc Try.prog Try.f17 Rows.fnExactFirstRunRow.domain false) (Rows.fnExactFirstRunSpec.post enc Try.prog Try.f17 false true false false) := by
  refine returnsInHanded_of_change (C := Try.checked) own started (by kernel_rfl) Try.func17
    (ChangeSpec.witness6 (enc := enc) (C := Try.checked) false ⟨#[], #[.slice none 0 0, .slice none 0 0], []⟩ 8 (by kernel_rfl) (by kernel_rfl) (by kernel_rfl) (by kernel_rfl)) ?_
  intro W base args ds gs before hval0 hW hcnd _
  have hval : ∀ (j : Nat) t v, Try.f17.params[j]? = some t → args[j]? = some v → Value.okWide Try.prog W .any base t v := hval0
  have hW' := hW
  obtain ⟨p, q, hA0, hV, rfl, hfz, hnd⟩ := hW
  have hA : DataW.TrodAll enc Try.prog W 0 (fun _ => true) true Try.f17.params.toList args.toList ds p := hA0
  rw [Try.params17] at hA hval
  obtain ⟨v0, vs0, d0, ds0, p0, q0, hargs, rfl, rfl, h0, r0⟩ := trodAll_cons hA
  obtain ⟨v1, vs1, d1, ds1, p1, q1, rfl, rfl, rfl, h1, r1⟩ := trodAll_cons r0
  obtain ⟨rfl, rfl, rfl⟩ := trodAll_nil r1
  obtain rfl : args = #[v0, v1] := by cases args; simp_all
  obtain ⟨rfl, rfl⟩ := trodVars_none hV
  have k0 := h0
  have lt0 : ∀ x ∈ p0, x.block < W.heap.size := by obtain ⟨m, hm⟩ := k0; exact DataW.trod_lt m _ _ _ hm
  obtain ⟨A0, n0, c0, rs0, rfl, l0, m0, R0⟩ := open_rules (hval 0 22 v0 rfl rfl) h0
  have k1 := h1
  have lt1 : ∀ x ∈ p1, x.block < W.heap.size := by obtain ⟨m, hm⟩ := k1; exact DataW.trod_lt m _ _ _ hm
  obtain ⟨A1, n1, c1, xs1, rfl, l1, m1, R1⟩ := open_intL (hval 1 30 v1 rfl rfl) h1
  clear hA0 hval0
  refine (walk_FnExactFirstRun W A0 n0 c0 rs0 l0 m0 R0 A1 n1 c1 xs1 l1 m1 R1).mono fun e W' ⟨he, bel⟩ => ?_
  subst he
  exact ⟨_, rfl, _, _, _, [], _, [], hW', trodAll_mk1 (shut_bool Try.underlying4 _), (trodAll_cons_mk (Below.trod laidOut (by kernel_rfl) (of_decide_eq_true (by kernel_rfl)) k0 bel lt0) (trodAll_cons_mk (Below.trod laidOut (by kernel_rfl) (of_decide_eq_true (by kernel_rfl)) k1 bel lt1) trodAll_mk0)), rfl, bel.frame _, fun h => by cases h⟩

theorem closed_FnExactFirstRun : joinedFacts Try.prog 17 Try.f17 Rows.fnExactFirstRunSpec Rows.fnExactFirstRunRow = true := by
  unfold joinedFacts
  rw [head_enters, head_final, head_make]
  kernel_rfl
theorem over_FnExactFirstRun : Rows.fnExactFirstRunRow.holds Try.pinned (OpenSpec.ofChange Rows.fnExactFirstRunSpec) :=
  OpenClaim.holds_of_wide 17 Try.f17 rfl rfl rfl rfl rfl rfl rfl ⟨rfl, rfl, rfl, rfl, rfl⟩ rfl rfl rfl rfl rfl (by kernel_rfl) Try.func17 closed_FnExactFirstRun
    (of_decide_eq_true (by kernel_rfl)) (by unfold Func.isWrapper; first | (rw [if_pos (by decide +kernel)]; kernel_rfl) | (rw [if_neg (by decide +kernel)]; exact ⟨rfl, rfl⟩))
    (fun os started H enc _ => lifted_FnExactFirstRun os started H enc)

theorem fnExactFirstRun_holds : Rows.FnExactFirstRunSaid := over_FnExactFirstRun

end Go.Proofs.Ytdiaoidpmhighaa
