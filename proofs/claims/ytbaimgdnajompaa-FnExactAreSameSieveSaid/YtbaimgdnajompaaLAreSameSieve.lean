/- For every two lists of rules that come in, spec.AreSameSieve and impl.AreSameSieve answer alike, and impl.AreSameSieve leaves its arguments as they were: laws.FnExactAreSameSieve returns true. Conditions: none. -/
import Derived.Test.YtbaimgdnajompaaC7
namespace Go.Proofs.Ytbaimgdnajompaa
open Go.ChangeShapes Go.WideShapes Go.ChangeAt Go.RowKit Go.Deep
set_option linter.unusedVariables false
set_option linter.unusedSimpArgs false

set_option maxRecDepth 100000 in
theorem szR2_yes (A : Option Addr) (n c : Nat) (L : Int) (w : World) (h0 : 0 ≤ L) (h1 : L ≤ 1048576) (hn : (n : Int) ≤ L) :
    Calls Try.prog 23 #[.slice A n c, .int .i64 L] w fun en w' => en = .returned (.int .i64 (L - (n : Int))) ∧ w = w' := by
  have hw : IntKind.i64.wrap (L - (n : Int)) = L - (n : Int) := IntWalk.i64_in _ (by omega)
  have hp : ¬ L - (n : Int) < 0 := by omega
  go_enter Try.func23, Try.ntmps23
  go_wp2
  go_ret
  exact ⟨by first | rfl | (rw [hw]; rfl), rfl⟩
set_option maxRecDepth 100000 in
theorem szR2_no (A : Option Addr) (n c : Nat) (L : Int) (w : World) (h0 : 0 ≤ L) (h1 : L ≤ 1048576) (hn : n ≤ 9223372036854775807) (hl : ¬ (n : Int) ≤ L) :
    Calls Try.prog 23 #[.slice A n c, .int .i64 L] w fun en w' => en = .returned (.int .i64 (-1)) ∧ w = w' := by
  have hw : IntKind.i64.wrap (L - (n : Int)) = L - (n : Int) := IntWalk.i64_in _ (by omega)
  have hp : L - (n : Int) < 0 := by omega
  go_enter Try.func23, Try.ntmps23
  go_wp2
  go_ret
  exact ⟨rfl, rfl⟩

set_option maxRecDepth 100000 in
set_option maxHeartbeats 1000000 in
theorem walk_FnExactAreSameSieve_1 (w : World) (A0 : Option Addr) (n0 c0 : Nat) (rs0 : List (Int × Int)) (l0 : n0 = rs0.length) (m0 : n0 ≤ 9223372036854775807) (R0 : Rl w A0 rs0) (A1 : Option Addr) (n1 c1 : Nat) (rs1 : List (Int × Int)) (l1 : n1 = rs1.length) (m1 : n1 ≤ 9223372036854775807) (R1 : Rl w A1 rs1) (hn : ¬ n0 ≤ 1048576) :
    Calls Try.prog 19 #[.slice A0 n0 c0, .slice A1 n1 c1] w fun en w' => en = .returned (.bool true) ∧ Below w.heap.size w w' := by
  clear l0 l1
  go_enter Try.func19, Try.ntmps19
  go_wp2_with fail
  refine (szR_no _ _ _ _ m0 hn).mono ?_
  rintro e w1 ⟨rfl, rfl⟩
  go_wp2
  go_ret
  exact ⟨rfl, Below.refl _ _⟩

set_option maxRecDepth 100000 in
set_option maxHeartbeats 1000000 in
theorem walk_FnExactAreSameSieve_2 (w : World) (A0 : Option Addr) (n0 c0 : Nat) (rs0 : List (Int × Int)) (l0 : n0 = rs0.length) (m0 : n0 ≤ 9223372036854775807) (R0 : Rl w A0 rs0) (A1 : Option Addr) (n1 c1 : Nat) (rs1 : List (Int × Int)) (l1 : n1 = rs1.length) (m1 : n1 ≤ 9223372036854775807) (R1 : Rl w A1 rs1) (hn : n0 ≤ 1048576) (hn1 : ¬ (n1 : Int) ≤ 1048576 - (n0 : Int)) :
    Calls Try.prog 19 #[.slice A0 n0 c0, .slice A1 n1 c1] w fun en w' => en = .returned (.bool true) ∧ Below w.heap.size w w' := by
  clear l0 l1
  go_enter Try.func19, Try.ntmps19
  go_wp2_with fail
  refine (szR_yes _ _ _ _ hn).mono ?_
  rintro e w1 ⟨rfl, rfl⟩
  go_wp2_with fail
  refine (szR2_no _ _ _ (1048576 - (n0 : Int)) _ (by omega) (by omega) m1 (by omega)).mono ?_
  rintro e w2 ⟨rfl, rfl⟩
  go_wp2
  go_ret
  exact ⟨rfl, Below.refl _ _⟩

set_option maxRecDepth 100000 in
set_option maxHeartbeats 2000000 in
theorem walk_FnExactAreSameSieve_3 (w : World) (A0 : Option Addr) (n0 c0 : Nat) (rs0 : List (Int × Int)) (l0 : n0 = rs0.length) (m0 : n0 ≤ 9223372036854775807) (R0 : Rl w A0 rs0) (A1 : Option Addr) (n1 c1 : Nat) (rs1 : List (Int × Int)) (l1 : n1 = rs1.length) (m1 : n1 ≤ 9223372036854775807) (R1 : Rl w A1 rs1) (hn : n0 ≤ 1048576) (hn1 : (n1 : Int) ≤ 1048576 - (n0 : Int)) (hn2 : n1 ≤ 1048576) :
    Calls Try.prog 19 #[.slice A0 n0 c0, .slice A1 n1 c1] w fun en w' => en = .returned (.bool true) ∧ Below w.heap.size w w' := by
  have L0 := Lib.hid l0
  have L1 := Lib.hid l1
  clear l0 l1
  go_enter Try.func19, Try.ntmps19
  go_wp2_with fail
  refine (szR_yes _ _ _ _ hn).mono ?_
  rintro e w1 ⟨rfl, rfl⟩
  go_wp2_with fail
  refine (szR2_yes _ _ _ _ _ (by omega) (by omega) hn1).mono ?_
  rintro e w2 ⟨rfl, rfl⟩
  go_wp2_with fail
  refine (toRuleS_c A0 c0 n0 rs0 _ R0 L0.out hn).mono ?_
  rintro e w3 ⟨rfl, o1, b3⟩
  have R0_3 := R0.below b3
  have R1_3 := R1.below b3
  have X1 := Rl_of_own o1 L0.out
  go_wp2_with fail
  refine (toRuleS_c A1 c1 n1 rs1 _ R1_3 L1.out hn2).mono ?_
  rintro e w4 ⟨rfl, o2, b4⟩
  have R0_4 := R0_3.below b4
  have R1_4 := R1_3.below b4
  have X1_4 := X1.below b4
  have bb4 := b3.trans (b4.mono b3.size)
  have X2 := Rl_of_own o2 L1.out
  go_wp2_with fail
  refine (spec_AreSameSieve_c _ _ _ _ rs0 X1_4 L0.out hn _ _ _ rs1 X2 L1.out hn2).mono ?_
  rintro e w5 ⟨rfl, b5⟩
  have R0_5 := R0_4.below b5
  have R1_5 := R1_4.below b5
  have X1_5 := X1_4.below b5
  have X2_5 := X2.below b5
  have bb5 := bb4.trans (b5.mono bb4.size)
  go_wp2_with fail
  refine (toRuleS_c A0 c0 n0 rs0 _ R0_5 L0.out hn).mono ?_
  rintro e w6 ⟨rfl, o3, b6⟩
  have R0_6 := R0_5.below b6
  have R1_6 := R1_5.below b6
  have X1_6 := X1_5.below b6
  have X2_6 := X2_5.below b6
  have bb6 := bb5.trans (b6.mono bb5.size)
  have X3 := Rl_of_own o3 L0.out
  go_wp2_with fail
  refine (toRuleS_c A1 c1 n1 rs1 _ R1_6 L1.out hn2).mono ?_
  rintro e w7 ⟨rfl, o4, b7⟩
  have R0_7 := R0_6.below b7
  have R1_7 := R1_6.below b7
  have X1_7 := X1_6.below b7
  have X2_7 := X2_6.below b7
  have X3_7 := X3.below b7
  have bb7 := bb6.trans (b7.mono bb6.size)
  have X4 := Rl_of_own o4 L1.out
  go_wp2_with fail
  refine (impl_AreSameSieve_c _ _ _ _ rs0 X3_7 L0.out hn _ _ _ rs1 X4 L1.out hn2).mono ?_
  rintro e w8 ⟨rfl, b8⟩
  have R0_8 := R0_7.below b8
  have R1_8 := R1_7.below b8
  have X1_8 := X1_7.below b8
  have X2_8 := X2_7.below b8
  have X3_8 := X3_7.below b8
  have X4_8 := X4.below b8
  have bb8 := bb7.trans (b8.mono bb7.size)
  go_wp2_with fail
  refine (toRuleS_c A0 c0 n0 rs0 _ R0_8 L0.out hn).mono ?_
  rintro e w9 ⟨rfl, o5, b9⟩
  have R0_9 := R0_8.below b9
  have R1_9 := R1_8.below b9
  have X1_9 := X1_8.below b9
  have X2_9 := X2_8.below b9
  have X3_9 := X3_8.below b9
  have X4_9 := X4_8.below b9
  have bb9 := bb8.trans (b9.mono bb8.size)
  have X5 := Rl_of_own o5 L0.out
  go_wp2_with fail
  refine (eqRuleS_yes _ _ _ _ _ _ rs0 _ X3_9 X5 L0.out L0.out hn hn).mono ?_
  rintro e w10 ⟨rfl, b10⟩
  have R0_10 := R0_9.below b10
  have R1_10 := R1_9.below b10
  have X1_10 := X1_9.below b10
  have X2_10 := X2_9.below b10
  have X3_10 := X3_9.below b10
  have X4_10 := X4_9.below b10
  have X5_10 := X5.below b10
  have bb10 := bb9.trans (b10.mono bb9.size)
  go_wp2_with fail
  refine (toRuleS_c A1 c1 n1 rs1 _ R1_10 L1.out hn2).mono ?_
  rintro e w11 ⟨rfl, o6, b11⟩
  have R0_11 := R0_10.below b11
  have R1_11 := R1_10.below b11
  have X1_11 := X1_10.below b11
  have X2_11 := X2_10.below b11
  have X3_11 := X3_10.below b11
  have X4_11 := X4_10.below b11
  have X5_11 := X5_10.below b11
  have bb11 := bb10.trans (b11.mono bb10.size)
  have X6 := Rl_of_own o6 L1.out
  go_wp2_with fail
  refine (eqRuleS_yes _ _ _ _ _ _ rs1 _ X4_11 X6 L1.out L1.out hn2 hn2).mono ?_
  rintro e w12 ⟨rfl, b12⟩
  have R0_12 := R0_11.below b12
  have R1_12 := R1_11.below b12
  have X1_12 := X1_11.below b12
  have X2_12 := X2_11.below b12
  have X3_12 := X3_11.below b12
  have X4_12 := X4_11.below b12
  have X5_12 := X5_11.below b12
  have X6_12 := X6.below b12
  have bb12 := bb11.trans (b12.mono bb11.size)
  go_wp2
  go_ret
  exact ⟨rfl, bb12⟩

theorem walk_FnExactAreSameSieve (w : World) (A0 : Option Addr) (n0 c0 : Nat) (rs0 : List (Int × Int)) (l0 : n0 = rs0.length) (m0 : n0 ≤ 9223372036854775807) (R0 : Rl w A0 rs0) (A1 : Option Addr) (n1 c1 : Nat) (rs1 : List (Int × Int)) (l1 : n1 = rs1.length) (m1 : n1 ≤ 9223372036854775807) (R1 : Rl w A1 rs1) :
    Calls Try.prog 19 #[.slice A0 n0 c0, .slice A1 n1 c1] w fun e w' => e = .returned (.bool true) ∧ Below w.heap.size w w' := by
  by_cases hn : n0 ≤ 1048576
  · by_cases hn1 : (n1 : Int) ≤ 1048576 - (n0 : Int)
    · exact walk_FnExactAreSameSieve_3 w A0 n0 c0 rs0 l0 m0 R0 A1 n1 c1 rs1 l1 m1 R1 hn hn1 (by omega)
    · exact walk_FnExactAreSameSieve_2 w A0 n0 c0 rs0 l0 m0 R0 A1 n1 c1 rs1 l1 m1 R1 hn hn1
  · exact walk_FnExactAreSameSieve_1 w A0 n0 c0 rs0 l0 m0 R0 A1 n1 c1 rs1 l1 m1 R1 hn

set_option maxRecDepth 100000 in
theorem lifted_FnExactAreSameSieve (os : Os) (started : os.Started) (H : Type) (enc : TypeId × Value → H) :
    ReturnsInHanded {} Try.checked os 19 .any (Rows.fnExactAreSameSieveSpec.pre6 enc Try.prog Try.f19 Rows.fnExactAreSameSieveRow.domain false) (Rows.fnExactAreSameSieveSpec.post enc Try.prog Try.f19 false true false false) := by
  refine returnsInHanded_of_change (C := Try.checked) own started (by kernel_rfl) Try.func19
    (ChangeSpec.witness6 (enc := enc) (C := Try.checked) false ⟨#[], #[.slice none 0 0, .slice none 0 0], []⟩ 8 (by kernel_rfl) (by kernel_rfl) (by kernel_rfl) (by kernel_rfl)) ?_
  intro W base args ds gs before hval0 hW hcnd _
  have hval : ∀ (j : Nat) t v, Try.f19.params[j]? = some t → args[j]? = some v → Value.okWide Try.prog W .any base t v := hval0
  have hW' := hW
  obtain ⟨p, q, hA0, hV, rfl, hfz, hnd⟩ := hW
  have hA : DataW.TrodAll enc Try.prog W 0 (fun _ => true) true Try.f19.params.toList args.toList ds p := hA0
  rw [Try.params19] at hA hval
  obtain ⟨v0, vs0, d0, ds0, p0, q0, hargs, rfl, rfl, h0, r0⟩ := trodAll_cons hA
  obtain ⟨v1, vs1, d1, ds1, p1, q1, rfl, rfl, rfl, h1, r1⟩ := trodAll_cons r0
  obtain ⟨rfl, rfl, rfl⟩ := trodAll_nil r1
  obtain rfl : args = #[v0, v1] := by cases args; simp_all
  obtain ⟨rfl, rfl⟩ := trodVars_none hV
  have k0 := h0
  have lt0 : ∀ x ∈ p0, x.block < W.heap.size := by obtain ⟨m, hm⟩ := k0; exact DataW.trod_lt m _ _ _ hm
  obtain ⟨A0, n0, c0, rs0, rfl, l0, m0, R0⟩ := open_rules (hval 0 28 v0 rfl rfl) h0
  have k1 := h1
  have lt1 : ∀ x ∈ p1, x.block < W.heap.size := by obtain ⟨m, hm⟩ := k1; exact DataW.trod_lt m _ _ _ hm
  obtain ⟨A1, n1, c1, rs1, rfl, l1, m1, R1⟩ := open_rules (hval 1 28 v1 rfl rfl) h1
  clear hA0 hval0
  refine (walk_FnExactAreSameSieve W A0 n0 c0 rs0 l0 m0 R0 A1 n1 c1 rs1 l1 m1 R1).mono fun e W' ⟨he, bel⟩ => ?_
  subst he
  exact ⟨_, rfl, _, _, _, [], _, [], hW', trodAll_mk1 (shut_bool Try.underlying4 _), (trodAll_cons_mk (Below.trod laidOut (by kernel_rfl) (of_decide_eq_true (by kernel_rfl)) k0 bel lt0) (trodAll_cons_mk (Below.trod laidOut (by kernel_rfl) (of_decide_eq_true (by kernel_rfl)) k1 bel lt1) trodAll_mk0)), rfl, bel.frame _, fun h => by cases h⟩

theorem closed_FnExactAreSameSieve : joinedFacts Try.prog 19 Try.f19 Rows.fnExactAreSameSieveSpec Rows.fnExactAreSameSieveRow = true := by
  unfold joinedFacts
  rw [head_enters, head_final, head_make]
  kernel_rfl
theorem over_FnExactAreSameSieve : Rows.fnExactAreSameSieveRow.holds Try.pinned (OpenSpec.ofChange Rows.fnExactAreSameSieveSpec) :=
  OpenClaim.holds_of_wide 19 Try.f19 rfl rfl rfl rfl rfl rfl rfl ⟨rfl, rfl, rfl, rfl, rfl⟩ rfl rfl rfl rfl rfl (by kernel_rfl) Try.func19 closed_FnExactAreSameSieve
    (of_decide_eq_true (by kernel_rfl)) (by unfold Func.isWrapper; first | (rw [if_pos (by decide +kernel)]; kernel_rfl) | (rw [if_neg (by decide +kernel)]; exact ⟨rfl, rfl⟩))
    (fun os started H enc _ => lifted_FnExactAreSameSieve os started H enc)

theorem fnExactAreSameSieve_holds : Rows.FnExactAreSameSieveSaid := over_FnExactAreSameSieve

end Go.Proofs.Ytbaimgdnajompaa
