/- For every list of rules that comes in, spec.AreRules and impl.AreRules answer alike, and impl.AreRules leaves its argument as it was: laws.FnExactAreRules returns true. Conditions: none. -/
import Derived.Test.YtbaimgdnajompaaL0
namespace Go.Proofs.Ytbaimgdnajompaa
open Go.ChangeShapes Go.WideShapes Go.ChangeAt Go.RowKit Go.Deep
set_option linter.unusedVariables false
set_option linter.unusedSimpArgs false

set_option maxHeartbeats 1000000 in
theorem walk_FnExactAreRules (w : World) (A : Option Addr) (n c : Nat) (rs : List (Int × Int)) (l : n = rs.length) (m : n ≤ 9223372036854775807) (R : Rl w A rs) :
    Calls Try.prog 4 #[.slice A n c] w fun e w' => e = .returned (.bool true) ∧ Below w.heap.size w w' := by
  have L := Lib.hid l
  clear l
  by_cases hn : n ≤ 1048576
  · have hs0 : (goodL rs != goodL rs) = false := by simp
    go_enter Try.func4, Try.ntmps4
    go_wp2_with fail
    refine (szRuleS_c _ _ _ _ _ rfl m).mono ?_
    rw [if_pos hn]
    rintro e w' ⟨rfl, rfl⟩
    go_wp2_with fail
    refine (toRuleS_c A c n rs _ R L.out hn).mono ?_
    rintro e w1 ⟨rfl, o1, b1⟩
    have R1 := Rl_of_own o1 L.out
    go_wp2_with fail
    refine (specAreRules_c _ _ _ rs _ R1 L.out hn).mono ?_
    rintro e w2 ⟨rfl, b2⟩
    have b02 := b1.trans (b2.mono b1.size)
    have R2 := R.below b02
    go_wp2_with fail
    refine (toRuleS_c A c n rs _ R2 L.out hn).mono ?_
    rintro e w3 ⟨rfl, o3, b3⟩
    have R3 := Rl_of_own o3 L.out
    have b03 := b02.trans (b3.mono b02.size)
    go_wp2_with fail
    refine (implAreRules_c _ _ _ rs _ R3 L.out hn).mono ?_
    rintro e w4 ⟨rfl, b4⟩
    have R4 := R3.below b4
    have b04 := b03.trans (b4.mono b03.size)
    have R5 := R.below b04
    go_wp2_with fail
    refine (toRuleS_c A c n rs _ R5 L.out hn).mono ?_
    rintro e w5 ⟨rfl, o5, b5⟩
    have R6 := Rl_of_own o5 L.out
    have b05 := b04.trans (b5.mono b04.size)
    have R7 := R4.below b5
    go_wp2_with fail
    refine (eqRuleS_c _ _ _ _ _ _ rs rs _ R7 R6 L.out L.out hn hn).mono ?_
    rw [show eqL rs rs = true from decide_eq_true rfl]
    rintro e w6 ⟨rfl, b6⟩
    have b06 := b05.trans (b6.mono b05.size)
    go_wp2_with fail
    go_ret
    exact ⟨rfl, b06⟩
  · go_enter Try.func4, Try.ntmps4
    go_wp2_with fail
    refine (szRuleS_c _ _ _ _ _ rfl m).mono ?_
    rw [if_neg hn]
    rintro e w' ⟨rfl, rfl⟩
    go_wp2_with fail
    go_ret
    exact ⟨rfl, Below.refl _ _⟩

set_option maxRecDepth 100000 in
theorem lifted_FnExactAreRules (os : Os) (started : os.Started) (H : Type) (enc : TypeId × Value → H) :
    ReturnsInHanded {} Try.checked os 4 .any (Rows.fnExactAreRulesSpec.pre6 enc Try.prog Try.f4 Rows.fnExactAreRulesRow.domain false) (Rows.fnExactAreRulesSpec.post enc Try.prog Try.f4 false true false false) := by
  refine returnsInHanded_of_change (C := Try.checked) own started (by kernel_rfl) Try.func4
    (ChangeSpec.witness6 (enc := enc) (C := Try.checked) false ⟨#[], #[.slice none 0 0], []⟩ 8 (by kernel_rfl) (by kernel_rfl) (by kernel_rfl) (by kernel_rfl)) ?_
  intro W base args ds gs before hval0 hW hcnd _
  have hval : ∀ (j : Nat) t v, Try.f4.params[j]? = some t → args[j]? = some v → Value.okWide Try.prog W .any base t v := hval0
  have hW' := hW
  obtain ⟨p, q, hA0, hV, rfl, hfz, hnd⟩ := hW
  have hA : DataW.TrodAll enc Try.prog W 0 (fun _ => true) true Try.f4.params.toList args.toList ds p := hA0
  rw [Try.params4] at hA hval
  obtain ⟨v0, vs0, d0, ds0, p0, q0, hargs, rfl, rfl, h0, r0⟩ := trodAll_cons hA
  obtain ⟨rfl, rfl, rfl⟩ := trodAll_nil r0
  obtain rfl : args = #[v0] := by cases args; simp_all
  obtain ⟨rfl, rfl⟩ := trodVars_none hV
  have k0 := h0
  have lt0 : ∀ x ∈ p0, x.block < W.heap.size := by obtain ⟨m, hm⟩ := k0; exact DataW.trod_lt m _ _ _ hm
  obtain ⟨A0, n0, c0, rs0, rfl, l0, m0, R0⟩ := open_rules (hval 0 28 v0 rfl rfl) h0
  clear hA0 hval0
  refine (walk_FnExactAreRules W A0 n0 c0 rs0 l0 m0 R0).mono fun e W' ⟨he, bel⟩ => ?_
  subst he
  exact ⟨_, rfl, _, _, _, [], _, [], hW', trodAll_mk1 (shut_bool Try.underlying4 _), (trodAll_cons_mk (Below.trod laidOut (by kernel_rfl) (of_decide_eq_true (by kernel_rfl)) k0 bel lt0) trodAll_mk0), rfl, bel.frame _, fun h => by cases h⟩

theorem closed_FnExactAreRules : joinedFacts Try.prog 4 Try.f4 Rows.fnExactAreRulesSpec Rows.fnExactAreRulesRow = true := by
  unfold joinedFacts
  rw [head_enters, head_final, head_make]
  kernel_rfl
theorem over_FnExactAreRules : Rows.fnExactAreRulesRow.holds Try.pinned (OpenSpec.ofChange Rows.fnExactAreRulesSpec) :=
  OpenClaim.holds_of_wide 4 Try.f4 rfl rfl rfl rfl rfl rfl rfl ⟨rfl, rfl, rfl, rfl, rfl⟩ rfl rfl rfl rfl rfl (by kernel_rfl) Try.func4 closed_FnExactAreRules
    (of_decide_eq_true (by kernel_rfl)) (by unfold Func.isWrapper; first | (rw [if_pos (by decide +kernel)]; kernel_rfl) | (rw [if_neg (by decide +kernel)]; exact ⟨rfl, rfl⟩))
    (fun os started H enc _ => lifted_FnExactAreRules os started H enc)

theorem fnExactAreRules_holds : Rows.FnExactAreRulesSaid := over_FnExactAreRules

end Go.Proofs.Ytbaimgdnajompaa
