/- For whatever comes in, spec.MostCovered and impl.MostCovered answer alike, impl.MostCovered writes into none of its arguments, and what it hands back lies in memory of its own: laws.FnExactMostCovered returns true. Conditions: none. -/
import Derived.Test.YtoapidcbmlnjcaaIJ
import Derived.Test.YtoapidcbmlnjcaaQ8
import Derived.Test.YtoapidcbmlnjcaaL0
import Derived.Test.YtoapidcbmlnjcaaF3
namespace Go.Proofs.Ytoapidcbmlnjcaa
open Go.ChangeShapes Go.WideShapes Go.ChangeAt Go.RowKit Go.Deep
set_option linter.unusedVariables false
set_option linter.unusedSimpArgs false

set_option maxRecDepth 100000 in
set_option maxHeartbeats 1000000 in
theorem walk_FnExactMostCovered (w : World) (A0 : Option Addr) (n0 c0 : Nat) (xs0 : List Int) (l0 : n0 = xs0.length) (m0 : n0 ≤ 9223372036854775807) (R0 : Il w A0 xs0) :
    Calls Try.prog 15 #[.slice A0 n0 c0] w fun e w' => e = .returned (.bool true) ∧ Below w.heap.size w w' := by
  have L0 := Lib.hid l0
  clear l0
  by_cases hn : n0 ≤ 1048576
  · go_enter Try.func15, Try.ntmps15
    go_wp2_with fail
    refine (toIntS_c A0 c0 n0 xs0 _ R0 L0.out hn).mono ?_
    rintro e w1 ⟨rfl, o1, b1⟩
    have R0_1 := R0.below b1
    have X1 := Il_of_own_n o1 L0.out
    go_wp2_with fail
    refine (spec_MostCovered_c _ _ _ _ xs0 X1 L0.out hn (Nat.le_refl _)).mono ?_
    rintro e w2 ⟨rfl, b2⟩
    have R0_2 := R0_1.below b2
    have X1_2 := X1.below b2
    have bb2 := b1.trans (b2.mono b1.size)
    go_wp2_with fail
    refine (toIntS_c A0 c0 n0 xs0 _ R0_2 L0.out hn).mono ?_
    rintro e w3 ⟨rfl, o2, b3⟩
    have R0_3 := R0_2.below b3
    have X1_3 := X1_2.below b3
    have bb3 := bb2.trans (b3.mono bb2.size)
    have X2 := Il_of_own_n o2 L0.out
    go_wp2_with fail
    refine (impl_MostCovered_c _ _ _ _ xs0 X2 L0.out hn (Nat.le_refl _)).mono ?_
    rintro e w4 ⟨rfl, b4⟩
    have R0_4 := R0_3.below b4
    have X1_4 := X1_3.below b4
    have X2_4 := X2.below b4
    have bb4 := bb3.trans (b4.mono bb3.size)
    go_wp2_with fail
    refine (toIntS_c A0 c0 n0 xs0 _ R0_4 L0.out hn).mono ?_
    rintro e w5 ⟨rfl, o3, b5⟩
    have R0_5 := R0_4.below b5
    have X1_5 := X1_4.below b5
    have X2_5 := X2_4.below b5
    have bb5 := bb4.trans (b5.mono bb4.size)
    have X3 := Il_of_own_n o3 L0.out
    go_wp2_with fail
    refine (eqIntS_yes _ _ _ _ _ _ xs0 _ X2_5 X3 L0.out L0.out hn).mono ?_
    rintro e w6 ⟨rfl, b6⟩
    have R0_6 := R0_5.below b6
    have X1_6 := X1_5.below b6
    have X2_6 := X2_5.below b6
    have X3_6 := X3.below b6
    have bb6 := bb5.trans (b6.mono bb5.size)
    go_wp2
    go_ret
    exact ⟨rfl, bb6⟩
  · go_enter Try.func15, Try.ntmps15
    go_wp2
    go_ret
    exact ⟨rfl, Below.refl _ _⟩

set_option maxRecDepth 100000 in
theorem lifted_FnExactMostCovered (os : Os) (started : os.Started) (H : Type) (enc : TypeId × Value → H) :
    ReturnsInHanded {} Try.checked os 15 .any (Rows.fnExactMostCoveredSpec.pre6 enc Try.prog Try.f15 Rows.fnExactMostCoveredRow.domain false) (Rows.fnExactMostCoveredSpec.post enc Try.prog Try.f15 false true false false) := by
  refine returnsInHanded_of_change (C := Try.checked) own started (by kernel_rfl) Try.func15
    (ChangeSpec.witness6 (enc := enc) (C := Try.checked) false ⟨#[], #[.slice none 0 0], []⟩ 8 (by kernel_rfl) (by kernel_rfl) (by kernel_rfl) (by kernel_rfl)) ?_
  intro W base args ds gs before hval0 hW hcnd _
  have hval : ∀ (j : Nat) t v, Try.f15.params[j]? = some t → args[j]? = some v → Value.okWide Try.prog W .any base t v := hval0
  have hW' := hW
  obtain ⟨p, q, hA0, hV, rfl, hfz, hnd⟩ := hW
  have hA : DataW.TrodAll enc Try.prog W 0 (fun _ => true) true Try.f15.params.toList args.toList ds p := hA0
  rw [Try.params15] at hA hval
  obtain ⟨v0, vs0, d0, ds0, p0, q0, hargs, rfl, rfl, h0, r0⟩ := trodAll_cons hA
  obtain ⟨rfl, rfl, rfl⟩ := trodAll_nil r0
  obtain rfl : args = #[v0] := by cases args; simp_all
  obtain ⟨rfl, rfl⟩ := trodVars_none hV
  have k0 := h0
  have lt0 : ∀ x ∈ p0, x.block < W.heap.size := by obtain ⟨m, hm⟩ := k0; exact DataW.trod_lt m _ _ _ hm
  obtain ⟨A0, n0, c0, xs0, rfl, l0, m0, R0⟩ := open_intL (hval 0 30 v0 rfl rfl) h0
  clear hA0 hval0
  refine (walk_FnExactMostCovered W A0 n0 c0 xs0 l0 m0 R0).mono fun e W' ⟨he, bel⟩ => ?_
  subst he
  exact ⟨_, rfl, _, _, _, [], _, [], hW', trodAll_mk1 (shut_bool Try.underlying4 _), (trodAll_cons_mk (Below.trod laidOut (by kernel_rfl) (of_decide_eq_true (by kernel_rfl)) k0 bel lt0) trodAll_mk0), rfl, bel.frame _, fun h => by cases h⟩

theorem closed_FnExactMostCovered : joinedFacts Try.prog 15 Try.f15 Rows.fnExactMostCoveredSpec Rows.fnExactMostCoveredRow = true := by
  unfold joinedFacts
  rw [head_enters, head_final, head_make]
  kernel_rfl
theorem left_FnExactMostCovered (os : Os) (started : os.Started) (H : Type) (enc : TypeId × Value → H) :
    ReturnsInLeavingWide {} Try.checked os 15 .any (Rows.fnExactMostCoveredSpec.pre6 enc Try.prog Try.f15 Rows.fnExactMostCoveredRow.domain false) (Rows.fnExactMostCoveredSpec.post enc Try.prog Try.f15 false true false false) :=
  leaving_of_handed (lifted_FnExactMostCovered os started H enc)
theorem over_FnExactMostCovered : Rows.fnExactMostCoveredRow.holds Try.pinned (OpenSpec.ofChange Rows.fnExactMostCoveredSpec) :=
  OpenClaim.holds_of_wide_leaving 15 Try.f15 rfl rfl rfl rfl rfl rfl rfl ⟨rfl, rfl, rfl, rfl, rfl⟩ rfl rfl rfl rfl rfl (by kernel_rfl) Try.func15 closed_FnExactMostCovered
    (of_decide_eq_true (by kernel_rfl)) (by unfold Func.isWrapper; first | (rw [if_pos (by decide +kernel)]; kernel_rfl) | (rw [if_neg (by decide +kernel)]; exact ⟨rfl, rfl⟩))
    (fun os started H enc _ => left_FnExactMostCovered os started H enc)

theorem fnExactMostCovered_holds : Rows.FnExactMostCoveredSaid := over_FnExactMostCovered

end Go.Proofs.Ytoapidcbmlnjcaa
