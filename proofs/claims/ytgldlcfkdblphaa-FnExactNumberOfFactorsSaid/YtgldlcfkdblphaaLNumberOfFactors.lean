/- For every list of lists of numbers that comes in, spec.NumberOfFactors and impl.NumberOfFactors answer alike, and the lists stay as they were: laws.FnExactNumberOfFactors returns true. Conditions: none. -/
import Derived.Test.YtgldlcfkdblphaaGK
namespace Go.Proofs.Ytgldlcfkdblphaa
open Go.ChangeShapes Go.WideShapes Go.ChangeAt Go.RowKit Go.Deep
set_option linter.unusedVariables false
set_option linter.unusedSimpArgs false

set_option maxRecDepth 100000 in
set_option maxHeartbeats 1000000 in
theorem walk_FnExactNumberOfFactors (w : World) (A0 : Option Addr) (n0 c0 : Nat) (ps0 : List (List Int)) (l0 : n0 = ps0.length) (m0 : n0 ≤ 9223372036854775807) (z0 : ∀ i, i < ps0.length → (psL ps0 i).length ≤ 9223372036854775807) (R0 : Lr w A0 ps0) :
    Calls Try.prog 11 #[.slice A0 n0 c0] w fun e w' => e = .returned (.bool true) ∧ Below w.heap.size w w' := by
  subst l0
  by_cases hn : ps0.length + sumL ps0 ps0.length ≤ 1048576
  · have hl : ps0.length ≤ 1048576 := by omega
    have hs : sumL ps0 ps0.length ≤ 1048576 := by omega
    have Hlen := Lib.hid (fun i (hi : i < ps0.length) => show (psL ps0 i).length ≤ 1048576 by have := sumL_len hi; omega)
    have hq : 0 ≤ 1048576 - (ps0.length : Int) - (sumL ps0 ps0.length : Int) := by omega
    clear z0
    go_enter Try.func11, Try.ntmps11
    go_wp2_with fail
    refine (szSS_yes _ _ _ _ _ R0 rfl hn).mono ?_
    rintro e w1 ⟨rfl, rfl⟩
    go_wp2_with fail
    refine (toIntSS_c A0 c0 _ ps0 _ R0 rfl hn).mono ?_
    rintro e w2 ⟨rfl, o2, b2⟩
    have R2 := R0.below b2
    have X2 := Lr_of_own o2
    clear o2
    go_wp2_with fail
    refine (spec_NumberOfFactors_c _ _ _ ps0 X2 hl Hlen.out).mono ?_
    rintro e w3 ⟨rfl, b3⟩
    have bb3 := b2.trans (b3.mono b2.size)
    have R3 := R2.below b3
    clear X2
    go_wp2_with fail
    refine (toIntSS_c A0 c0 _ ps0 _ R3 rfl hn).mono ?_
    rintro e w4 ⟨rfl, o4, b4⟩
    have bb4 := bb3.trans (b4.mono bb3.size)
    have R4 := R3.below b4
    have X4 := Lr_of_own o4
    clear o4
    go_wp2_with fail
    refine (impl_NumberOfFactors_c _ _ _ ps0 X4 hl Hlen.out).mono ?_
    rintro e w5 ⟨rfl, b5⟩
    have bb5 := bb4.trans (b5.mono bb4.size)
    have R5 := R4.below b5
    have X5 := X4.below b5
    go_wp2_with fail
    refine (toIntSS_c A0 c0 _ ps0 _ R5 rfl hn).mono ?_
    rintro e w6 ⟨rfl, o6, b6⟩
    have bb6 := bb5.trans (b6.mono bb5.size)
    have X6 := X5.below b6
    have Y6 := Lr_of_own o6
    clear o6
    go_wp2_with fail
    refine (eqIntSS_yes _ _ _ _ _ _ ps0 _ X6 Y6 rfl rfl hl hs).mono ?_
    rintro e w7 ⟨rfl, b7⟩
    go_wp2
    go_ret
    exact ⟨rfl, bb6.trans (b7.mono bb6.size)⟩
  · go_enter Try.func11, Try.ntmps11
    go_wp2_with fail
    refine (szSS_no _ _ _ _ _ R0 rfl m0 z0 hn).mono ?_
    rintro e w1 ⟨rfl, rfl⟩
    go_wp2
    go_ret
    exact ⟨rfl, Below.refl _ _⟩

set_option maxRecDepth 100000 in
theorem lifted_FnExactNumberOfFactors (os : Os) (started : os.Started) (H : Type) (enc : TypeId × Value → H) :
    ReturnsInHanded {} Try.checked os 11 .any (Rows.fnExactNumberOfFactorsSpec.pre6 enc Try.prog Try.f11 Rows.fnExactNumberOfFactorsRow.domain false) (Rows.fnExactNumberOfFactorsSpec.post enc Try.prog Try.f11 false true false false) := by
  refine returnsInHanded_of_change (C := Try.checked) own started (by kernel_rfl) Try.func11
    (ChangeSpec.witness6 (enc := enc) (C := Try.checked) false ⟨#[], #[.slice none 0 0], []⟩ 8 (by kernel_rfl) (by kernel_rfl) (by kernel_rfl) (by kernel_rfl)) ?_
  intro W base args ds gs before hval0 hW hcnd _
  have hval : ∀ (j : Nat) t v, Try.f11.params[j]? = some t → args[j]? = some v → Value.okWide Try.prog W .any base t v := hval0
  have hW' := hW
  obtain ⟨p, q, hA0, hV, rfl, hfz, hnd⟩ := hW
  have hA : DataW.TrodAll enc Try.prog W 0 (fun _ => true) true Try.f11.params.toList args.toList ds p := hA0
  rw [Try.params11] at hA hval
  obtain ⟨v0, vs0, d0, ds0, p0, q0, hargs, rfl, rfl, h0, r0⟩ := trodAll_cons hA
  obtain ⟨rfl, rfl, rfl⟩ := trodAll_nil r0
  obtain rfl : args = #[v0] := by cases args; simp_all
  obtain ⟨rfl, rfl⟩ := trodVars_none hV
  have k0 := h0
  have lt0 : ∀ x ∈ p0, x.block < W.heap.size := by obtain ⟨m, hm⟩ := k0; exact DataW.trod_lt m _ _ _ hm
  obtain ⟨A0, n0, c0, ps0, rfl, l0, m0, z0, R0⟩ := open_intLL (hval 0 34 v0 rfl rfl) h0
  clear hA0 hval0
  refine (walk_FnExactNumberOfFactors W A0 n0 c0 ps0 l0 m0 z0 R0).mono fun e W' ⟨he, bel⟩ => ?_
  subst he
  exact ⟨_, rfl, _, _, _, [], _, [], hW', trodAll_mk1 (shut_bool Try.underlying4 _), (trodAll_cons_mk (Below.trod laidOut (by kernel_rfl) (of_decide_eq_true (by kernel_rfl)) k0 bel lt0) trodAll_mk0), rfl, bel.frame _, fun h => by cases h⟩

theorem closed_FnExactNumberOfFactors : joinedFacts Try.prog 11 Try.f11 Rows.fnExactNumberOfFactorsSpec Rows.fnExactNumberOfFactorsRow = true := by
  unfold joinedFacts
  rw [head_enters, head_final, head_make]
  kernel_rfl
theorem over_FnExactNumberOfFactors : Rows.fnExactNumberOfFactorsRow.holds Try.pinned (OpenSpec.ofChange Rows.fnExactNumberOfFactorsSpec) :=
  OpenClaim.holds_of_wide 11 Try.f11 rfl rfl rfl rfl rfl rfl rfl ⟨rfl, rfl, rfl, rfl, rfl⟩ rfl rfl rfl rfl rfl (by kernel_rfl) Try.func11 closed_FnExactNumberOfFactors
    (of_decide_eq_true (by kernel_rfl)) (by unfold Func.isWrapper; first | (rw [if_pos (by decide +kernel)]; kernel_rfl) | (rw [if_neg (by decide +kernel)]; exact ⟨rfl, rfl⟩))
    (fun os started H enc _ => lifted_FnExactNumberOfFactors os started H enc)

theorem fnExactNumberOfFactors_holds : Rows.FnExactNumberOfFactorsSaid := over_FnExactNumberOfFactors

end Go.Proofs.Ytgldlcfkdblphaa
