/- For every value of type Rule, spec.IsRule and impl.IsRule answer alike: laws.FnExactIsRule returns true. Conditions: none. -/
import Derived.Test.YtbaimgdnajompaaL0
namespace Go.Proofs.Ytbaimgdnajompaa
open Go.ChangeShapes Go.WideShapes Go.ChangeAt Go.RowKit Go.Deep
set_option linter.unusedVariables false
set_option linter.unusedSimpArgs false

section
variable {H : Type} {enc : TypeId × Value → H} {W : World} {base b0 : Nat} {r : Reach} {spare : Nat → Bool} {held : Bool}
/-- An argument of type laws.Rule by value. -/
theorem open_rule {v : Value} {d : DataW H} {p : List MemPlace} (hval : Value.okWide Try.prog W r b0 23 v) (h : DataW.Trod enc Try.prog W base spare held 23 v d p) :
    ∃ e q : Int, v = .agg #[.int .i64 e, .int .i64 q] := by
  obtain ⟨c0, c1, y0, y1, m, rfl, rfl, rfl, hy0, hy1⟩ := Go.Joins.open_agg2 Try.underlying23 (by kernel_rfl) (by kernel_rfl) hval h
  obtain ⟨e, e0, _, _⟩ := DataW.trod_int Try.underlying3 hy0
  obtain ⟨q, e1, _, _⟩ := DataW.trod_int Try.underlying3 hy1
  simp at e0 e1
  subst e0 e1
  exact ⟨e, q, rfl⟩
end

set_option maxHeartbeats 1000000 in
theorem walk_FnExactIsRule (w : World) (e r : Int) :
    Calls Try.prog 3 #[.agg #[.int .i64 e, .int .i64 r]] w fun en w' => en = .returned (.bool true) ∧ Below w.heap.size w w' := by
  go_enter Try.func3, Try.ntmps3
  go_wp2_with fail
  refine (toRule_c _ _ _).mono ?_
  rintro en w1 ⟨rfl, b1⟩
  have b01 := ((Below.refl w.heap.size w).alloc (Nat.le_refl _) (.cells #[.int .i64 e, .int .i64 r] 23)).trans (b1.mono (by simp))
  go_wp2_with fail
  refine (specIsRule_c _ _ _).mono ?_
  rintro en w2 ⟨rfl, b2⟩
  have b02 := b01.trans (b2.mono b01.size)
  have hc0 : w2.cell? ⟨w.heap.size, 0, none⟩ = some (.int .i64 e) := by
    have hs := b1.size
    simp at hs
    rw [b2.cell (p := ⟨w.heap.size, 0, none⟩) (by simp; omega), b1.cell (p := ⟨w.heap.size, 0, none⟩) (by simp)]
    simp
  have hc1 : w2.cell? ⟨w.heap.size, 1, none⟩ = some (.int .i64 r) := by
    have hs := b1.size
    simp at hs
    rw [b2.cell (p := ⟨w.heap.size, 1, none⟩) (by simp; omega), b1.cell (p := ⟨w.heap.size, 1, none⟩) (by simp)]
    simp
  go_wp2_with fail
  refine (toRule_c _ _ _).mono ?_
  rintro en w3 ⟨rfl, b3⟩
  have b03 := b02.trans (b3.mono b02.size)
  go_wp2_with fail
  refine (implIsRule_c _ _ _).mono ?_
  rintro en w4 ⟨rfl, b4⟩
  have b04 := b03.trans (b4.mono b03.size)
  go_wp2
  go_ret
  exact ⟨rfl, b04⟩

set_option maxRecDepth 100000 in
theorem lifted_FnExactIsRule (os : Os) (started : os.Started) (H : Type) (enc : TypeId × Value → H) :
    ReturnsInHanded {} Try.checked os 3 .any (Rows.fnExactIsRuleSpec.pre6 enc Try.prog Try.f3 Rows.fnExactIsRuleRow.domain false) (Rows.fnExactIsRuleSpec.post enc Try.prog Try.f3 false true false false) := by
  refine returnsInHanded_of_change (C := Try.checked) own started (by kernel_rfl) Try.func3
    (ChangeSpec.witness6 (enc := enc) (C := Try.checked) false ⟨#[], #[.agg #[.int .i64 0, .int .i64 0]], []⟩ 8 (by kernel_rfl) (by kernel_rfl) (by kernel_rfl) (by kernel_rfl)) ?_
  intro W base args ds gs before hval0 hW hcnd _
  have hval : ∀ (j : Nat) t v, Try.f3.params[j]? = some t → args[j]? = some v → Value.okWide Try.prog W .any base t v := hval0
  have hW' := hW
  obtain ⟨p, q, hA0, hV, rfl, hfz, hnd⟩ := hW
  have hA : DataW.TrodAll enc Try.prog W 0 (fun _ => true) true Try.f3.params.toList args.toList ds p := hA0
  rw [Try.params3] at hA hval
  obtain ⟨v0, vs0, d0, ds0, p0, q0, hargs, rfl, rfl, h0, r0⟩ := trodAll_cons hA
  obtain ⟨rfl, rfl, rfl⟩ := trodAll_nil r0
  obtain rfl : args = #[v0] := by cases args; simp_all
  obtain ⟨rfl, rfl⟩ := trodVars_none hV
  have k0 := h0
  have lt0 : ∀ x ∈ p0, x.block < W.heap.size := by obtain ⟨m, hm⟩ := k0; exact DataW.trod_lt m _ _ _ hm
  obtain ⟨e0, r0, rfl⟩ := open_rule (hval 0 23 v0 rfl rfl) h0
  clear hA0 hval0
  refine (walk_FnExactIsRule W e0 r0).mono fun e W' ⟨he, bel⟩ => ?_
  subst he
  exact ⟨_, rfl, _, _, _, [], _, [], hW', trodAll_mk1 (shut_bool Try.underlying4 _), (trodAll_cons_mk (Below.trod laidOut (by kernel_rfl) (of_decide_eq_true (by kernel_rfl)) k0 bel lt0) trodAll_mk0), rfl, bel.frame _, fun h => by cases h⟩

theorem closed_FnExactIsRule : joinedFacts Try.prog 3 Try.f3 Rows.fnExactIsRuleSpec Rows.fnExactIsRuleRow = true := by
  unfold joinedFacts
  rw [head_enters, head_final, head_make]
  kernel_rfl
theorem over_FnExactIsRule : Rows.fnExactIsRuleRow.holds Try.pinned (OpenSpec.ofChange Rows.fnExactIsRuleSpec) :=
  OpenClaim.holds_of_wide 3 Try.f3 rfl rfl rfl rfl rfl rfl rfl ⟨rfl, rfl, rfl, rfl, rfl⟩ rfl rfl rfl rfl rfl (by kernel_rfl) Try.func3 closed_FnExactIsRule
    (of_decide_eq_true (by kernel_rfl)) (by unfold Func.isWrapper; first | (rw [if_pos (by decide +kernel)]; kernel_rfl) | (rw [if_neg (by decide +kernel)]; exact ⟨rfl, rfl⟩))
    (fun os started H enc _ => lifted_FnExactIsRule os started H enc)

theorem fnExactIsRule_holds : Rows.FnExactIsRuleSaid := over_FnExactIsRule

end Go.Proofs.Ytbaimgdnajompaa
