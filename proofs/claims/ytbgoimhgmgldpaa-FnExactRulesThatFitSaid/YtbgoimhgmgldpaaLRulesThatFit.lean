/- For every value of type Puzzle, spec.RulesThatFit and impl.RulesThatFit answer alike, and what impl.RulesThatFit hands back lies in memory of its own: laws.FnExactRulesThatFit returns true. Conditions: none. -/
import Derived.Test.YtbgoimhgmgldpaaRJ
import Derived.Test.YtbgoimhgmgldpaaRT
namespace Go.Proofs.Ytbgoimhgmgldpaa
open Go.ChangeShapes Go.WideShapes Go.ChangeAt Go.RowKit Go.Deep
set_option maxRecDepth 100000
set_option linter.unusedVariables false
set_option linter.unusedSimpArgs false

set_option maxRecDepth 100000 in
set_option maxHeartbeats 2000000 in
theorem walk_FnExactRulesThatFit (w : World) (s0 : ByteArray) (n0 : Int) (z0 : s0.size ≤ maxLen) :
    Calls Try.prog 5 #[.agg #[.string s0, .int .i64 n0]] w fun e w' => e = .returned (.bool true) ∧ Below w.heap.size w w' := by
  have b0 : Below w.heap.size w (w.alloc (.cells #[.string s0, .int .i64 n0] 23)) := (Below.refl _ _).alloc (Nat.le_refl _) _
  have P0 := BoxP.new w (.string s0) (.int .i64 n0) 23
  have c0P0 := P0.1
  have c1P0 := P0.2.1
  by_cases hs : s0.size ≤ 1048576
  rotate_left
  · go_enter Try.func5, Try.ntmps5
    go_wp2_with fail
    refine (szPuzzle_no _ _ _ z0 hs).mono ?_
    rintro e w1 ⟨rfl, b1⟩
    have P0_1 := P0.below b1
    have c0P0_1 := P0_1.1
    have c1P0_1 := P0_1.2.1
    clear P0
    clear c0P0 c1P0
    have bb1 := b0.trans (b1.mono b0.size)
    go_wp2
    go_ret
    exact ⟨rfl, bb1⟩
  have hsi : (s0.size : Int) ≤ 1000000000 := by omega
  have hsn : ¬ (1048576 - (s0.size : Int) < 0) := by omega
  have hgl := rtV_len s0 n0
  go_enter Try.func5, Try.ntmps5
  go_wp2_with fail
  refine (szPuzzle_yes _ _ _ hs).mono ?_
  rintro e w1 ⟨rfl, b1⟩
  have P0_1 := P0.below b1
  have c0P0_1 := P0_1.1
  have c1P0_1 := P0_1.2.1
  clear P0
  clear c0P0 c1P0
  have bb1 := b0.trans (b1.mono b0.size)
  go_wp2_with fail
  refine (toPuzzle_c _ _ _).mono ?_
  rintro e w2 ⟨rfl, b2⟩
  have P0_2 := P0_1.below b2
  have c0P0_2 := P0_2.1
  have c1P0_2 := P0_2.2.1
  clear P0_1
  clear c0P0_1 c1P0_1
  have bb2 := bb1.trans (b2.mono bb1.size)
  go_wp2_with fail
  refine (spec_RulesThatFit_c _ s0 n0 hsi).mono ?_
  rintro e w3 ⟨⟨v3, rfl, o3⟩, b3⟩
  have P0_3 := P0_2.below b3
  have c0P0_3 := P0_3.1
  have c1P0_3 := P0_3.2.1
  clear P0_2
  clear c0P0_2 c1P0_2
  have bb3 := bb2.trans (b3.mono bb2.size)
  obtain ⟨Aw, cw, rfl⟩ := o3.shape
  have Iw := Rl_of_own' o3
  clear o3
  have PW5 := P0_3.2.2
  go_wp2_with fail
  refine (toPuzzle_c _ _ _).mono ?_
  rintro e w4 ⟨rfl, b4⟩
  have P0_4 := P0_3.below b4
  have c0P0_4 := P0_4.1
  have c1P0_4 := P0_4.2.1
  clear P0_3
  clear c0P0_3 c1P0_3
  go_wp2_with fail
  refine (impl_RulesThatFit_c _ s0 n0 hsi).mono ?_
  rintro e w5 ⟨⟨v5, rfl, o5⟩, b5⟩
  have P0_5 := P0_4.below b5
  have c0P0_5 := P0_5.1
  have c1P0_5 := P0_5.2.1
  clear P0_4
  clear c0P0_4 c1P0_4
  have bb5 := b4.trans (b5.mono b4.size)
  obtain ⟨Ag, cg, rfl⟩ := o5.shape
  have og := o5
  clear o5
  go_wp2_with fail
  refine (eqRuleS_yes _ _ _ _ _ _ _ _ (Rl_of_own' og) (Iw.below bb5) rfl rfl hgl hgl).mono ?_
  rintro e w6 ⟨rfl, b6⟩
  have P0_6 := P0_5.below b6
  have c0P0_6 := P0_6.1
  have c1P0_6 := P0_6.2.1
  clear P0_5
  clear c0P0_5 c1P0_5
  have og_6 := og.below b6
  have bb6 := bb5.trans (b6.mono bb5.size)
  go_wp2_with fail
  refine (markRuleS_c _ _ _ _ _ _ og_6 hgl).mono ?_
  rintro e w7 ⟨rfl, mk, gr7⟩
  have b7 : Below w3.heap.size w6 w7 := below_of_grown gr7 bb6.size (by intro q hq; have := (World.ownsRow.lt og_6 q hq).1; have h5 := b4.size; omega)
  have bb7 := bb6.trans b7
  have P0_7 := BoxP.grown P0_6 gr7 (by intro q hq; have h1 := (World.ownsRow.lt og_6 q hq).1; have h2 := PW5; have h5 := b4.size; omega)
  have c0P0_7 := P0_7.1
  have c1P0_7 := P0_7.2.1
  clear P0_6 c0P0_6 c1P0_6
  clear gr7
  go_wp2_with fail
  refine (heldRuleS_c _ _ _ _ _ mk hgl).mono ?_
  rintro e w8 ⟨rfl, rfl⟩
  go_wp2_with fail
  refine (toPuzzle_c _ _ _).mono ?_
  rintro e w9 ⟨rfl, b9⟩
  have mk_9 := mk.below b9
  have P0_9 := P0_7.below b9
  have c0P0_9 := P0_9.1
  have c1P0_9 := P0_9.2.1
  clear P0_7
  clear c0P0_7 c1P0_7
  have bb9 := bb7.trans (b9.mono bb7.size)
  go_wp2_with fail
  refine (impl_RulesThatFit_c _ s0 n0 hsi).mono ?_
  rintro e w10 ⟨⟨v10, rfl, o10⟩, b10⟩
  have mk_10 := mk_9.below b10
  have P0_10 := P0_9.below b10
  have c0P0_10 := P0_10.1
  have c1P0_10 := P0_10.2.1
  clear P0_9
  clear c0P0_9 c1P0_9
  have bb10 := bb9.trans (b10.mono bb9.size)
  obtain ⟨Ah, ch, rfl⟩ := o10.shape
  go_wp2_with fail
  refine (eqRuleS_yes _ _ _ _ _ _ _ _ (Rl_of_own' o10) (Iw.below bb10) rfl rfl hgl hgl).mono ?_
  rintro e w11 ⟨rfl, b11⟩
  have mk_11 := mk_10.below b11
  have P0_11 := P0_10.below b11
  have c0P0_11 := P0_11.1
  have c1P0_11 := P0_11.2.1
  clear P0_10
  clear c0P0_10 c1P0_10
  have bb11 := bb10.trans (b11.mono bb10.size)
  go_wp2_with fail
  refine (heldRuleS_c _ _ _ _ _ mk_11 hgl).mono ?_
  rintro e w12 ⟨rfl, rfl⟩
  go_wp2
  go_ret
  exact ⟨rfl, bb3.trans (bb11.mono bb3.size)⟩

set_option maxRecDepth 100000 in
theorem lifted_FnExactRulesThatFit (os : Os) (started : os.Started) (H : Type) (enc : TypeId × Value → H) :
    ReturnsInHanded {} Try.checked os 5 .any (Rows.fnExactRulesThatFitSpec.pre6 enc Try.prog Try.f5 Rows.fnExactRulesThatFitRow.domain false) (Rows.fnExactRulesThatFitSpec.post enc Try.prog Try.f5 false true false false) := by
  refine returnsInHanded_of_change (C := Try.checked) own started (by kernel_rfl) Try.func5
    (ChangeSpec.witness6 (enc := enc) (C := Try.checked) false ⟨#[], #[.agg #[.string ⟨#[]⟩, .int .i64 0]], []⟩ 8 (by kernel_rfl) (by kernel_rfl) (by kernel_rfl) (by kernel_rfl)) ?_
  intro W base args ds gs before hval0 hW hcnd _
  have hval : ∀ (j : Nat) t v, Try.f5.params[j]? = some t → args[j]? = some v → Value.okWide Try.prog W .any base t v := hval0
  have hW' := hW
  obtain ⟨p, q, hA0, hV, rfl, hfz, hnd⟩ := hW
  have hA : DataW.TrodAll enc Try.prog W 0 (fun _ => true) true Try.f5.params.toList args.toList ds p := hA0
  rw [Try.params5] at hA hval
  obtain ⟨v0, vs0, d0, ds0, p0, q0, hargs, rfl, rfl, h0, r0⟩ := trodAll_cons hA
  obtain ⟨rfl, rfl, rfl⟩ := trodAll_nil r0
  obtain rfl : args = #[v0] := by cases args; simp_all
  obtain ⟨rfl, rfl⟩ := trodVars_none hV
  have k0 := h0
  have lt0 : ∀ x ∈ p0, x.block < W.heap.size := by obtain ⟨m, hm⟩ := k0; exact DataW.trod_lt m _ _ _ hm
  obtain ⟨s0, n0, rfl, z0⟩ := open_puzzle (hval 0 23 v0 rfl rfl) h0
  clear hA0 hval0
  refine (walk_FnExactRulesThatFit W s0 n0 z0).mono fun e W' ⟨he, bel⟩ => ?_
  subst he
  exact ⟨_, rfl, _, _, _, [], _, [], hW', trodAll_mk1 (shut_bool Try.underlying4 _), (trodAll_cons_mk (Below.trod laidOut (by kernel_rfl) (of_decide_eq_true (by kernel_rfl)) k0 bel lt0) trodAll_mk0), rfl, bel.frame _, fun h => by cases h⟩

theorem closed_FnExactRulesThatFit : joinedFacts Try.prog 5 Try.f5 Rows.fnExactRulesThatFitSpec Rows.fnExactRulesThatFitRow = true := by
  unfold joinedFacts
  rw [head_enters, head_final, head_make]
  kernel_rfl
theorem over_FnExactRulesThatFit : Rows.fnExactRulesThatFitRow.holds Try.pinned (OpenSpec.ofChange Rows.fnExactRulesThatFitSpec) :=
  OpenClaim.holds_of_wide 5 Try.f5 rfl rfl rfl rfl rfl rfl rfl ⟨rfl, rfl, rfl, rfl, rfl⟩ rfl rfl rfl rfl rfl (by kernel_rfl) Try.func5 closed_FnExactRulesThatFit
    (of_decide_eq_true (by kernel_rfl)) (by unfold Func.isWrapper; first | (rw [if_pos (by decide +kernel)]; kernel_rfl) | (rw [if_neg (by decide +kernel)]; exact ⟨rfl, rfl⟩))
    (fun os started H enc _ => lifted_FnExactRulesThatFit os started H enc)

theorem fnExactRulesThatFit_holds : Rows.FnExactRulesThatFitSaid := over_FnExactRulesThatFit

end Go.Proofs.Ytbgoimhgmgldpaa
