/- For every number that comes in, spec.TwoSquares and impl.TwoSquares answer alike, and what impl.TwoSquares hands back lies in memory of its own: laws.FnExactTwoSquares returns true. Conditions: none. -/
import Derived.Test.YtkpililllihgcabZD
import Derived.Test.YtkpililllihgcabL0
namespace Go.Proofs.Ytkpililllihgcab
open Go.ChangeShapes Go.WideShapes Go.ChangeAt Go.RowKit Go.Deep
set_option linter.unusedVariables false
set_option linter.unusedSimpArgs false

set_option maxRecDepth 100000 in
set_option maxHeartbeats 2000000 in
theorem walk_FnExactTwoSquares (w : World) (a0 : Int) (i0 : (Lit.int .i64 a0).wf = true) :
    Calls Try.prog 8 #[.int .i64 a0] w fun e w' => e = .returned (.bool true) ∧ Below w.heap.size w w' := by
  have hgl := tsA_len a0
  go_enter Try.func8, Try.ntmps8
  go_wp2_with fail
  refine (spec_TwoSquares_c _ a0).mono ?_
  rintro e w1 ⟨⟨v1, rfl, o1⟩, b1⟩
  obtain ⟨Aw, cw, rfl⟩ := o1.shape
  have Iw := Lr_of_own o1
  clear o1
  go_wp2_with fail
  refine (impl_TwoSquares_c _ a0).mono ?_
  rintro e w2 ⟨⟨v2, rfl, o2⟩, b2⟩
  obtain ⟨Ag, cg, rfl⟩ := o2.shape
  have og := o2
  clear o2
  go_wp2_with fail
  refine (eqIntSS_yes _ _ _ _ _ _ _ _ (Lr_of_flat og) (Iw.below b2) rfl rfl hgl.1 hgl.2).mono ?_
  rintro e w3 ⟨rfl, b3⟩
  have og_3 := og.below b3
  have bb3 := b2.trans (b3.mono b2.size)
  go_wp2_with fail
  refine (markIntSS_f _ _ _ _ _ _ og_3 bb3.size rfl hgl.1 hgl.2).mono ?_
  rintro e w4 ⟨rfl, mk, b4⟩
  have bb4 := bb3.trans b4
  go_wp2_with fail
  refine (heldIntSS_f _ _ _ _ _ _ mk rfl hgl.1 hgl.2).mono ?_
  rintro e w5 ⟨rfl, rfl⟩
  go_wp2_with fail
  refine (impl_TwoSquares_c _ a0).mono ?_
  rintro e w6 ⟨⟨v6, rfl, o6⟩, b6⟩
  have mk_6 := mk.below b6
  have bb6 := bb4.trans (b6.mono bb4.size)
  obtain ⟨Ah, ch, rfl⟩ := o6.shape
  go_wp2_with fail
  refine (eqIntSS_yes _ _ _ _ _ _ _ _ (Lr_of_flat o6) (Iw.below bb6) rfl rfl hgl.1 hgl.2).mono ?_
  rintro e w7 ⟨rfl, b7⟩
  have mk_7 := mk_6.below b7
  have bb7 := bb6.trans (b7.mono bb6.size)
  go_wp2_with fail
  refine (heldIntSS_f _ _ _ _ _ _ mk_7 rfl hgl.1 hgl.2).mono ?_
  rintro e w8 ⟨rfl, rfl⟩
  go_wp2
  go_ret
  exact ⟨rfl, b1.trans (bb7.mono b1.size)⟩

set_option maxRecDepth 100000 in
theorem lifted_FnExactTwoSquares (os : Os) (started : os.Started) (H : Type) (enc : TypeId × Value → H) :
    ReturnsInHanded {} Try.checked os 8 .any (Rows.fnExactTwoSquaresSpec.pre6 enc Try.prog Try.f8 Rows.fnExactTwoSquaresRow.domain false) (Rows.fnExactTwoSquaresSpec.post enc Try.prog Try.f8 false true false false) := by
  refine returnsInHanded_of_change (C := Try.checked) own started (by kernel_rfl) Try.func8
    (ChangeSpec.witness6 (enc := enc) (C := Try.checked) false ⟨#[], #[.int .i64 0], []⟩ 8 (by kernel_rfl) (by kernel_rfl) (by kernel_rfl) (by kernel_rfl)) ?_
  intro W base args ds gs before hval0 hW hcnd _
  have hval : ∀ (j : Nat) t v, Try.f8.params[j]? = some t → args[j]? = some v → Value.okWide Try.prog W .any base t v := hval0
  have hW' := hW
  obtain ⟨p, q, hA0, hV, rfl, hfz, hnd⟩ := hW
  have hA : DataW.TrodAll enc Try.prog W 0 (fun _ => true) true Try.f8.params.toList args.toList ds p := hA0
  rw [Try.params8] at hA hval
  obtain ⟨v0, vs0, d0, ds0, p0, q0, hargs, rfl, rfl, h0, r0⟩ := trodAll_cons hA
  obtain ⟨rfl, rfl, rfl⟩ := trodAll_nil r0
  obtain rfl : args = #[v0] := by cases args; simp_all
  obtain ⟨rfl, rfl⟩ := trodVars_none hV
  have k0 := h0
  have lt0 : ∀ x ∈ p0, x.block < W.heap.size := by obtain ⟨m, hm⟩ := k0; exact DataW.trod_lt m _ _ _ hm
  obtain ⟨a0, rfl, _, _, i0⟩ := open_int Try.underlying3 (hval 0 3 v0 rfl rfl) h0
  clear hA0 hval0
  refine (walk_FnExactTwoSquares W a0 i0).mono fun e W' ⟨he, bel⟩ => ?_
  subst he
  exact ⟨_, rfl, _, _, _, [], _, [], hW', trodAll_mk1 (shut_bool Try.underlying4 _), (trodAll_cons_mk (Below.trod laidOut (by kernel_rfl) (of_decide_eq_true (by kernel_rfl)) k0 bel lt0) trodAll_mk0), rfl, bel.frame _, fun h => by cases h⟩

theorem closed_FnExactTwoSquares : joinedFacts Try.prog 8 Try.f8 Rows.fnExactTwoSquaresSpec Rows.fnExactTwoSquaresRow = true := by
  unfold joinedFacts
  rw [head_enters, head_final, head_make]
  kernel_rfl
theorem over_FnExactTwoSquares : Rows.fnExactTwoSquaresRow.holds Try.pinned (OpenSpec.ofChange Rows.fnExactTwoSquaresSpec) :=
  OpenClaim.holds_of_wide 8 Try.f8 rfl rfl rfl rfl rfl rfl rfl ⟨rfl, rfl, rfl, rfl, rfl⟩ rfl rfl rfl rfl rfl (by kernel_rfl) Try.func8 closed_FnExactTwoSquares
    (of_decide_eq_true (by kernel_rfl)) (by unfold Func.isWrapper; first | (rw [if_pos (by decide +kernel)]; kernel_rfl) | (rw [if_neg (by decide +kernel)]; exact ⟨rfl, rfl⟩))
    (fun os started H enc _ => lifted_FnExactTwoSquares os started H enc)

theorem fnExactTwoSquares_holds : Rows.FnExactTwoSquaresSaid := over_FnExactTwoSquares

end Go.Proofs.Ytkpililllihgcab
