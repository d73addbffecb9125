/- For every number that comes in, spec.DivisorsOf and impl.DivisorsOf answer alike, and what impl.DivisorsOf hands back lies in memory of its own: laws.FnExactDivisorsOf returns true. Conditions: none. -/
import Derived.Test.YtkpililllihgcaaJ6
import Derived.Test.YtkpililllihgcaaL0
import Derived.Test.YtkpililllihgcaaY4
namespace Go.Proofs.Ytkpililllihgcaa
open Go.ChangeShapes Go.WideShapes Go.ChangeAt Go.RowKit Go.Deep
set_option linter.unusedVariables false
set_option linter.unusedSimpArgs false

set_option maxRecDepth 100000 in
set_option maxHeartbeats 2000000 in
theorem walk_FnExactDivisorsOf (w : World) (a0 : Int) (i0 : (Lit.int .i64 a0).wf = true) :
    Calls Try.prog 3 #[.int .i64 a0] w fun e w' => e = .returned (.bool true) ∧ Below w.heap.size w w' := by
  have hgl := dvA_len a0
  go_enter Try.func3, Try.ntmps3
  go_wp2_with fail
  refine (spec_DivisorsOf_c _ a0).mono ?_
  rintro e w1 ⟨⟨v1, rfl, o1⟩, b1⟩
  obtain ⟨Aw, cw, rfl⟩ := o1.shape
  have Iw := Il_of_own o1
  clear o1
  go_wp2_with fail
  refine (impl_DivisorsOf_c _ a0).mono ?_
  rintro e w2 ⟨⟨v2, rfl, o2⟩, b2⟩
  obtain ⟨Ag, cg, rfl⟩ := o2.shape
  have og := o2
  clear o2
  go_wp2_with fail
  refine (eqIntS_yes _ _ _ _ _ _ _ _ (Il_of_own og) (Iw.below b2) rfl rfl hgl).mono ?_
  rintro e w3 ⟨rfl, b3⟩
  have og_3 := og.below b3
  have bb3 := b2.trans (b3.mono b2.size)
  go_wp2_with fail
  refine (markIntS_c _ _ _ _ _ _ og_3 hgl).mono ?_
  rintro e w4 ⟨rfl, mk, gr4⟩
  have b4 : Below w1.heap.size w3 w4 := below_of_grown gr4 bb3.size (by intro q hq; have := (World.ownsRow.lt og_3 q hq).1; omega)
  have bb4 := bb3.trans b4
  clear gr4
  go_wp2_with fail
  refine (heldIntS_c _ _ _ _ _ mk hgl).mono ?_
  rintro e w5 ⟨rfl, rfl⟩
  go_wp2_with fail
  refine (impl_DivisorsOf_c _ a0).mono ?_
  rintro e w6 ⟨⟨v6, rfl, o6⟩, b6⟩
  have mk_6 := mk.below b6
  have bb6 := bb4.trans (b6.mono bb4.size)
  obtain ⟨Ah, ch, rfl⟩ := o6.shape
  go_wp2_with fail
  refine (eqIntS_yes _ _ _ _ _ _ _ _ (Il_of_own o6) (Iw.below bb6) rfl rfl hgl).mono ?_
  rintro e w7 ⟨rfl, b7⟩
  have mk_7 := mk_6.below b7
  have bb7 := bb6.trans (b7.mono bb6.size)
  go_wp2_with fail
  refine (heldIntS_c _ _ _ _ _ mk_7 hgl).mono ?_
  rintro e w8 ⟨rfl, rfl⟩
  go_wp2
  go_ret
  exact ⟨rfl, b1.trans (bb7.mono b1.size)⟩

set_option maxRecDepth 100000 in
theorem lifted_FnExactDivisorsOf (os : Os) (started : os.Started) (H : Type) (enc : TypeId × Value → H) :
    ReturnsInHanded {} Try.checked os 3 .any (Rows.fnExactDivisorsOfSpec.pre6 enc Try.prog Try.f3 Rows.fnExactDivisorsOfRow.domain false) (Rows.fnExactDivisorsOfSpec.post enc Try.prog Try.f3 false true false false) := by
  refine returnsInHanded_of_change (C := Try.checked) own started (by kernel_rfl) Try.func3
    (ChangeSpec.witness6 (enc := enc) (C := Try.checked) false ⟨#[], #[.int .i64 0], []⟩ 8 (by kernel_rfl) (by kernel_rfl) (by kernel_rfl) (by kernel_rfl)) ?_
  intro W base args ds gs before hval0 hW hcnd _
  have hval : ∀ (j : Nat) t v, Try.f3.params[j]? = some t → args[j]? = some v → Value.okWide Try.prog W .any base t v := hval0
  have hW' := hW
  obtain ⟨p, q, hA0, hV, rfl, hfz, hnd⟩ := hW
  have hA : DataW.TrodAll enc Try.prog W 0 (fun _ => true) true Try.f3.params.toList args.toList ds p := hA0
  rw [Try.params3] at hA hval
  obtain ⟨v0, vs0, d0, ds0, p0, q0, hargs, rfl, rfl, h0, r0⟩ := trodAll_cons hA
  obtain ⟨rfl, rfl, rfl⟩ := trodAll_nil r0
  obtain rfl : args = #[v0] := by cases args; simp_all
  obtain ⟨rfl, rfl⟩ := trodVars_none hV
  have k0 := h0
  have lt0 : ∀ x ∈ p0, x.block < W.heap.size := by obtain ⟨m, hm⟩ := k0; exact DataW.trod_lt m _ _ _ hm
  obtain ⟨a0, rfl, _, _, i0⟩ := open_int Try.underlying3 (hval 0 3 v0 rfl rfl) h0
  clear hA0 hval0
  refine (walk_FnExactDivisorsOf W a0 i0).mono fun e W' ⟨he, bel⟩ => ?_
  subst he
  exact ⟨_, rfl, _, _, _, [], _, [], hW', trodAll_mk1 (shut_bool Try.underlying4 _), (trodAll_cons_mk (Below.trod laidOut (by kernel_rfl) (of_decide_eq_true (by kernel_rfl)) k0 bel lt0) trodAll_mk0), rfl, bel.frame _, fun h => by cases h⟩

theorem closed_FnExactDivisorsOf : joinedFacts Try.prog 3 Try.f3 Rows.fnExactDivisorsOfSpec Rows.fnExactDivisorsOfRow = true := by
  unfold joinedFacts
  rw [head_enters, head_final, head_make]
  kernel_rfl
theorem over_FnExactDivisorsOf : Rows.fnExactDivisorsOfRow.holds Try.pinned (OpenSpec.ofChange Rows.fnExactDivisorsOfSpec) :=
  OpenClaim.holds_of_wide 3 Try.f3 rfl rfl rfl rfl rfl rfl rfl ⟨rfl, rfl, rfl, rfl, rfl⟩ rfl rfl rfl rfl rfl (by kernel_rfl) Try.func3 closed_FnExactDivisorsOf
    (of_decide_eq_true (by kernel_rfl)) (by unfold Func.isWrapper; first | (rw [if_pos (by decide +kernel)]; kernel_rfl) | (rw [if_neg (by decide +kernel)]; exact ⟨rfl, rfl⟩))
    (fun os started H enc _ => lifted_FnExactDivisorsOf os started H enc)

theorem fnExactDivisorsOf_holds : Rows.FnExactDivisorsOfSaid := over_FnExactDivisorsOf

end Go.Proofs.Ytkpililllihgcaa
