/- For every three numbers, spec.MakePuzzle and impl.MakePuzzle answer alike: laws.FnExactMakePuzzle returns true. Conditions: none. -/
import Derived.Test.YtbgoimhgmgldpaaRQ
import Derived.Test.YtbgoimhgmgldpaaRT
namespace Go.Proofs.Ytbgoimhgmgldpaa
open Go.ChangeShapes Go.WideShapes Go.ChangeAt Go.RowKit Go.Deep
set_option maxRecDepth 100000
set_option linter.unusedVariables false
set_option linter.unusedSimpArgs false

set_option maxRecDepth 100000 in
set_option maxHeartbeats 2000000 in
theorem walk_FnExactMakePuzzle (w : World) (a0 : Int) (i0 : (Lit.int .i64 a0).wf = true) (a1 : Int) (i1 : (Lit.int .i64 a1).wf = true) (a2 : Int) (i2 : (Lit.int .i64 a2).wf = true) :
    Calls Try.prog 15 #[.int .i64 a0, .int .i64 a1, .int .i64 a2] w fun e w' => e = .returned (.bool true) ∧ Below w.heap.size w w' := by
  have Hs := Lib.hid (fun W => spec_MakePuzzle_c W a0 a1 a2)
  have Hi := Lib.hid (fun W => impl_MakePuzzle_c W a0 a1 a2)
  obtain ⟨S1, hS1⟩ : ∃ z, mpS a0 a1 a2 = z := ⟨_, rfl⟩
  rw [hS1] at Hs Hi
  clear hS1
  obtain ⟨S2, hS2⟩ : ∃ z, mpN a0 a1 a2 = z := ⟨_, rfl⟩
  rw [hS2] at Hs Hi
  clear hS2
  obtain ⟨S3, hS3⟩ : ∃ z, mpB a0 a1 a2 = z := ⟨_, rfl⟩
  rw [hS3] at Hs Hi
  clear hS3
  go_enter Try.func15, Try.ntmps15
  go_wp2_with fail
  refine (Hs.out _).mono ?_
  rintro e w1 ⟨rfl, b1⟩
  have bV1 : Below w1.heap.size w1 (w1.alloc (.cells #[.string S1, .int .i64 S2] 26)) := (Below.refl _ _).alloc (Nat.le_refl _) _
  have Qa := BoxP.new w1 (.string S1) (.int .i64 S2) 26
  have c0Qa := Qa.1
  have c1Qa := Qa.2.1
  have bbV1 := b1.trans (bV1.mono b1.size)
  go_wp2_with fail
  refine (Hi.out _).mono ?_
  rintro e w2 ⟨rfl, b2⟩
  have Qa_2 := Qa.below b2
  have c0Qa_2 := Qa_2.1
  have c1Qa_2 := Qa_2.2.1
  clear Qa
  clear c0Qa c1Qa
  have bb2 := bbV1.trans (b2.mono bbV1.size)
  have bV2 : Below w2.heap.size w2 (w2.alloc (.cells #[.string S1, .int .i64 S2] 26)) := (Below.refl _ _).alloc (Nat.le_refl _) _
  have QaV2 := Qa_2.below bV2
  have c0QaV2 := QaV2.1
  have c1QaV2 := QaV2.2.1
  clear Qa_2
  clear c0Qa_2 c1Qa_2
  have Qb := BoxP.new w2 (.string S1) (.int .i64 S2) 26
  have c0Qb := Qb.1
  have c1Qb := Qb.2.1
  have bbV2 := bb2.trans (bV2.mono bb2.size)
  go_wp2_with fail
  refine (eqPuzzle_yes _ _ _).mono ?_
  rintro e w3 ⟨rfl, b3⟩
  have Qa_3 := QaV2.below b3
  have c0Qa_3 := Qa_3.1
  have c1Qa_3 := Qa_3.2.1
  clear QaV2
  clear c0QaV2 c1QaV2
  have Qb_3 := Qb.below b3
  have c0Qb_3 := Qb_3.1
  have c1Qb_3 := Qb_3.2.1
  clear Qb
  clear c0Qb c1Qb
  have bb3 := bbV2.trans (b3.mono bbV2.size)
  go_wp2
  go_ret
  exact ⟨rfl, bb3⟩

set_option maxRecDepth 100000 in
theorem lifted_FnExactMakePuzzle (os : Os) (started : os.Started) (H : Type) (enc : TypeId × Value → H) :
    ReturnsInHanded {} Try.checked os 15 .any (Rows.fnExactMakePuzzleSpec.pre6 enc Try.prog Try.f15 Rows.fnExactMakePuzzleRow.domain false) (Rows.fnExactMakePuzzleSpec.post enc Try.prog Try.f15 false true false false) := by
  refine returnsInHanded_of_change (C := Try.checked) own started (by kernel_rfl) Try.func15
    (ChangeSpec.witness6 (enc := enc) (C := Try.checked) false ⟨#[], #[.int .i64 0, .int .i64 0, .int .i64 0], []⟩ 8 (by kernel_rfl) (by kernel_rfl) (by kernel_rfl) (by kernel_rfl)) ?_
  intro W base args ds gs before hval0 hW hcnd _
  have hval : ∀ (j : Nat) t v, Try.f15.params[j]? = some t → args[j]? = some v → Value.okWide Try.prog W .any base t v := hval0
  have hW' := hW
  obtain ⟨p, q, hA0, hV, rfl, hfz, hnd⟩ := hW
  have hA : DataW.TrodAll enc Try.prog W 0 (fun _ => true) true Try.f15.params.toList args.toList ds p := hA0
  rw [Try.params15] at hA hval
  obtain ⟨v0, vs0, d0, ds0, p0, q0, hargs, rfl, rfl, h0, r0⟩ := trodAll_cons hA
  obtain ⟨v1, vs1, d1, ds1, p1, q1, rfl, rfl, rfl, h1, r1⟩ := trodAll_cons r0
  obtain ⟨v2, vs2, d2, ds2, p2, q2, rfl, rfl, rfl, h2, r2⟩ := trodAll_cons r1
  obtain ⟨rfl, rfl, rfl⟩ := trodAll_nil r2
  obtain rfl : args = #[v0, v1, v2] := by cases args; simp_all
  obtain ⟨rfl, rfl⟩ := trodVars_none hV
  have k0 := h0
  have lt0 : ∀ x ∈ p0, x.block < W.heap.size := by obtain ⟨m, hm⟩ := k0; exact DataW.trod_lt m _ _ _ hm
  obtain ⟨a0, rfl, _, _, i0⟩ := open_int Try.underlying3 (hval 0 3 v0 rfl rfl) h0
  have k1 := h1
  have lt1 : ∀ x ∈ p1, x.block < W.heap.size := by obtain ⟨m, hm⟩ := k1; exact DataW.trod_lt m _ _ _ hm
  obtain ⟨a1, rfl, _, _, i1⟩ := open_int Try.underlying3 (hval 1 3 v1 rfl rfl) h1
  have k2 := h2
  have lt2 : ∀ x ∈ p2, x.block < W.heap.size := by obtain ⟨m, hm⟩ := k2; exact DataW.trod_lt m _ _ _ hm
  obtain ⟨a2, rfl, _, _, i2⟩ := open_int Try.underlying3 (hval 2 3 v2 rfl rfl) h2
  clear hA0 hval0
  refine (walk_FnExactMakePuzzle W a0 i0 a1 i1 a2 i2).mono fun e W' ⟨he, bel⟩ => ?_
  subst he
  exact ⟨_, rfl, _, _, _, [], _, [], hW', trodAll_mk1 (shut_bool Try.underlying4 _), (trodAll_cons_mk (Below.trod laidOut (by kernel_rfl) (of_decide_eq_true (by kernel_rfl)) k0 bel lt0) (trodAll_cons_mk (Below.trod laidOut (by kernel_rfl) (of_decide_eq_true (by kernel_rfl)) k1 bel lt1) (trodAll_cons_mk (Below.trod laidOut (by kernel_rfl) (of_decide_eq_true (by kernel_rfl)) k2 bel lt2) trodAll_mk0))), rfl, bel.frame _, fun h => by cases h⟩

theorem closed_FnExactMakePuzzle : joinedFacts Try.prog 15 Try.f15 Rows.fnExactMakePuzzleSpec Rows.fnExactMakePuzzleRow = true := by
  unfold joinedFacts
  rw [head_enters, head_final, head_make]
  kernel_rfl
theorem over_FnExactMakePuzzle : Rows.fnExactMakePuzzleRow.holds Try.pinned (OpenSpec.ofChange Rows.fnExactMakePuzzleSpec) :=
  OpenClaim.holds_of_wide 15 Try.f15 rfl rfl rfl rfl rfl rfl rfl ⟨rfl, rfl, rfl, rfl, rfl⟩ rfl rfl rfl rfl rfl (by kernel_rfl) Try.func15 closed_FnExactMakePuzzle
    (of_decide_eq_true (by kernel_rfl)) (by unfold Func.isWrapper; first | (rw [if_pos (by decide +kernel)]; kernel_rfl) | (rw [if_neg (by decide +kernel)]; exact ⟨rfl, rfl⟩))
    (fun os started H enc _ => lifted_FnExactMakePuzzle os started H enc)

theorem fnExactMakePuzzle_holds : Rows.FnExactMakePuzzleSaid := over_FnExactMakePuzzle

end Go.Proofs.Ytbgoimhgmgldpaa
