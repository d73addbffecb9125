/- For every value of type Puzzle, every number and every bool, spec.ShowNumber and impl.ShowNumber answer alike: laws.FnExactShowNumber returns true. Conditions: none. -/
import Derived.Test.YtbgoimhgmgldpaaRP
namespace Go.Proofs.Ytbgoimhgmgldpaa
open Go.ChangeShapes Go.WideShapes Go.ChangeAt Go.RowKit Go.Deep
set_option maxRecDepth 100000
set_option linter.unusedVariables false
set_option linter.unusedSimpArgs false

set_option maxRecDepth 100000 in
set_option maxHeartbeats 2000000 in
theorem walk_FnExactShowNumber (w : World) (s0 : ByteArray) (n0 : Int) (z0 : s0.size ≤ maxLen) (a1 : Int) (i1 : (Lit.int .i64 a1).wf = true) (t2 : Bool) :
    Calls Try.prog 13 #[.agg #[.string s0, .int .i64 n0], .int .i64 a1, .bool t2] w fun e w' => e = .returned (.bool true) ∧ Below w.heap.size w w' := by
  have b0 : Below w.heap.size w (w.alloc (.cells #[.string s0, .int .i64 n0] 23)) := (Below.refl _ _).alloc (Nat.le_refl _) _
  have P0 := BoxP.new w (.string s0) (.int .i64 n0) 23
  have c0P0 := P0.1
  have c1P0 := P0.2.1
  by_cases hs : s0.size ≤ 1048576
  rotate_left
  · go_enter Try.func13, Try.ntmps13
    go_wp2_with fail
    refine (szPuzzle_no _ _ _ z0 hs).mono ?_
    rintro e w1 ⟨rfl, b1⟩
    have P0_1 := P0.below b1
    have c0P0_1 := P0_1.1
    have c1P0_1 := P0_1.2.1
    clear P0
    clear c0P0 c1P0
    have bb1 := b0.trans (b1.mono b0.size)
    go_wp2
    go_ret
    exact ⟨rfl, bb1⟩
  have hsi : (s0.size : Int) ≤ 1000000000 := by omega
  have hsn : ¬ (1048576 - (s0.size : Int) < 0) := by omega
  have Hs := Lib.hid (fun W => spec_ShowNumber_c W s0 n0 a1 t2 hsi)
  have Hi := Lib.hid (fun W => impl_ShowNumber_c W s0 n0 a1 t2 hsi)
  obtain ⟨S1, hS1⟩ : ∃ z, txS (shB s0 n0 a1) s0 a1 (if t2 = true then ⟨#[111]⟩ else ⟨#[120]⟩) = z := ⟨_, rfl⟩
  rw [hS1] at Hs Hi
  clear hS1
  obtain ⟨S2, hS2⟩ : ∃ z, txN (shB s0 n0 a1) n0 = z := ⟨_, rfl⟩
  rw [hS2] at Hs Hi
  clear hS2
  obtain ⟨S3, hS3⟩ : ∃ z, shB s0 n0 a1 = z := ⟨_, rfl⟩
  rw [hS3] at Hs Hi
  clear hS3
  go_enter Try.func13, Try.ntmps13
  go_wp2_with fail
  refine (szPuzzle_yes _ _ _ hs).mono ?_
  rintro e w1 ⟨rfl, b1⟩
  have P0_1 := P0.below b1
  have c0P0_1 := P0_1.1
  have c1P0_1 := P0_1.2.1
  clear P0
  clear c0P0 c1P0
  have bb1 := b0.trans (b1.mono b0.size)
  go_wp2_with fail
  refine (toPuzzle_c _ _ _).mono ?_
  rintro e w2 ⟨rfl, b2⟩
  have P0_2 := P0_1.below b2
  have c0P0_2 := P0_2.1
  have c1P0_2 := P0_2.2.1
  clear P0_1
  clear c0P0_1 c1P0_1
  have bb2 := bb1.trans (b2.mono bb1.size)
  go_wp2_with fail
  refine (Hs.out _).mono ?_
  rintro e w3 ⟨rfl, b3⟩
  have P0_3 := P0_2.below b3
  have c0P0_3 := P0_3.1
  have c1P0_3 := P0_3.2.1
  clear P0_2
  clear c0P0_2 c1P0_2
  have bb3 := bb2.trans (b3.mono bb2.size)
  have bV3 : Below w3.heap.size w3 (w3.alloc (.cells #[.string S1, .int .i64 S2] 26)) := (Below.refl _ _).alloc (Nat.le_refl _) _
  have P0V3 := P0_3.below bV3
  have c0P0V3 := P0V3.1
  have c1P0V3 := P0V3.2.1
  clear P0_3
  clear c0P0_3 c1P0_3
  have Qa := BoxP.new w3 (.string S1) (.int .i64 S2) 26
  have c0Qa := Qa.1
  have c1Qa := Qa.2.1
  have bbV3 := bb3.trans (bV3.mono bb3.size)
  go_wp2_with fail
  refine (toPuzzle_c _ _ _).mono ?_
  rintro e w4 ⟨rfl, b4⟩
  have P0_4 := P0V3.below b4
  have c0P0_4 := P0_4.1
  have c1P0_4 := P0_4.2.1
  clear P0V3
  clear c0P0V3 c1P0V3
  have Qa_4 := Qa.below b4
  have c0Qa_4 := Qa_4.1
  have c1Qa_4 := Qa_4.2.1
  clear Qa
  clear c0Qa c1Qa
  have bb4 := bbV3.trans (b4.mono bbV3.size)
  go_wp2_with fail
  refine (Hi.out _).mono ?_
  rintro e w5 ⟨rfl, b5⟩
  have P0_5 := P0_4.below b5
  have c0P0_5 := P0_5.1
  have c1P0_5 := P0_5.2.1
  clear P0_4
  clear c0P0_4 c1P0_4
  have Qa_5 := Qa_4.below b5
  have c0Qa_5 := Qa_5.1
  have c1Qa_5 := Qa_5.2.1
  clear Qa_4
  clear c0Qa_4 c1Qa_4
  have bb5 := bb4.trans (b5.mono bb4.size)
  have bV5 : Below w5.heap.size w5 (w5.alloc (.cells #[.string S1, .int .i64 S2] 26)) := (Below.refl _ _).alloc (Nat.le_refl _) _
  have P0V5 := P0_5.below bV5
  have c0P0V5 := P0V5.1
  have c1P0V5 := P0V5.2.1
  clear P0_5
  clear c0P0_5 c1P0_5
  have QaV5 := Qa_5.below bV5
  have c0QaV5 := QaV5.1
  have c1QaV5 := QaV5.2.1
  clear Qa_5
  clear c0Qa_5 c1Qa_5
  have Qb := BoxP.new w5 (.string S1) (.int .i64 S2) 26
  have c0Qb := Qb.1
  have c1Qb := Qb.2.1
  have bbV5 := bb5.trans (bV5.mono bb5.size)
  go_wp2_with fail
  refine (eqPuzzle_yes _ _ _).mono ?_
  rintro e w6 ⟨rfl, b6⟩
  have P0_6 := P0V5.below b6
  have c0P0_6 := P0_6.1
  have c1P0_6 := P0_6.2.1
  clear P0V5
  clear c0P0V5 c1P0V5
  have Qa_6 := QaV5.below b6
  have c0Qa_6 := Qa_6.1
  have c1Qa_6 := Qa_6.2.1
  clear QaV5
  clear c0QaV5 c1QaV5
  have Qb_6 := Qb.below b6
  have c0Qb_6 := Qb_6.1
  have c1Qb_6 := Qb_6.2.1
  clear Qb
  clear c0Qb c1Qb
  have bb6 := bbV5.trans (b6.mono bbV5.size)
  go_wp2
  go_ret
  exact ⟨rfl, bb6⟩

set_option maxRecDepth 100000 in
theorem lifted_FnExactShowNumber (os : Os) (started : os.Started) (H : Type) (enc : TypeId × Value → H) :
    ReturnsInHanded {} Try.checked os 13 .any (Rows.fnExactShowNumberSpec.pre6 enc Try.prog Try.f13 Rows.fnExactShowNumberRow.domain false) (Rows.fnExactShowNumberSpec.post enc Try.prog Try.f13 false true false false) := by
  refine returnsInHanded_of_change (C := Try.checked) own started (by kernel_rfl) Try.func13
    (ChangeSpec.witness6 (enc := enc) (C := Try.checked) false ⟨#[], #[.agg #[.string ⟨#[]⟩, .int .i64 0], .int .i64 0, .bool false], []⟩ 8 (by kernel_rfl) (by kernel_rfl) (by kernel_rfl) (by kernel_rfl)) ?_
  intro W base args ds gs before hval0 hW hcnd _
  have hval : ∀ (j : Nat) t v, Try.f13.params[j]? = some t → args[j]? = some v → Value.okWide Try.prog W .any base t v := hval0
  have hW' := hW
  obtain ⟨p, q, hA0, hV, rfl, hfz, hnd⟩ := hW
  have hA : DataW.TrodAll enc Try.prog W 0 (fun _ => true) true Try.f13.params.toList args.toList ds p := hA0
  rw [Try.params13] at hA hval
  obtain ⟨v0, vs0, d0, ds0, p0, q0, hargs, rfl, rfl, h0, r0⟩ := trodAll_cons hA
  obtain ⟨v1, vs1, d1, ds1, p1, q1, rfl, rfl, rfl, h1, r1⟩ := trodAll_cons r0
  obtain ⟨v2, vs2, d2, ds2, p2, q2, rfl, rfl, rfl, h2, r2⟩ := trodAll_cons r1
  obtain ⟨rfl, rfl, rfl⟩ := trodAll_nil r2
  obtain rfl : args = #[v0, v1, v2] := by cases args; simp_all
  obtain ⟨rfl, rfl⟩ := trodVars_none hV
  have k0 := h0
  have lt0 : ∀ x ∈ p0, x.block < W.heap.size := by obtain ⟨m, hm⟩ := k0; exact DataW.trod_lt m _ _ _ hm
  obtain ⟨s0, n0, rfl, z0⟩ := open_puzzle (hval 0 23 v0 rfl rfl) h0
  have k1 := h1
  have lt1 : ∀ x ∈ p1, x.block < W.heap.size := by obtain ⟨m, hm⟩ := k1; exact DataW.trod_lt m _ _ _ hm
  obtain ⟨a1, rfl, _, _, i1⟩ := open_int Try.underlying3 (hval 1 3 v1 rfl rfl) h1
  have k2 := h2
  have lt2 : ∀ x ∈ p2, x.block < W.heap.size := by obtain ⟨m, hm⟩ := k2; exact DataW.trod_lt m _ _ _ hm
  obtain ⟨t2, rfl, _, _⟩ := Go.RowKit.open_bool Try.underlying4 (hval 2 4 v2 rfl rfl) h2
  clear hA0 hval0
  refine (walk_FnExactShowNumber W s0 n0 z0 a1 i1 t2).mono fun e W' ⟨he, bel⟩ => ?_
  subst he
  exact ⟨_, rfl, _, _, _, [], _, [], hW', trodAll_mk1 (shut_bool Try.underlying4 _), (trodAll_cons_mk (Below.trod laidOut (by kernel_rfl) (of_decide_eq_true (by kernel_rfl)) k0 bel lt0) (trodAll_cons_mk (Below.trod laidOut (by kernel_rfl) (of_decide_eq_true (by kernel_rfl)) k1 bel lt1) (trodAll_cons_mk (Below.trod laidOut (by kernel_rfl) (of_decide_eq_true (by kernel_rfl)) k2 bel lt2) trodAll_mk0))), rfl, bel.frame _, fun h => by cases h⟩

theorem closed_FnExactShowNumber : joinedFacts Try.prog 13 Try.f13 Rows.fnExactShowNumberSpec Rows.fnExactShowNumberRow = true := by
  unfold joinedFacts
  rw [head_enters, head_final, head_make]
  kernel_rfl
theorem over_FnExactShowNumber : Rows.fnExactShowNumberRow.holds Try.pinned (OpenSpec.ofChange Rows.fnExactShowNumberSpec) :=
  OpenClaim.holds_of_wide 13 Try.f13 rfl rfl rfl rfl rfl rfl rfl ⟨rfl, rfl, rfl, rfl, rfl⟩ rfl rfl rfl rfl rfl (by kernel_rfl) Try.func13 closed_FnExactShowNumber
    (of_decide_eq_true (by kernel_rfl)) (by unfold Func.isWrapper; first | (rw [if_pos (by decide +kernel)]; kernel_rfl) | (rw [if_neg (by decide +kernel)]; exact ⟨rfl, rfl⟩))
    (fun os started H enc _ => lifted_FnExactShowNumber os started H enc)

theorem fnExactShowNumber_holds : Rows.FnExactShowNumberSaid := over_FnExactShowNumber

end Go.Proofs.Ytbgoimhgmgldpaa
