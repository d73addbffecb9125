/- For whatever comes in, spec.CountCovers and impl.CountCovers answer alike, impl.CountCovers writes into none of its arguments, and what it hands back lies in memory of its own: laws.FnExactCountCovers returns true. Conditions: none. -/
import Derived.Test.YtoapidcbmlnjcaaIJ
import Derived.Test.YtoapidcbmlnjcaaQ8
import Derived.Test.YtoapidcbmlnjcaaL0
import Derived.Test.YtoapidcbmlnjcaaF3
namespace Go.Proofs.Ytoapidcbmlnjcaa
open Go.ChangeShapes Go.WideShapes Go.ChangeAt Go.RowKit Go.Deep
set_option linter.unusedVariables false
set_option linter.unusedSimpArgs false

set_option maxRecDepth 100000 in
set_option maxHeartbeats 1000000 in
theorem walk_FnExactCountCovers (w : World) (A0 : Option Addr) (n0 c0 : Nat) (xs0 : List Int) (l0 : n0 = xs0.length) (m0 : n0 ≤ 9223372036854775807) (R0 : Il w A0 xs0) (a1 : Int) (i1 : (Lit.int .i64 a1).wf = true) :
    Calls Try.prog 17 #[.slice A0 n0 c0, .int .i64 a1] w fun e w' => e = .returned (.bool true) ∧ Below w.heap.size w w' := by
  have L0 := Lib.hid l0
  clear l0
  by_cases hn : n0 ≤ 1048576
  · go_enter Try.func17, Try.ntmps17
    go_wp2_with fail
    refine (toIntS_c A0 c0 n0 xs0 _ R0 L0.out hn).mono ?_
    rintro e w1 ⟨rfl, o1, b1⟩
    have R0_1 := R0.below b1
    have X1 := Il_of_own_n o1 L0.out
    go_wp2_with fail
    refine (spec_CountCovers_c _ _ _ _ xs0 X1 L0.out hn (Nat.le_refl _) a1).mono ?_
    rintro e w2 ⟨rfl, b2⟩
    have R0_2 := R0_1.below b2
    have X1_2 := X1.below b2
    have bb2 := b1.trans (b2.mono b1.size)
    go_wp2_with fail
    refine (toIntS_c A0 c0 n0 xs0 _ R0_2 L0.out hn).mono ?_
    rintro e w3 ⟨rfl, o2, b3⟩
    have R0_3 := R0_2.below b3
    have X1_3 := X1_2.below b3
    have bb3 := bb2.trans (b3.mono bb2.size)
    have X2 := Il_of_own_n o2 L0.out
    go_wp2_with fail
    refine (impl_CountCovers_c _ _ _ _ xs0 X2 L0.out hn (Nat.le_refl _) a1).mono ?_
    rintro e w4 ⟨rfl, b4⟩
    have R0_4 := R0_3.below b4
    have X1_4 := X1_3.below b4
    have X2_4 := X2.below b4
    have bb4 := bb3.trans (b4.mono bb3.size)
    go_wp2_with fail
    refine (toIntS_c A0 c0 n0 xs0 _ R0_4 L0.out hn).mono ?_
    rintro e w5 ⟨rfl, o3, b5⟩
    have R0_5 := R0_4.below b5
    have X1_5 := X1_4.below b5
    have X2_5 := X2_4.below b5
    have bb5 := bb4.trans (b5.mono bb4.size)
    have X3 := Il_of_own_n o3 L0.out
    go_wp2_with fail
    refine (eqIntS_yes _ _ _ _ _ _ xs0 _ X2_5 X3 L0.out L0.out hn).mono ?_
    rintro e w6 ⟨rfl, b6⟩
    have R0_6 := R0_5.below b6
    have X1_6 := X1_5.below b6
    have X2_6 := X2_5.below b6
    have X3_6 := X3.below b6
    have bb6 := bb5.trans (b6.mono bb5.size)
    go_wp2
    go_ret
    exact ⟨rfl, bb6⟩
  · go_enter Try.func17, Try.ntmps17
    go_wp2
    go_ret
    exact ⟨rfl, Below.refl _ _⟩

set_option maxRecDepth 100000 in
theorem lifted_FnExactCountCovers (os : Os) (started : os.Started) (H : Type) (enc : TypeId × Value → H) :
    ReturnsInHanded {} Try.checked os 17 .any (Rows.fnExactCountCoversSpec.pre6 enc Try.prog Try.f17 Rows.fnExactCountCoversRow.domain false) (Rows.fnExactCountCoversSpec.post enc Try.prog Try.f17 false true false false) := by
  refine returnsInHanded_of_change (C := Try.checked) own started (by kernel_rfl) Try.func17
    (ChangeSpec.witness6 (enc := enc) (C := Try.checked) false ⟨#[], #[.slice none 0 0, .int .i64 0], []⟩ 8 (by kernel_rfl) (by kernel_rfl) (by kernel_rfl) (by kernel_rfl)) ?_
  intro W base args ds gs before hval0 hW hcnd _
  have hval : ∀ (j : Nat) t v, Try.f17.params[j]? = some t → args[j]? = some v → Value.okWide Try.prog W .any base t v := hval0
  have hW' := hW
  obtain ⟨p, q, hA0, hV, rfl, hfz, hnd⟩ := hW
  have hA : DataW.TrodAll enc Try.prog W 0 (fun _ => true) true Try.f17.params.toList args.toList ds p := hA0
  rw [Try.params17] at hA hval
  obtain ⟨v0, vs0, d0, ds0, p0, q0, hargs, rfl, rfl, h0, r0⟩ := trodAll_cons hA
  obtain ⟨v1, vs1, d1, ds1, p1, q1, rfl, rfl, rfl, h1, r1⟩ := trodAll_cons r0
  obtain ⟨rfl, rfl, rfl⟩ := trodAll_nil r1
  obtain rfl : args = #[v0, v1] := by cases args; simp_all
  obtain ⟨rfl, rfl⟩ := trodVars_none hV
  have k0 := h0
  have lt0 : ∀ x ∈ p0, x.block < W.heap.size := by obtain ⟨m, hm⟩ := k0; exact DataW.trod_lt m _ _ _ hm
  obtain ⟨A0, n0, c0, xs0, rfl, l0, m0, R0⟩ := open_intL (hval 0 30 v0 rfl rfl) h0
  have k1 := h1
  have lt1 : ∀ x ∈ p1, x.block < W.heap.size := by obtain ⟨m, hm⟩ := k1; exact DataW.trod_lt m _ _ _ hm
  obtain ⟨a1, rfl, _, _, i1⟩ := open_int Try.underlying3 (hval 1 3 v1 rfl rfl) h1
  clear hA0 hval0
  refine (walk_FnExactCountCovers W A0 n0 c0 xs0 l0 m0 R0 a1 i1).mono fun e W' ⟨he, bel⟩ => ?_
  subst he
  exact ⟨_, rfl, _, _, _, [], _, [], hW', trodAll_mk1 (shut_bool Try.underlying4 _), (trodAll_cons_mk (Below.trod laidOut (by kernel_rfl) (of_decide_eq_true (by kernel_rfl)) k0 bel lt0) (trodAll_cons_mk (Below.trod laidOut (by kernel_rfl) (of_decide_eq_true (by kernel_rfl)) k1 bel lt1) trodAll_mk0)), rfl, bel.frame _, fun h => by cases h⟩

theorem closed_FnExactCountCovers : joinedFacts Try.prog 17 Try.f17 Rows.fnExactCountCoversSpec Rows.fnExactCountCoversRow = true := by
  unfold joinedFacts
  rw [head_enters, head_final, head_make]
  kernel_rfl
theorem left_FnExactCountCovers (os : Os) (started : os.Started) (H : Type) (enc : TypeId × Value → H) :
    ReturnsInLeavingWide {} Try.checked os 17 .any (Rows.fnExactCountCoversSpec.pre6 enc Try.prog Try.f17 Rows.fnExactCountCoversRow.domain false) (Rows.fnExactCountCoversSpec.post enc Try.prog Try.f17 false true false false) :=
  leaving_of_handed (lifted_FnExactCountCovers os started H enc)
theorem over_FnExactCountCovers : Rows.fnExactCountCoversRow.holds Try.pinned (OpenSpec.ofChange Rows.fnExactCountCoversSpec) :=
  OpenClaim.holds_of_wide_leaving 17 Try.f17 rfl rfl rfl rfl rfl rfl rfl ⟨rfl, rfl, rfl, rfl, rfl⟩ rfl rfl rfl rfl rfl (by kernel_rfl) Try.func17 closed_FnExactCountCovers
    (of_decide_eq_true (by kernel_rfl)) (by unfold Func.isWrapper; first | (rw [if_pos (by decide +kernel)]; kernel_rfl) | (rw [if_neg (by decide +kernel)]; exact ⟨rfl, rfl⟩))
    (fun os started H enc _ => left_FnExactCountCovers os started H enc)

theorem fnExactCountCovers_holds : Rows.FnExactCountCoversSaid := over_FnExactCountCovers

end Go.Proofs.Ytoapidcbmlnjcaa
