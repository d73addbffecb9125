/- For whatever two lists of numbers come in, spec.NumberWithRests and impl.NumberWithRests answer alike, and impl.NumberWithRests leaves its arguments as they were: laws.FnExactNumberWithRests returns true. Conditions: none. -/
import Derived.Test.YtgnmookklplnmaaV5
import Derived.Test.YtgnmookklplnmaaL0
namespace Go.Proofs.Ytgnmookklplnmaa
open Go.ChangeShapes Go.WideShapes Go.ChangeAt Go.RowKit Go.Deep
set_option linter.unusedVariables false
set_option linter.unusedSimpArgs false

set_option maxRecDepth 100000 in
set_option maxHeartbeats 1000000 in
theorem walk_FnExactNumberWithRests (w : World) (A0 : Option Addr) (n0 c0 : Nat) (xs0 : List Int) (l0 : n0 = xs0.length) (m0 : n0 ≤ 9223372036854775807) (R0 : Il w A0 xs0) (A1 : Option Addr) (n1 c1 : Nat) (xs1 : List Int) (l1 : n1 = xs1.length) (m1 : n1 ≤ 9223372036854775807) (R1 : Il w A1 xs1) :
    Calls Try.prog 15 #[.slice A0 n0 c0, .slice A1 n1 c1] w fun e w' => e = .returned (.bool true) ∧ Below w.heap.size w w' := by
  have L0 := Lib.hid l0
  have L1 := Lib.hid l1
  clear l0 l1
  by_cases hn : n0 ≤ 1048576
  rotate_left
  · go_enter Try.func15, Try.ntmps15
    go_wp2
    go_ret
    exact ⟨rfl, Below.refl _ _⟩
  by_cases hn1 : n1 ≤ 1048576
  rotate_left
  · go_enter Try.func15, Try.ntmps15
    go_wp2
    go_ret
    exact ⟨rfl, Below.refl _ _⟩
  go_enter Try.func15, Try.ntmps15
  go_wp2_with fail
  refine (toIntS_c A0 c0 n0 xs0 _ R0 L0.out hn).mono ?_
  rintro e w1 ⟨rfl, oa, b1⟩
  have R0_1 := R0.below b1
  have R1_1 := R1.below b1
  have Xa := Il_of_own_n oa L0.out
  go_wp2_with fail
  refine (toIntS_c A1 c1 n1 xs1 _ R1_1 L1.out hn1).mono ?_
  rintro e w2 ⟨rfl, ob, b2⟩
  have R0_2 := R0_1.below b2
  have R1_2 := R1_1.below b2
  have Xa_2 := Xa.below b2
  have bb2 := b1.trans (b2.mono b1.size)
  have Xb := Il_of_own_n ob L1.out
  go_wp2_with fail
  refine (spec_NumberWithRests_c _ _ _ _ xs0 Xa_2 L0.out hn (Nat.le_refl _) _ _ _ xs1 Xb L1.out hn1).mono ?_
  rintro e w3 ⟨rfl, b3⟩
  have R0_3 := R0_2.below b3
  have R1_3 := R1_2.below b3
  have Xa_3 := Xa_2.below b3
  have Xb_3 := Xb.below b3
  have bb3 := bb2.trans (b3.mono bb2.size)
  go_wp2_with fail
  refine (toIntS_c A0 c0 n0 xs0 _ R0_3 L0.out hn).mono ?_
  rintro e w4 ⟨rfl, oc, b4⟩
  have R0_4 := R0_3.below b4
  have R1_4 := R1_3.below b4
  have bb4 := bb3.trans (b4.mono bb3.size)
  have Xc := Il_of_own_n oc L0.out
  go_wp2_with fail
  refine (toIntS_c A1 c1 n1 xs1 _ R1_4 L1.out hn1).mono ?_
  rintro e w5 ⟨rfl, od, b5⟩
  have R0_5 := R0_4.below b5
  have R1_5 := R1_4.below b5
  have Xc_5 := Xc.below b5
  have bb5 := bb4.trans (b5.mono bb4.size)
  have Xd := Il_of_own_n od L1.out
  go_wp2_with fail
  refine (impl_NumberWithRests_c _ _ _ _ xs0 Xc_5 L0.out hn (Nat.le_refl _) _ _ _ xs1 Xd L1.out hn1).mono ?_
  rintro e w6 ⟨rfl, b6⟩
  have R0_6 := R0_5.below b6
  have R1_6 := R1_5.below b6
  have Xc_6 := Xc_5.below b6
  have Xd_6 := Xd.below b6
  have bb6 := bb5.trans (b6.mono bb5.size)
  go_wp2_with fail
  refine (toIntS_c A0 c0 n0 xs0 _ R0_6 L0.out hn).mono ?_
  rintro e w7 ⟨rfl, oe, b7⟩
  have R0_7 := R0_6.below b7
  have R1_7 := R1_6.below b7
  have Xc_7 := Xc_6.below b7
  have Xd_7 := Xd_6.below b7
  have bb7 := bb6.trans (b7.mono bb6.size)
  have Xe := Il_of_own_n oe L0.out
  go_wp2_with fail
  refine (eqIntS_yes _ _ _ _ _ _ xs0 _ Xc_7 Xe L0.out L0.out hn).mono ?_
  rintro e w8 ⟨rfl, b8⟩
  have R0_8 := R0_7.below b8
  have R1_8 := R1_7.below b8
  have Xc_8 := Xc_7.below b8
  have Xd_8 := Xd_7.below b8
  have Xe_8 := Xe.below b8
  have bb8 := bb7.trans (b8.mono bb7.size)
  go_wp2_with fail
  refine (toIntS_c A1 c1 n1 xs1 _ R1_8 L1.out hn1).mono ?_
  rintro e w9 ⟨rfl, of, b9⟩
  have R0_9 := R0_8.below b9
  have R1_9 := R1_8.below b9
  have Xc_9 := Xc_8.below b9
  have Xd_9 := Xd_8.below b9
  have Xe_9 := Xe_8.below b9
  have bb9 := bb8.trans (b9.mono bb8.size)
  have Xf := Il_of_own_n of L1.out
  go_wp2_with fail
  refine (eqIntS_yes _ _ _ _ _ _ xs1 _ Xd_9 Xf L1.out L1.out hn1).mono ?_
  rintro e w10 ⟨rfl, b10⟩
  have R0_10 := R0_9.below b10
  have R1_10 := R1_9.below b10
  have Xc_10 := Xc_9.below b10
  have Xd_10 := Xd_9.below b10
  have Xe_10 := Xe_9.below b10
  have Xf_10 := Xf.below b10
  have bb10 := bb9.trans (b10.mono bb9.size)
  go_wp2
  go_ret
  exact ⟨rfl, bb10⟩

set_option maxRecDepth 100000 in
theorem lifted_FnExactNumberWithRests (os : Os) (started : os.Started) (H : Type) (enc : TypeId × Value → H) :
    ReturnsInHanded {} Try.checked os 15 .any (Rows.fnExactNumberWithRestsSpec.pre6 enc Try.prog Try.f15 Rows.fnExactNumberWithRestsRow.domain false) (Rows.fnExactNumberWithRestsSpec.post enc Try.prog Try.f15 false true false false) := by
  refine returnsInHanded_of_change (C := Try.checked) own started (by kernel_rfl) Try.func15
    (ChangeSpec.witness6 (enc := enc) (C := Try.checked) false ⟨#[], #[.slice none 0 0, .slice none 0 0], []⟩ 8 (by kernel_rfl) (by kernel_rfl) (by kernel_rfl) (by kernel_rfl)) ?_
  intro W base args ds gs before hval0 hW hcnd _
  have hval : ∀ (j : Nat) t v, Try.f15.params[j]? = some t → args[j]? = some v → Value.okWide Try.prog W .any base t v := hval0
  have hW' := hW
  obtain ⟨p, q, hA0, hV, rfl, hfz, hnd⟩ := hW
  have hA : DataW.TrodAll enc Try.prog W 0 (fun _ => true) true Try.f15.params.toList args.toList ds p := hA0
  rw [Try.params15] at hA hval
  obtain ⟨v0, vs0, d0, ds0, p0, q0, hargs, rfl, rfl, h0, r0⟩ := trodAll_cons hA
  obtain ⟨v1, vs1, d1, ds1, p1, q1, rfl, rfl, rfl, h1, r1⟩ := trodAll_cons r0
  obtain ⟨rfl, rfl, rfl⟩ := trodAll_nil r1
  obtain rfl : args = #[v0, v1] := by cases args; simp_all
  obtain ⟨rfl, rfl⟩ := trodVars_none hV
  have k0 := h0
  have lt0 : ∀ x ∈ p0, x.block < W.heap.size := by obtain ⟨m, hm⟩ := k0; exact DataW.trod_lt m _ _ _ hm
  obtain ⟨A0, n0, c0, xs0, rfl, l0, m0, R0⟩ := open_intL (hval 0 22 v0 rfl rfl) h0
  have k1 := h1
  have lt1 : ∀ x ∈ p1, x.block < W.heap.size := by obtain ⟨m, hm⟩ := k1; exact DataW.trod_lt m _ _ _ hm
  obtain ⟨A1, n1, c1, xs1, rfl, l1, m1, R1⟩ := open_intL (hval 1 22 v1 rfl rfl) h1
  clear hA0 hval0
  refine (walk_FnExactNumberWithRests W A0 n0 c0 xs0 l0 m0 R0 A1 n1 c1 xs1 l1 m1 R1).mono fun e W' ⟨he, bel⟩ => ?_
  subst he
  exact ⟨_, rfl, _, _, _, [], _, [], hW', trodAll_mk1 (shut_bool Try.underlying4 _), (trodAll_cons_mk (Below.trod laidOut (by kernel_rfl) (of_decide_eq_true (by kernel_rfl)) k0 bel lt0) (trodAll_cons_mk (Below.trod laidOut (by kernel_rfl) (of_decide_eq_true (by kernel_rfl)) k1 bel lt1) trodAll_mk0)), rfl, bel.frame _, fun h => by cases h⟩

theorem closed_FnExactNumberWithRests : joinedFacts Try.prog 15 Try.f15 Rows.fnExactNumberWithRestsSpec Rows.fnExactNumberWithRestsRow = true := by
  unfold joinedFacts
  rw [head_enters, head_final, head_make]
  kernel_rfl
theorem over_FnExactNumberWithRests : Rows.fnExactNumberWithRestsRow.holds Try.pinned (OpenSpec.ofChange Rows.fnExactNumberWithRestsSpec) :=
  OpenClaim.holds_of_wide 15 Try.f15 rfl rfl rfl rfl rfl rfl rfl ⟨rfl, rfl, rfl, rfl, rfl⟩ rfl rfl rfl rfl rfl (by kernel_rfl) Try.func15 closed_FnExactNumberWithRests
    (of_decide_eq_true (by kernel_rfl)) (by unfold Func.isWrapper; first | (rw [if_pos (by decide +kernel)]; kernel_rfl) | (rw [if_neg (by decide +kernel)]; exact ⟨rfl, rfl⟩))
    (fun os started H enc _ => lifted_FnExactNumberWithRests os started H enc)

theorem fnExactNumberWithRests_holds : Rows.FnExactNumberWithRestsSaid := over_FnExactNumberWithRests

end Go.Proofs.Ytgnmookklplnmaa
