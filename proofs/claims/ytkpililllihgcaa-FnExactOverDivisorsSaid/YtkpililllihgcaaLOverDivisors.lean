/- For whatever comes in, spec.OverDivisors and impl.OverDivisors answer alike, impl.OverDivisors writes into none of its arguments, and what it hands back lies in memory of its own: laws.FnExactOverDivisors returns true. Conditions: none. -/
import Derived.Test.YtkpililllihgcaaJA
import Derived.Test.YtkpililllihgcaaPB
import Derived.Test.YtkpililllihgcaaL0
namespace Go.Proofs.Ytkpililllihgcaa
open Go.ChangeShapes Go.WideShapes Go.ChangeAt Go.RowKit Go.Deep
set_option linter.unusedVariables false
set_option linter.unusedSimpArgs false

set_option maxRecDepth 100000 in
set_option maxHeartbeats 3000000 in
theorem walk_FnExactOverDivisors (w : World) (A0 : Option Addr) (n0 c0 : Nat) (xs0 : List Int) (l0 : n0 = xs0.length) (m0 : n0 ≤ 9223372036854775807) (R0 : Il w A0 xs0) (A1 : Option Addr) (n1 c1 : Nat) (xs1 : List Int) (l1 : n1 = xs1.length) (m1 : n1 ≤ 9223372036854775807) (R1 : Il w A1 xs1) :
    Calls Try.prog 9 #[.slice A0 n0 c0, .slice A1 n1 c1] w fun e w' => e = .returned (.bool true) ∧ Below w.heap.size w w' := by
  have L0 := Lib.hid l0
  have L1 := Lib.hid l1
  clear l0 l1
  by_cases hn : n0 ≤ 1048576
  rotate_left
  · go_enter Try.func9, Try.ntmps9
    go_wp2
    go_ret
    exact ⟨rfl, Below.refl _ _⟩
  by_cases hn1 : n1 ≤ 1048576
  rotate_left
  · go_enter Try.func9, Try.ntmps9
    go_wp2
    go_ret
    exact ⟨rfl, Below.refl _ _⟩
  have hgl := Nat.le_trans (ovR_len xs0 xs1) (show _ ≤ 1048576 by decide)
  go_enter Try.func9, Try.ntmps9
  go_wp2_with fail
  refine (toIntS_c A0 c0 n0 xs0 _ R0 L0.out hn).mono ?_
  rintro e w1 ⟨rfl, oa, b1⟩
  have R0_1 := R0.below b1
  have R1_1 := R1.below b1
  have Xa := Il_of_own_n oa L0.out
  go_wp2_with fail
  refine (toIntS_c A1 c1 n1 xs1 _ R1_1 L1.out hn1).mono ?_
  rintro e w2 ⟨rfl, ob, b2⟩
  have R0_2 := R0_1.below b2
  have R1_2 := R1_1.below b2
  have Xa_2 := Xa.below b2
  have bb2 := b1.trans (b2.mono b1.size)
  have Xb := Il_of_own_n ob L1.out
  go_wp2_with fail
  refine (spec_OverDivisors_c _ _ _ _ xs0 Xa_2 L0.out hn _ _ _ xs1 Xb L1.out hn1).mono ?_
  rintro e w3 ⟨⟨v3, rfl, o3⟩, b3⟩
  have R0_3 := R0_2.below b3
  have R1_3 := R1_2.below b3
  have Xa_3 := Xa_2.below b3
  have Xb_3 := Xb.below b3
  have bb3 := bb2.trans (b3.mono bb2.size)
  obtain ⟨Aw, cw, rfl⟩ := o3.shape
  have Iw := Il_of_own o3
  clear o3
  go_wp2_with fail
  refine (toIntS_c A0 c0 n0 xs0 _ (R0_3.below (Below.refl w3.heap.size w3)) L0.out hn).mono ?_
  rintro e w4 ⟨rfl, o2, b4⟩
  have X2 := Il_of_own_n o2 L0.out
  have hgx := (World.ownsRow.lt o2 _ rfl).2
  go_wp2_with fail
  refine (toIntS_c A1 c1 n1 xs1 _ (R1_3.below b4) L1.out hn1).mono ?_
  rintro e w5 ⟨rfl, o5, b5⟩
  have X2_5 := X2.below b5
  have o2_5 := o2.below b5
  have bb5 := b4.trans (b5.mono b4.size)
  have X5 := Il_of_own_n o5 L1.out
  have hgy := (World.ownsRow.lt o5 _ rfl).2
  have hgx5 := Nat.lt_of_lt_of_le hgx b5.size
  go_wp2_with fail
  refine (impl_OverDivisors_c _ _ _ _ xs0 X2_5 L0.out hn _ _ _ xs1 X5 L1.out hn1).mono ?_
  rintro e w6 ⟨⟨v6, rfl, o6⟩, b6⟩
  have X2_6 := X2_5.below b6
  have o2_6 := o2_5.below b6
  have X5_6 := X5.below b6
  have o5_6 := o5.below b6
  have bb6 := bb5.trans (b6.mono bb5.size)
  obtain ⟨Ag, cg, rfl⟩ := o6.shape
  have og := o6
  clear o6
  go_wp2_with fail
  refine (eqIntS_yes _ _ _ _ _ _ _ _ (Il_of_own og) (Iw.below bb6) rfl rfl hgl).mono ?_
  rintro e w7 ⟨rfl, b7⟩
  have X2_7 := X2_6.below b7
  have o2_7 := o2_6.below b7
  have X5_7 := X5_6.below b7
  have o5_7 := o5_6.below b7
  have og_7 := og.below b7
  have bb7 := bb6.trans (b7.mono bb6.size)
  go_wp2_with fail
  refine (toIntS_c A0 c0 n0 xs0 _ (R0_3.below bb7) L0.out hn).mono ?_
  rintro e w8 ⟨rfl, o3, b8⟩
  have X2_8 := X2_7.below b8
  have o2_8 := o2_7.below b8
  have X5_8 := X5_7.below b8
  have o5_8 := o5_7.below b8
  have og_8 := og_7.below b8
  have bb8 := bb7.trans (b8.mono bb7.size)
  have X3 := Il_of_own_n o3 L0.out
  go_wp2_with fail
  refine (eqIntS_yes _ _ _ _ _ _ xs0 _ X2_8 X3 L0.out L0.out hn).mono ?_
  rintro e w9 ⟨rfl, b9⟩
  have X2_9 := X2_8.below b9
  have o2_9 := o2_8.below b9
  have X5_9 := X5_8.below b9
  have o5_9 := o5_8.below b9
  have og_9 := og_8.below b9
  have X3_9 := X3.below b9
  have bb9 := bb8.trans (b9.mono bb8.size)
  go_wp2_with fail
  refine (toIntS_c A1 c1 n1 xs1 _ (R1_3.below bb9) L1.out hn1).mono ?_
  rintro e w10 ⟨rfl, o6, b10⟩
  have o2_10 := o2_9.below b10
  have X5_10 := X5_9.below b10
  have o5_10 := o5_9.below b10
  have og_10 := og_9.below b10
  have bb10 := bb9.trans (b10.mono bb9.size)
  have X6 := Il_of_own_n o6 L1.out
  go_wp2_with fail
  refine (eqIntS_yes _ _ _ _ _ _ xs1 _ X5_10 X6 L1.out L1.out hn1).mono ?_
  rintro e w11 ⟨rfl, b11⟩
  have o2_11 := o2_10.below b11
  have X5_11 := X5_10.below b11
  have o5_11 := o5_10.below b11
  have og_11 := og_10.below b11
  have X6_11 := X6.below b11
  have bb11 := bb10.trans (b11.mono bb10.size)
  have e2 := o2_11.own_n L0.out
  go_wp2_with fail
  refine (markIntS_c _ _ _ _ _ _ e2 hn).mono ?_
  rintro e w12 ⟨rfl, mk12, gr12⟩
  have b12 : Below w3.heap.size w11 w12 := below_of_grown gr12 bb11.size (by intro q hq; simp [Value.ownBlock] at hq; omega)
  have bb12 := bb11.trans b12
  have og_12 := og_11.kept gr12 hgx5
  have o5_12 := o5_11.kept gr12 hgx
  clear mk12
  clear e2 gr12
  have e2 := o5_12.own_n L1.out
  go_wp2_with fail
  refine (markIntSk_c _ _ _ _ _ _ _ (by omega) e2 hn1).mono ?_
  rintro e w13 ⟨rfl, gr13⟩
  have b13 : Below w3.heap.size w12 w13 := below_of_grown gr13 bb12.size (by intro q hq; simp [Value.ownBlock] at hq; omega)
  have bb13 := bb12.trans b13
  have og_13 := og_12.kept gr13 hgy
  clear e2 gr13
  go_wp2_with fail
  refine (eqIntS_yes _ _ _ _ _ _ _ _ (Il_of_own og_13) (Iw.below bb13) rfl rfl hgl).mono ?_
  rintro e w14 ⟨rfl, b14⟩
  have og_14 := og_13.below b14
  have bb14 := bb13.trans (b14.mono bb13.size)
  go_wp2_with fail
  refine (markIntS_c _ _ _ _ _ _ og_14 hgl).mono ?_
  rintro e w15 ⟨rfl, mk, gr15⟩
  have b15 : Below w3.heap.size w14 w15 := below_of_grown gr15 bb14.size (by intro q hq; have := (World.ownsRow.lt og_14 q hq).1; omega)
  have bb15 := bb14.trans b15
  clear gr15
  go_wp2_with fail
  refine (heldIntS_c _ _ _ _ _ mk hgl).mono ?_
  rintro e w16 ⟨rfl, rfl⟩
  go_wp2_with fail
  refine (toIntS_c A0 c0 n0 xs0 _ (R0_3.below bb15) L0.out hn).mono ?_
  rintro e w17 ⟨rfl, o7, b17⟩
  have mk_17 := mk.below b17
  have bb17 := bb15.trans (b17.mono bb15.size)
  have X7 := Il_of_own_n o7 L0.out
  go_wp2_with fail
  refine (toIntS_c A1 c1 n1 xs1 _ (R1_3.below bb17) L1.out hn1).mono ?_
  rintro e w18 ⟨rfl, o8, b18⟩
  have mk_18 := mk_17.below b18
  have X7_18 := X7.below b18
  have bb18 := bb17.trans (b18.mono bb17.size)
  have X8 := Il_of_own_n o8 L1.out
  go_wp2_with fail
  refine (impl_OverDivisors_c _ _ _ _ xs0 X7_18 L0.out hn _ _ _ xs1 X8 L1.out hn1).mono ?_
  rintro e w19 ⟨⟨v19, rfl, o19⟩, b19⟩
  have mk_19 := mk_18.below b19
  have X7_19 := X7_18.below b19
  have X8_19 := X8.below b19
  have bb19 := bb18.trans (b19.mono bb18.size)
  obtain ⟨Ah, ch, rfl⟩ := o19.shape
  go_wp2_with fail
  refine (eqIntS_yes _ _ _ _ _ _ _ _ (Il_of_own o19) (Iw.below bb19) rfl rfl hgl).mono ?_
  rintro e w20 ⟨rfl, b20⟩
  have mk_20 := mk_19.below b20
  have bb20 := bb19.trans (b20.mono bb19.size)
  go_wp2_with fail
  refine (heldIntS_c _ _ _ _ _ mk_20 hgl).mono ?_
  rintro e w21 ⟨rfl, rfl⟩
  go_wp2
  go_ret
  exact ⟨rfl, bb3.trans (bb20.mono bb3.size)⟩

set_option maxRecDepth 100000 in
theorem lifted_FnExactOverDivisors (os : Os) (started : os.Started) (H : Type) (enc : TypeId × Value → H) :
    ReturnsInHanded {} Try.checked os 9 .any (Rows.fnExactOverDivisorsSpec.pre6 enc Try.prog Try.f9 Rows.fnExactOverDivisorsRow.domain false) (Rows.fnExactOverDivisorsSpec.post enc Try.prog Try.f9 false true false false) := by
  refine returnsInHanded_of_change (C := Try.checked) own started (by kernel_rfl) Try.func9
    (ChangeSpec.witness6 (enc := enc) (C := Try.checked) false ⟨#[], #[.slice none 0 0, .slice none 0 0], []⟩ 8 (by kernel_rfl) (by kernel_rfl) (by kernel_rfl) (by kernel_rfl)) ?_
  intro W base args ds gs before hval0 hW hcnd _
  have hval : ∀ (j : Nat) t v, Try.f9.params[j]? = some t → args[j]? = some v → Value.okWide Try.prog W .any base t v := hval0
  have hW' := hW
  obtain ⟨p, q, hA0, hV, rfl, hfz, hnd⟩ := hW
  have hA : DataW.TrodAll enc Try.prog W 0 (fun _ => true) true Try.f9.params.toList args.toList ds p := hA0
  rw [Try.params9] at hA hval
  obtain ⟨v0, vs0, d0, ds0, p0, q0, hargs, rfl, rfl, h0, r0⟩ := trodAll_cons hA
  obtain ⟨v1, vs1, d1, ds1, p1, q1, rfl, rfl, rfl, h1, r1⟩ := trodAll_cons r0
  obtain ⟨rfl, rfl, rfl⟩ := trodAll_nil r1
  obtain rfl : args = #[v0, v1] := by cases args; simp_all
  obtain ⟨rfl, rfl⟩ := trodVars_none hV
  have k0 := h0
  have lt0 : ∀ x ∈ p0, x.block < W.heap.size := by obtain ⟨m, hm⟩ := k0; exact DataW.trod_lt m _ _ _ hm
  obtain ⟨A0, n0, c0, xs0, rfl, l0, m0, R0⟩ := open_intL (hval 0 22 v0 rfl rfl) h0
  have k1 := h1
  have lt1 : ∀ x ∈ p1, x.block < W.heap.size := by obtain ⟨m, hm⟩ := k1; exact DataW.trod_lt m _ _ _ hm
  obtain ⟨A1, n1, c1, xs1, rfl, l1, m1, R1⟩ := open_intL (hval 1 22 v1 rfl rfl) h1
  clear hA0 hval0
  refine (walk_FnExactOverDivisors W A0 n0 c0 xs0 l0 m0 R0 A1 n1 c1 xs1 l1 m1 R1).mono fun e W' ⟨he, bel⟩ => ?_
  subst he
  exact ⟨_, rfl, _, _, _, [], _, [], hW', trodAll_mk1 (shut_bool Try.underlying4 _), (trodAll_cons_mk (Below.trod laidOut (by kernel_rfl) (of_decide_eq_true (by kernel_rfl)) k0 bel lt0) (trodAll_cons_mk (Below.trod laidOut (by kernel_rfl) (of_decide_eq_true (by kernel_rfl)) k1 bel lt1) trodAll_mk0)), rfl, bel.frame _, fun h => by cases h⟩

theorem closed_FnExactOverDivisors : joinedFacts Try.prog 9 Try.f9 Rows.fnExactOverDivisorsSpec Rows.fnExactOverDivisorsRow = true := by
  unfold joinedFacts
  rw [head_enters, head_final, head_make]
  kernel_rfl
theorem over_FnExactOverDivisors : Rows.fnExactOverDivisorsRow.holds Try.pinned (OpenSpec.ofChange Rows.fnExactOverDivisorsSpec) :=
  OpenClaim.holds_of_wide 9 Try.f9 rfl rfl rfl rfl rfl rfl rfl ⟨rfl, rfl, rfl, rfl, rfl⟩ rfl rfl rfl rfl rfl (by kernel_rfl) Try.func9 closed_FnExactOverDivisors
    (of_decide_eq_true (by kernel_rfl)) (by unfold Func.isWrapper; first | (rw [if_pos (by decide +kernel)]; kernel_rfl) | (rw [if_neg (by decide +kernel)]; exact ⟨rfl, rfl⟩))
    (fun os started H enc _ => lifted_FnExactOverDivisors os started H enc)

theorem fnExactOverDivisors_holds : Rows.FnExactOverDivisorsSaid := over_FnExactOverDivisors

end Go.Proofs.Ytkpililllihgcaa
