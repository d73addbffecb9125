/- For whatever comes in, spec.FirstCover and impl.FirstCover answer alike, impl.FirstCover writes into none of its arguments, and what it hands back lies in memory of its own: laws.FnExactFirstCover returns true. Conditions: none. -/
import Derived.Test.YtoapidcbmlnjcaaIJ
import Derived.Test.YtoapidcbmlnjcaaIK
import Derived.Test.YtoapidcbmlnjcaaM0
import Derived.Test.YtoapidcbmlnjcaaL0
import Derived.Test.YtoapidcbmlnjcaaF3
namespace Go.Proofs.Ytoapidcbmlnjcaa
open Go.ChangeShapes Go.WideShapes Go.ChangeAt Go.RowKit Go.Deep
set_option linter.unusedVariables false
set_option linter.unusedSimpArgs false

set_option maxRecDepth 100000 in
set_option maxHeartbeats 2000000 in
theorem walk_FnExactFirstCover (w : World) (A0 : Option Addr) (n0 c0 : Nat) (rs0 : List Int) (l0 : n0 = rs0.length) (m0 : n0 ≤ 9223372036854775807) (R0 : Il w A0 rs0) (a1 : Int) (i1 : (Lit.int .i64 a1).wf = true) :
    Calls Try.prog 16 #[.slice A0 n0 c0, .int .i64 a1] w fun e w' => e = .returned (.bool true) ∧ Below w.heap.size w w' := by
  have L0 := Lib.hid l0
  clear l0
  by_cases hn : n0 ≤ 1048576
  · have hgl := Nat.le_trans (fcV_len2 rs0 a1) (show _ ≤ 1048576 by decide)
    go_enter Try.func16, Try.ntmps16
    go_wp2_with fail
    refine (toIntS_c A0 c0 n0 rs0 _ R0 L0.out hn).mono ?_
    rintro e w1 ⟨rfl, o1, b1⟩
    have R0_1 := R0.below b1
    have X1 := Il_of_own_n o1 L0.out
    go_wp2_with fail
    refine (spec_FirstCover_c _ _ _ _ rs0 X1 L0.out hn (Nat.le_refl _) a1).mono ?_
    rintro e w2 ⟨⟨v2, rfl, o2⟩, b2⟩
    have R0_2 := R0_1.below b2
    have X1_2 := X1.below b2
    have bb2 := b1.trans (b2.mono b1.size)
    obtain ⟨Aw, cw, rfl⟩ := o2.shape
    have Iw := Rl_of_own' o2
    clear o2
    go_wp2_with fail
    refine (toIntS_c A0 c0 n0 rs0 _ (R0_2.below (Below.refl w2.heap.size w2)) L0.out hn).mono ?_
    rintro e w3 ⟨rfl, o2, b3⟩
    have X2 := Il_of_own_n o2 L0.out
    have hgx := (World.ownsRow.lt o2 _ rfl).2
    go_wp2_with fail
    refine (impl_FirstCover_c _ _ _ _ rs0 X2 L0.out hn (Nat.le_refl _) a1).mono ?_
    rintro e w4 ⟨⟨v4, rfl, o4⟩, b4⟩
    have X2_4 := X2.below b4
    have o2_4 := o2.below b4
    have bb4 := b3.trans (b4.mono b3.size)
    obtain ⟨Ag, cg, rfl⟩ := o4.shape
    have og := o4
    clear o4
    go_wp2_with fail
    refine (eqRuleS_yes _ _ _ _ _ _ _ _ (Rl_of_own' og) (Iw.below bb4) rfl rfl hgl hgl).mono ?_
    rintro e w5 ⟨rfl, b5⟩
    have X2_5 := X2_4.below b5
    have o2_5 := o2_4.below b5
    have og_5 := og.below b5
    have bb5 := bb4.trans (b5.mono bb4.size)
    go_wp2_with fail
    refine (toIntS_c A0 c0 n0 rs0 _ (R0_2.below bb5) L0.out hn).mono ?_
    rintro e w6 ⟨rfl, o3, b6⟩
    have X2_6 := X2_5.below b6
    have o2_6 := o2_5.below b6
    have og_6 := og_5.below b6
    have bb6 := bb5.trans (b6.mono bb5.size)
    have X3 := Il_of_own_n o3 L0.out
    go_wp2_with fail
    refine (eqIntS_yes _ _ _ _ _ _ rs0 _ X2_6 X3 L0.out L0.out hn).mono ?_
    rintro e w7 ⟨rfl, b7⟩
    have X2_7 := X2_6.below b7
    have o2_7 := o2_6.below b7
    have og_7 := og_6.below b7
    have X3_7 := X3.below b7
    have bb7 := bb6.trans (b7.mono bb6.size)
    have e2 := o2_7.own_n L0.out
    go_wp2_with fail
    refine (markIntS_c _ _ _ _ _ _ e2 hn).mono ?_
    rintro e w8 ⟨rfl, mk8, gr8⟩
    have b8 : Below w2.heap.size w7 w8 := below_of_grown gr8 bb7.size (by intro q hq; simp [Value.ownBlock] at hq; omega)
    have bb8 := bb7.trans b8
    have og_8 := og_7.kept gr8 hgx
    clear mk8 e2 gr8
    go_wp2_with fail
    refine (eqRuleS_yes _ _ _ _ _ _ _ _ (Rl_of_own' og_8) (Iw.below bb8) rfl rfl hgl hgl).mono ?_
    rintro e w9 ⟨rfl, b9⟩
    have og_9 := og_8.below b9
    have bb9 := bb8.trans (b9.mono bb8.size)
    go_wp2_with fail
    refine (markRuleS_c _ _ _ _ _ _ og_9 hgl).mono ?_
    rintro e w10 ⟨rfl, mk, gr10⟩
    have b10 : Below w2.heap.size w9 w10 := below_of_grown gr10 bb9.size (by intro q hq; have := (World.ownsRow.lt og_9 q hq).1; omega)
    have bb10 := bb9.trans b10
    clear gr10
    go_wp2_with fail
    refine (heldRuleS_c _ _ _ _ _ mk hgl).mono ?_
    rintro e w11 ⟨rfl, rfl⟩
    go_wp2_with fail
    refine (toIntS_c A0 c0 n0 rs0 _ (R0_2.below bb10) L0.out hn).mono ?_
    rintro e w12 ⟨rfl, o4, b12⟩
    have mk_12 := mk.below b12
    have bb12 := bb10.trans (b12.mono bb10.size)
    have X4 := Il_of_own_n o4 L0.out
    go_wp2_with fail
    refine (impl_FirstCover_c _ _ _ _ rs0 X4 L0.out hn (Nat.le_refl _) a1).mono ?_
    rintro e w13 ⟨⟨v13, rfl, o13⟩, b13⟩
    have mk_13 := mk_12.below b13
    have X4_13 := X4.below b13
    have bb13 := bb12.trans (b13.mono bb12.size)
    obtain ⟨Ah, ch, rfl⟩ := o13.shape
    go_wp2_with fail
    refine (eqRuleS_yes _ _ _ _ _ _ _ _ (Rl_of_own' o13) (Iw.below bb13) rfl rfl hgl hgl).mono ?_
    rintro e w14 ⟨rfl, b14⟩
    have mk_14 := mk_13.below b14
    have bb14 := bb13.trans (b14.mono bb13.size)
    go_wp2_with fail
    refine (heldRuleS_c _ _ _ _ _ mk_14 hgl).mono ?_
    rintro e w15 ⟨rfl, rfl⟩
    go_wp2
    go_ret
    exact ⟨rfl, bb2.trans (bb14.mono bb2.size)⟩
  · go_enter Try.func16, Try.ntmps16
    go_wp2
    go_ret
    exact ⟨rfl, Below.refl _ _⟩

set_option maxRecDepth 100000 in
theorem lifted_FnExactFirstCover (os : Os) (started : os.Started) (H : Type) (enc : TypeId × Value → H) :
    ReturnsInHanded {} Try.checked os 16 .any (Rows.fnExactFirstCoverSpec.pre6 enc Try.prog Try.f16 Rows.fnExactFirstCoverRow.domain false) (Rows.fnExactFirstCoverSpec.post enc Try.prog Try.f16 false true false false) := by
  refine returnsInHanded_of_change (C := Try.checked) own started (by kernel_rfl) Try.func16
    (ChangeSpec.witness6 (enc := enc) (C := Try.checked) false ⟨#[], #[.slice none 0 0, .int .i64 0], []⟩ 8 (by kernel_rfl) (by kernel_rfl) (by kernel_rfl) (by kernel_rfl)) ?_
  intro W base args ds gs before hval0 hW hcnd _
  have hval : ∀ (j : Nat) t v, Try.f16.params[j]? = some t → args[j]? = some v → Value.okWide Try.prog W .any base t v := hval0
  have hW' := hW
  obtain ⟨p, q, hA0, hV, rfl, hfz, hnd⟩ := hW
  have hA : DataW.TrodAll enc Try.prog W 0 (fun _ => true) true Try.f16.params.toList args.toList ds p := hA0
  rw [Try.params16] at hA hval
  obtain ⟨v0, vs0, d0, ds0, p0, q0, hargs, rfl, rfl, h0, r0⟩ := trodAll_cons hA
  obtain ⟨v1, vs1, d1, ds1, p1, q1, rfl, rfl, rfl, h1, r1⟩ := trodAll_cons r0
  obtain ⟨rfl, rfl, rfl⟩ := trodAll_nil r1
  obtain rfl : args = #[v0, v1] := by cases args; simp_all
  obtain ⟨rfl, rfl⟩ := trodVars_none hV
  have k0 := h0
  have lt0 : ∀ x ∈ p0, x.block < W.heap.size := by obtain ⟨m, hm⟩ := k0; exact DataW.trod_lt m _ _ _ hm
  obtain ⟨A0, n0, c0, xs0, rfl, l0, m0, R0⟩ := open_intL (hval 0 30 v0 rfl rfl) h0
  have k1 := h1
  have lt1 : ∀ x ∈ p1, x.block < W.heap.size := by obtain ⟨m, hm⟩ := k1; exact DataW.trod_lt m _ _ _ hm
  obtain ⟨a1, rfl, _, _, i1⟩ := open_int Try.underlying3 (hval 1 3 v1 rfl rfl) h1
  clear hA0 hval0
  refine (walk_FnExactFirstCover W A0 n0 c0 xs0 l0 m0 R0 a1 i1).mono fun e W' ⟨he, bel⟩ => ?_
  subst he
  exact ⟨_, rfl, _, _, _, [], _, [], hW', trodAll_mk1 (shut_bool Try.underlying4 _), (trodAll_cons_mk (Below.trod laidOut (by kernel_rfl) (of_decide_eq_true (by kernel_rfl)) k0 bel lt0) (trodAll_cons_mk (Below.trod laidOut (by kernel_rfl) (of_decide_eq_true (by kernel_rfl)) k1 bel lt1) trodAll_mk0)), rfl, bel.frame _, fun h => by cases h⟩

theorem closed_FnExactFirstCover : joinedFacts Try.prog 16 Try.f16 Rows.fnExactFirstCoverSpec Rows.fnExactFirstCoverRow = true := by
  unfold joinedFacts
  rw [head_enters, head_final, head_make]
  kernel_rfl
theorem left_FnExactFirstCover (os : Os) (started : os.Started) (H : Type) (enc : TypeId × Value → H) :
    ReturnsInLeavingWide {} Try.checked os 16 .any (Rows.fnExactFirstCoverSpec.pre6 enc Try.prog Try.f16 Rows.fnExactFirstCoverRow.domain false) (Rows.fnExactFirstCoverSpec.post enc Try.prog Try.f16 false true false false) :=
  leaving_of_handed (lifted_FnExactFirstCover os started H enc)
theorem over_FnExactFirstCover : Rows.fnExactFirstCoverRow.holds Try.pinned (OpenSpec.ofChange Rows.fnExactFirstCoverSpec) :=
  OpenClaim.holds_of_wide_leaving 16 Try.f16 rfl rfl rfl rfl rfl rfl rfl ⟨rfl, rfl, rfl, rfl, rfl⟩ rfl rfl rfl rfl rfl (by kernel_rfl) Try.func16 closed_FnExactFirstCover
    (of_decide_eq_true (by kernel_rfl)) (by unfold Func.isWrapper; first | (rw [if_pos (by decide +kernel)]; kernel_rfl) | (rw [if_neg (by decide +kernel)]; exact ⟨rfl, rfl⟩))
    (fun os started H enc _ => left_FnExactFirstCover os started H enc)

theorem fnExactFirstCover_holds : Rows.FnExactFirstCoverSaid := over_FnExactFirstCover

end Go.Proofs.Ytoapidcbmlnjcaa
