/- For whatever comes in, spec.RecordGaps and impl.RecordGaps answer alike, impl.RecordGaps writes into none of its arguments, and what it hands back lies in memory of its own: laws.FnExactRecordGaps returns true. Conditions: none. -/
import Derived.Test.YtoapidcbmlnjcaaIE
import Derived.Test.YtoapidcbmlnjcaaM0
import Derived.Test.YtoapidcbmlnjcaaK2
import Derived.Test.YtoapidcbmlnjcaaL0
namespace Go.Proofs.Ytoapidcbmlnjcaa
open Go.ChangeShapes Go.WideShapes Go.ChangeAt Go.RowKit Go.Deep
set_option linter.unusedVariables false
set_option linter.unusedSimpArgs false

theorem OwnLL.kept {w w' : World} {B g : Nat} {v : Value} {ps : List (List Int)} (h : OwnLL w B v ps) (hg : w.grownBy w' (some g)) (hB : g < B) : OwnLL w' B v ps := by
  obtain ⟨vs, h1, h2, h3⟩ := h
  refine ⟨vs, World.ownsRow.kept h1 hg ?_, fun i hi => ?_, h3⟩
  · cases hv : v.ownBlock with
    | none => exact .inl rfl
    | some k => exact .inr fun e => by injection e with e; have := (World.ownsRow.lt h1 k hv).1; omega
  · obtain ⟨u, a, b⟩ := h2 i hi
    exact ⟨u, a, OwnI.kept b hg hB⟩
theorem rgV_len (rs : List (Int × Int)) (q : Int) : (rgV rs q).length ≤ 1048576 ∧ sumL (rgV rs q) (rgV rs q).length ≤ 1048576 := by
  have hl : (rgV rs q).length ≤ 600 := by
    rw [rg_rec, List.length_map]
    have h1 := recP_len (upV rs q) (dfL (upV rs q) ((upV rs q).length - 1)) ((upV rs q).length - 1)
    have h2 : (upV rs q).length ≤ 600 := by
      rw [upV]
      split
      · rename_i h
        have := (okM_most h).2
        have := upF_len (leftF rs) q.toNat
        omega
      · exact Nat.zero_le _
    omega
  refine ⟨by omega, ?_⟩
  have hk : ∀ k, k ≤ (rgV rs q).length → sumL (rgV rs q) k ≤ 2 * k := by
    intro k
    induction k with
    | zero => intro _; exact Nat.le_refl _
    | succ k ih =>
      intro h
      have h2 : (psL (rgV rs q) k).length ≤ 2 := by
        have hm : psL (rgV rs q) k ∈ rgV rs q := by simp [psL, show k < (rgV rs q).length by omega]
        rw [rg_rec, List.mem_map] at hm
        obtain ⟨p, _, e⟩ := hm
        rw [rg_rec, ← e]; exact Nat.le_refl _
      rw [sumL_succ (by omega)]
      have := ih (by omega)
      omega
  have := hk _ (Nat.le_refl _)
  omega

set_option maxRecDepth 100000 in
set_option maxHeartbeats 2000000 in
theorem walk_FnExactRecordGaps (w : World) (A0 : Option Addr) (n0 c0 : Nat) (rs0 : List (Int × Int)) (l0 : n0 = rs0.length) (m0 : n0 ≤ 9223372036854775807) (R0 : Rl w A0 rs0) (a1 : Int) (i1 : (Lit.int .i64 a1).wf = true) :
    Calls Try.prog 8 #[.slice A0 n0 c0, .int .i64 a1] w fun e w' => e = .returned (.bool true) ∧ Below w.heap.size w w' := by
  have L0 := Lib.hid l0
  clear l0
  by_cases hn : n0 ≤ 1048576
  · have hgl := rgV_len rs0 a1
    go_enter Try.func8, Try.ntmps8
    go_wp2_with fail
    refine (szR_yes _ _ _ _ hn).mono ?_
    rintro e w1 ⟨rfl, rfl⟩
    go_wp2_with fail
    refine (toRuleS_c A0 c0 n0 rs0 _ R0 L0.out hn).mono ?_
    rintro e w2 ⟨rfl, o1, b2⟩
    have R0_2 := R0.below b2
    have X1 := Rl_of_own o1 L0.out
    go_wp2_with fail
    refine (spec_RecordGaps_c _ _ _ _ rs0 X1 L0.out hn a1).mono ?_
    rintro e w3 ⟨⟨v3, rfl, o3⟩, b3⟩
    have R0_3 := R0_2.below b3
    have X1_3 := X1.below b3
    have bb3 := b2.trans (b3.mono b2.size)
    obtain ⟨Aw, cw, rfl⟩ := o3.shape
    have Iw := Lr_of_own o3
    clear o3
    go_wp2_with fail
    refine (toRuleS_c A0 c0 n0 rs0 _ (R0_3.below (Below.refl w3.heap.size w3)) L0.out hn).mono ?_
    rintro e w4 ⟨rfl, o2, b4⟩
    have X2 := Rl_of_own o2 L0.out
    have hgx := (World.ownsRow.lt o2 _ rfl).2
    go_wp2_with fail
    refine (impl_RecordGaps_c _ _ _ _ rs0 X2 L0.out hn a1).mono ?_
    rintro e w5 ⟨⟨v5, rfl, o5⟩, b5⟩
    have X2_5 := X2.below b5
    have o2_5 := o2.below b5
    have bb5 := b4.trans (b5.mono b4.size)
    obtain ⟨Ag, cg, rfl⟩ := o5.shape
    have og := o5
    clear o5
    go_wp2_with fail
    refine (eqIntSS_yes _ _ _ _ _ _ _ _ (Lr_of_own og) (Iw.below bb5) rfl rfl hgl.1 hgl.2).mono ?_
    rintro e w6 ⟨rfl, b6⟩
    have X2_6 := X2_5.below b6
    have o2_6 := o2_5.below b6
    have og_6 := og.below b6
    have bb6 := bb5.trans (b6.mono bb5.size)
    go_wp2_with fail
    refine (toRuleS_c A0 c0 n0 rs0 _ (R0_3.below bb6) L0.out hn).mono ?_
    rintro e w7 ⟨rfl, o3, b7⟩
    have X2_7 := X2_6.below b7
    have o2_7 := o2_6.below b7
    have og_7 := og_6.below b7
    have bb7 := bb6.trans (b7.mono bb6.size)
    have X3 := Rl_of_own o3 L0.out
    go_wp2_with fail
    refine (eqRuleS_yes _ _ _ _ _ _ rs0 _ X2_7 X3 L0.out L0.out hn hn).mono ?_
    rintro e w8 ⟨rfl, b8⟩
    have X2_8 := X2_7.below b8
    have o2_8 := o2_7.below b8
    have og_8 := og_7.below b8
    have X3_8 := X3.below b8
    have bb8 := bb7.trans (b8.mono bb7.size)
    have e2 := o2_8.own_n L0.out
    go_wp2_with fail
    refine (markRuleS_c _ _ _ _ _ _ e2 hn).mono ?_
    rintro e w9 ⟨rfl, mk9, gr9⟩
    have b9 : Below w3.heap.size w8 w9 := below_of_grown gr9 bb8.size (by intro q hq; simp [Value.ownBlock] at hq; omega)
    have bb9 := bb8.trans b9
    have og_9 := og_8.kept gr9 hgx
    clear mk9 e2 gr9
    go_wp2_with fail
    refine (eqIntSS_yes _ _ _ _ _ _ _ _ (Lr_of_own og_9) (Iw.below bb9) rfl rfl hgl.1 hgl.2).mono ?_
    rintro e w10 ⟨rfl, b10⟩
    have og_10 := og_9.below b10
    have bb10 := bb9.trans (b10.mono bb9.size)
    have ogm := OwnLL.mono og_10 b4.size
    go_wp2_with fail
    refine (markIntSS_c _ _ _ _ _ _ ogm bb10.size rfl hgl.1 hgl.2).mono ?_
    rintro e w11 ⟨rfl, mk, b11⟩
    have bb11 := bb10.trans b11
    go_wp2_with fail
    refine (heldIntSS_c _ _ _ _ _ _ mk rfl hgl.1 hgl.2).mono ?_
    rintro e w12 ⟨rfl, rfl⟩
    go_wp2_with fail
    refine (toRuleS_c A0 c0 n0 rs0 _ (R0_3.below bb11) L0.out hn).mono ?_
    rintro e w13 ⟨rfl, o4, b13⟩
    have mk_13 := mk.below b13
    have bb13 := bb11.trans (b13.mono bb11.size)
    have X4 := Rl_of_own o4 L0.out
    go_wp2_with fail
    refine (impl_RecordGaps_c _ _ _ _ rs0 X4 L0.out hn a1).mono ?_
    rintro e w14 ⟨⟨v14, rfl, o14⟩, b14⟩
    have mk_14 := mk_13.below b14
    have X4_14 := X4.below b14
    have bb14 := bb13.trans (b14.mono bb13.size)
    obtain ⟨Ah, ch, rfl⟩ := o14.shape
    go_wp2_with fail
    refine (eqIntSS_yes _ _ _ _ _ _ _ _ (Lr_of_own o14) (Iw.below bb14) rfl rfl hgl.1 hgl.2).mono ?_
    rintro e w15 ⟨rfl, b15⟩
    have mk_15 := mk_14.below b15
    have bb15 := bb14.trans (b15.mono bb14.size)
    go_wp2_with fail
    refine (heldIntSS_c _ _ _ _ _ _ mk_15 rfl hgl.1 hgl.2).mono ?_
    rintro e w16 ⟨rfl, rfl⟩
    go_wp2
    go_ret
    exact ⟨rfl, bb3.trans (bb15.mono bb3.size)⟩
  · go_enter Try.func8, Try.ntmps8
    go_wp2_with fail
    refine (szR_no _ _ _ _ m0 hn).mono ?_
    rintro e w1 ⟨rfl, rfl⟩
    go_wp2
    go_ret
    exact ⟨rfl, Below.refl _ _⟩

set_option maxRecDepth 100000 in
theorem lifted_FnExactRecordGaps (os : Os) (started : os.Started) (H : Type) (enc : TypeId × Value → H) :
    ReturnsInHanded {} Try.checked os 8 .any (Rows.fnExactRecordGapsSpec.pre6 enc Try.prog Try.f8 Rows.fnExactRecordGapsRow.domain false) (Rows.fnExactRecordGapsSpec.post enc Try.prog Try.f8 false true false false) := by
  refine returnsInHanded_of_change (C := Try.checked) own started (by kernel_rfl) Try.func8
    (ChangeSpec.witness6 (enc := enc) (C := Try.checked) false ⟨#[], #[.slice none 0 0, .int .i64 0], []⟩ 8 (by kernel_rfl) (by kernel_rfl) (by kernel_rfl) (by kernel_rfl)) ?_
  intro W base args ds gs before hval0 hW hcnd _
  have hval : ∀ (j : Nat) t v, Try.f8.params[j]? = some t → args[j]? = some v → Value.okWide Try.prog W .any base t v := hval0
  have hW' := hW
  obtain ⟨p, q, hA0, hV, rfl, hfz, hnd⟩ := hW
  have hA : DataW.TrodAll enc Try.prog W 0 (fun _ => true) true Try.f8.params.toList args.toList ds p := hA0
  rw [Try.params8] at hA hval
  obtain ⟨v0, vs0, d0, ds0, p0, q0, hargs, rfl, rfl, h0, r0⟩ := trodAll_cons hA
  obtain ⟨v1, vs1, d1, ds1, p1, q1, rfl, rfl, rfl, h1, r1⟩ := trodAll_cons r0
  obtain ⟨rfl, rfl, rfl⟩ := trodAll_nil r1
  obtain rfl : args = #[v0, v1] := by cases args; simp_all
  obtain ⟨rfl, rfl⟩ := trodVars_none hV
  have k0 := h0
  have lt0 : ∀ x ∈ p0, x.block < W.heap.size := by obtain ⟨m, hm⟩ := k0; exact DataW.trod_lt m _ _ _ hm
  obtain ⟨A0, n0, c0, rs0, rfl, l0, m0, R0⟩ := open_rules (hval 0 22 v0 rfl rfl) h0
  have k1 := h1
  have lt1 : ∀ x ∈ p1, x.block < W.heap.size := by obtain ⟨m, hm⟩ := k1; exact DataW.trod_lt m _ _ _ hm
  obtain ⟨a1, rfl, _, _, i1⟩ := open_int Try.underlying3 (hval 1 3 v1 rfl rfl) h1
  clear hA0 hval0
  refine (walk_FnExactRecordGaps W A0 n0 c0 rs0 l0 m0 R0 a1 i1).mono fun e W' ⟨he, bel⟩ => ?_
  subst he
  exact ⟨_, rfl, _, _, _, [], _, [], hW', trodAll_mk1 (shut_bool Try.underlying4 _), (trodAll_cons_mk (Below.trod laidOut (by kernel_rfl) (of_decide_eq_true (by kernel_rfl)) k0 bel lt0) (trodAll_cons_mk (Below.trod laidOut (by kernel_rfl) (of_decide_eq_true (by kernel_rfl)) k1 bel lt1) trodAll_mk0)), rfl, bel.frame _, fun h => by cases h⟩

theorem closed_FnExactRecordGaps : joinedFacts Try.prog 8 Try.f8 Rows.fnExactRecordGapsSpec Rows.fnExactRecordGapsRow = true := by
  unfold joinedFacts
  rw [head_enters, head_final, head_make]
  kernel_rfl
theorem over_FnExactRecordGaps : Rows.fnExactRecordGapsRow.holds Try.pinned (OpenSpec.ofChange Rows.fnExactRecordGapsSpec) :=
  OpenClaim.holds_of_wide 8 Try.f8 rfl rfl rfl rfl rfl rfl rfl ⟨rfl, rfl, rfl, rfl, rfl⟩ rfl rfl rfl rfl rfl (by kernel_rfl) Try.func8 closed_FnExactRecordGaps
    (of_decide_eq_true (by kernel_rfl)) (by unfold Func.isWrapper; first | (rw [if_pos (by decide +kernel)]; kernel_rfl) | (rw [if_neg (by decide +kernel)]; exact ⟨rfl, rfl⟩))
    (fun os started H enc _ => lifted_FnExactRecordGaps os started H enc)

theorem fnExactRecordGaps_holds : Rows.FnExactRecordGapsSaid := over_FnExactRecordGaps

end Go.Proofs.Ytoapidcbmlnjcaa
