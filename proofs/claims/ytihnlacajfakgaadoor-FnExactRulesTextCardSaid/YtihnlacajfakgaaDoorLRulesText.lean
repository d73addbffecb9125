/- For every list of rules, whatever its numbers, RulesText answers as the reference says (a text and true, or none and false), and its argument reads as before. The lists of the row are tied to the program's text by the given tie. -/
import Derived.Test.YtihnlacajfakgaaDoorD3
import Derived.Test.YtihnlacajfakgaaDoorTie
import Derived.Test.YtihnlacajfakgaaDoorCards
import Derived.LaidLaws
import Derived.LaidHandle
import Derived.SevenTiedAt
import Derived.Stop.Joined
import Derived.JoinedOf
namespace Go.Proofs.YtihnlacajfakgaaDoor
open Go.ChangeShapes Go.WideShapes Go.ChangeAt Go.RowKit Go.Deep
set_option maxRecDepth 100000
set_option linter.unusedVariables false
set_option linter.unusedSimpArgs false

/-- The value of a word of a table. -/
def wordV : DataW Unit → Value
  | .lit (.int k n) => .int k n
  | _ => .bool false
/-- The cells of a table of words. -/
def tableV : DataW Unit → Array Value
  | .agg l => (l.map wordV).toArray
  | _ => #[]
def putCells (cs : Array Value) : Obj → Obj
  | .cells _ t frozen => .cells cs t frozen
  | o => o
/-- The world of the witness: the settled one, the listed tables laid. -/
noncomputable def laidWorld (os : Os) : World :=
  { World.holding Tryd.prog os ⟨#[], #[], []⟩ with heap := (((World.holding Tryd.prog os ⟨#[], #[], []⟩).heap.modify 6 (putCells (tableV Rows.laid_math_bits_deBruijn32tab))).modify 7 (putCells (tableV Rows.laid_math_bits_deBruijn64tab))).modify 0 (putCells (tableV Rows.laid_internal_strconv_uint64pow10)) }

set_option maxRecDepth 100000 in
set_option maxHeartbeats 1000000 in
theorem walk_FnExactRulesText (w : World) (A0 : Option Addr) (n0 c0 : Nat) (rs0 : List (Int × Int)) (l0 : n0 = rs0.length) (m0 : n0 ≤ 9223372036854775807) (R0 : Rl w A0 rs0) :
    Calls Tryd.prog 3 #[.slice A0 n0 c0] w fun e w' => e = .returned (.bool true) ∧ Below w.heap.size w w' := by
  have L0 := Lib.hid l0
  clear l0
  by_cases hn : n0 ≤ 1048576
  · go_enter Tryd.func3, Tryd.ntmps3
    go_wp2_with fail
    refine (szR_yes _ _ _ _ hn).mono ?_
    rintro e w1 ⟨rfl, rfl⟩
    go_wp2_with fail
    refine (toRuleS_c A0 c0 n0 rs0 _ R0 L0.out hn).mono ?_
    rintro e w2 ⟨rfl, o1, b2⟩
    have R0_2 := R0.below b2
    have X1 := Rl_of_own o1 L0.out
    go_wp2_with fail
    refine (spec_RulesText_c _ _ _ _ rs0 X1 L0.out hn).mono ?_
    rintro e w3 ⟨rfl, b3⟩
    have R0_3 := R0_2.below b3
    have X1_3 := X1.below b3
    have bb3 := b2.trans (b3.mono b2.size)
    go_wp2_with fail
    refine (toRuleS_c A0 c0 n0 rs0 _ R0_3 L0.out hn).mono ?_
    rintro e w4 ⟨rfl, o2, b4⟩
    have R0_4 := R0_3.below b4
    have X1_4 := X1_3.below b4
    have bb4 := bb3.trans (b4.mono bb3.size)
    have X2 := Rl_of_own o2 L0.out
    go_wp2_with fail
    refine (impl_RulesText_c _ _ _ _ rs0 X2 L0.out hn).mono ?_
    rintro e w5 ⟨rfl, b5⟩
    have R0_5 := R0_4.below b5
    have X1_5 := X1_4.below b5
    have X2_5 := X2.below b5
    have bb5 := bb4.trans (b5.mono bb4.size)
    go_wp2_with fail
    refine (toRuleS_c A0 c0 n0 rs0 _ R0_5 L0.out hn).mono ?_
    rintro e w6 ⟨rfl, o3, b6⟩
    have R0_6 := R0_5.below b6
    have X1_6 := X1_5.below b6
    have X2_6 := X2_5.below b6
    have bb6 := bb5.trans (b6.mono bb5.size)
    have X3 := Rl_of_own o3 L0.out
    go_wp2_with fail
    refine (eqRuleS_yes _ _ _ _ _ _ rs0 _ X2_6 X3 L0.out L0.out hn hn).mono ?_
    rintro e w7 ⟨rfl, b7⟩
    have R0_7 := R0_6.below b7
    have X1_7 := X1_6.below b7
    have X2_7 := X2_6.below b7
    have X3_7 := X3.below b7
    have bb7 := bb6.trans (b7.mono bb6.size)
    go_wp2
    go_ret
    exact ⟨rfl, bb7⟩
  · go_enter Tryd.func3, Tryd.ntmps3
    go_wp2_with fail
    refine (szR_no _ _ _ _ m0 hn).mono ?_
    rintro e w1 ⟨rfl, rfl⟩
    go_wp2
    go_ret
    exact ⟨rfl, Below.refl _ _⟩

theorem laidWorld_met_FnExactRulesText (os : Os) (args : Array Value) : laidMetH Tryd.prog Rows.fnExactRulesTextRow.laid ((laidWorld os).forCall (fun _ _ => 0) ⟨#[], args, []⟩).memory :=
  laidMetH_of_parts (laidMet_of_run' 8 (by kernel_rfl) (by kernel_rfl)) (by kernel_rfl)
set_option maxRecDepth 100000 in
theorem lifted_FnExactRulesText (os : Os) (started : os.Started) (H : Type) (enc : TypeId × Value → H) :
    ReturnsInHanded {} Tryd.checked os 3 .any (fun w args => (Rows.fnExactRulesTextSpec.pre enc Tryd.prog Tryd.f3 Rows.fnExactRulesTextRow.domain false w args ∧ laidMetH Tryd.prog Rows.fnExactRulesTextRow.laid w) ∧ sizedMet enc Tryd.prog Tryd.f3 (OpenSpec.ofChange Rows.fnExactRulesTextSpec) false w args) (Rows.fnExactRulesTextSpec.post enc Tryd.prog Tryd.f3 false true false false) := by
  refine returnsInHanded_of_change_and (C := Tryd.checked) (X := fun w _ => laidMetH Tryd.prog Rows.fnExactRulesTextRow.laid w) (fun _ _ _ hh h => h.of_heap hh) own started (by kernel_rfl) Tryd.func3
    (ChangeSpec.witness_at (enc := enc) (C := Tryd.checked) (os := os) (X := fun w _ => laidMetH Tryd.prog Rows.fnExactRulesTextRow.laid w) false (laidWorld os) #[.slice none 0 0] 8 rfl (by kernel_rfl) (by kernel_rfl) (by kernel_rfl) (by kernel_rfl) (by kernel_rfl) (laidWorld_met_FnExactRulesText os _)) ?_
  intro W base args ds gs before hval0 hW hcnd _ hL _
  have hval : ∀ (j : Nat) t v, Tryd.f3.params[j]? = some t → args[j]? = some v → Value.okWide Tryd.prog W .any base t v := hval0
  have hW' := hW
  obtain ⟨p, q, hA0, hV, rfl, hfz, hnd⟩ := hW
  have hA : DataW.TrodAll enc Tryd.prog W 0 (fun _ => true) true Tryd.f3.params.toList args.toList ds p := hA0
  rw [Tryd.params3] at hA hval
  obtain ⟨v0, vs0, d0, ds0, p0, q0, hargs, rfl, rfl, h0, r0⟩ := trodAll_cons hA
  obtain ⟨rfl, rfl, rfl⟩ := trodAll_nil r0
  obtain rfl : args = #[v0] := by cases args; simp_all
  obtain ⟨rfl, rfl⟩ := trodVars_none hV
  have k0 := h0
  have lt0 : ∀ x ∈ p0, x.block < W.heap.size := by obtain ⟨m, hm⟩ := k0; exact DataW.trod_lt m _ _ _ hm
  obtain ⟨A0, n0, c0, rs0, rfl, l0, m0, R0⟩ := open_rules (hval 0 22 v0 rfl rfl) h0
  clear hA0 hval0
  refine (walk_FnExactRulesText W A0 n0 c0 rs0 l0 m0 R0).mono fun e W' ⟨he, bel⟩ => ?_
  subst he
  exact ⟨_, rfl, _, _, _, [], _, [], hW', trodAll_mk1 (shut_bool Tryd.underlying4 _), (trodAll_cons_mk (Below.trod laidOut (by kernel_rfl) (of_decide_eq_true (by kernel_rfl)) k0 bel lt0) trodAll_mk0), rfl, bel.frame _, fun h => by cases h⟩

theorem closed_FnExactRulesText : joinedFacts Tryd.prog 3 Tryd.f3 Rows.fnExactRulesTextSpec Rows.fnExactRulesTextRow = true := by
  unfold joinedFacts
  rw [head_enters, head_final, head_make]
  kernel_rfl
theorem over_FnExactRulesText : Rows.fnExactRulesTextRow.holds Tryd.pinned (OpenSpec.ofChange Rows.fnExactRulesTextSpec) :=
  OpenClaim.holds_of_wide 3 Tryd.f3 rfl rfl rfl rfl rfl rfl rfl ⟨rfl, rfl, rfl, rfl, rfl⟩ rfl rfl rfl rfl rfl (by kernel_rfl) Tryd.func3 closed_FnExactRulesText
    (of_decide_eq_true (by kernel_rfl)) (by unfold Func.isWrapper; first | (rw [if_pos (by decide +kernel)]; kernel_rfl) | (rw [if_neg (by decide +kernel)]; exact ⟨rfl, rfl⟩))
    (fun os started H enc _ => lifted_FnExactRulesText os started H enc)

theorem fnExactRulesText_holds : Rows.FnExactRulesTextCardSaid :=
  Claim7.holds_tied_plain_at .later [] Rows.fnExactRulesTextCard.laidKinds true Rows.fnExactRulesTextCard.stood.harness true over_FnExactRulesText (fun _ h => by cases h) (by kernel_rfl) (fun _ h => by cases h) fnExactRulesText_row_tie rfl ⟨rfl, rfl⟩ (by kernel_rfl) rfl
    (fun f fn hf hfn => by
      obtain rfl : f = 3 := Option.some.inj ((show Tryd.prog.funcNamed "loop.example/g01235/laws.FnExactRulesText" = some 3 by kernel_rfl).symm.trans hf) |>.symm
      obtain rfl : fn = Tryd.f3 := (Option.some.inj (Tryd.func3.symm.trans hfn)).symm
      exact ⟨by kernel_rfl, fun j t ht => by
        rw [Tryd.params3] at ht
        have ht2 : t ∈ [22] := by have := Array.mem_of_getElem? ht; simpa using this
        have hall : [22].all (fun t => !Tryd.prog.wantsStandIn t) = true := by kernel_rfl
        have h3 : Tryd.prog.wantsStandIn t = false := by simpa using List.all_eq_true.1 hall t ht2
        exact h3⟩)
    (by kernel_rfl)

end Go.Proofs.YtihnlacajfakgaaDoor
