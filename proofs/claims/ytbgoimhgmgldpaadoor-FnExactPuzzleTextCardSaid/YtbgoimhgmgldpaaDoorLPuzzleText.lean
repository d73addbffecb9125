/- For every value of type Puzzle, PuzzleText answers as the reference says (a text and true, or none and false). The lists of the row are tied to the program's text by the given tie. -/
import Derived.Test.YtbgoimhgmgldpaaDoorRW
import Derived.Test.YtbgoimhgmgldpaaDoorTie
import Derived.Test.YtbgoimhgmgldpaaDoorCards
import Derived.LaidLaws
import Derived.LaidHandle
import Derived.SevenTiedAt
import Derived.Stop.Joined
import Derived.JoinedOf
namespace Go.Proofs.YtbgoimhgmgldpaaDoor
open Go.ChangeShapes Go.WideShapes Go.ChangeAt Go.RowKit Go.Deep
set_option maxRecDepth 100000
set_option linter.unusedVariables false
set_option linter.unusedSimpArgs false

/-- The value of a word of a table. -/
def wordV : DataW Unit → Value
  | .lit (.int k n) => .int k n
  | _ => .bool false
/-- The cells of a table of words. -/
def tableV : DataW Unit → Array Value
  | .agg l => (l.map wordV).toArray
  | _ => #[]
def putCells (cs : Array Value) : Obj → Obj
  | .cells _ t frozen => .cells cs t frozen
  | o => o
/-- The world of the witness: the settled one, the listed tables laid. -/
noncomputable def laidWorld (os : Os) : World :=
  { World.holding Tryd.prog os ⟨#[], #[], []⟩ with heap := (((World.holding Tryd.prog os ⟨#[], #[], []⟩).heap.modify 4 (putCells (tableV Rows.laid_math_bits_deBruijn32tab))).modify 5 (putCells (tableV Rows.laid_math_bits_deBruijn64tab))).modify 3 (putCells (tableV Rows.laid_internal_strconv_uint64pow10)) }

set_option maxRecDepth 100000 in
set_option maxHeartbeats 2000000 in
theorem walk_FnExactPuzzleText (w : World) (s0 : ByteArray) (n0 : Int) (z0 : s0.size ≤ maxLen) :
    Calls Tryd.prog 3 #[.agg #[.string s0, .int .i64 n0]] w fun e w' => e = .returned (.bool true) ∧ Below w.heap.size w w' := by
  have b0 : Below w.heap.size w (w.alloc (.cells #[.string s0, .int .i64 n0] 23)) := (Below.refl _ _).alloc (Nat.le_refl _) _
  have P0 := BoxP.new w (.string s0) (.int .i64 n0) 23
  have c0P0 := P0.1
  have c1P0 := P0.2.1
  by_cases hs : s0.size ≤ 1048576
  rotate_left
  · go_enter Tryd.func3, Tryd.ntmps3
    go_wp2_with fail
    refine (szPuzzle_no _ _ _ z0 hs).mono ?_
    rintro e w1 ⟨rfl, b1⟩
    have P0_1 := P0.below b1
    have c0P0_1 := P0_1.1
    have c1P0_1 := P0_1.2.1
    clear P0
    clear c0P0 c1P0
    have bb1 := b0.trans (b1.mono b0.size)
    go_wp2
    go_ret
    exact ⟨rfl, bb1⟩
  have hsi : (s0.size : Int) ≤ 1000000000 := by omega
  have hsn : ¬ (1048576 - (s0.size : Int) < 0) := by omega
  have Hs := Lib.hid (fun W => spec_PuzzleText_c W s0 n0 hsi)
  have Hi := Lib.hid (fun W => impl_PuzzleText_c W s0 n0 hsi)
  go_enter Tryd.func3, Tryd.ntmps3
  go_wp2_with fail
  refine (szPuzzle_yes _ _ _ hs).mono ?_
  rintro e w1 ⟨rfl, b1⟩
  have P0_1 := P0.below b1
  have c0P0_1 := P0_1.1
  have c1P0_1 := P0_1.2.1
  clear P0
  clear c0P0 c1P0
  have bb1 := b0.trans (b1.mono b0.size)
  go_wp2_with fail
  refine (toPuzzle_c _ _ _).mono ?_
  rintro e w2 ⟨rfl, b2⟩
  have P0_2 := P0_1.below b2
  have c0P0_2 := P0_2.1
  have c1P0_2 := P0_2.2.1
  clear P0_1
  clear c0P0_1 c1P0_1
  have bb2 := bb1.trans (b2.mono bb1.size)
  go_wp2_with fail
  refine (Hs.out _).mono ?_
  rintro e w3 ⟨rfl, b3⟩
  have P0_3 := P0_2.below b3
  have c0P0_3 := P0_3.1
  have c1P0_3 := P0_3.2.1
  clear P0_2
  clear c0P0_2 c1P0_2
  have bb3 := bb2.trans (b3.mono bb2.size)
  go_wp2_with fail
  refine (toPuzzle_c _ _ _).mono ?_
  rintro e w4 ⟨rfl, b4⟩
  have P0_4 := P0_3.below b4
  have c0P0_4 := P0_4.1
  have c1P0_4 := P0_4.2.1
  clear P0_3
  clear c0P0_3 c1P0_3
  have bb4 := bb3.trans (b4.mono bb3.size)
  go_wp2_with fail
  refine (Hi.out _).mono ?_
  rintro e w5 ⟨rfl, b5⟩
  have P0_5 := P0_4.below b5
  have c0P0_5 := P0_5.1
  have c1P0_5 := P0_5.2.1
  clear P0_4
  clear c0P0_4 c1P0_4
  have bb5 := bb4.trans (b5.mono bb4.size)
  go_wp2
  go_ret
  exact ⟨rfl, bb5⟩

theorem laidWorld_met_FnExactPuzzleText (os : Os) (args : Array Value) : laidMetH Tryd.prog Rows.fnExactPuzzleTextRow.laid ((laidWorld os).forCall (fun _ _ => 0) ⟨#[], args, []⟩).memory :=
  laidMetH_of_parts (laidMet_of_run' 8 (by kernel_rfl) (by kernel_rfl)) (by kernel_rfl)
set_option maxRecDepth 100000 in
theorem lifted_FnExactPuzzleText (os : Os) (started : os.Started) (H : Type) (enc : TypeId × Value → H) :
    ReturnsInHanded {} Tryd.checked os 3 .any (fun w args => (Rows.fnExactPuzzleTextSpec.pre enc Tryd.prog Tryd.f3 Rows.fnExactPuzzleTextRow.domain false w args ∧ laidMetH Tryd.prog Rows.fnExactPuzzleTextRow.laid w) ∧ sizedMet enc Tryd.prog Tryd.f3 (OpenSpec.ofChange Rows.fnExactPuzzleTextSpec) false w args) (Rows.fnExactPuzzleTextSpec.post enc Tryd.prog Tryd.f3 false true false false) := by
  refine returnsInHanded_of_change_and (C := Tryd.checked) (X := fun w _ => laidMetH Tryd.prog Rows.fnExactPuzzleTextRow.laid w) (fun _ _ _ hh h => h.of_heap hh) own started (by kernel_rfl) Tryd.func3
    (ChangeSpec.witness_at (enc := enc) (C := Tryd.checked) (os := os) (X := fun w _ => laidMetH Tryd.prog Rows.fnExactPuzzleTextRow.laid w) false (laidWorld os) #[.agg #[.string ⟨#[]⟩, .int .i64 0]] 8 rfl (by kernel_rfl) (by kernel_rfl) (by kernel_rfl) (by kernel_rfl) (by kernel_rfl) (laidWorld_met_FnExactPuzzleText os _)) ?_
  intro W base args ds gs before hval0 hW hcnd _ hL _
  have hval : ∀ (j : Nat) t v, Tryd.f3.params[j]? = some t → args[j]? = some v → Value.okWide Tryd.prog W .any base t v := hval0
  have hW' := hW
  obtain ⟨p, q, hA0, hV, rfl, hfz, hnd⟩ := hW
  have hA : DataW.TrodAll enc Tryd.prog W 0 (fun _ => true) true Tryd.f3.params.toList args.toList ds p := hA0
  rw [Tryd.params3] at hA hval
  obtain ⟨v0, vs0, d0, ds0, p0, q0, hargs, rfl, rfl, h0, r0⟩ := trodAll_cons hA
  obtain ⟨rfl, rfl, rfl⟩ := trodAll_nil r0
  obtain rfl : args = #[v0] := by cases args; simp_all
  obtain ⟨rfl, rfl⟩ := trodVars_none hV
  have k0 := h0
  have lt0 : ∀ x ∈ p0, x.block < W.heap.size := by obtain ⟨m, hm⟩ := k0; exact DataW.trod_lt m _ _ _ hm
  obtain ⟨s0, n0, rfl, z0⟩ := open_puzzle (hval 0 23 v0 rfl rfl) h0
  clear hA0 hval0
  refine (walk_FnExactPuzzleText W s0 n0 z0).mono fun e W' ⟨he, bel⟩ => ?_
  subst he
  exact ⟨_, rfl, _, _, _, [], _, [], hW', trodAll_mk1 (shut_bool Tryd.underlying4 _), (trodAll_cons_mk (Below.trod laidOut (by kernel_rfl) (of_decide_eq_true (by kernel_rfl)) k0 bel lt0) trodAll_mk0), rfl, bel.frame _, fun h => by cases h⟩

theorem closed_FnExactPuzzleText : joinedFacts Tryd.prog 3 Tryd.f3 Rows.fnExactPuzzleTextSpec Rows.fnExactPuzzleTextRow = true := by
  unfold joinedFacts
  rw [head_enters, head_final, head_make]
  kernel_rfl
theorem over_FnExactPuzzleText : Rows.fnExactPuzzleTextRow.holds Tryd.pinned (OpenSpec.ofChange Rows.fnExactPuzzleTextSpec) :=
  OpenClaim.holds_of_wide 3 Tryd.f3 rfl rfl rfl rfl rfl rfl rfl ⟨rfl, rfl, rfl, rfl, rfl⟩ rfl rfl rfl rfl rfl (by kernel_rfl) Tryd.func3 closed_FnExactPuzzleText
    (of_decide_eq_true (by kernel_rfl)) (by unfold Func.isWrapper; first | (rw [if_pos (by decide +kernel)]; kernel_rfl) | (rw [if_neg (by decide +kernel)]; exact ⟨rfl, rfl⟩))
    (fun os started H enc _ => lifted_FnExactPuzzleText os started H enc)

theorem fnExactPuzzleText_holds : Rows.FnExactPuzzleTextCardSaid :=
  Claim7.holds_tied_plain_at .later [] Rows.fnExactPuzzleTextCard.laidKinds true Rows.fnExactPuzzleTextCard.stood.harness true over_FnExactPuzzleText (fun _ h => by cases h) (by kernel_rfl) (fun _ h => by cases h) fnExactPuzzleText_row_tie rfl ⟨rfl, rfl⟩ (by kernel_rfl) rfl
    (fun f fn hf hfn => by
      obtain rfl : f = 3 := Option.some.inj ((show Tryd.prog.funcNamed "loop.example/g01235/laws.FnExactPuzzleText" = some 3 by kernel_rfl).symm.trans hf) |>.symm
      obtain rfl : fn = Tryd.f3 := (Option.some.inj (Tryd.func3.symm.trans hfn)).symm
      exact ⟨by kernel_rfl, fun j t ht => by
        rw [Tryd.params3] at ht
        have ht2 : t ∈ [23] := by have := Array.mem_of_getElem? ht; simpa using this
        have hall : [23].all (fun t => !Tryd.prog.wantsStandIn t) = true := by kernel_rfl
        have h3 : Tryd.prog.wantsStandIn t = false := by simpa using List.all_eq_true.1 hall t ht2
        exact h3⟩)
    (by kernel_rfl)

end Go.Proofs.YtbgoimhgmgldpaaDoor
