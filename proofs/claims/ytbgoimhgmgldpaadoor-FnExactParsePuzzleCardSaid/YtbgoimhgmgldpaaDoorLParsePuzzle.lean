/- For every text, ParsePuzzle answers as the reference says: the puzzle with that text and true, or none and false. The lists of the row are tied to the program's text by the given tie. -/
import Derived.Test.YtbgoimhgmgldpaaDoorRX
import Derived.Test.YtbgoimhgmgldpaaDoorTie
import Derived.Test.YtbgoimhgmgldpaaDoorCards
import Derived.LaidLaws
import Derived.LaidHandle
import Derived.SevenTiedAt
import Derived.Stop.Joined
import Derived.JoinedOf
import Derived.ChangeMaps5
import Derived.MakeChecks
import Derived.Stop.LaidErr
namespace Go.Proofs.YtbgoimhgmgldpaaDoor
open Go.ChangeShapes Go.WideShapes Go.ChangeAt Go.RowKit Go.Deep
set_option maxRecDepth 100000
set_option linter.unusedVariables false
set_option linter.unusedSimpArgs false

theorem starE : "*" ++ "errors.errorString" = "*errors.errorString" := by decide
theorem rowE (u : TypeId) (h : Tryd.prog.typeName? 3 u = some "*errors.errorString") : u = 82 :=
  typeName_ptr_named (nm := "errors.errorString") (by rw [starE]; kernel_rfl) (by kernel_rfl) (by decide) u (by rw [starE]; exact h)
theorem gSyn : Tryd.prog.globalNamed "strconv.ErrSyntax" = some 1 := by kernel_rfl
theorem gSynT : (Tryd.prog.globals[1]?).map (·.type) = some 42 := by kernel_rfl
theorem gRng : Tryd.prog.globalNamed "strconv.ErrRange" = some 2 := by kernel_rfl
theorem gRngT : (Tryd.prog.globals[2]?).map (·.type) = some 42 := by kernel_rfl
theorem cellsE : Tryd.prog.cellsOf 84 = 1 := by kernel_rfl
theorem cellsS : Tryd.prog.cellsOf 9 = 1 := by kernel_rfl
theorem LW_of {W : World} (hL : laidMetH Tryd.prog Rows.fnExactParsePuzzleRow.laid W) : LW W := by
  rw [_root_.Go.MakeChecks.laidMetH_plain _ _ _ (by kernel_rfl)] at hL
  have hR : laidMet Tryd.prog (("strconv.ErrRange", Rows.laid_strconv_ErrRange) :: ("strconv.ErrSyntax", Rows.laid_strconv_ErrSyntax) :: []) W := hL.tail.tail.tail
  obtain ⟨a0, s0, hv0, -, -, -⟩ := laid_sentinel hR gRng gRngT Tryd.underlying42 rowE Tryd.underlying82 Tryd.underlying84 rfl rfl Tryd.underlying9 cellsE cellsS
  obtain ⟨a1, s1, hv1, -, -, -⟩ := laid_sentinel hR.tail gSyn gSynT Tryd.underlying42 rowE Tryd.underlying82 Tryd.underlying84 rfl rfl Tryd.underlying9 cellsE cellsS
  exact ⟨⟨_, by have h0 := World.var?_cell gSyn hv1 0; simpa using h0, Or.inr ⟨_, _, rfl⟩⟩, ⟨_, by have h0 := World.var?_cell gRng hv0 0; simpa using h0, Or.inr ⟨_, _, rfl⟩⟩⟩
set_option maxRecDepth 100000 in
set_option maxHeartbeats 2000000 in
theorem walk0_FnExactParsePuzzle (w : World) (hLW : LW w) (s0 : ByteArray) (hmx : s0.size ≤ maxLen) :
    Calls Tryd.prog 4 #[.string s0] w fun e w' => e = .returned (.bool true) ∧ Below w.heap.size w w' := by
  by_cases hs : s0.size ≤ 1048576
  rotate_left
  · have hsi : (1048576 : Int) < (s0.size : Int) := by omega
    go_enter Tryd.func4, Tryd.ntmps4
    go_wp2
    go_ret
    exact ⟨rfl, Below.refl _ _⟩
  have hsi : (s0.size : Int) ≤ 1048576 := by omega
  have HLW := Lib.hid hLW
  clear hLW hmx
  have Hs := Lib.hid (fun W => spec_ParsePuzzle_c W s0 (by omega))
  have Hi := Lib.hid (fun W hL => impl_ParsePuzzle_c W hL s0 hs)
  obtain ⟨S1, hS1⟩ : ∃ z, ppS s0 = z := ⟨_, rfl⟩
  rw [hS1] at Hs Hi
  clear hS1
  obtain ⟨S2, hS2⟩ : ∃ z, ppR s0 = z := ⟨_, rfl⟩
  rw [hS2] at Hs Hi
  clear hS2
  obtain ⟨S3, hS3⟩ : ∃ z, ppB s0 = z := ⟨_, rfl⟩
  rw [hS3] at Hs Hi
  clear hS3
  go_enter Tryd.func4, Tryd.ntmps4
  go_wp2_with fail
  refine (Hs.out _).mono ?_
  rintro e w1 ⟨rfl, b1⟩
  have bV1 : Below w1.heap.size w1 (w1.alloc (.cells #[.string S1, .int .i64 S2] 27)) := (Below.refl _ _).alloc (Nat.le_refl _) _
  have Qa := BoxP.new w1 (.string S1) (.int .i64 S2) 27
  have c0Qa := Qa.1
  have c1Qa := Qa.2.1
  have bbV1 := b1.trans (bV1.mono b1.size)
  go_wp2_with fail
  refine (Hi.out _ (HLW.out.below bbV1)).mono ?_
  rintro e w2 ⟨rfl, b2⟩
  have Qa_2 := Qa.below b2
  have c0Qa_2 := Qa_2.1
  have c1Qa_2 := Qa_2.2.1
  clear Qa
  clear c0Qa c1Qa
  have bb2 := bbV1.trans (b2.mono bbV1.size)
  have bV2 : Below w2.heap.size w2 (w2.alloc (.cells #[.string S1, .int .i64 S2] 27)) := (Below.refl _ _).alloc (Nat.le_refl _) _
  have QaV2 := Qa_2.below bV2
  have c0QaV2 := QaV2.1
  have c1QaV2 := QaV2.2.1
  clear Qa_2
  clear c0Qa_2 c1Qa_2
  have Qb := BoxP.new w2 (.string S1) (.int .i64 S2) 27
  have c0Qb := Qb.1
  have c1Qb := Qb.2.1
  have bbV2 := bb2.trans (bV2.mono bb2.size)
  go_wp2_with fail
  refine (eqPuzzle_yes _ _ _).mono ?_
  rintro e w3 ⟨rfl, b3⟩
  have Qa_3 := QaV2.below b3
  have c0Qa_3 := Qa_3.1
  have c1Qa_3 := Qa_3.2.1
  clear QaV2
  clear c0QaV2 c1QaV2
  have Qb_3 := Qb.below b3
  have c0Qb_3 := Qb_3.1
  have c1Qb_3 := Qb_3.2.1
  clear Qb
  clear c0Qb c1Qb
  have bb3 := bbV2.trans (b3.mono bbV2.size)
  go_wp2
  go_ret
  exact ⟨rfl, bb3⟩
theorem walk_FnExactParsePuzzle (w : World) (hL : laidMetH Tryd.prog Rows.fnExactParsePuzzleRow.laid w) (s : ByteArray) (hmx : s.size ≤ maxLen) :
    Calls Tryd.prog 4 #[.string s] w fun e w' => e = .returned (.bool true) ∧ Below w.heap.size w w' := walk0_FnExactParsePuzzle w (LW_of hL) s hmx

/-- The values of a word or of words side by side, in a table. -/
def wordV : DataW Unit → List Value
  | .lit (.int k n) => [.int k n]
  | .agg l => l.map fun | .lit (.int k n) => .int k n | _ => .bool false
  | _ => [.bool false]
/-- The cells of a table. -/
def tableV : DataW Unit → Array Value
  | .agg l => (l.flatMap wordV).toArray
  | _ => #[]
def putCells (cs : Array Value) : Obj → Obj
  | .cells _ t frozen => .cells cs t frozen
  | o => o
abbrev synS : ByteArray := { data := #[105, 110, 118, 97, 108, 105, 100, 32, 115, 121, 110, 116, 97, 120] }
abbrev rngS : ByteArray := { data := #[118, 97, 108, 117, 101, 32, 111, 117, 116, 32, 111, 102, 32, 114, 97, 110, 103, 101] }
/-- How many blocks the settled world has. -/
noncomputable def low : Nat := (World.holding Tryd.prog default ⟨#[], #[], []⟩).heap.size
/-- The world of the witness: the settled one and two errors; the listed variables laid. -/
noncomputable def laidWorld (os : Os) : World :=
  { World.holding Tryd.prog os ⟨#[.cells #[.string synS] 84, .cells #[.string rngS] 84], #[], []⟩ with
    heap := ((((((World.holding Tryd.prog os ⟨#[.cells #[.string synS] 84, .cells #[.string rngS] 84], #[], []⟩).heap.modify 4 (putCells (tableV Rows.laid_math_bits_deBruijn32tab))).modify 5 (putCells (tableV Rows.laid_math_bits_deBruijn64tab))).modify 3 (putCells (tableV Rows.laid_internal_strconv_uint64pow10))).modify 1 (putCells #[.iface 82 (.pointer (some ⟨low, 0, none⟩))])).modify 2 (putCells #[.iface 82 (.pointer (some ⟨low + 1, 0, none⟩))])) }

theorem laidWorld_met_FnExactParsePuzzle (os : Os) (args : Array Value) : laidMetH Tryd.prog Rows.fnExactParsePuzzleRow.laid ((laidWorld os).forCall (fun _ _ => 0) ⟨#[], args, []⟩).memory :=
  laidMetH_of_parts (laidMet_of_run' 8 (by kernel_rfl) (by kernel_rfl)) (by kernel_rfl)
set_option maxRecDepth 100000 in
theorem lifted_FnExactParsePuzzle (os : Os) (started : os.Started) (H : Type) (enc : TypeId × Value → H) :
    ReturnsInHanded {} Tryd.checked os 4 .any (fun w args => (Rows.fnExactParsePuzzleSpec.pre enc Tryd.prog Tryd.f4 Rows.fnExactParsePuzzleRow.domain false w args ∧ laidMetH Tryd.prog Rows.fnExactParsePuzzleRow.laid w) ∧ sizedMet enc Tryd.prog Tryd.f4 (OpenSpec.ofChange Rows.fnExactParsePuzzleSpec) false w args) (Rows.fnExactParsePuzzleSpec.post enc Tryd.prog Tryd.f4 false true false false) := by
  refine returnsInHanded_of_change_and (C := Tryd.checked) (X := fun w _ => laidMetH Tryd.prog Rows.fnExactParsePuzzleRow.laid w) (fun _ _ _ hh h => h.of_heap hh) own started (by kernel_rfl) Tryd.func4
    (ChangeSpec.witness_at (enc := enc) (C := Tryd.checked) (os := os) (X := fun w _ => laidMetH Tryd.prog Rows.fnExactParsePuzzleRow.laid w) false (laidWorld os) #[.string ⟨#[]⟩] 8 rfl (by kernel_rfl) (by kernel_rfl) (by kernel_rfl) (by kernel_rfl) (by kernel_rfl) (laidWorld_met_FnExactParsePuzzle os _)) ?_
  intro W base args ds gs before hval0 hW hcnd _ hL _
  have hval : ∀ (j : Nat) t v, Tryd.f4.params[j]? = some t → args[j]? = some v → Value.okWide Tryd.prog W .any base t v := hval0
  have hW' := hW
  obtain ⟨p, q, hA0, hV, rfl, hfz, hnd⟩ := hW
  have hA : DataW.TrodAll enc Tryd.prog W 0 (fun _ => true) true Tryd.f4.params.toList args.toList ds p := hA0
  rw [Tryd.params4] at hA hval
  obtain ⟨v0, vs0, d0, ds0, p0, q0, hargs, rfl, rfl, h0, r0⟩ := trodAll_cons hA
  obtain ⟨rfl, rfl, rfl⟩ := trodAll_nil r0
  obtain rfl : args = #[v0] := by cases args; simp_all
  obtain ⟨rfl, rfl⟩ := trodVars_none hV
  have k0 := h0
  have lt0 : ∀ x ∈ p0, x.block < W.heap.size := by obtain ⟨m, hm⟩ := k0; exact DataW.trod_lt m _ _ _ hm
  obtain ⟨s0, rfl, _, _, z0⟩ := Go.ChangeMaps.open_string Tryd.underlying9 (hval 0 9 v0 rfl rfl) h0
  clear hA0 hval0
  refine (walk_FnExactParsePuzzle W hL s0 z0).mono fun e W' ⟨he, bel⟩ => ?_
  subst he
  exact ⟨_, rfl, _, _, _, [], _, [], hW', trodAll_mk1 (shut_bool Tryd.underlying4 _), (trodAll_cons_mk (Below.trod laidOut (by kernel_rfl) (of_decide_eq_true (by kernel_rfl)) k0 bel lt0) trodAll_mk0), rfl, bel.frame _, fun h => by cases h⟩

theorem closed_FnExactParsePuzzle : joinedFacts Tryd.prog 4 Tryd.f4 Rows.fnExactParsePuzzleSpec Rows.fnExactParsePuzzleRow = true := by
  unfold joinedFacts
  rw [head_enters, head_final, head_make]
  kernel_rfl
theorem over_FnExactParsePuzzle : Rows.fnExactParsePuzzleRow.holds Tryd.pinned (OpenSpec.ofChange Rows.fnExactParsePuzzleSpec) :=
  OpenClaim.holds_of_wide 4 Tryd.f4 rfl rfl rfl rfl rfl rfl rfl ⟨rfl, rfl, rfl, rfl, rfl⟩ rfl rfl rfl rfl rfl (by kernel_rfl) Tryd.func4 closed_FnExactParsePuzzle
    (of_decide_eq_true (by kernel_rfl)) (by unfold Func.isWrapper; first | (rw [if_pos (by decide +kernel)]; kernel_rfl) | (rw [if_neg (by decide +kernel)]; exact ⟨rfl, rfl⟩))
    (fun os started H enc _ => lifted_FnExactParsePuzzle os started H enc)

theorem fnExactParsePuzzle_holds : Rows.FnExactParsePuzzleCardSaid :=
  Claim7.holds_tied_plain_at .later [] Rows.fnExactParsePuzzleCard.laidKinds true Rows.fnExactParsePuzzleCard.stood.harness true over_FnExactParsePuzzle (fun _ h => by cases h) (by kernel_rfl) (fun _ h => by cases h) fnExactParsePuzzle_row_tie rfl ⟨rfl, rfl⟩ (by kernel_rfl) rfl
    (fun f fn hf hfn => by
      obtain rfl : f = 4 := Option.some.inj ((show Tryd.prog.funcNamed "loop.example/g01235/laws.FnExactParsePuzzle" = some 4 by kernel_rfl).symm.trans hf) |>.symm
      obtain rfl : fn = Tryd.f4 := (Option.some.inj (Tryd.func4.symm.trans hfn)).symm
      exact ⟨by kernel_rfl, fun j t ht => by
        rw [Tryd.params4] at ht
        have ht2 : t ∈ [9] := by have := Array.mem_of_getElem? ht; simpa using this
        have hall : [9].all (fun t => !Tryd.prog.wantsStandIn t) = true := by kernel_rfl
        have h3 : Tryd.prog.wantsStandIn t = false := by simpa using List.all_eq_true.1 hall t ht2
        exact h3⟩)
    (by kernel_rfl)

end Go.Proofs.YtbgoimhgmgldpaaDoor
