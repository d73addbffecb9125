/- spec.FirstDesk and impl.FirstDesk answer alike, and the answer owns its memory: laws.FnExactFirstDesk returns true. Conditions: none. -/
import Derived.Test.YtaapfapejekkfaaRZ
namespace Go.Proofs.Ytaapfapejekkfaa
open Go.ChangeShapes Go.WideShapes Go.ChangeAt Go.RowKit Go.Deep
set_option maxRecDepth 100000
set_option linter.unusedVariables false
set_option linter.unusedSimpArgs false

set_option maxHeartbeats 2000000 in
theorem walk_FnExactFirstDesk (w : World) :
    Calls Try.prog 3 #[] w fun e w' => e = .returned (.bool true) ∧ Below w.heap.size w w' := by
  have hl2 : dkR.length = 2 := rfl
  have Hl2 := Lib.hid hl2
  clear hl2
  go_enter Try.func3, Try.ntmps3
  go_wp2_with fail
  refine (spec_FirstDesk_c _).mono ?_
  rintro e w1 ⟨⟨A1, c1, rfl, o1⟩, b1⟩
  have bV1 : Below w1.heap.size w1 (w1.alloc (.cells #[.slice A1 2 c1, .int .i64 30] 24)) := (Below.refl _ _).alloc (Nat.le_refl _) _
  have I1 := (Rl_of_own o1 Hl2.out.symm).below bV1
  have IW := Lib.hid I1
  have P1 := BoxD.new w1 (.slice A1 2 c1) (.int .i64 30) 24
  have B1 := b1.trans (bV1.mono b1.size)
  clear o1 b1 bV1
  go_wp2_with fail
  refine (impl_FirstDesk_c _).mono ?_
  rintro e w2 ⟨⟨A2, c2, rfl, o2⟩, b2⟩
  have bV2 : Below w2.heap.size w2 (w2.alloc (.cells #[.slice A2 2 c2, .int .i64 30] 24)) := (Below.refl _ _).alloc (Nat.le_refl _) _
  have I1 := (I1.below b2).below bV2
  have P1 := (P1.below b2).below bV2
  have P2 := BoxD.new w2 (.slice A2 2 c2) (.int .i64 30) 24
  have o2l := fun q hq => World.ownsRow.lt o2 q hq
  have o2 : OwnR (w2.alloc (.cells #[.slice A2 2 c2, .int .i64 30] 24)) (w1.alloc (.cells #[.slice A1 2 c1, .int .i64 30] 24)).heap.size (.slice A2 2 c2) dkR := World.ownsRow.alloc o2 _
  have B2 := (B1.trans (b2.mono B1.size)).trans (bV2.mono (B1.trans (b2.mono B1.size)).size)
  have hs12 : (w1.alloc (.cells #[.slice A1 2 c1, .int .i64 30] 24)).heap.size ≤ w2.heap.size := b2.size
  have hs01 := B1.size
  have bW2 := b2.trans (bV2.mono hs12)
  clear b2 bV2 B1
  have c10 := P1.1
  have c11 := P1.2.1
  have c20 := P2.1
  have c21 := P2.2.1
  go_wp2_with fail
  refine (eqDesk_yes A2 A1 2 c2 c1 dkR 30 _ (Rl_of_own o2 Hl2.out.symm) I1 Hl2.out.symm (by omega)).mono ?_
  rintro e w3 ⟨rfl, b3⟩
  have o3 := own_below o2 b3
  have bW3 := bW2.trans (b3.mono bW2.size)
  clear bW2
  have I3 := I1.below b3
  have P13 := P1.below b3
  have P23 := P2.below b3
  have B3 := B2.trans (b3.mono B2.size)
  clear o2 I1 P1 P2 B2 b3 c10 c11 c20 c21
  have c10 := P13.1
  have c11 := P13.2.1
  have c20 := P23.1
  have c21 := P23.2.1
  go_wp2_with fail
  refine (markDesk_c A2 _ 2 c2 _ 30 _ o3 (by omega)).mono ?_
  rintro e w4 ⟨rfl, m4, g4⟩
  have b4 : Below (w1.alloc (.cells #[.slice A1 2 c1, .int .i64 30] 24)).heap.size w3 w4 := below_of_grown g4 (Nat.le_trans hs12 (Nat.le_of_lt P23.2.2)) (fun q hq => (o2l q hq).1)
  have c10 : w4.cell? ⟨w1.heap.size, 0, none⟩ = some (.slice A1 2 c1) := (b4.cell (p := ⟨w1.heap.size, 0, none⟩) (by simp)).trans P13.1
  have c11 : w4.cell? ⟨w1.heap.size, 1, none⟩ = some (.int .i64 30) := (b4.cell (p := ⟨w1.heap.size, 1, none⟩) (by simp)).trans P13.2.1
  have c20 : w4.cell? ⟨w2.heap.size, 0, none⟩ = some (.slice A2 2 c2) := grown_cell g4 P23.1 (fun q hq => (o2l q hq).2)
  have c21 : w4.cell? ⟨w2.heap.size, 1, none⟩ = some (.int .i64 30) := grown_cell g4 P23.2.1 (fun q hq => (o2l q hq).2)
  have P14 : BoxD w4 w1.heap.size (.slice A1 2 c1) (.int .i64 30) := ⟨c10, c11, Nat.lt_of_lt_of_le P13.2.2 g4.size⟩
  have P24 : BoxD w4 w2.heap.size (.slice A2 2 c2) (.int .i64 30) := ⟨c20, c21, Nat.lt_of_lt_of_le P23.2.2 g4.size⟩
  have I4 := IW.out.below (bW3.trans b4)
  have B4 := B3.trans (b4.mono hs01)
  clear o3 I3 P13 P23 B3 b4 g4 c10 c11 c20 c21 bW3 IW
  have c10 := P14.1
  have c11 := P14.2.1
  have c20 := P24.1
  have c21 := P24.2.1
  go_wp2_with fail
  refine (heldDesk_c A2 _ 2 c2 30 _ m4 (by omega)).mono ?_
  rintro e w5 ⟨rfl, b5⟩
  have m5 := m4.below b5
  have I5 := I4.below b5
  have P15 := P14.below b5
  have P25 := P24.below b5
  have B5 := B4.trans (b5.mono B4.size)
  clear m4 I4 P14 P24 B4 b5 c10 c11 c20 c21
  have c10 := P15.1
  have c11 := P15.2.1
  have c20 := P25.1
  have c21 := P25.2.1
  go_wp2_with fail
  refine (impl_FirstDesk_c _).mono ?_
  rintro e w6 ⟨⟨A6, c6, rfl, o6⟩, b6⟩
  have bV6 : Below w6.heap.size w6 (w6.alloc (.cells #[.slice A6 2 c6, .int .i64 30] 24)) := (Below.refl _ _).alloc (Nat.le_refl _) _
  have m6 := (m5.below b6).below bV6
  have I6 := (I5.below b6).below bV6
  have J6 := (Rl_of_own o6 Hl2.out.symm).below bV6
  have P16 := (P15.below b6).below bV6
  have P26 := (P25.below b6).below bV6
  have P56 := BoxD.new w6 (.slice A6 2 c6) (.int .i64 30) 24
  have B6 := (B5.trans (b6.mono B5.size)).trans (bV6.mono (B5.trans (b6.mono B5.size)).size)
  clear m5 I5 P15 P25 B5 b6 bV6 o6 c10 c11 c20 c21
  have c10 := P16.1
  have c11 := P16.2.1
  have c20 := P26.1
  have c21 := P26.2.1
  have c50 := P56.1
  have c51 := P56.2.1
  go_wp2_with fail
  refine (eqDesk_yes A6 A1 2 c6 c1 dkR 30 _ J6 I6 Hl2.out.symm (by omega)).mono ?_
  rintro e w7 ⟨rfl, b7⟩
  have m7 := m6.below b7
  have P27 := P26.below b7
  have B7 := B6.trans (b7.mono B6.size)
  clear m6 I6 J6 P16 P26 P56 B6 b7 c10 c11 c20 c21 c50 c51
  have c20 := P27.1
  have c21 := P27.2.1
  go_wp2_with fail
  refine (heldDesk_c A2 _ 2 c2 30 _ m7 (by omega)).mono ?_
  rintro e w8 ⟨rfl, b8⟩
  have B8 := B7.trans (b8.mono B7.size)
  go_wp2
  go_ret
  exact ⟨rfl, B8⟩

set_option maxRecDepth 100000 in
theorem lifted_FnExactFirstDesk (os : Os) (started : os.Started) (H : Type) (enc : TypeId × Value → H) :
    ReturnsInHanded {} Try.checked os 3 .any (Rows.fnExactFirstDeskSpec.pre6 enc Try.prog Try.f3 Rows.fnExactFirstDeskRow.domain false) (Rows.fnExactFirstDeskSpec.post enc Try.prog Try.f3 false true false false) := by
  refine returnsInHanded_of_change (C := Try.checked) own started (by kernel_rfl) Try.func3
    (ChangeSpec.witness6 (enc := enc) (C := Try.checked) false ⟨#[], #[], []⟩ 8 (by kernel_rfl) (by kernel_rfl) (by kernel_rfl) (by kernel_rfl)) ?_
  intro W base args ds gs before hval0 hW hcnd _
  have hval : ∀ (j : Nat) t v, Try.f3.params[j]? = some t → args[j]? = some v → Value.okWide Try.prog W .any base t v := hval0
  have hW' := hW
  obtain ⟨p, q, hA0, hV, rfl, hfz, hnd⟩ := hW
  have hA : DataW.TrodAll enc Try.prog W 0 (fun _ => true) true Try.f3.params.toList args.toList ds p := hA0
  rw [Try.params3] at hA hval
  obtain ⟨hargs, rfl, rfl⟩ := trodAll_nil hA
  obtain rfl : args = #[] := by cases args; simp_all
  obtain ⟨rfl, rfl⟩ := trodVars_none hV
  clear hA0 hval0
  refine (walk_FnExactFirstDesk W ).mono fun e W' ⟨he, bel⟩ => ?_
  subst he
  exact ⟨_, rfl, _, _, _, [], _, [], hW', trodAll_mk1 (shut_bool Try.underlying4 _), trodAll_mk0, rfl, bel.frame _, fun h => by cases h⟩

theorem closed_FnExactFirstDesk : joinedFacts Try.prog 3 Try.f3 Rows.fnExactFirstDeskSpec Rows.fnExactFirstDeskRow = true := by
  unfold joinedFacts
  rw [head_enters, head_final, head_make]
  kernel_rfl
theorem over_FnExactFirstDesk : Rows.fnExactFirstDeskRow.holds Try.pinned (OpenSpec.ofChange Rows.fnExactFirstDeskSpec) :=
  OpenClaim.holds_of_wide 3 Try.f3 rfl rfl rfl rfl rfl rfl rfl ⟨rfl, rfl, rfl, rfl, rfl⟩ rfl rfl rfl rfl rfl (by kernel_rfl) Try.func3 closed_FnExactFirstDesk
    (of_decide_eq_true (by kernel_rfl)) (by unfold Func.isWrapper; first | (rw [if_pos (by decide +kernel)]; kernel_rfl) | (rw [if_neg (by decide +kernel)]; exact ⟨rfl, rfl⟩))
    (fun os started H enc _ => lifted_FnExactFirstDesk os started H enc)

theorem fnExactFirstDesk_holds : Rows.FnExactFirstDeskSaid := over_FnExactFirstDesk

end Go.Proofs.Ytaapfapejekkfaa
