/- For every value of type Desk, spec.IsDesk and impl.IsDesk answer alike: laws.FnExactIsDesk returns true. Conditions: none. -/
import Derived.Test.YtaapfapejekkfaaRZ
import Derived.Deep.RegionLaw
namespace Go.Proofs.Ytaapfapejekkfaa
open Go.ChangeShapes Go.WideShapes Go.ChangeAt Go.RowKit Go.Deep
set_option maxRecDepth 100000
set_option linter.unusedVariables false
set_option linter.unusedSimpArgs false

set_option maxHeartbeats 2000000 in
theorem walk_FnExactIsDesk (w : World) (A : Option Addr) (n c : Nat) (rs : List (Int × Int)) (q : Int) (hm : n = rs.length) (m9 : n ≤ 9223372036854775807) (hA : Rl w A rs) :
    Calls Try.prog 4 #[.agg #[.slice A n c, .int .i64 q]] w fun e w' => e = .returned (.bool true) ∧ Below w.heap.size w w' := by
  have Hm := Lib.hid hm
  clear hm
  have B0 : Below w.heap.size w (w.alloc (.cells #[.slice A n c, .int .i64 q] 31)) := (Below.refl _ w).alloc (Nat.le_refl _) _
  have P0 := BoxD.new w (.slice A n c) (.int .i64 q) 31
  have HA : Hid (∀ W, Below w.heap.size w W → Rl W A rs) := fun W hB => hA.below hB
  clear hA
  by_cases hn : n ≤ 1048576
  · have hz : ¬ (1048576 - (n : Int) < 0) := by omega
    go_enter Try.func4, Try.ntmps4
    go_wp2_with fail
    refine (szDesk_yes A n c q _ hn).mono ?_
    rintro e w1 ⟨rfl, b1⟩
    have P1 := P0.below b1
    have c0 := P1.1
    have c1 := P1.2.1
    have B1 := B0.trans (b1.mono B0.size)
    clear b1 P0 B0
    go_wp2_with fail
    refine (toDesk_c A n c rs q _ (HA.out _ B1) Hm.out hn).mono ?_
    rintro e w2 ⟨⟨A2, c2, rfl, o2⟩, b2⟩
    have P2 := P1.below b2
    have I2 := Rl_of_own o2 Hm.out
    have c0 := P2.1
    have c1 := P2.2.1
    have B2 := B1.trans (b2.mono B1.size)
    clear b2 P1 B1 o2
    go_wp2_with fail
    refine (spec_IsDesk_c A2 n c2 rs q _ I2 Hm.out hn).mono ?_
    rintro e w3 ⟨rfl, b3⟩
    have P3 := P2.below b3
    have c0 := P3.1
    have c1 := P3.2.1
    have B3 := B2.trans (b3.mono B2.size)
    clear b3 P2 B2 I2
    go_wp2_with fail
    refine (toDesk_c A n c rs q _ (HA.out _ B3) Hm.out hn).mono ?_
    rintro e w4 ⟨⟨A4, c4, rfl, o4⟩, b4⟩
    have I4 := Rl_of_own o4 Hm.out
    have bV : Below w4.heap.size w4 (w4.alloc (.cells #[.slice A4 n c4, .int .i64 q] 24)) := (Below.refl _ _).alloc (Nat.le_refl _) _
    have I4 := I4.below bV
    have P4 := (P3.below b4).below bV
    have Q4 := BoxD.new w4 (.slice A4 n c4) (.int .i64 q) 24
    have c0 := P4.1
    have c1 := P4.2.1
    have d0 := Q4.1
    have d1 := Q4.2.1
    have B4 := (B3.trans (b4.mono B3.size)).trans (bV.mono (B3.trans (b4.mono B3.size)).size)
    clear b4 P3 B3 o4 bV
    go_wp2_with fail
    refine (impl_IsDesk_c A4 n c4 rs q _ I4 Hm.out hn).mono ?_
    rintro e w5 ⟨rfl, b5⟩
    have P5 := P4.below b5
    have Q5 := Q4.below b5
    have I5 := I4.below b5
    have c0 := P5.1
    have c1 := P5.2.1
    have d0 := Q5.1
    have d1 := Q5.2.1
    have B5 := B4.trans (b5.mono B4.size)
    clear b5 P4 Q4 B4 I4
    obtain ⟨VB, hVB⟩ : ∃ x, dkB rs q = x := ⟨_, rfl⟩
    rw [hVB]
    clear hVB
    have T := Lib.hid (fun W hW => toDesk_c A n c rs q W (HA.out W hW) Hm.out hn)
    have Q5d := Q5.below (Below.refl _ _).drew
    have I5d := I5.below (Below.refl _ _).drew
    have B5d := B5.drew
    have c0d := (P5.below (Below.refl _ _).drew).1
    have c1d := (P5.below (Below.refl _ _).drew).2.1
    have d0d := Q5d.1
    have d1d := Q5d.2.1
    go_wp2_with fail
    go_region_law (first | (go_simp; go_at_call 25; (refine (T.out _ B5d).mono ?_; rintro e w6 ⟨⟨A6, c6, rfl, o6⟩, b6⟩; have d06 := (Q5d.below b6).1; have d16 := (Q5d.below b6).2.1; have I6 := Rl_of_own o6 Hm.out; have J6 := I5d.below b6; have B6 := B5d.trans (b6.mono B5d.size))) | (go_simp; go_at_call 20; (refine (eqDesk_yes A4 A6 n c4 c6 rs q _ J6 I6 Hm.out hn).mono ?_; rintro e w7 ⟨rfl, b7⟩; have B7 := B6.trans (b7.mono B6.size))) | fail)
    all_goals (
      go_wp2
      go_ret
      exact ⟨rfl, B7⟩)
  · go_enter Try.func4, Try.ntmps4
    go_wp2_with fail
    refine (szDesk_no A n c q _ m9 hn).mono ?_
    rintro e w1 ⟨rfl, b1⟩
    have B1 := B0.trans (b1.mono B0.size)
    go_wp2
    go_ret
    exact ⟨rfl, B1⟩

set_option maxRecDepth 100000 in
theorem lifted_FnExactIsDesk (os : Os) (started : os.Started) (H : Type) (enc : TypeId × Value → H) :
    ReturnsInHanded {} Try.checked os 4 .any (Rows.fnExactIsDeskSpec.pre6 enc Try.prog Try.f4 Rows.fnExactIsDeskRow.domain false) (Rows.fnExactIsDeskSpec.post enc Try.prog Try.f4 false true false false) := by
  refine returnsInHanded_of_change (C := Try.checked) own started (by kernel_rfl) Try.func4
    (ChangeSpec.witness6 (enc := enc) (C := Try.checked) false ⟨#[], #[.agg #[.slice none 0 0, .int .i64 0]], []⟩ 8 (by kernel_rfl) (by kernel_rfl) (by kernel_rfl) (by kernel_rfl)) ?_
  intro W base args ds gs before hval0 hW hcnd _
  have hval : ∀ (j : Nat) t v, Try.f4.params[j]? = some t → args[j]? = some v → Value.okWide Try.prog W .any base t v := hval0
  have hW' := hW
  obtain ⟨p, q, hA0, hV, rfl, hfz, hnd⟩ := hW
  have hA : DataW.TrodAll enc Try.prog W 0 (fun _ => true) true Try.f4.params.toList args.toList ds p := hA0
  rw [Try.params4] at hA hval
  obtain ⟨v0, vs0, d0, ds0, p0, q0, hargs, rfl, rfl, h0, r0⟩ := trodAll_cons hA
  obtain ⟨rfl, rfl, rfl⟩ := trodAll_nil r0
  obtain rfl : args = #[v0] := by cases args; simp_all
  obtain ⟨rfl, rfl⟩ := trodVars_none hV
  have k0 := h0
  have lt0 : ∀ x ∈ p0, x.block < W.heap.size := by obtain ⟨m, hm⟩ := k0; exact DataW.trod_lt m _ _ _ hm
  obtain ⟨A0, n0, c0, rs0, q0, rfl, l0, m0, R0⟩ := open_desk (hval 0 31 v0 rfl rfl) h0
  clear hA0 hval0
  refine (walk_FnExactIsDesk W A0 n0 c0 rs0 q0 l0 m0 R0).mono fun e W' ⟨he, bel⟩ => ?_
  subst he
  exact ⟨_, rfl, _, _, _, [], _, [], hW', trodAll_mk1 (shut_bool Try.underlying4 _), (trodAll_cons_mk (Below.trod laidOut (by kernel_rfl) (of_decide_eq_true (by kernel_rfl)) k0 bel lt0) trodAll_mk0), rfl, bel.frame _, fun h => by cases h⟩

theorem closed_FnExactIsDesk : joinedFacts Try.prog 4 Try.f4 Rows.fnExactIsDeskSpec Rows.fnExactIsDeskRow = true := by
  unfold joinedFacts
  rw [head_enters, head_final, head_make]
  kernel_rfl
theorem over_FnExactIsDesk : Rows.fnExactIsDeskRow.holds Try.pinned (OpenSpec.ofChange Rows.fnExactIsDeskSpec) :=
  OpenClaim.holds_of_wide 4 Try.f4 rfl rfl rfl rfl rfl rfl rfl ⟨rfl, rfl, rfl, rfl, rfl⟩ rfl rfl rfl rfl rfl (by kernel_rfl) Try.func4 closed_FnExactIsDesk
    (of_decide_eq_true (by kernel_rfl)) (by unfold Func.isWrapper; first | (rw [if_pos (by decide +kernel)]; kernel_rfl) | (rw [if_neg (by decide +kernel)]; exact ⟨rfl, rfl⟩))
    (fun os started H enc _ => lifted_FnExactIsDesk os started H enc)

theorem fnExactIsDesk_holds : Rows.FnExactIsDeskSaid := over_FnExactIsDesk

end Go.Proofs.Ytaapfapejekkfaa
