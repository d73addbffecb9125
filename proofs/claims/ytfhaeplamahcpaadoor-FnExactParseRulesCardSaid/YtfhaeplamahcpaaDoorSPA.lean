import Derived.Test.YtfhaeplamahcpaaDoorSP8
import Derived.Stop.LaidErr
import Derived.LaidLaws
namespace Go.Proofs.YtfhaeplamahcpaaDoor
open Go.RowKit
set_option linter.unusedVariables false
set_option linter.unusedSimpArgs false

theorem prL_len (s : ByteArray) : (prL s).length ≤ 1048576 := by
  rw [prL]
  split
  · exact Nat.zero_le _
  · split
    · rename_i h1 h2
      rw [prB, decide_eq_false h1, Bool.false_or, Bool.and_eq_true, Bool.and_eq_true] at h2
      have := good_len h2.2.1
      omega
    · exact Nat.zero_le _
set_option maxRecDepth 100000 in
set_option maxHeartbeats 2000000 in
theorem walk0_FnExactParseRules (w : World) (hLW : LW w) (s : ByteArray) (hmx : s.size ≤ maxLen) :
    Calls Tryd.prog 3 #[.string s] w fun e w' => e = .returned (.bool true) ∧ Below w.heap.size w w' := by
  by_cases hs : s.size ≤ 1048576
  rotate_left
  · have hsi : (1048576 : Int) < (s.size : Int) := by omega
    go_enter Tryd.func3, Tryd.ntmps3
    go_wp2
    go_ret
    exact ⟨rfl, Below.refl _ _⟩
  have hsi : (s.size : Int) ≤ 1048576 := by omega
  have hgl := prL_len s
  have HLW := Lib.hid hLW
  clear hLW hmx
  go_enter Tryd.func3, Tryd.ntmps3
  go_wp2_with fail
  refine (spec_ParseRules_c _ s (by omega)).mono ?_
  rintro e w1 ⟨⟨v1, rfl, o1⟩, b1⟩
  obtain ⟨Aw, cw, rfl⟩ := o1.shape
  have Iw := Rl_of_own' o1
  clear o1
  have HL5 := Lib.hid (HLW.out.below b1)
  go_wp2_with fail
  refine (impl_ParseRules_c _ s hs (HL5.out.below (Below.refl w1.heap.size w1))).mono ?_
  rintro e w2 ⟨⟨v2, rfl, o2⟩, b2⟩
  obtain ⟨Ag, cg, rfl⟩ := o2.shape
  have og := o2
  clear o2
  go_wp2_with fail
  refine (eqRuleS_yes _ _ _ _ _ _ _ _ (Rl_of_own' og) (Iw.below b2) rfl rfl hgl hgl).mono ?_
  rintro e w3 ⟨rfl, b3⟩
  have og_3 := og.below b3
  have bb3 := b2.trans (b3.mono b2.size)
  go_wp2_with fail
  refine (markRuleS_c _ _ _ _ _ _ og_3 hgl).mono ?_
  rintro e w4 ⟨rfl, mk, gr4⟩
  have b4 : Below w1.heap.size w3 w4 := below_of_grown gr4 bb3.size (by intro q hq; have := (World.ownsRow.lt og_3 q hq).1; omega)
  have bb4 := bb3.trans b4
  clear gr4
  go_wp2_with fail
  refine (heldRuleS_c _ _ _ _ _ mk hgl).mono ?_
  rintro e w5 ⟨rfl, rfl⟩
  go_wp2_with fail
  refine (impl_ParseRules_c _ s hs (HL5.out.below bb4)).mono ?_
  rintro e w6 ⟨⟨v6, rfl, o6⟩, b6⟩
  have mk_6 := mk.below b6
  have bb6 := bb4.trans (b6.mono bb4.size)
  obtain ⟨Ah, ch, rfl⟩ := o6.shape
  go_wp2_with fail
  refine (eqRuleS_yes _ _ _ _ _ _ _ _ (Rl_of_own' o6) (Iw.below bb6) rfl rfl hgl hgl).mono ?_
  rintro e w7 ⟨rfl, b7⟩
  have mk_7 := mk_6.below b7
  have bb7 := bb6.trans (b7.mono bb6.size)
  go_wp2_with fail
  refine (heldRuleS_c _ _ _ _ _ mk_7 hgl).mono ?_
  rintro e w8 ⟨rfl, rfl⟩
  go_wp2
  go_ret
  exact ⟨rfl, b1.trans (bb7.mono b1.size)⟩
end Go.Proofs.YtfhaeplamahcpaaDoor
