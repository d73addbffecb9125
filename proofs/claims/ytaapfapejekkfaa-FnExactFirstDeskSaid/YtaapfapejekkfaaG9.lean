import Derived.Test.YtaapfapejekkfaaG5
import Derived.Test.YtaapfapejekkfaaB5
namespace Go.Proofs.Ytaapfapejekkfaa
open Go.RowKit
set_option linter.unusedVariables false
set_option linter.unusedSimpArgs false

set_option maxRecDepth 100000 in
set_option maxHeartbeats 800000 in
theorem prRules_c (w : World) (K : Nat) (hK : K ≤ 12) :
    Calls Try.prog 172 #[.int .i64 (K : Int)] w fun en w' => (∃ v, en = .returned v ∧ OwnR w' w.heap.size v (ruL (pr9.take K))) ∧ Below w.heap.size w w' := by
  obtain ⟨xs, hxs⟩ : ∃ xs, pr9.take K = xs := ⟨_, rfl⟩
  have hl : xs.length = K := by rw [← hxs, List.length_take, pr9_len]; omega
  rw [hxs]
  have Hxs := Lib.hid hxs
  have Hl := Lib.hid hl
  clear hxs hl
  go_enter Try.func172, Try.ntmps172
  go_wp2_with fail
  refine (prFirst_c _ K (by omega)).mono ?_
  rw [Hxs.out]
  rintro e w2 ⟨⟨v2, rfl, o3⟩, b2⟩
  have hs2 := b2.size
  obtain ⟨A, c, rfl⟩ := o3.shape
  rw [Hl.out] at o3 ⊢
  go_wp2_with fail
  go_loopw [3, 9] (fun v i wr => ∃ k : Nat, k ≤ K ∧ i = .int .i64 (k : Int) ∧ OwnR wr w2.heap.size v (ruL (xs.take k)) ∧ Below w2.heap.size w2 wr) (fun _ i _ => K - (intOf i).toNat)
  case atStart => exact ⟨0, Nat.zero_le _, rfl, World.ownsRow_nil _ _ _ _, Below.refl _ _⟩
  case round =>
    rename_i v
    obtain ⟨k, hk, rfl, hown, hbel⟩ := hrel
    have Hown := Lib.hid hown
    clear hown
    have hs := hbel.size
    by_cases hlt : k < K
    · have hlt1 : k < xs.length := by have := Hl.out; omega
      obtain ⟨g, rfl, _, hg2, hc⟩ := o3.cell hlt1
      have hc0 := (hbel.cell (p := ⟨g, k, none⟩) hg2).trans hc
      rw [show xs.getD k 0 = ivL xs k from rfl] at hc0
      clear hc
      have Hy := Lib.hid (ruL_succ hlt1)
      have Hm := Lib.hid (show (ruL (xs.take k)).length ≤ 1048576 by rw [ruL_len, List.length_take]; omega)
      have hki : (k : Int) < (K : Int) := by omega
      go_wp2_with (at_builtin; refine wp_app_rule _ rfl _ _ rfl w2.heap.size _ _ rfl Hown.out _ _ rfl Hm.out hs ?_; intro v' w4 hown4 b4)
      go_roundw
      case rel => exact ⟨k + 1, by omega, by go_num, by rw [Hy.out]; exact hown4, hbel.trans b4⟩
      case measure => simp [intOf]; omega
    · have Hk := Lib.hid (show xs.take k = xs from List.take_of_length_le (by have := Hl.out; omega))
      go_wp2
      go_ret
      exact ⟨⟨_, rfl, by rw [← Hk.out]; exact OwnR.mono Hown.out hs2⟩, b2.trans (hbel.mono hs2)⟩

def rpOk (k : Int) : Bool := inB k 0 12
def rpA (k : Int) : List (Int × Int) := if rpOk k then ruL (pr9.take k.toNat) else []
theorem rpA_no {k : Int} (h : rpOk k = false) : rpA k = [] := by rw [rpA, h]; rfl
theorem rpA_yes {k : Nat} (h : rpOk (k : Int) = true) : rpA (k : Int) = ruL (pr9.take k) := by rw [rpA, h, Int.toNat_natCast]; rfl
theorem rpA_len (k : Int) : (rpA k).length ≤ 1048576 := by
  rw [rpA]
  split
  · rw [ruL_len, List.length_take, pr9_len]; omega
  · exact Nat.zero_le _

end Go.Proofs.Ytaapfapejekkfaa
