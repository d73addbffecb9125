import Derived.Test.YtaapfapejekkfaaOJ
import Derived.Test.YtaapfapejekkfaaK3
namespace Go.Proofs.Ytaapfapejekkfaa
open Go.RowKit
set_option maxRecDepth 100000
set_option linter.unusedVariables false
set_option linter.unusedSimpArgs false

set_option maxHeartbeats 800000 in
theorem gLists_c (A B : Option Addr) (n m c d : Nat) (ps : List (List Int)) (w : World) (hA : Lr w A ps) (hB : Lr w B ps) (hn : n = ps.length) (hm : m = ps.length) (hn1 : n ≤ 1048576) (hs : sumL ps ps.length ≤ 1048576) :
    Calls Try.prog 37 #[.slice A n c, .slice B m d] w fun en w' => en = .returned (.bool true) ∧ Below w.heap.size w w' := by
  have hnm : m = n := by rw [hn, hm]
  subst hnm
  have Hn := Lib.hid hn
  have Hs := Lib.hid hs
  clear hn hm hs
  go_enter Try.func37, Try.ntmps37
  go_wp2
  go_loopw [13] (fun i wr => ∃ k : Nat, k ≤ m ∧ i = .int .i64 k ∧ Below w.heap.size w wr) (fun i _ => m - (intOf i).toNat)
  case atStart => exact ⟨0, Nat.zero_le _, rfl, Below.refl _ _⟩
  case round =>
    obtain ⟨k, hk, rfl, hbel⟩ := hrel
    by_cases hlt : k < m
    · have hlt1 : k < ps.length := by have := Hn.out; omega
      have hlen : (psL ps k).length ≤ 1048576 := by have := sumL_len hlt1; have := Hs.out; omega
      obtain ⟨b, off, rfl, hb, hr⟩ := hA (by omega)
      obtain ⟨b2, off2, rfl, hb2, hr2⟩ := hB (by omega)
      obtain ⟨A1, c1, q1, r1⟩ := hr k hlt1
      obtain ⟨A2, c2, q2, r2⟩ := hr2 k hlt1
      have hc0 := (hbel.cell (p := ⟨b, off + k, none⟩) hb).trans q1
      have hd0 := (hbel.cell (p := ⟨b2, off2 + k, none⟩) hb2).trans q2
      have hi1 : (k : Int) < (m : Int) := by omega
      have R1 := Lib.hid (fun nd => (r1.below hbel).below (below_drewN (Below.refl _ wr) nd))
      have R2 := Lib.hid (fun nd => (r2.below hbel).below (below_drewN (Below.refl _ wr) nd))
      clear q1 q2 r1 r2
      go_wp2_with fail
      go_quiet ((go_at_call 59; exact Calls.quiet_of (gSame_q _ _ _ _ _ _ (psL ps k) _ (R1.out _) (R2.out _) rfl rfl hlen)))
      go_wp2
      go_roundw
      case rel => exact ⟨k + 1, by omega, by go_num, below_drewN hbel _⟩
      case measure => simp [intOf]; omega
    · go_wp2
      go_ret
      exact ⟨rfl, hbel⟩

set_option maxHeartbeats 800000 in
theorem tRows_c (A B : Option Addr) (n m c d : Nat) (ps : List (List Int)) (w : World) (hA : Lr w A ps) (hB : Lr w B ps) (hn : n = ps.length) (hm : m = ps.length) (hn1 : n ≤ 1048576) (hs : sumL ps ps.length ≤ 1048576) :
    Calls Try.prog 145 #[.slice A n c, .slice B m d] w fun en w' => en = .returned (.bool true) ∧ Below w.heap.size w w' := by
  have hnm : m = n := by rw [hn, hm]
  subst hnm
  have Hn := Lib.hid hn
  have Hs := Lib.hid hs
  clear hn hm hs
  go_enter Try.func145, Try.ntmps145
  go_wp2
  go_loopw [13] (fun i wr => ∃ k : Nat, k ≤ m ∧ i = .int .i64 k ∧ Below w.heap.size w wr) (fun i _ => m - (intOf i).toNat)
  case atStart => exact ⟨0, Nat.zero_le _, rfl, Below.refl _ _⟩
  case round =>
    obtain ⟨k, hk, rfl, hbel⟩ := hrel
    by_cases hlt : k < m
    · have hlt1 : k < ps.length := by have := Hn.out; omega
      have hlen : (psL ps k).length ≤ 1048576 := by have := sumL_len hlt1; have := Hs.out; omega
      obtain ⟨b, off, rfl, hb, hr⟩ := hA (by omega)
      obtain ⟨b2, off2, rfl, hb2, hr2⟩ := hB (by omega)
      obtain ⟨A1, c1, q1, r1⟩ := hr k hlt1
      obtain ⟨A2, c2, q2, r2⟩ := hr2 k hlt1
      have hc0 := (hbel.cell (p := ⟨b, off + k, none⟩) hb).trans q1
      have hd0 := (hbel.cell (p := ⟨b2, off2 + k, none⟩) hb2).trans q2
      have hi1 : (k : Int) < (m : Int) := by omega
      have R1 := Lib.hid (fun nd => (r1.below hbel).below (below_drewN (Below.refl _ wr) nd))
      have R2 := Lib.hid (fun nd => (r2.below hbel).below (below_drewN (Below.refl _ wr) nd))
      clear q1 q2 r1 r2
      go_wp2_with fail
      go_quiet ((go_at_call 68; exact Calls.quiet_of (tSame_q _ _ _ _ _ _ (psL ps k) _ (R1.out _) (R2.out _) rfl rfl hlen)))
      go_wp2
      go_roundw
      case rel => exact ⟨k + 1, by omega, by go_num, below_drewN hbel _⟩
      case measure => simp [intOf]; omega
    · go_wp2
      go_ret
      exact ⟨rfl, hbel⟩

end Go.Proofs.Ytaapfapejekkfaa
