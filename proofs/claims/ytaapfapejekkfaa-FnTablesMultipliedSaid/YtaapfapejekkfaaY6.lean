import Derived.Test.YtaapfapejekkfaaY5
namespace Go.Proofs.Ytaapfapejekkfaa
open Go.RowKit
set_option linter.unusedVariables false
set_option linter.unusedSimpArgs false

/-- What a table of a kind tells of n. -/
def tbF (K n : Nat) : Int := match K with
  | 0 => 1
  | 1 => (n : Int)
  | 2 => ((dvD n).length : Int)
  | 3 => dvS n
  | 4 => (toF n : Int)
  | 5 => sgD n
  | _ => if n = 1 then 1 else 0
def tbL (K M : Nat) : List Int := (List.range M).map fun i => tbF K (i + 1)
theorem tbL_succ (K M : Nat) : tbL K (M + 1) = tbL K M ++ [tbF K (M + 1)] := by simp [tbL, List.range_succ]
theorem tbL_len (K M : Nat) : (tbL K M).length = M := by simp [tbL]


set_option maxRecDepth 100000 in
set_option maxHeartbeats 1200000 in
theorem dvTable0_c (w : World) (M : Nat) (hM : M ≤ 1000) :
    Calls Try.prog 250 #[.int .i64 0, .int .i64 (M : Int)] w fun en w' => (∃ v, en = .returned v ∧ OwnI w' w.heap.size v (tbL 0 M)) ∧ Below w.heap.size w w' := by
  go_enter Try.func250, Try.ntmps250
  go_wp2
  go_loopw [5, 6] (fun v i wr => ∃ k : Nat, k ≤ M ∧ i = .int .i64 ((k : Int) + 1) ∧ OwnI wr w.heap.size v (tbL 0 k) ∧ Below w.heap.size w wr) (fun _ i _ => 1003 - (intOf i).toNat)
  case atStart => exact ⟨0, Nat.zero_le _, rfl, World.ownsRow_nil _ _ _ _, Below.refl _ _⟩
  case round =>
   obtain ⟨k, hk, rfl, hown, hbel⟩ := hrel
   have Hown := Lib.hid hown
   clear hown
   have hs := hbel.size
   have Hl := Lib.hid (show (tbL 0 k).length ≤ 1048575 by rw [tbL_len]; omega)
   by_cases hlt : k < M
   · have hlt2 : (k : Int) + 1 ≤ (M : Int) := by omega
     have Hy := Lib.hid (tbL_succ 0 k)
     have hown1 := Hown.out
     go_wp2_with (at_builtin; refine wp_app_int _ rfl _ _ rfl w.heap.size _ _ rfl hown1 _ rfl (by have := Hl.out; omega) (by omega) ?_; intro v' w2 hown2 b2)
     go_roundw
     case rel => exact ⟨k + 1, by omega, by simp, by rw [Hy.out]; exact hown2, hbel.trans b2⟩
     case measure => simp [intOf]; omega
   · have hlt2 : (M : Int) < (k : Int) + 1 := by omega
     have Hk := Lib.hid (show k = M by omega)
     go_wp2
     go_ret
     exact ⟨⟨_, rfl, by rw [← Hk.out]; exact Hown.out⟩, hbel⟩

set_option maxRecDepth 100000 in
set_option maxHeartbeats 1200000 in
theorem dvTable1_c (w : World) (M : Nat) (hM : M ≤ 1000) :
    Calls Try.prog 250 #[.int .i64 1, .int .i64 (M : Int)] w fun en w' => (∃ v, en = .returned v ∧ OwnI w' w.heap.size v (tbL 1 M)) ∧ Below w.heap.size w w' := by
  go_enter Try.func250, Try.ntmps250
  go_wp2
  go_loopw [5, 6] (fun v i wr => ∃ k : Nat, k ≤ M ∧ i = .int .i64 ((k : Int) + 1) ∧ OwnI wr w.heap.size v (tbL 1 k) ∧ Below w.heap.size w wr) (fun _ i _ => 1003 - (intOf i).toNat)
  case atStart => exact ⟨0, Nat.zero_le _, rfl, World.ownsRow_nil _ _ _ _, Below.refl _ _⟩
  case round =>
   obtain ⟨k, hk, rfl, hown, hbel⟩ := hrel
   have Hown := Lib.hid hown
   clear hown
   have hs := hbel.size
   have Hl := Lib.hid (show (tbL 1 k).length ≤ 1048575 by rw [tbL_len]; omega)
   by_cases hlt : k < M
   · have hlt2 : (k : Int) + 1 ≤ (M : Int) := by omega
     have Hy := Lib.hid (tbL_succ 1 k)
     have hown1 := Hown.out
     go_wp2_with (at_builtin; refine wp_app_int _ rfl _ _ rfl w.heap.size _ _ rfl hown1 _ rfl (by have := Hl.out; omega) (by omega) ?_; intro v' w2 hown2 b2)
     go_roundw
     case rel => exact ⟨k + 1, by omega, by simp, by rw [Hy.out]; exact hown2, hbel.trans b2⟩
     case measure => simp [intOf]; omega
   · have hlt2 : (M : Int) < (k : Int) + 1 := by omega
     have Hk := Lib.hid (show k = M by omega)
     go_wp2
     go_ret
     exact ⟨⟨_, rfl, by rw [← Hk.out]; exact Hown.out⟩, hbel⟩

set_option maxRecDepth 100000 in
set_option maxHeartbeats 1200000 in
theorem dvTable2_c (w : World) (M : Nat) (hM : M ≤ 1000) :
    Calls Try.prog 250 #[.int .i64 2, .int .i64 (M : Int)] w fun en w' => (∃ v, en = .returned v ∧ OwnI w' w.heap.size v (tbL 2 M)) ∧ Below w.heap.size w w' := by
  go_enter Try.func250, Try.ntmps250
  go_wp2
  go_loopw [5, 6] (fun v i wr => ∃ k : Nat, k ≤ M ∧ i = .int .i64 ((k : Int) + 1) ∧ OwnI wr w.heap.size v (tbL 2 k) ∧ Below w.heap.size w wr) (fun _ i _ => 1003 - (intOf i).toNat)
  case atStart => exact ⟨0, Nat.zero_le _, rfl, World.ownsRow_nil _ _ _ _, Below.refl _ _⟩
  case round =>
   obtain ⟨k, hk, rfl, hown, hbel⟩ := hrel
   have Hown := Lib.hid hown
   clear hown
   have hs := hbel.size
   have Hl := Lib.hid (show (tbL 2 k).length ≤ 1048575 by rw [tbL_len]; omega)
   by_cases hlt : k < M
   · have hlt2 : (k : Int) + 1 ≤ (M : Int) := by omega
     have Hy := Lib.hid (tbL_succ 2 k)
     have Hc := Lib.hid (fun W => dvList_c W (k + 1) (by omega) (by omega))
     rw [show ((k + 1 : Nat) : Int) = (k : Int) + 1 by omega] at Hc
     go_wp2_with fail
     refine (Hc.out _).mono ?_
     rintro e w1 ⟨⟨v3, rfl, o3⟩, b1⟩
     obtain ⟨A3, c3, rfl⟩ := o3.shape
     clear o3
     have hown1 := OwnI.below Hown.out b1
     have hs1 := b1.size
     go_wp2_with (at_builtin; refine wp_app_int _ rfl _ _ rfl w.heap.size _ _ rfl hown1 _ rfl (by have := Hl.out; omega) (by omega) ?_; intro v' w2 hown2 b2)
     go_roundw
     case rel => exact ⟨k + 1, by omega, by simp, by rw [Hy.out]; exact hown2, (hbel.trans (b1.mono hs)).trans b2⟩
     case measure => simp [intOf]; omega
   · have hlt2 : (M : Int) < (k : Int) + 1 := by omega
     have Hk := Lib.hid (show k = M by omega)
     go_wp2
     go_ret
     exact ⟨⟨_, rfl, by rw [← Hk.out]; exact Hown.out⟩, hbel⟩

set_option maxRecDepth 100000 in
set_option maxHeartbeats 1200000 in
theorem dvTable3_c (w : World) (M : Nat) (hM : M ≤ 1000) :
    Calls Try.prog 250 #[.int .i64 3, .int .i64 (M : Int)] w fun en w' => (∃ v, en = .returned v ∧ OwnI w' w.heap.size v (tbL 3 M)) ∧ Below w.heap.size w w' := by
  go_enter Try.func250, Try.ntmps250
  go_wp2
  go_loopw [5, 6] (fun v i wr => ∃ k : Nat, k ≤ M ∧ i = .int .i64 ((k : Int) + 1) ∧ OwnI wr w.heap.size v (tbL 3 k) ∧ Below w.heap.size w wr) (fun _ i _ => 1003 - (intOf i).toNat)
  case atStart => exact ⟨0, Nat.zero_le _, rfl, World.ownsRow_nil _ _ _ _, Below.refl _ _⟩
  case round =>
   obtain ⟨k, hk, rfl, hown, hbel⟩ := hrel
   have Hown := Lib.hid hown
   clear hown
   have hs := hbel.size
   have Hl := Lib.hid (show (tbL 3 k).length ≤ 1048575 by rw [tbL_len]; omega)
   by_cases hlt : k < M
   · have hlt2 : (k : Int) + 1 ≤ (M : Int) := by omega
     have Hy := Lib.hid (tbL_succ 3 k)
     have Hc := Lib.hid (fun W => dvSum_c W (k + 1) (by omega) (by omega))
     rw [show ((k + 1 : Nat) : Int) = (k : Int) + 1 by omega] at Hc
     go_wp2_with fail
     refine (Hc.out _).mono ?_
     rintro e w1 ⟨rfl, b1⟩
     have hown1 := OwnI.below Hown.out b1
     have hs1 := b1.size
     go_wp2_with (at_builtin; refine wp_app_int _ rfl _ _ rfl w.heap.size _ _ rfl hown1 _ rfl (by have := Hl.out; omega) (by omega) ?_; intro v' w2 hown2 b2)
     go_roundw
     case rel => exact ⟨k + 1, by omega, by simp, by rw [Hy.out]; exact hown2, (hbel.trans (b1.mono hs)).trans b2⟩
     case measure => simp [intOf]; omega
   · have hlt2 : (M : Int) < (k : Int) + 1 := by omega
     have Hk := Lib.hid (show k = M by omega)
     go_wp2
     go_ret
     exact ⟨⟨_, rfl, by rw [← Hk.out]; exact Hown.out⟩, hbel⟩

set_option maxRecDepth 100000 in
set_option maxHeartbeats 1200000 in
theorem dvTable4_c (w : World) (M : Nat) (hM : M ≤ 1000) :
    Calls Try.prog 250 #[.int .i64 4, .int .i64 (M : Int)] w fun en w' => (∃ v, en = .returned v ∧ OwnI w' w.heap.size v (tbL 4 M)) ∧ Below w.heap.size w w' := by
  go_enter Try.func250, Try.ntmps250
  go_wp2
  go_loopw [5, 6] (fun v i wr => ∃ k : Nat, k ≤ M ∧ i = .int .i64 ((k : Int) + 1) ∧ OwnI wr w.heap.size v (tbL 4 k) ∧ Below w.heap.size w wr) (fun _ i _ => 1003 - (intOf i).toNat)
  case atStart => exact ⟨0, Nat.zero_le _, rfl, World.ownsRow_nil _ _ _ _, Below.refl _ _⟩
  case round =>
   obtain ⟨k, hk, rfl, hown, hbel⟩ := hrel
   have Hown := Lib.hid hown
   clear hown
   have hs := hbel.size
   have Hl := Lib.hid (show (tbL 4 k).length ≤ 1048575 by rw [tbL_len]; omega)
   by_cases hlt : k < M
   · have hlt2 : (k : Int) + 1 ≤ (M : Int) := by omega
     have Hy := Lib.hid (tbL_succ 4 k)
     have Hc := Lib.hid (fun W => dvTotient_c W (k + 1) (by omega) (by omega))
     rw [show ((k + 1 : Nat) : Int) = (k : Int) + 1 by omega] at Hc
     go_wp2_with fail
     refine (Hc.out _).mono ?_
     rintro e w1 ⟨rfl, b1⟩
     have hown1 := OwnI.below Hown.out b1
     have hs1 := b1.size
     go_wp2_with (at_builtin; refine wp_app_int _ rfl _ _ rfl w.heap.size _ _ rfl hown1 _ rfl (by have := Hl.out; omega) (by omega) ?_; intro v' w2 hown2 b2)
     go_roundw
     case rel => exact ⟨k + 1, by omega, by simp, by rw [Hy.out]; exact hown2, (hbel.trans (b1.mono hs)).trans b2⟩
     case measure => simp [intOf]; omega
   · have hlt2 : (M : Int) < (k : Int) + 1 := by omega
     have Hk := Lib.hid (show k = M by omega)
     go_wp2
     go_ret
     exact ⟨⟨_, rfl, by rw [← Hk.out]; exact Hown.out⟩, hbel⟩

set_option maxRecDepth 100000 in
set_option maxHeartbeats 1200000 in
theorem dvTable5_c (w : World) (M : Nat) (hM : M ≤ 1000) :
    Calls Try.prog 250 #[.int .i64 5, .int .i64 (M : Int)] w fun en w' => (∃ v, en = .returned v ∧ OwnI w' w.heap.size v (tbL 5 M)) ∧ Below w.heap.size w w' := by
  go_enter Try.func250, Try.ntmps250
  go_wp2
  go_loopw [5, 6] (fun v i wr => ∃ k : Nat, k ≤ M ∧ i = .int .i64 ((k : Int) + 1) ∧ OwnI wr w.heap.size v (tbL 5 k) ∧ Below w.heap.size w wr) (fun _ i _ => 1003 - (intOf i).toNat)
  case atStart => exact ⟨0, Nat.zero_le _, rfl, World.ownsRow_nil _ _ _ _, Below.refl _ _⟩
  case round =>
   obtain ⟨k, hk, rfl, hown, hbel⟩ := hrel
   have Hown := Lib.hid hown
   clear hown
   have hs := hbel.size
   have Hl := Lib.hid (show (tbL 5 k).length ≤ 1048575 by rw [tbL_len]; omega)
   by_cases hlt : k < M
   · have hlt2 : (k : Int) + 1 ≤ (M : Int) := by omega
     have Hy := Lib.hid (tbL_succ 5 k)
     have Hc := Lib.hid (fun W => dvSign_c W (k + 1) (by omega) (by omega))
     rw [show ((k + 1 : Nat) : Int) = (k : Int) + 1 by omega] at Hc
     go_wp2_with fail
     refine (Hc.out _).mono ?_
     rintro e w1 ⟨rfl, b1⟩
     have hown1 := OwnI.below Hown.out b1
     have hs1 := b1.size
     go_wp2_with (at_builtin; refine wp_app_int _ rfl _ _ rfl w.heap.size _ _ rfl hown1 _ rfl (by have := Hl.out; omega) (by omega) ?_; intro v' w2 hown2 b2)
     go_roundw
     case rel => exact ⟨k + 1, by omega, by simp, by rw [Hy.out]; exact hown2, (hbel.trans (b1.mono hs)).trans b2⟩
     case measure => simp [intOf]; omega
   · have hlt2 : (M : Int) < (k : Int) + 1 := by omega
     have Hk := Lib.hid (show k = M by omega)
     go_wp2
     go_ret
     exact ⟨⟨_, rfl, by rw [← Hk.out]; exact Hown.out⟩, hbel⟩

set_option maxRecDepth 100000 in
set_option maxHeartbeats 1200000 in
theorem dvTable6_c (w : World) (M : Nat) (hM : M ≤ 1000) :
    Calls Try.prog 250 #[.int .i64 6, .int .i64 (M : Int)] w fun en w' => (∃ v, en = .returned v ∧ OwnI w' w.heap.size v (tbL 6 M)) ∧ Below w.heap.size w w' := by
  go_enter Try.func250, Try.ntmps250
  go_wp2
  go_loopw [5, 6] (fun v i wr => ∃ k : Nat, k ≤ M ∧ i = .int .i64 ((k : Int) + 1) ∧ OwnI wr w.heap.size v (tbL 6 k) ∧ Below w.heap.size w wr) (fun _ i _ => 1003 - (intOf i).toNat)
  case atStart => exact ⟨0, Nat.zero_le _, rfl, World.ownsRow_nil _ _ _ _, Below.refl _ _⟩
  case round =>
   obtain ⟨k, hk, rfl, hown, hbel⟩ := hrel
   have Hown := Lib.hid hown
   clear hown
   have hs := hbel.size
   have Hl := Lib.hid (show (tbL 6 k).length ≤ 1048575 by rw [tbL_len]; omega)
   by_cases hlt : k < M
   · have hlt2 : (k : Int) + 1 ≤ (M : Int) := by omega
     have hown1 := Hown.out
     by_cases hz : k = 0
     · subst hz
       have Hy := Lib.hid (tbL_succ 6 0)
       have e1 : (((0 : Nat) : Int) + 1 == 1) = true := rfl
       go_wp2_with (at_builtin; refine wp_app_int _ rfl _ _ rfl w.heap.size _ _ rfl hown1 _ rfl (by have := Hl.out; omega) (by omega) ?_; intro v' w2 hown2 b2)
       go_roundw
       case rel => exact ⟨1, by omega, rfl, by rw [Hy.out]; exact hown2, hbel.trans b2⟩
       case measure => first | (simp [intOf]; done) | (simp [intOf]; omega)
     · have Hy := Lib.hid (show tbL 6 (k + 1) = tbL 6 k ++ [0] by rw [tbL_succ]; simp [tbF]; omega)
       have e1 : ((k : Int) + 1 == 1) = false := beq_eq_false_iff_ne.2 (by omega)
       clear hz
       go_wp2_with (at_builtin; refine wp_app_int _ rfl _ _ rfl w.heap.size _ _ rfl hown1 _ rfl (by have := Hl.out; omega) (by omega) ?_; intro v' w2 hown2 b2)
       go_roundw
       case rel => exact ⟨k + 1, by omega, by simp, by rw [Hy.out]; exact hown2, hbel.trans b2⟩
       case measure => simp [intOf]; omega
   · have hlt2 : (M : Int) < (k : Int) + 1 := by omega
     have Hk := Lib.hid (show k = M by omega)
     go_wp2
     go_ret
     exact ⟨⟨_, rfl, by rw [← Hk.out]; exact Hown.out⟩, hbel⟩

theorem dvTable_c (w : World) (K M : Nat) (hK : K ≤ 6) (hM : M ≤ 1000) :
    Calls Try.prog 250 #[.int .i64 (K : Int), .int .i64 (M : Int)] w fun en w' => (∃ v, en = .returned v ∧ OwnI w' w.heap.size v (tbL K M)) ∧ Below w.heap.size w w' := by
  rcases (show K = 0 ∨ K = 1 ∨ K = 2 ∨ K = 3 ∨ K = 4 ∨ K = 5 ∨ K = 6 by omega) with rfl | rfl | rfl | rfl | rfl | rfl | rfl
  · exact dvTable0_c w M hM
  · exact dvTable1_c w M hM
  · exact dvTable2_c w M hM
  · exact dvTable3_c w M hM
  · exact dvTable4_c w M hM
  · exact dvTable5_c w M hM
  · exact dvTable6_c w M hM

end Go.Proofs.Ytaapfapejekkfaa
