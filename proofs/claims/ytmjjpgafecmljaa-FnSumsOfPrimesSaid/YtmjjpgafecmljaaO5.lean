import Derived.Test.YtmjjpgafecmljaaO2
namespace Go.Proofs.Ytmjjpgafecmljaa
open Go.RowKit
set_option linter.unusedVariables false
set_option linter.unusedSimpArgs false

set_option maxRecDepth 100000 in
set_option maxHeartbeats 1000000 in
theorem DrawFirstTwoPrimes_c (w : World) (A : Option Addr) (n c : Nat) (hB : Byt w w.heap.size A n) (hn : n ≤ 4294967296) :
    Calls Try.prog 12 #[.slice A n c] w fun en w' => (∃ v : Int, en = .returned (.int .i64 v)) ∧ Below w.heap.size w w' := by
  have HC := Lib.hid (cur_new w A n c hB)
  clear hB
  go_enter Try.func12, Try.ntmps12
  go_wp2_with fail
  refine (pick_c _ w.heap.size A n c 0 300 HC.out hn (by omega) (by omega) (by omega)).mono ?_
  rintro e w1 ⟨⟨x, rfl, hx⟩, ⟨k1, hk1, hc1⟩, g1⟩
  have HC1 := Lib.hid hc1
  clear hc1
  go_wp2_with fail
  refine (pick_c _ w.heap.size A n c k1 300 HC1.out hn (by omega) (by omega) (by omega)).mono ?_
  rintro e w2 ⟨⟨y, rfl, hy⟩, ⟨k2, hk2, hc2⟩, g2⟩
  have HC2 := Lib.hid hc2
  have hlt := hc2.lt
  clear hc2
  go_wp2_with fail
  refine (among_c _ w.heap.size A n c k2 w2.heap.size 13 _ [4, 5, 6, 11, 30, 100, 128, 3, 0, 10000, 10001, (x : Int), (y : Int)] (HC2.out.alloc _) (Il_new _ _ _ _ _ rfl rfl) (by omega) hn (by omega) rfl (by omega) (by omega)).mono ?_
  rintro e w3 ⟨⟨v, rfl, _⟩, -, g3⟩
  have B := below_cur (grown_trans g1 (grown_trans g2 (grown_trans (World.grownBy_alloc _ _ _) g3)))
  go_wp2
  go_ret
  exact ⟨⟨_, rfl⟩, B⟩
set_option maxRecDepth 100000 in
theorem DrawTwinsUpTo_c (w : World) (A : Option Addr) (n c : Nat) (hB : Byt w w.heap.size A n) (hn : n ≤ 4294967296) :
    Calls Try.prog 18 #[.slice A n c] w fun en w' => (∃ v : Int, en = .returned (.int .i64 v)) ∧ Below w.heap.size w w' := by
  have HC := Lib.hid (cur_new w A n c hB)
  clear hB
  go_enter Try.func18, Try.ntmps18
  go_wp2_with fail
  refine (upTo_c _ _ A n c 0 HC.out hn (by omega)).mono ?_
  rintro e w1 ⟨⟨v, rfl⟩, -, g1⟩
  have B := below_cur g1
  go_wp2
  go_ret
  exact ⟨⟨_, rfl⟩, B⟩
set_option maxRecDepth 100000 in
set_option maxHeartbeats 1000000 in
theorem DrawSmoothUpTo_c (w : World) (A : Option Addr) (n c : Nat) (hB : Byt w w.heap.size A n) (hn : n ≤ 4294967296) :
    Calls Try.prog 23 #[.slice A n c] w fun en w' => (∃ v u : Int, en = .returned (.tuple #[.int .i64 v, .int .i64 u])) ∧ Below w.heap.size w w' := by
  have HC := Lib.hid (cur_new w A n c hB)
  clear hB
  go_enter Try.func23, Try.ntmps23
  go_wp2_with fail
  refine (upTo_c _ _ A n c 0 HC.out hn (by omega)).mono ?_
  rintro e w2 ⟨⟨v, rfl⟩, ⟨k2, hk2, hc2⟩, g1⟩
  have HC2 := Lib.hid hc2
  have hlt := hc2.lt
  clear hc2
  go_wp2_with fail
  refine (among_c _ w.heap.size A n c k2 w2.heap.size 9 _ [1, 2, 3, 5, 7, 600, 601, 0, -1] (HC2.out.alloc _) (Il_new _ _ _ _ _ rfl rfl) (by omega) hn (by omega) rfl (by omega) (by omega)).mono ?_
  rintro e w3 ⟨⟨u, rfl, _⟩, -, g3⟩
  have B := below_cur (grown_trans g1 (grown_trans (World.grownBy_alloc _ _ _) g3))
  go_wp2
  go_ret2
  exact ⟨⟨_, _, rfl⟩, B⟩

end Go.Proofs.Ytmjjpgafecmljaa
