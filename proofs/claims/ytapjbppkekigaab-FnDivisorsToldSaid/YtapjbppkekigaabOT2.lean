import Derived.Test.YtapjbppkekigaabO2
namespace Go.Proofs.Ytapjbppkekigaab
open Go.RowKit
set_option maxRecDepth 100000
set_option linter.unusedVariables false
set_option linter.unusedSimpArgs false

set_option maxHeartbeats 1000000 in
theorem divided_c (w : World) (bp : Nat) (A : Option Addr) (n c k : Nat) (h : Cur w bp A n c k) (hn : n ≤ 4294967296) (hk : k ≤ 4294967200) :
    Calls Try.prog 28 #[.pointer (some ⟨bp, 0, none⟩)] w fun en w' => (∃ v : Int, en = .returned (.int .i64 v)) ∧ (∃ k', k' ≤ k + 8 ∧ Cur w' bp A n c k') ∧ w.grownBy w' (some bp) := by
  have HC := Lib.hid h
  clear h
  go_enter Try.func28, Try.ntmps28
  go_wp2_with fail
  refine (one_cur_c _ bp A n c k 6 HC.out hn (by omega) (by omega) (by omega)).mono ?_
  rintro e w1 ⟨⟨x, rfl⟩, ⟨k1, hk1, hc1⟩, g1⟩
  have HC1 := Lib.hid hc1
  clear hc1
  cases x with
  | true =>
    go_wp2_with fail
    refine (among_c _ bp A n c k1 _ 8 _ [0, 1, -1, 1000000, 1000001, 720720, 999983, 4611686018427387904] (HC1.out.alloc _) (Il_alloc _ _ _ _ rfl) (by have := HC1.out.lt; omega) hn (by omega) rfl (by omega) (by omega)).mono ?_
    rintro e w2 ⟨⟨v, rfl, _⟩, ⟨k2, hk2, hc2⟩, g2⟩
    have HC2 := Lib.hid hc2
    clear hc2
    go_wp2
    go_ret
    exact ⟨⟨_, rfl⟩, ⟨k2, by omega, HC2.out⟩, grown_trans g1 (grown_trans (World.grownBy_alloc _ _ _) g2)⟩
  | false =>
    go_wp2_with fail
    refine (pick_c _ bp A n c k1 600 HC1.out hn (by omega) (by omega) (by omega)).mono ?_
    rintro e w3 ⟨⟨v, rfl, hv⟩, ⟨k3, hk3, hc3⟩, g3⟩
    have HC3 := Lib.hid hc3
    clear hc3
    go_wp2
    go_ret
    exact ⟨⟨_, rfl⟩, ⟨k3, by omega, HC3.out⟩, grown_trans g1 g3⟩
set_option maxHeartbeats 1000000 in
theorem DrawDivisorsOf_c (w : World) (A : Option Addr) (n c : Nat) (hB : Byt w w.heap.size A n) (hn : n ≤ 4294967296) :
    Calls Try.prog 6 #[.slice A n c] w fun en w' => (∃ v : Int, en = .returned (.int .i64 v)) ∧ Below w.heap.size w w' := by
  have HC := Lib.hid (cur_new w A n c hB)
  clear hB
  go_enter Try.func6, Try.ntmps6
  go_wp2_with fail
  refine (divided_c _ w.heap.size A n c 0 HC.out hn (by omega)).mono ?_
  rintro e w1 ⟨⟨v, rfl⟩, -, g1⟩
  have B := below_cur g1
  go_wp2
  go_ret
  exact ⟨⟨_, rfl⟩, B⟩
set_option maxHeartbeats 1000000 in
theorem DrawAmicableOf_c (w : World) (A : Option Addr) (n c : Nat) (hB : Byt w w.heap.size A n) (hn : n ≤ 4294967296) :
    Calls Try.prog 25 #[.slice A n c] w fun en w' => (∃ v : Int, en = .returned (.int .i64 v)) ∧ Below w.heap.size w w' := by
  have HC := Lib.hid (cur_new w A n c hB)
  clear hB
  go_enter Try.func25, Try.ntmps25
  go_wp2_with fail
  refine (pick_c _ w.heap.size A n c 0 500 HC.out hn (by omega) (by omega) (by omega)).mono ?_
  rintro e w1 ⟨⟨x, rfl, hx⟩, ⟨k1, hk1, hc1⟩, g1⟩
  have HC1 := Lib.hid hc1
  have hlt := hc1.lt
  clear hc1
  go_wp2_with fail
  refine (among_c _ w.heap.size A n c k1 w1.heap.size 10 _ [220, 284, 1184, 1210, 6, 1, 2620, 0, 1000001, (x : Int)] (HC1.out.alloc _) (Il_new _ _ _ _ _ rfl rfl) (by omega) hn (by omega) rfl (by omega) (by omega)).mono ?_
  rintro e w3 ⟨⟨u, rfl, _⟩, -, g3⟩
  have B := below_cur (grown_trans g1 (grown_trans (World.grownBy_alloc _ _ _) g3))
  go_wp2
  go_ret
  exact ⟨⟨_, rfl⟩, B⟩
set_option maxHeartbeats 1000000 in
theorem DrawSumWay_c (w : World) (A : Option Addr) (n c : Nat) (hB : Byt w w.heap.size A n) (hn : n ≤ 4294967296) :
    Calls Try.prog 22 #[.slice A n c] w fun en w' => (∃ v u : Int, en = .returned (.tuple #[.int .i64 v, .int .i64 u])) ∧ Below w.heap.size w w' := by
  have HC := Lib.hid (cur_new w A n c hB)
  clear hB
  go_enter Try.func22, Try.ntmps22
  go_wp2_with fail
  refine (pick_c _ w.heap.size A n c 0 300 HC.out hn (by omega) (by omega) (by omega)).mono ?_
  rintro e w1 ⟨⟨x, rfl, hx⟩, ⟨k1, hk1, hc1⟩, g1⟩
  have HC1 := Lib.hid hc1
  have hlt := hc1.lt
  clear hc1
  go_wp2_with fail
  refine (among_c _ w.heap.size A n c k1 w1.heap.size 10 _ [1, 2, 6, 12, 220, 276, 12496, 1000000, 0, (x : Int)] (HC1.out.alloc _) (Il_new _ _ _ _ _ rfl rfl) (by omega) hn (by omega) rfl (by omega) (by omega)).mono ?_
  rintro e w2 ⟨⟨v, rfl, _⟩, ⟨k2, hk2, hc2⟩, g2⟩
  have HC2 := Lib.hid hc2
  have hlt2 := hc2.lt
  clear hc2
  go_wp2_with fail
  refine (among_c _ w.heap.size A n c k2 w2.heap.size 8 _ [0, 1, 2, 5, 10, 20, 21, -1] (HC2.out.alloc _) (Il_new _ _ _ _ _ rfl rfl) (by omega) hn (by omega) rfl (by omega) (by omega)).mono ?_
  rintro e w3 ⟨⟨u, rfl, _⟩, -, g3⟩
  have B := below_cur (grown_trans g1 (grown_trans (World.grownBy_alloc _ _ _) (grown_trans g2 (grown_trans (World.grownBy_alloc _ _ _) g3))))
  go_wp2
  go_ret2
  exact ⟨⟨_, _, rfl⟩, B⟩

end Go.Proofs.Ytapjbppkekigaab
