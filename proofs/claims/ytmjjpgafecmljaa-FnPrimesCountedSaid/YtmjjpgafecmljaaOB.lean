import Derived.Test.YtmjjpgafecmljaaO2
namespace Go.Proofs.Ytmjjpgafecmljaa
open Go.RowKit
set_option linter.unusedVariables false
set_option linter.unusedSimpArgs false

set_option maxRecDepth 100000 in
theorem counted_c (w : World) (bp : Nat) (A : Option Addr) (n c k : Nat) (h : Cur w bp A n c k) (hn : n ≤ 4294967296) (hk : k ≤ 4294967280) :
    Calls Try.prog 120 #[.pointer (some ⟨bp, 0, none⟩)] w fun en w' => (∃ v : Int, en = .returned (.int .i64 v)) ∧ (∃ k', k' ≤ k + 4 ∧ Cur w' bp A n c k') ∧ w.grownBy w' (some bp) := by
  have HC := Lib.hid h
  clear h
  go_enter Try.func120, Try.ntmps120
  go_wp2_with fail
  refine (one_cur_c _ bp A n c k 10 HC.out hn (by omega) (by omega) (by omega)).mono ?_
  rintro e w1 ⟨⟨b, rfl⟩, ⟨k1, hk1, hc1⟩, g1⟩
  have HC1 := Lib.hid hc1
  clear hc1
  cases b with
  | true =>
    go_wp2_with fail
    refine (among_c _ bp A n c k1 _ 5 _ [0, 1, 10000, 10001, -1] (HC1.out.alloc _) (Il_alloc _ _ _ _ rfl) (by have := HC1.out.lt; omega) hn (by omega) rfl (by omega) (by omega)).mono ?_
    rintro e w2 ⟨⟨v, rfl, _⟩, ⟨k2, hk2, hc2⟩, g2⟩
    have HC2 := Lib.hid hc2
    clear hc2
    go_wp2
    go_ret
    exact ⟨⟨_, rfl⟩, ⟨k2, by omega, HC2.out⟩, grown_trans g1 (grown_trans (World.grownBy_alloc _ _ _) g2)⟩
  | false =>
    go_wp2_with fail
    refine (pick_c _ bp A n c k1 500 HC1.out hn (by omega) (by omega) (by omega)).mono ?_
    rintro e w2 ⟨⟨v, rfl, _⟩, ⟨k2, hk2, hc2⟩, g2⟩
    have HC2 := Lib.hid hc2
    clear hc2
    go_wp2
    go_ret
    exact ⟨⟨_, rfl⟩, ⟨k2, by omega, HC2.out⟩, grown_trans g1 g2⟩
set_option maxRecDepth 100000 in
set_option maxHeartbeats 1000000 in
theorem DrawCountWithout_c (w : World) (A : Option Addr) (n c : Nat) (hB : Byt w w.heap.size A n) (hn : n ≤ 4294967296) :
    Calls Try.prog 29 #[.slice A n c] w fun en w' => (∃ v u : Int, en = .returned (.tuple #[.int .i64 v, .int .i64 u])) ∧ Below w.heap.size w w' := by
  have HC := Lib.hid (cur_new w A n c hB)
  clear hB
  go_enter Try.func29, Try.ntmps29
  go_wp2_with fail
  refine (counted_c _ _ A n c 0 HC.out hn (by omega)).mono ?_
  rintro e w2 ⟨⟨v, rfl⟩, ⟨k2, hk2, hc2⟩, g1⟩
  have HC2 := Lib.hid hc2
  have hlt := hc2.lt
  clear hc2
  go_wp2_with fail
  refine (among_c _ w.heap.size A n c k2 w2.heap.size 9 _ [0, 1, 2, 3, 4, 6, 12, 13, -1] (HC2.out.alloc _) (Il_new _ _ _ _ _ rfl rfl) (by omega) hn (by omega) rfl (by omega) (by omega)).mono ?_
  rintro e w3 ⟨⟨u, rfl, _⟩, -, g3⟩
  have B := below_cur (grown_trans g1 (grown_trans (World.grownBy_alloc _ _ _) g3))
  go_wp2
  go_ret2
  exact ⟨⟨_, _, rfl⟩, B⟩
set_option maxRecDepth 100000 in
set_option maxHeartbeats 1000000 in
theorem DrawPrimeOfRank_c (w : World) (A : Option Addr) (n c : Nat) (hB : Byt w w.heap.size A n) (hn : n ≤ 4294967296) :
    Calls Try.prog 42 #[.slice A n c] w fun en w' => (∃ v : Int, en = .returned (.int .i64 v)) ∧ Below w.heap.size w w' := by
  have HC := Lib.hid (cur_new w A n c hB)
  clear hB
  go_enter Try.func42, Try.ntmps42
  go_wp2_with fail
  refine (pick_c _ w.heap.size A n c 0 200 HC.out hn (by omega) (by omega) (by omega)).mono ?_
  rintro e w1 ⟨⟨x, rfl, hx⟩, ⟨k1, hk1, hc1⟩, g1⟩
  have HC1 := Lib.hid hc1
  have hlt := hc1.lt
  clear hc1
  go_wp2_with fail
  refine (among_c _ w.heap.size A n c k1 w1.heap.size 10 _ [0, 1, 2, 10, 24, 167, 1228, 1229, -1, (x : Int)] (HC1.out.alloc _) (Il_new _ _ _ _ _ rfl rfl) (by omega) hn (by omega) rfl (by omega) (by omega)).mono ?_
  rintro e w3 ⟨⟨v, rfl, _⟩, -, g3⟩
  have B := below_cur (grown_trans g1 (grown_trans (World.grownBy_alloc _ _ _) g3))
  go_wp2
  go_ret
  exact ⟨⟨_, rfl⟩, B⟩
set_option maxRecDepth 100000 in
set_option maxHeartbeats 1000000 in
theorem DrawNextPrime_c (w : World) (A : Option Addr) (n c : Nat) (hB : Byt w w.heap.size A n) (hn : n ≤ 4294967296) :
    Calls Try.prog 45 #[.slice A n c] w fun en w' => (∃ v : Int, en = .returned (.int .i64 v)) ∧ Below w.heap.size w w' := by
  have HC := Lib.hid (cur_new w A n c hB)
  clear hB
  go_enter Try.func45, Try.ntmps45
  go_wp2_with fail
  refine (pick_c _ w.heap.size A n c 0 1000 HC.out hn (by omega) (by omega) (by omega)).mono ?_
  rintro e w1 ⟨⟨x, rfl, hx⟩, ⟨k1, hk1, hc1⟩, g1⟩
  have HC1 := Lib.hid hc1
  have hlt := hc1.lt
  clear hc1
  go_wp2_with fail
  refine (among_c _ w.heap.size A n c k1 w1.heap.size 10 _ [0, 1, 2, 3, 113, 887, 1000000, 1000001, -1, (x : Int)] (HC1.out.alloc _) (Il_new _ _ _ _ _ rfl rfl) (by omega) hn (by omega) rfl (by omega) (by omega)).mono ?_
  rintro e w3 ⟨⟨v, rfl, _⟩, -, g3⟩
  have B := below_cur (grown_trans g1 (grown_trans (World.grownBy_alloc _ _ _) g3))
  go_wp2
  go_ret
  exact ⟨⟨_, rfl⟩, B⟩
set_option maxRecDepth 100000 in
set_option maxHeartbeats 1000000 in
theorem DrawPrimesBetween_c (w : World) (A : Option Addr) (n c : Nat) (hB : Byt w w.heap.size A n) (hn : n ≤ 4294967296) :
    Calls Try.prog 39 #[.slice A n c] w fun en w' => (∃ v u : Int, en = .returned (.tuple #[.int .i64 v, .int .i64 u])) ∧ Below w.heap.size w w' := by
  have HC := Lib.hid (cur_new w A n c hB)
  have hlt0 := HC.out.lt
  clear hB
  go_enter Try.func39, Try.ntmps39
  go_wp2_with fail
  refine (among_c _ w.heap.size A n c 0 (w.heap.size + 1) 10 _ [0, 1, 2, 100, 999, 9000, 999900, 999999000, -1, 4611686018427387904] (HC.out.alloc _) (Il_new _ _ _ _ _ (by simp) rfl) (by omega) hn (by omega) rfl (by omega) (by omega)).mono ?_
  rintro e w2 ⟨⟨v, rfl, hv⟩, ⟨k2, hk2, hc2⟩, g1⟩
  have HC2 := Lib.hid hc2
  have hlt := hc2.lt
  have hv9 : -1 ≤ v ∧ v ≤ 4611686018427387904 := by simp at hv; omega
  clear hc2 hv
  go_wp2_with fail
  refine (among_c _ w.heap.size A n c k2 w2.heap.size 8 _ [v, v + 50, v + 100, 30, 200, v + 2000, v + 2001, 1000000001] (HC2.out.alloc _) (Il_new _ _ _ _ _ rfl rfl) (by omega) hn (by omega) rfl (by omega) (by omega)).mono ?_
  rintro e w3 ⟨⟨u, rfl, _⟩, -, g3⟩
  have B := below_cur (grown_trans (World.grownBy_alloc _ _ _) (grown_trans g1 (grown_trans (World.grownBy_alloc _ _ _) g3)))
  go_wp2
  go_ret2
  exact ⟨⟨_, _, rfl⟩, B⟩

end Go.Proofs.Ytmjjpgafecmljaa
