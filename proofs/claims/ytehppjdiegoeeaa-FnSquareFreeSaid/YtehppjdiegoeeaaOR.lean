import Derived.Test.YtehppjdiegoeeaaO2
namespace Go.Proofs.Ytehppjdiegoeeaa
open Go.RowKit
set_option maxRecDepth 100000
set_option linter.unusedVariables false
set_option linter.unusedSimpArgs false

set_option maxHeartbeats 1000000 in
theorem asked_c (w : World) (bp : Nat) (A : Option Addr) (n c k : Nat) (h : Cur w bp A n c k) (hn : n ≤ 4294967296) (hk : k ≤ 4294967200) :
    Calls Try.prog 33 #[.pointer (some ⟨bp, 0, none⟩)] w fun en w' => (∃ v : Int, en = .returned (.int .i64 v)) ∧ (∃ k', k' ≤ k + 8 ∧ Cur w' bp A n c k') ∧ w.grownBy w' (some bp) := by
  have HC := Lib.hid h
  clear h
  go_enter Try.func33, Try.ntmps33
  go_wp2_with fail
  refine (one_cur_c _ bp A n c k 12 HC.out hn (by omega) (by omega) (by omega)).mono ?_
  rintro e w1 ⟨⟨x, rfl⟩, ⟨k1, hk1, hc1⟩, g1⟩
  have HC1 := Lib.hid hc1
  clear hc1
  cases x with
  | true =>
    go_wp2_with fail
    refine (among_c _ bp A n c k1 _ 7 _ [-1, 0, 1, 99999, 100000, 100001, 4611686018427387904] (HC1.out.alloc _) (Il_alloc _ _ _ _ rfl) (by have := HC1.out.lt; omega) hn (by omega) rfl (by omega) (by omega)).mono ?_
    rintro e w2 ⟨⟨v, rfl, _⟩, ⟨k2, hk2, hc2⟩, g2⟩
    have HC2 := Lib.hid hc2
    clear hc2
    go_wp2
    go_ret
    exact ⟨⟨_, rfl⟩, ⟨k2, by omega, HC2.out⟩, grown_trans g1 (grown_trans (World.grownBy_alloc _ _ _) g2)⟩
  | false =>
    go_wp2_with fail
    refine (one_cur_c _ bp A n c k1 3 HC1.out hn (by omega) (by omega) (by omega)).mono ?_
    rintro e w2 ⟨⟨y, rfl⟩, ⟨k2, hk2, hc2⟩, g2⟩
    have HC2 := Lib.hid hc2
    clear hc2
    cases y with
    | true =>
      go_wp2_with fail
      refine (pick_c _ bp A n c k2 3000 HC2.out hn (by omega) (by omega) (by omega)).mono ?_
      rintro e w3 ⟨⟨v, rfl, hv⟩, ⟨k3, hk3, hc3⟩, g3⟩
      have HC3 := Lib.hid hc3
      clear hc3
      go_wp2
      go_ret
      exact ⟨⟨_, rfl⟩, ⟨k3, by omega, HC3.out⟩, grown_trans g1 (grown_trans g2 g3)⟩
    | false =>
      go_wp2_with fail
      refine (pick_c _ bp A n c k2 130 HC2.out hn (by omega) (by omega) (by omega)).mono ?_
      rintro e w3 ⟨⟨v, rfl, hv⟩, ⟨k3, hk3, hc3⟩, g3⟩
      have HC3 := Lib.hid hc3
      clear hc3
      go_wp2
      go_ret
      exact ⟨⟨_, rfl⟩, ⟨k3, by omega, HC3.out⟩, grown_trans g1 (grown_trans g2 g3)⟩
set_option maxHeartbeats 1000000 in
theorem DrawIsSquareFree_c (w : World) (A : Option Addr) (n c : Nat) (hB : Byt w w.heap.size A n) (hn : n ≤ 4294967296) :
    Calls Try.prog 6 #[.slice A n c] w fun en w' => (∃ v : Int, en = .returned (.int .i64 v)) ∧ Below w.heap.size w w' := by
  have HC := Lib.hid (cur_new w A n c hB)
  clear hB
  go_enter Try.func6, Try.ntmps6
  go_wp2_with fail
  refine (asked_c _ w.heap.size A n c 0 HC.out hn (by omega)).mono ?_
  rintro e w1 ⟨⟨v, rfl⟩, -, g1⟩
  have B := below_cur g1
  go_wp2
  go_ret
  exact ⟨⟨_, rfl⟩, B⟩
set_option maxHeartbeats 1000000 in
theorem DrawSumOfSigns_c (w : World) (A : Option Addr) (n c : Nat) (hB : Byt w w.heap.size A n) (hn : n ≤ 4294967296) :
    Calls Try.prog 49 #[.slice A n c] w fun en w' => (∃ v : Int, en = .returned (.int .i64 v)) ∧ Below w.heap.size w w' := by
  have HC := Lib.hid (cur_new w A n c hB)
  clear hB
  go_enter Try.func49, Try.ntmps49
  go_wp2_with fail
  refine (upTo_c _ _ A n c 0 HC.out hn (by omega)).mono ?_
  rintro e w1 ⟨⟨v, rfl⟩, -, g1⟩
  have B := below_cur g1
  go_wp2
  go_ret
  exact ⟨⟨_, rfl⟩, B⟩
set_option maxHeartbeats 1000000 in
theorem DrawSquareFreeUpTo_c (w : World) (A : Option Addr) (n c : Nat) (hB : Byt w w.heap.size A n) (hn : n ≤ 4294967296) :
    Calls Try.prog 20 #[.slice A n c] w fun en w' => (∃ v : Int, en = .returned (.int .i64 v)) ∧ Below w.heap.size w w' := by
  go_enter Try.func20, Try.ntmps20
  go_wp2_with fail
  refine (DrawSumOfSigns_c _ A n c hB hn).mono ?_
  rintro e w1 ⟨⟨v, rfl⟩, B⟩
  go_wp2
  go_ret
  exact ⟨⟨_, rfl⟩, B⟩
set_option maxHeartbeats 1000000 in
theorem DrawSquareFreeOfRank_c (w : World) (A : Option Addr) (n c : Nat) (hB : Byt w w.heap.size A n) (hn : n ≤ 4294967296) :
    Calls Try.prog 27 #[.slice A n c] w fun en w' => (∃ v : Int, en = .returned (.int .i64 v)) ∧ Below w.heap.size w w' := by
  have HC := Lib.hid (cur_new w A n c hB)
  clear hB
  go_enter Try.func27, Try.ntmps27
  go_wp2_with fail
  refine (one_cur_c _ w.heap.size A n c 0 12 HC.out hn (by omega) (by omega) (by omega)).mono ?_
  rintro e w1 ⟨⟨x, rfl⟩, ⟨k1, hk1, hc1⟩, g1⟩
  have HC1 := Lib.hid hc1
  have hlt := hc1.lt
  clear hc1
  cases x with
  | true =>
    go_wp2_with fail
    refine (among_c _ w.heap.size A n c k1 w1.heap.size 4 _ [-1, 0, 300, 301] (HC1.out.alloc _) (Il_new _ _ _ _ _ rfl rfl) (by omega) hn (by omega) rfl (by omega) (by omega)).mono ?_
    rintro e w3 ⟨⟨u, rfl, _⟩, -, g3⟩
    have B := below_cur (grown_trans g1 (grown_trans (World.grownBy_alloc _ _ _) g3))
    go_wp2
    go_ret
    exact ⟨⟨_, rfl⟩, B⟩
  | false =>
    go_wp2_with fail
    refine (pick_c _ w.heap.size A n c k1 80 HC1.out hn (by omega) (by omega) (by omega)).mono ?_
    rintro e w3 ⟨⟨u, rfl, _⟩, -, g3⟩
    have B := below_cur (grown_trans g1 g3)
    go_wp2
    go_ret
    exact ⟨⟨_, rfl⟩, B⟩

end Go.Proofs.Ytehppjdiegoeeaa
