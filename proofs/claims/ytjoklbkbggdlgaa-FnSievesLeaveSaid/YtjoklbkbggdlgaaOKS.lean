import Derived.Test.YtjoklbkbggdlgaaOKD
namespace Go.Proofs.Ytjoklbkbggdlgaa
open Go.RowKit
set_option maxRecDepth 100000
set_option linter.unusedVariables false
set_option linter.unusedSimpArgs false

set_option maxHeartbeats 1000000 in
theorem signed_c (w : World) (bp : Nat) (A : Option Addr) (n c k : Nat) (h : Cur w bp A n c k) (hn : n ≤ 4294967296) (hk : k ≤ 4294967200) :
    Calls Try.prog 80 #[.pointer (some ⟨bp, 0, none⟩)] w fun en w' => (∃ v : Int, en = .returned (.int .i64 v)) ∧ (∃ k', k' ≤ k + 8 ∧ Cur w' bp A n c k') ∧ w.grownBy w' (some bp) := by
  have HC := Lib.hid h
  clear h
  go_enter Try.func80, Try.ntmps80
  go_wp2_with fail
  refine (one_cur_c _ bp A n c k 12 HC.out hn (by omega) (by omega) (by omega)).mono ?_
  rintro e w1 ⟨⟨x, rfl⟩, ⟨k1, hk1, hc1⟩, g1⟩
  have HC1 := Lib.hid hc1
  clear hc1
  cases x with
  | true =>
    go_wp2_with fail
    refine (among_c _ bp A n c k1 _ 5 _ [-601, -600, 600, 601, 4611686018427387904] (HC1.out.alloc _) (Il_alloc _ _ _ _ rfl) (by have := HC1.out.lt; omega) hn (by omega) rfl (by omega) (by omega)).mono ?_
    rintro e w2 ⟨⟨v, rfl, _⟩, ⟨k2, hk2, hc2⟩, g2⟩
    have HC2 := Lib.hid hc2
    clear hc2
    go_wp2
    go_ret
    exact ⟨⟨_, rfl⟩, ⟨k2, by omega, HC2.out⟩, grown_trans g1 (grown_trans (World.grownBy_alloc _ _ _) g2)⟩
  | false =>
    go_wp2_with fail
    refine (pick_c _ bp A n c k1 121 HC1.out hn (by omega) (by omega) (by omega)).mono ?_
    rintro e w3 ⟨⟨v, rfl, hv⟩, ⟨k3, hk3, hc3⟩, g3⟩
    have HC3 := Lib.hid hc3
    clear hc3
    go_wp2
    go_ret
    exact ⟨⟨_, rfl⟩, ⟨k3, by omega, HC3.out⟩, grown_trans g1 g3⟩
set_option maxHeartbeats 1000000 in
theorem DrawLeftUpTo_c (w : World) (A : Option Addr) (n c : Nat) (hB : Byt w w.heap.size A n) (hn : n ≤ 4294967296) :
    Calls Try.prog 6 #[.slice A n c] w fun en w' => (∃ v rs u1, en = .returned (.tuple #[v, .int .i64 u1]) ∧ OwnR w' w.heap.size v rs ∧ rs.length ≤ 20) ∧ Below w.heap.size w w' := by
  have HC := Lib.hid (cur_new w A n c hB)
  clear hB
  go_enter Try.func6, Try.ntmps6
  go_wp2_with fail
  refine (rules_c _ w.heap.size A n c 0 HC.out hn (by omega)).mono ?_
  rintro e w2 ⟨⟨v, rs, rfl, o2, hl⟩, ⟨k2, hk2, hc2⟩, g2⟩
  have HC2 := Lib.hid hc2
  have hs2 := g2.size
  have O2 := Lib.hid o2
  clear hc2 o2
  go_wp2_with fail
  refine (upTo_c _ w.heap.size A n c k2 HC2.out hn (by omega)).mono ?_
  rintro e w3 ⟨⟨x, rfl⟩, ⟨k3, hk3, hc3⟩, g3⟩
  have HC3 := Lib.hid hc3
  have hs3 := g3.size
  have O3 := Lib.hid (O2.out.grownK g3 (by simp))
  clear hc3
  have B9 := below_cur (grown_trans g2 g3)
  have O9 := OwnR.mono O3.out (show w.heap.size ≤ _ by simp)
  go_wp2
  go_ret2
  refine ⟨?_, B9⟩
  first | exact ⟨_, _, _, rfl, O9, hl⟩ | exact ⟨_, _, rfl, _, O9, hl⟩ | exact ⟨_, _, _, ⟨rfl, rfl⟩, O9, hl⟩ | exact ⟨_, _, _, ⟨rfl, rfl⟩, O9, hl⟩
set_option maxHeartbeats 1000000 in
theorem DrawIsLeft_c (w : World) (A : Option Addr) (n c : Nat) (hB : Byt w w.heap.size A n) (hn : n ≤ 4294967296) :
    Calls Try.prog 60 #[.slice A n c] w fun en w' => (∃ v rs u1, en = .returned (.tuple #[v, .int .i64 u1]) ∧ OwnR w' w.heap.size v rs ∧ rs.length ≤ 20) ∧ Below w.heap.size w w' := by
  have HC := Lib.hid (cur_new w A n c hB)
  clear hB
  go_enter Try.func60, Try.ntmps60
  go_wp2_with fail
  refine (rules_c _ w.heap.size A n c 0 HC.out hn (by omega)).mono ?_
  rintro e w2 ⟨⟨v, rs, rfl, o2, hl⟩, ⟨k2, hk2, hc2⟩, g2⟩
  have HC2 := Lib.hid hc2
  have hs2 := g2.size
  have O2 := Lib.hid o2
  clear hc2 o2
  go_wp2_with fail
  refine (signed_c _ w.heap.size A n c k2 HC2.out hn (by omega)).mono ?_
  rintro e w3 ⟨⟨x, rfl⟩, ⟨k3, hk3, hc3⟩, g3⟩
  have HC3 := Lib.hid hc3
  have hs3 := g3.size
  have O3 := Lib.hid (O2.out.grownK g3 (by simp))
  clear hc3
  have B9 := below_cur (grown_trans g2 g3)
  have O9 := OwnR.mono O3.out (show w.heap.size ≤ _ by simp)
  go_wp2
  go_ret2
  refine ⟨?_, B9⟩
  first | exact ⟨_, _, _, rfl, O9, hl⟩ | exact ⟨_, _, rfl, _, O9, hl⟩ | exact ⟨_, _, _, ⟨rfl, rfl⟩, O9, hl⟩ | exact ⟨_, _, _, ⟨rfl, rfl⟩, O9, hl⟩
set_option maxHeartbeats 1000000 in
theorem DrawNextLeft_c (w : World) (A : Option Addr) (n c : Nat) (hB : Byt w w.heap.size A n) (hn : n ≤ 4294967296) :
    Calls Try.prog 26 #[.slice A n c] w fun en w' => (∃ v rs u1, en = .returned (.tuple #[v, .int .i64 u1]) ∧ OwnR w' w.heap.size v rs ∧ rs.length ≤ 20) ∧ Below w.heap.size w w' := by
  go_enter Try.func26, Try.ntmps26
  go_wp2_with fail
  refine (DrawIsLeft_c _ A n c hB hn).mono ?_
  rintro e w1 ⟨⟨v, rs, u, rfl, O9, hl⟩, B9⟩
  go_wp2
  go_ret2
  refine ⟨?_, B9⟩
  first | exact ⟨_, _, _, rfl, O9, hl⟩ | exact ⟨_, _, rfl, _, O9, hl⟩ | exact ⟨_, _, _, ⟨rfl, rfl⟩, O9, hl⟩
set_option maxHeartbeats 1000000 in
theorem DrawCountBetween_c (w : World) (A : Option Addr) (n c : Nat) (hB : Byt w w.heap.size A n) (hn : n ≤ 4294967296) :
    Calls Try.prog 21 #[.slice A n c] w fun en w' => (∃ v rs u1 u2, en = .returned (.tuple #[v, .int .i64 u1, .int .i64 u2]) ∧ OwnR w' w.heap.size v rs ∧ rs.length ≤ 20) ∧ Below w.heap.size w w' := by
  have HC := Lib.hid (cur_new w A n c hB)
  clear hB
  go_enter Try.func21, Try.ntmps21
  go_wp2_with fail
  refine (rules_c _ w.heap.size A n c 0 HC.out hn (by omega)).mono ?_
  rintro e w2 ⟨⟨v, rs, rfl, o2, hl⟩, ⟨k2, hk2, hc2⟩, g2⟩
  have HC2 := Lib.hid hc2
  have hs2 := g2.size
  have O2 := Lib.hid o2
  clear hc2 o2
  go_wp2_with fail
  refine (upTo_c _ w.heap.size A n c k2 HC2.out hn (by omega)).mono ?_
  rintro e w3 ⟨⟨x, rfl⟩, ⟨k3, hk3, hc3⟩, g3⟩
  have HC3 := Lib.hid hc3
  have hs3 := g3.size
  have O3 := Lib.hid (O2.out.grownK g3 (by simp))
  clear hc3
  go_wp2_with fail
  refine (upTo_c _ w.heap.size A n c k3 HC3.out hn (by omega)).mono ?_
  rintro e w4 ⟨⟨y, rfl⟩, ⟨k4, hk4, hc4⟩, g4⟩
  have HC4 := Lib.hid hc4
  have hs4 := g4.size
  have O4 := Lib.hid (O3.out.grownK g4 (by simp))
  clear hc4
  have B9 := below_cur (grown_trans g2 (grown_trans g3 g4))
  have O9 := OwnR.mono O4.out (show w.heap.size ≤ _ by simp)
  go_wp2
  go_ret3
  refine ⟨?_, B9⟩
  first | exact ⟨_, _, _, _, rfl, O9, hl⟩ | exact ⟨_, _, _, rfl, _, O9, hl⟩ | exact ⟨_, _, _, _, ⟨rfl, rfl, rfl⟩, O9, hl⟩ | exact ⟨_, _, _, _, ⟨rfl, rfl, rfl⟩, O9, hl⟩
set_option maxHeartbeats 1000000 in
theorem DrawCrossedBy_c (w : World) (A : Option Addr) (n c : Nat) (hB : Byt w w.heap.size A n) (hn : n ≤ 4294967296) :
    Calls Try.prog 29 #[.slice A n c] w fun en w' => (∃ v rs u1 u2, en = .returned (.tuple #[v, .int .i64 u1, .int .i64 u2]) ∧ OwnR w' w.heap.size v rs ∧ rs.length ≤ 20) ∧ Below w.heap.size w w' := by
  have HC := Lib.hid (cur_new w A n c hB)
  clear hB
  go_enter Try.func29, Try.ntmps29
  go_wp2_with fail
  refine (rules_c _ w.heap.size A n c 0 HC.out hn (by omega)).mono ?_
  rintro e w2 ⟨⟨v, rs, rfl, o2, hl⟩, ⟨k2, hk2, hc2⟩, g2⟩
  have HC2 := Lib.hid hc2
  have hs2 := g2.size
  have O2 := Lib.hid o2
  clear hc2 o2
  go_wp2_with fail
  refine (pick_c _ w.heap.size A n c k2 5 HC2.out hn (by omega) (by omega) (by omega)).mono ?_
  rintro e w3 ⟨⟨x, rfl, hx⟩, ⟨k3, hk3, hc3⟩, g3⟩
  have HC3 := Lib.hid hc3
  have hs3 := g3.size
  have O3 := Lib.hid (O2.out.grownK g3 (by simp))
  clear hc3
  go_wp2_with fail
  refine (pick_c _ w.heap.size A n c k3 9 HC3.out hn (by omega) (by omega) (by omega)).mono ?_
  rintro e w4 ⟨⟨y, rfl, hy⟩, ⟨k4, hk4, hc4⟩, g4⟩
  have HC4 := Lib.hid hc4
  have hs4 := g4.size
  have O4 := Lib.hid (O3.out.grownK g4 (by simp))
  clear hc4
  go_wp2_with fail
  refine (upTo_c _ w.heap.size A n c k4 HC4.out hn (by omega)).mono ?_
  rintro e w5 ⟨⟨z, rfl⟩, ⟨k5, hk5, hc5⟩, g5⟩
  have HC5 := Lib.hid hc5
  have hs5 := g5.size
  have O5 := Lib.hid (O4.out.grownK g5 (by simp))
  clear hc5
  have B9 := below_cur (grown_trans g2 (grown_trans g3 (grown_trans g4 g5)))
  have O9 := OwnR.mono O5.out (show w.heap.size ≤ _ by simp)
  go_wp2
  go_ret3
  refine ⟨?_, B9⟩
  first | exact ⟨_, _, _, _, rfl, O9, hl⟩ | exact ⟨_, _, _, rfl, _, O9, hl⟩ | exact ⟨_, _, _, _, ⟨rfl, rfl, rfl⟩, O9, hl⟩ | exact ⟨_, _, _, _, ⟨rfl, rfl, rfl⟩, O9, hl⟩
set_option maxHeartbeats 1000000 in
theorem DrawLeftOfRank_c (w : World) (A : Option Addr) (n c : Nat) (hB : Byt w w.heap.size A n) (hn : n ≤ 4294967296) :
    Calls Try.prog 24 #[.slice A n c] w fun en w' => (∃ v rs u1, en = .returned (.tuple #[v, .int .i64 u1]) ∧ OwnR w' w.heap.size v rs ∧ rs.length ≤ 20) ∧ Below w.heap.size w w' := by
  have HC := Lib.hid (cur_new w A n c hB)
  clear hB
  go_enter Try.func24, Try.ntmps24
  go_wp2_with fail
  refine (one_cur_c _ w.heap.size A n c 0 12 HC.out hn (by omega) (by omega) (by omega)).mono ?_
  rintro e w1 ⟨⟨b, rfl⟩, ⟨k1, hk1, hc1⟩, g1⟩
  have HC1 := Lib.hid hc1
  have hs1 := g1.size
  rw [World.size_alloc] at hs1
  clear hc1
  cases b with
  | true =>
    go_wp2_with fail
    refine (rules_c _ w.heap.size A n c k1 HC1.out hn (by omega)).mono ?_
    rintro e w2 ⟨⟨v, rs, rfl, o2, hl⟩, ⟨k2, hk2, hc2⟩, g2⟩
    have HC2 := Lib.hid hc2
    have hs2 := g2.size
    have O2 := Lib.hid o2
    clear hc2 o2
    go_wp2_with fail
    refine (among_c _ w.heap.size A n c k2 w2.heap.size 4 _ [-1, 599, 600, 4611686018427387904] (HC2.out.alloc _) (Il_new _ _ _ _ _ rfl rfl) (by omega) hn (by omega) rfl (by omega) (by omega)).mono ?_
    rintro e w3 ⟨⟨u, rfl, _⟩, -, g3⟩
    have g3' := grown_trans (World.grownBy_alloc w2 _ (some w.heap.size)) g3
    have O3 := Lib.hid (O2.out.grownK g3' (by omega))
    have B9 := below_cur (grown_trans g1 (grown_trans g2 g3'))
    have O9 := OwnR.mono O3.out (show w.heap.size ≤ w1.heap.size by omega)
    go_wp2
    go_ret2
    refine ⟨?_, B9⟩
    first | exact ⟨_, _, _, rfl, O9, hl⟩ | exact ⟨_, _, rfl, _, O9, hl⟩ | exact ⟨_, _, _, ⟨rfl, rfl⟩, O9, hl⟩ | exact ⟨_, _, _, ⟨rfl, rfl⟩, O9, hl⟩
  | false =>
    go_wp2_with fail
    refine (rules_c _ w.heap.size A n c k1 HC1.out hn (by omega)).mono ?_
    rintro e w2 ⟨⟨v, rs, rfl, o2, hl⟩, ⟨k2, hk2, hc2⟩, g2⟩
    have HC2 := Lib.hid hc2
    have hs2 := g2.size
    have O2 := Lib.hid o2
    clear hc2 o2
    go_wp2_with fail
    refine (pick_c _ w.heap.size A n c k2 60 HC2.out hn (by omega) (by omega) (by omega)).mono ?_
    rintro e w3 ⟨⟨x, rfl, hx⟩, ⟨k3, hk3, hc3⟩, g3⟩
    have HC3 := Lib.hid hc3
    have hs3 := g3.size
    have O3 := Lib.hid (O2.out.grownK g3 (by omega))
    clear hc3
    have B9 := below_cur (grown_trans g1 (grown_trans g2 g3))
    have O9 := OwnR.mono O3.out (show w.heap.size ≤ w1.heap.size by omega)
    go_wp2
    go_ret2
    refine ⟨?_, B9⟩
    first | exact ⟨_, _, _, rfl, O9, hl⟩ | exact ⟨_, _, rfl, _, O9, hl⟩ | exact ⟨_, _, _, ⟨rfl, rfl⟩, O9, hl⟩ | exact ⟨_, _, _, ⟨rfl, rfl⟩, O9, hl⟩

end Go.Proofs.Ytjoklbkbggdlgaa
