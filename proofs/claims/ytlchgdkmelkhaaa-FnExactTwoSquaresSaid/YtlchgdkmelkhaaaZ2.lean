import Derived.Test.YtlchgdkmelkhaaaZ1
import Derived.Test.YtlchgdkmelkhaaaU2
namespace Go.Proofs.Ytlchgdkmelkhaaa
open Go.RowKit
set_option linter.unusedVariables false
set_option linter.unusedSimpArgs false

theorem isAsked_c (n : Int) (w : World) :
    Calls Try.prog 70 #[.int .i64 n] w fun en w' => en = .returned (.bool (sqOk n)) ∧ w = w' := by
  by_cases h1 : 1 ≤ n
  · by_cases h2 : n ≤ 100000
    · rw [show sqOk n = true from inB_true.2 ⟨h1, h2⟩]
      go_enter Try.func70, Try.ntmps70
      go_wp2
      go_ret
      exact ⟨rfl, rfl⟩
    · rw [show sqOk n = false from inB_false.2 (by omega)]
      go_enter Try.func70, Try.ntmps70
      go_wp2
      go_ret
      exact ⟨rfl, rfl⟩
  · rw [show sqOk n = false from inB_false.2 (by omega)]
    go_enter Try.func70, Try.ntmps70
    go_wp2
    go_ret
    exact ⟨rfl, rfl⟩

set_option maxRecDepth 100000 in
set_option maxHeartbeats 400000 in
theorem told_IsSquareFree_c (w : World) (n : Int) :
    Calls Try.prog 65 #[.int .i64 n, .func (.func 66) #[] #[]] w fun en w' => en = .returned (.tuple #[.bool (isfV n), .bool (sqOk n)]) ∧ Below w.heap.size w w' := by
  cases hg : sqOk n with
  | false =>
    rw [isfV_no hg]
    have Hg := Lib.hid hg
    clear hg
    go_enter Try.func65, Try.ntmps65
    go_wp2_with fail
    refine (isAsked_c _ _).mono ?_
    rw [Hg.out]
    rintro e w1 ⟨rfl, rfl⟩
    go_wp2
    go_ret2
    exact ⟨rfl, Below.refl _ _⟩
  | true =>
    obtain ⟨n1, n9⟩ := inB_true.1 hg
    obtain ⟨N, rfl⟩ := Int.eq_ofNat_of_zero_le (Int.le_trans (by omega) n1)
    rw [isfV_yes hg]
    have Hg := Lib.hid hg
    have N1 : 1 ≤ N := by omega
    have N9 : N ≤ 200000 := by omega
    clear hg n1 n9
    go_enter Try.func65, Try.ntmps65
    go_wp2_with fail
    refine (isAsked_c _ _).mono ?_
    rw [Hg.out]
    rintro e w1 ⟨rfl, rfl⟩
    go_wp2_with fail
    refine (isSquareFree_c _ N N1 N9).mono ?_
    rintro e w2 ⟨rfl, b2⟩
    go_wp2
    go_ret2
    exact ⟨rfl, b2⟩
theorem impl_IsSquareFree_c (w : World) (n : Int) :
    Calls Try.prog 22 #[.int .i64 n] w fun en w' => en = .returned (.tuple #[.bool (isfV n), .bool (sqOk n)]) ∧ Below w.heap.size w w' := by
  go_enter Try.func22, Try.ntmps22
  go_wp2_with fail
  refine (told_IsSquareFree_c _ _).mono ?_
  rintro e w2 ⟨rfl, b2⟩
  go_wp2
  go_ret2
  exact ⟨rfl, b2⟩

set_option maxRecDepth 100000 in
set_option maxHeartbeats 400000 in
theorem told_SquarePart_c (w : World) (n : Int) :
    Calls Try.prog 67 #[.int .i64 n, .func (.func 68) #[] #[]] w fun en w' => en = .returned (.tuple #[.int .i64 (spV n), .bool (sqOk n)]) ∧ Below w.heap.size w w' := by
  cases hg : sqOk n with
  | false =>
    rw [spV_no hg]
    have Hg := Lib.hid hg
    clear hg
    go_enter Try.func67, Try.ntmps67
    go_wp2_with fail
    refine (isAsked_c _ _).mono ?_
    rw [Hg.out]
    rintro e w1 ⟨rfl, rfl⟩
    go_wp2
    go_ret2
    exact ⟨rfl, Below.refl _ _⟩
  | true =>
    obtain ⟨n1, n9⟩ := inB_true.1 hg
    obtain ⟨N, rfl⟩ := Int.eq_ofNat_of_zero_le (Int.le_trans (by omega) n1)
    rw [spV_yes hg]
    have Hg := Lib.hid hg
    have N1 : 1 ≤ N := by omega
    have N9 : N ≤ 200000 := by omega
    clear hg n1 n9
    go_enter Try.func67, Try.ntmps67
    go_wp2_with fail
    refine (isAsked_c _ _).mono ?_
    rw [Hg.out]
    rintro e w1 ⟨rfl, rfl⟩
    go_wp2_with fail
    refine (squarePart_c _ N N1 N9).mono ?_
    rintro e w2 ⟨rfl, b2⟩
    go_wp2
    go_ret2
    exact ⟨rfl, b2⟩
theorem impl_SquarePart_c (w : World) (n : Int) :
    Calls Try.prog 24 #[.int .i64 n] w fun en w' => en = .returned (.tuple #[.int .i64 (spV n), .bool (sqOk n)]) ∧ Below w.heap.size w w' := by
  go_enter Try.func24, Try.ntmps24
  go_wp2_with fail
  refine (told_SquarePart_c _ _).mono ?_
  rintro e w2 ⟨rfl, b2⟩
  go_wp2
  go_ret2
  exact ⟨rfl, b2⟩

set_option maxRecDepth 100000 in
set_option maxHeartbeats 400000 in
theorem told_FreeSign_c (w : World) (n : Int) :
    Calls Try.prog 67 #[.int .i64 n, .func (.func 73) #[] #[]] w fun en w' => en = .returned (.tuple #[.int .i64 (fsV n), .bool (sqOk n)]) ∧ Below w.heap.size w w' := by
  cases hg : sqOk n with
  | false =>
    rw [fsV_no hg]
    have Hg := Lib.hid hg
    clear hg
    go_enter Try.func67, Try.ntmps67
    go_wp2_with fail
    refine (isAsked_c _ _).mono ?_
    rw [Hg.out]
    rintro e w1 ⟨rfl, rfl⟩
    go_wp2
    go_ret2
    exact ⟨rfl, Below.refl _ _⟩
  | true =>
    obtain ⟨n1, n9⟩ := inB_true.1 hg
    obtain ⟨N, rfl⟩ := Int.eq_ofNat_of_zero_le (Int.le_trans (by omega) n1)
    rw [fsV_yes hg]
    have Hg := Lib.hid hg
    have N1 : 1 ≤ N := by omega
    have N9 : N ≤ 200000 := by omega
    clear hg n1 n9
    go_enter Try.func67, Try.ntmps67
    go_wp2_with fail
    refine (isAsked_c _ _).mono ?_
    rw [Hg.out]
    rintro e w1 ⟨rfl, rfl⟩
    go_wp2_with fail
    refine (sign_c _ N N1 N9).mono ?_
    rintro e w2 ⟨rfl, b2⟩
    go_wp2
    go_ret2
    exact ⟨rfl, b2⟩
theorem impl_FreeSign_c (w : World) (n : Int) :
    Calls Try.prog 28 #[.int .i64 n] w fun en w' => en = .returned (.tuple #[.int .i64 (fsV n), .bool (sqOk n)]) ∧ Below w.heap.size w w' := by
  go_enter Try.func28, Try.ntmps28
  go_wp2_with fail
  refine (told_FreeSign_c _ _).mono ?_
  rintro e w2 ⟨rfl, b2⟩
  go_wp2
  go_ret2
  exact ⟨rfl, b2⟩

set_option maxRecDepth 100000 in
set_option maxHeartbeats 400000 in
theorem impl_KernelOf_c (w : World) (n : Int) :
    Calls Try.prog 26 #[.int .i64 n] w fun en w' => en = .returned (.tuple #[.int .i64 (koV n), .bool (sqOk n)]) ∧ Below w.heap.size w w' := by
  cases hg : sqOk n with
  | false =>
    rw [koV_no hg]
    have Hg := Lib.hid hg
    clear hg
    go_enter Try.func26, Try.ntmps26
    go_wp2_with fail
    refine (isAsked_c _ _).mono ?_
    rw [Hg.out]
    rintro e w1 ⟨rfl, rfl⟩
    go_wp2
    go_ret2
    exact ⟨rfl, Below.refl _ _⟩
  | true =>
    obtain ⟨n1, n9⟩ := inB_true.1 hg
    obtain ⟨N, rfl⟩ := Int.eq_ofNat_of_zero_le (Int.le_trans (by omega) n1)
    have hr : raOk (N : Int) = true := inB_true.2 ⟨n1, by omega⟩
    rw [koV_yes hg]
    have Hg := Lib.hid hg
    have Hc := Lib.hid (fun W => impl_RadicalOf_c W (N : Int))
    rw [raV_yes hr, hr] at Hc
    clear hg n1 n9 hr
    go_enter Try.func26, Try.ntmps26
    go_wp2_with fail
    refine (isAsked_c _ _).mono ?_
    rw [Hg.out]
    rintro e w1 ⟨rfl, rfl⟩
    go_wp2_with fail
    refine (Hc.out _).mono ?_
    rintro e w2 ⟨rfl, b2⟩
    go_wp2
    go_ret2
    exact ⟨rfl, b2⟩

set_option maxRecDepth 100000 in
set_option maxHeartbeats 400000 in
theorem nextSquareFree_c (w : World) (N : Nat) (h1 : 1 ≤ N) (h9 : N ≤ 100002) :
    Calls Try.prog 81 #[.int .i64 (N : Int)] w fun e w' => e = .returned (.int .i64 (nsF (N + 1) : Int)) ∧ Below w.heap.size w w' := by
  obtain ⟨T, hT⟩ : ∃ T, nsF (N + 1) = T := ⟨_, rfl⟩
  rw [hT]
  have HT := Lib.hid hT
  clear hT
  go_enter Try.func81, Try.ntmps81
  go_wp2
  go_loopw [3] (fun i wr => ∃ x : Nat, i = .int .i64 (x : Int) ∧ N + 1 ≤ x ∧ x ≤ 100003 ∧ nsF x = T ∧ Below w.heap.size w wr) (fun i _ => 100004 - (intOf i).toNat)
  case atStart => exact ⟨N + 1, by go_num, Nat.le_refl _, by omega, HT.out, Below.refl _ _⟩
  case round =>
    obtain ⟨x, rfl, hx1, hx9, hT, hbel⟩ := hrel
    have hs := hbel.size
    have Hc := Lib.hid (fun W => isSquareFree_c W x (by omega) (by omega))
    cases hs2 : sfB x with
    | true =>
      have hxT : x = T := by rw [← hT, nsF_yes hs2]
      have HxT := Lib.hid hxT
      have Hs2 := Lib.hid hs2
      clear hT hs2 hxT
      go_wp2_with fail
      refine (Hc.out _).mono ?_
      rw [Hs2.out]
      rintro e w1 ⟨rfl, b1⟩
      go_wp2
      go_ret
      exact ⟨by rw [← HxT.out]; rfl, hbel.trans (b1.mono hs)⟩
    | false =>
      obtain ⟨e1, e2⟩ := nsF_no hx9 hs2
      have He := Lib.hid (e1.symm.trans hT)
      have Hs2 := Lib.hid hs2
      clear hT hs2 e1
      go_wp2_with fail
      refine (Hc.out _).mono ?_
      rw [Hs2.out]
      rintro e w1 ⟨rfl, b1⟩
      go_wp2
      go_roundw
      case rel => exact ⟨x + 1, by go_num, by omega, by omega, He.out, hbel.trans (b1.mono hs)⟩
      case measure => simp [intOf]; omega

set_option maxRecDepth 100000 in
set_option maxHeartbeats 400000 in
theorem told_NextSquareFree_c (w : World) (n : Int) :
    Calls Try.prog 67 #[.int .i64 n, .func (.func 81) #[] #[]] w fun en w' => en = .returned (.tuple #[.int .i64 (nqV n), .bool (sqOk n)]) ∧ Below w.heap.size w w' := by
  cases hg : sqOk n with
  | false =>
    rw [nqV_no hg]
    have Hg := Lib.hid hg
    clear hg
    go_enter Try.func67, Try.ntmps67
    go_wp2_with fail
    refine (isAsked_c _ _).mono ?_
    rw [Hg.out]
    rintro e w1 ⟨rfl, rfl⟩
    go_wp2
    go_ret2
    exact ⟨rfl, Below.refl _ _⟩
  | true =>
    obtain ⟨n1, n9⟩ := inB_true.1 hg
    obtain ⟨N, rfl⟩ := Int.eq_ofNat_of_zero_le (Int.le_trans (by omega) n1)
    rw [nqV_yes hg]
    have Hg := Lib.hid hg
    have N1 : 1 ≤ N := by omega
    have N9 : N ≤ 100002 := by omega
    clear hg n1 n9
    go_enter Try.func67, Try.ntmps67
    go_wp2_with fail
    refine (isAsked_c _ _).mono ?_
    rw [Hg.out]
    rintro e w1 ⟨rfl, rfl⟩
    go_wp2_with fail
    refine (nextSquareFree_c _ N N1 N9).mono ?_
    rintro e w2 ⟨rfl, b2⟩
    go_wp2
    go_ret2
    exact ⟨rfl, b2⟩
theorem impl_NextSquareFree_c (w : World) (n : Int) :
    Calls Try.prog 41 #[.int .i64 n] w fun en w' => en = .returned (.tuple #[.int .i64 (nqV n), .bool (sqOk n)]) ∧ Below w.heap.size w w' := by
  go_enter Try.func41, Try.ntmps41
  go_wp2_with fail
  refine (told_NextSquareFree_c _ _).mono ?_
  rintro e w2 ⟨rfl, b2⟩
  go_wp2
  go_ret2
  exact ⟨rfl, b2⟩

set_option maxRecDepth 100000 in
set_option maxHeartbeats 400000 in
theorem impl_SumOfSigns_c (w : World) (n : Int) :
    Calls Try.prog 30 #[.int .i64 n] w fun en w' => en = .returned (.tuple #[.int .i64 (ssV n), .bool (ssOk n)]) ∧ Below w.heap.size w w' := by
  by_cases hg : 1 ≤ n
  rotate_left
  · skip
    have ho : ssOk n = false := inB_false.2 (by omega)
    rw [ssV_no ho, ho]
    clear ho
    go_enter Try.func30, Try.ntmps30
    go_wp2
    go_ret2
    exact ⟨rfl, (Below.refl _ _)⟩
  · skip
    by_cases hg2 : n ≤ 600
    rotate_left
    · skip
      have ho : ssOk n = false := inB_false.2 (by omega)
      rw [ssV_no ho, ho]
      clear ho
      go_enter Try.func30, Try.ntmps30
      go_wp2
      go_ret2
      exact ⟨rfl, (Below.refl _ _)⟩
    · skip
      have ho : ssOk n = true := inB_true.2 ⟨by omega, by omega⟩
      obtain ⟨N, rfl⟩ := Int.eq_ofNat_of_zero_le (show 0 ≤ n by omega)
      rw [ssV_yes ho, ho]
      clear ho
      have N1 : 1 ≤ N := by omega
      have N9 : N ≤ 600 := by omega
      go_enter Try.func30, Try.ntmps30
      go_wp2
      go_loopw [4, 5] (fun v i wr => ∃ k : Nat, k ≤ N ∧ i = .int .i64 ((k : Int) + 1) ∧ v = .int .i64 (sgS k) ∧ Below w.heap.size w wr) (fun _ i _ => 603 - (intOf i).toNat)
      case atStart => exact ⟨0, Nat.zero_le _, rfl, rfl, Below.refl _ _⟩
      case round =>
        obtain ⟨k, hk, rfl, rfl, hbel⟩ := hrel
        have hs := hbel.size
        have hb := sgS_bound k
        by_cases hlt : k < N
        · have hb2 := sgF_bound (k + 1)
          have Hc := Lib.hid (fun W => sign_c W (k + 1) (by omega) (by omega))
          rw [show ((k + 1 : Nat) : Int) = (k : Int) + 1 by omega] at Hc
          obtain ⟨S, hS⟩ : ∃ S, sgS k = S := ⟨_, rfl⟩
          obtain ⟨G, hG⟩ : ∃ G, sgF (k + 1) = G := ⟨_, rfl⟩
          have Hst := Lib.hid (show sgS (k + 1) = S + G by rw [sgS, hS, hG])
          rw [hS] at hb ⊢
          rw [hG] at hb2 Hc
          clear hS hG
          go_wp2_with fail
          refine (Hc.out _).mono ?_
          rintro e w1 ⟨rfl, b1⟩
          go_wp2
          go_roundw
          case rel => exact ⟨k + 1, by omega, by go_num, by rw [Hst.out], hbel.trans (b1.mono hs)⟩
          case measure => simp [intOf]; omega
        · have Hk := Lib.hid (show k = N by omega)
          go_wp2
          go_ret2
          exact ⟨by rw [← Hk.out]; rfl, hbel⟩

end Go.Proofs.Ytlchgdkmelkhaaa
