import Derived.Test.YtehppjdiegoeeaaZ1
import Derived.Test.YtehppjdiegoeeaaPC
import Derived.Test.YtehppjdiegoeeaaU2
namespace Go.Proofs.Ytehppjdiegoeeaa
open Go.RowKit
set_option linter.unusedVariables false
set_option linter.unusedSimpArgs false

theorem isAsked_c (n : Int) (w : World) :
    Calls Try.prog 40 #[.int .i64 n] w fun en w' => en = .returned (.bool (sqOk n)) ∧ w = w' := by
  by_cases h1 : 1 ≤ n
  · by_cases h2 : n ≤ 100000
    · rw [show sqOk n = true from inB_true.2 ⟨h1, h2⟩]
      go_enter Try.func40, Try.ntmps40
      go_wp2
      go_ret
      exact ⟨rfl, rfl⟩
    · rw [show sqOk n = false from inB_false.2 (by omega)]
      go_enter Try.func40, Try.ntmps40
      go_wp2
      go_ret
      exact ⟨rfl, rfl⟩
  · rw [show sqOk n = false from inB_false.2 (by omega)]
    go_enter Try.func40, Try.ntmps40
    go_wp2
    go_ret
    exact ⟨rfl, rfl⟩

set_option maxRecDepth 100000 in
set_option maxHeartbeats 400000 in
theorem told_IsSquareFree_c (w : World) (n : Int) :
    Calls Try.prog 34 #[.int .i64 n, .func (.func 35) #[] #[]] w fun en w' => en = .returned (.tuple #[.bool (isfV n), .bool (sqOk n)]) ∧ Below w.heap.size w w' := by
  have Hc := Lib.hid (fun W => toldB_c W n 100000 (by omega) 35 (fun N => sfB N) (fun _ _ => rfl) fun W N a b => isSquareFree_c W N a (by omega))
  go_enter Try.func34, Try.ntmps34
  go_wp2_with fail
  refine (Hc.out _).mono ?_
  rintro e w2 ⟨rfl, b2⟩
  go_wp2
  go_ret2
  exact ⟨rfl, b2⟩
theorem impl_IsSquareFree_c (w : World) (n : Int) :
    Calls Try.prog 7 #[.int .i64 n] w fun en w' => en = .returned (.tuple #[.bool (isfV n), .bool (sqOk n)]) ∧ Below w.heap.size w w' := by
  go_enter Try.func7, Try.ntmps7
  go_wp2_with fail
  refine (told_IsSquareFree_c _ _).mono ?_
  rintro e w2 ⟨rfl, b2⟩
  go_wp2
  go_ret2
  exact ⟨rfl, b2⟩

set_option maxRecDepth 100000 in
set_option maxHeartbeats 400000 in
theorem told_SquarePart_c (w : World) (n : Int) :
    Calls Try.prog 38 #[.int .i64 n, .func (.func 39) #[] #[]] w fun en w' => en = .returned (.tuple #[.int .i64 (spV n), .bool (sqOk n)]) ∧ Below w.heap.size w w' := by
  have Hc := Lib.hid (fun W => toldI_c W n 100000 (by omega) 39 (fun N => (sqG N : Int)) (fun _ _ => rfl) fun W N a b => squarePart_c W N a (by omega))
  go_enter Try.func38, Try.ntmps38
  go_wp2_with fail
  refine (Hc.out _).mono ?_
  rintro e w2 ⟨rfl, b2⟩
  go_wp2
  go_ret2
  exact ⟨rfl, b2⟩
theorem impl_SquarePart_c (w : World) (n : Int) :
    Calls Try.prog 9 #[.int .i64 n] w fun en w' => en = .returned (.tuple #[.int .i64 (spV n), .bool (sqOk n)]) ∧ Below w.heap.size w w' := by
  go_enter Try.func9, Try.ntmps9
  go_wp2_with fail
  refine (told_SquarePart_c _ _).mono ?_
  rintro e w2 ⟨rfl, b2⟩
  go_wp2
  go_ret2
  exact ⟨rfl, b2⟩

set_option maxRecDepth 100000 in
set_option maxHeartbeats 400000 in
theorem told_FreeSign_c (w : World) (n : Int) :
    Calls Try.prog 38 #[.int .i64 n, .func (.func 43) #[] #[]] w fun en w' => en = .returned (.tuple #[.int .i64 (fsV n), .bool (sqOk n)]) ∧ Below w.heap.size w w' := by
  have Hc := Lib.hid (fun W => toldI_c W n 100000 (by omega) 43 (fun N => sgF N) (fun _ _ => rfl) fun W N a b => sign_c W N a (by omega))
  go_enter Try.func38, Try.ntmps38
  go_wp2_with fail
  refine (Hc.out _).mono ?_
  rintro e w2 ⟨rfl, b2⟩
  go_wp2
  go_ret2
  exact ⟨rfl, b2⟩
theorem impl_FreeSign_c (w : World) (n : Int) :
    Calls Try.prog 13 #[.int .i64 n] w fun en w' => en = .returned (.tuple #[.int .i64 (fsV n), .bool (sqOk n)]) ∧ Below w.heap.size w w' := by
  go_enter Try.func13, Try.ntmps13
  go_wp2_with fail
  refine (told_FreeSign_c _ _).mono ?_
  rintro e w2 ⟨rfl, b2⟩
  go_wp2
  go_ret2
  exact ⟨rfl, b2⟩

set_option maxRecDepth 100000 in
set_option maxHeartbeats 400000 in
theorem impl_KernelOf_c (w : World) (n : Int) :
    Calls Try.prog 11 #[.int .i64 n] w fun en w' => en = .returned (.tuple #[.int .i64 (koV n), .bool (sqOk n)]) ∧ Below w.heap.size w w' := by
  cases hg : sqOk n with
  | false =>
    rw [koV_no hg]
    have Hg := Lib.hid hg
    clear hg
    go_enter Try.func11, Try.ntmps11
    go_wp2_with fail
    refine (isAsked_c _ _).mono ?_
    rw [Hg.out]
    rintro e w1 ⟨rfl, rfl⟩
    go_wp2
    go_ret2
    exact ⟨rfl, Below.refl _ _⟩
  | true =>
    obtain ⟨n1, n9⟩ := inB_true.1 hg
    obtain ⟨N, rfl⟩ := Int.eq_ofNat_of_zero_le (Int.le_trans (by omega) n1)
    have hr : raOk (N : Int) = true := inB_true.2 ⟨n1, by omega⟩
    rw [koV_yes hg]
    have Hg := Lib.hid hg
    have Hc := Lib.hid (fun W => impl_RadicalOf_c W (N : Int))
    rw [raV_yes hr, hr] at Hc
    clear hg n1 n9 hr
    go_enter Try.func11, Try.ntmps11
    go_wp2_with fail
    refine (isAsked_c _ _).mono ?_
    rw [Hg.out]
    rintro e w1 ⟨rfl, rfl⟩
    go_wp2_with fail
    refine (Hc.out _).mono ?_
    rintro e w2 ⟨rfl, b2⟩
    go_wp2
    go_ret2
    exact ⟨rfl, b2⟩

set_option maxRecDepth 100000 in
set_option maxHeartbeats 400000 in
theorem nextSquareFree_c (w : World) (N : Nat) (h1 : 1 ≤ N) (h9 : N ≤ 100002) :
    Calls Try.prog 47 #[.int .i64 (N : Int)] w fun e w' => e = .returned (.int .i64 (nsF (N + 1) : Int)) ∧ Below w.heap.size w w' := by
  obtain ⟨T, hT⟩ : ∃ T, nsF (N + 1) = T := ⟨_, rfl⟩
  rw [hT]
  have HT := Lib.hid hT
  clear hT
  go_enter Try.func47, Try.ntmps47
  go_wp2
  go_loopw [3] (fun i wr => ∃ x : Nat, i = .int .i64 (x : Int) ∧ N + 1 ≤ x ∧ x ≤ 100003 ∧ nsF x = T ∧ Below w.heap.size w wr) (fun i _ => 100004 - (intOf i).toNat)
  case atStart => exact ⟨N + 1, by go_num, Nat.le_refl _, by omega, HT.out, Below.refl _ _⟩
  case round =>
    obtain ⟨x, rfl, hx1, hx9, hT, hbel⟩ := hrel
    have hs := hbel.size
    have Hc := Lib.hid (fun W => isSquareFree_c W x (by omega) (by omega))
    cases hs2 : sfB x with
    | true =>
      have hxT : x = T := by rw [← hT, nsF_yes hs2]
      have HxT := Lib.hid hxT
      have Hs2 := Lib.hid hs2
      clear hT hs2 hxT
      go_wp2_with fail
      refine (Hc.out _).mono ?_
      rw [Hs2.out]
      rintro e w1 ⟨rfl, b1⟩
      go_wp2
      go_ret
      exact ⟨by rw [← HxT.out]; rfl, hbel.trans (b1.mono hs)⟩
    | false =>
      obtain ⟨e1, e2⟩ := nsF_no hx9 hs2
      have He := Lib.hid (e1.symm.trans hT)
      have Hs2 := Lib.hid hs2
      clear hT hs2 e1
      go_wp2_with fail
      refine (Hc.out _).mono ?_
      rw [Hs2.out]
      rintro e w1 ⟨rfl, b1⟩
      go_wp2
      go_roundw
      case rel => exact ⟨x + 1, by go_num, by omega, by omega, He.out, hbel.trans (b1.mono hs)⟩
      case measure => simp [intOf]; omega

set_option maxRecDepth 100000 in
set_option maxHeartbeats 400000 in
theorem told_NextSquareFree_c (w : World) (n : Int) :
    Calls Try.prog 38 #[.int .i64 n, .func (.func 47) #[] #[]] w fun en w' => en = .returned (.tuple #[.int .i64 (nqV n), .bool (sqOk n)]) ∧ Below w.heap.size w w' := by
  have Hc := Lib.hid (fun W => toldI_c W n 100000 (by omega) 47 (fun N => (nsF (N + 1) : Int)) (fun _ _ => rfl) fun W N a b => nextSquareFree_c W N a (by omega))
  go_enter Try.func38, Try.ntmps38
  go_wp2_with fail
  refine (Hc.out _).mono ?_
  rintro e w2 ⟨rfl, b2⟩
  go_wp2
  go_ret2
  exact ⟨rfl, b2⟩
theorem impl_NextSquareFree_c (w : World) (n : Int) :
    Calls Try.prog 17 #[.int .i64 n] w fun en w' => en = .returned (.tuple #[.int .i64 (nqV n), .bool (sqOk n)]) ∧ Below w.heap.size w w' := by
  go_enter Try.func17, Try.ntmps17
  go_wp2_with fail
  refine (told_NextSquareFree_c _ _).mono ?_
  rintro e w2 ⟨rfl, b2⟩
  go_wp2
  go_ret2
  exact ⟨rfl, b2⟩

set_option maxRecDepth 100000 in
set_option maxHeartbeats 400000 in
theorem impl_SumOfSigns_c (w : World) (n : Int) :
    Calls Try.prog 25 #[.int .i64 n] w fun en w' => en = .returned (.tuple #[.int .i64 (ssV n), .bool (ssOk n)]) ∧ Below w.heap.size w w' := by
  have Hc := Lib.hid (fun W => sumTold_c W n 43 (fun N => sgF N) (fun N => sgS N) (fun _ _ => rfl) rfl (fun k => rfl) (fun k hk => by have := sgS_bound k; omega) fun W N a b => sign_c W N a (by omega))
  go_enter Try.func25, Try.ntmps25
  go_wp2_with fail
  refine (Hc.out _).mono ?_
  rintro e w2 ⟨rfl, b2⟩
  go_wp2
  go_ret2
  exact ⟨rfl, b2⟩
end Go.Proofs.Ytehppjdiegoeeaa
