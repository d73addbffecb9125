import Derived.Test.YtehppjdiegoeeaaU1
namespace Go.Proofs.Ytehppjdiegoeeaa
open Go.RowKit
set_option linter.unusedVariables false
set_option linter.unusedSimpArgs false

def sqOk (n : Int) : Bool := inB n 1 100000
def smOk (n : Int) : Bool := inB n 0 600
def isfV (n : Int) : Bool := sqOk n && sfB n.toNat
theorem isfV_no {n : Int} (h : sqOk n = false) : isfV n = false := by rw [isfV, h]; rfl
theorem isfV_yes {n : Nat} (h : sqOk (n : Int) = true) : isfV (n : Int) = sfB n := by rw [isfV, h, Int.toNat_natCast]; rfl

def spV (n : Int) : Int := if sqOk n then (sqG (n.toNat) : Int) else 0
theorem spV_no {n : Int} (h : sqOk n = false) : spV n = 0 := by rw [spV, h]; rfl
theorem spV_yes {n : Nat} (h : sqOk (n : Int) = true) : spV (n : Int) = (sqG n : Int) := by rw [spV, h, Int.toNat_natCast]; rfl

def koV (n : Int) : Int := if sqOk n then (prodL (fks (n.toNat)) : Int) else 0
theorem koV_no {n : Int} (h : sqOk n = false) : koV n = 0 := by rw [koV, h]; rfl
theorem koV_yes {n : Nat} (h : sqOk (n : Int) = true) : koV (n : Int) = (prodL (fks n) : Int) := by rw [koV, h, Int.toNat_natCast]; rfl

def fsV (n : Int) : Int := if sqOk n then sgF (n.toNat) else 0
theorem fsV_no {n : Int} (h : sqOk n = false) : fsV n = 0 := by rw [fsV, h]; rfl
theorem fsV_yes {n : Nat} (h : sqOk (n : Int) = true) : fsV (n : Int) = sgF n := by rw [fsV, h, Int.toNat_natCast]; rfl

def nqV (n : Int) : Int := if sqOk n then (nsF (n.toNat + 1) : Int) else 0
theorem nqV_no {n : Int} (h : sqOk n = false) : nqV n = 0 := by rw [nqV, h]; rfl
theorem nqV_yes {n : Nat} (h : sqOk (n : Int) = true) : nqV (n : Int) = (nsF (n + 1) : Int) := by rw [nqV, h, Int.toNat_natCast]; rfl


theorem sf_beq (N : Nat) : ((sqG N : Int) == 1) = sfB N := by rw [sfB, Bool.eq_iff_iff, beq_iff_eq, beq_iff_eq]; omega

set_option maxRecDepth 100000 in
set_option maxHeartbeats 400000 in
theorem spec_IsSquareFree_c (w : World) (n : Int) :
    Calls Try.prog 8 #[.int .i64 n] w fun en w' => en = .returned (.tuple #[.bool (isfV n), .bool (sqOk n)]) ∧ Below w.heap.size w w' := by
  cases hg : inB n 1 100000 with
  | false =>
    have ho : sqOk n = false := hg
    rw [isfV_no ho, ho]
    clear ho
    go_enter Try.func8, Try.ntmps8
    go_wp2_with fail
    refine (sqGood_c _ _).mono ?_
    rintro e w1 ⟨rfl, rfl⟩
    go_wp2
    go_ret2
    exact ⟨rfl, (Below.refl _ _)⟩
  | true =>
    have ho : sqOk n = true := hg
    obtain ⟨n1, n2⟩ := inB_true.1 hg
    obtain ⟨N, rfl⟩ := Int.eq_ofNat_of_zero_le (Int.le_trans (by omega) n1)
    rw [isfV_yes ho, ho]
    clear ho
    have N1 : 1 ≤ N := by omega
    have N9 : N ≤ 100000 := by omega
    clear n1 n2
    have Hs := Lib.hid (sf_beq N)
    have Hg := Lib.hid hg
    go_enter Try.func8, Try.ntmps8
    go_wp2_with fail
    refine (sqGood_c _ _).mono ?_
    rintro e w1 ⟨rfl, rfl⟩
    go_wp2_with fail
    refine (sqPart_c _ N N1 (by omega)).mono ?_
    rintro e w2 ⟨rfl, rfl⟩
    go_wp2
    go_ret2
    exact ⟨by rw [Hs.out]; rfl, (Below.refl _ _)⟩

set_option maxRecDepth 100000 in
set_option maxHeartbeats 400000 in
theorem spec_SquarePart_c (w : World) (n : Int) :
    Calls Try.prog 10 #[.int .i64 n] w fun en w' => en = .returned (.tuple #[.int .i64 (spV n), .bool (sqOk n)]) ∧ Below w.heap.size w w' := by
  cases hg : inB n 1 100000 with
  | false =>
    have ho : sqOk n = false := hg
    rw [spV_no ho, ho]
    clear ho
    go_enter Try.func10, Try.ntmps10
    go_wp2_with fail
    refine (sqGood_c _ _).mono ?_
    rintro e w1 ⟨rfl, rfl⟩
    go_wp2
    go_ret2
    exact ⟨rfl, (Below.refl _ _)⟩
  | true =>
    have ho : sqOk n = true := hg
    obtain ⟨n1, n2⟩ := inB_true.1 hg
    obtain ⟨N, rfl⟩ := Int.eq_ofNat_of_zero_le (Int.le_trans (by omega) n1)
    rw [spV_yes ho, ho]
    clear ho
    have N1 : 1 ≤ N := by omega
    have N9 : N ≤ 100000 := by omega
    clear n1 n2
    have Hg := Lib.hid hg
    go_enter Try.func10, Try.ntmps10
    go_wp2_with fail
    refine (sqGood_c _ _).mono ?_
    rintro e w1 ⟨rfl, rfl⟩
    go_wp2_with fail
    refine (sqPart_c _ N N1 (by omega)).mono ?_
    rintro e w2 ⟨rfl, rfl⟩
    go_wp2
    go_ret2
    exact ⟨rfl, (Below.refl _ _)⟩

set_option maxRecDepth 100000 in
set_option maxHeartbeats 400000 in
theorem spec_KernelOf_c (w : World) (n : Int) :
    Calls Try.prog 12 #[.int .i64 n] w fun en w' => en = .returned (.tuple #[.int .i64 (koV n), .bool (sqOk n)]) ∧ Below w.heap.size w w' := by
  cases hg : inB n 1 100000 with
  | false =>
    have ho : sqOk n = false := hg
    rw [koV_no ho, ho]
    clear ho
    go_enter Try.func12, Try.ntmps12
    go_wp2_with fail
    refine (sqGood_c _ _).mono ?_
    rintro e w1 ⟨rfl, rfl⟩
    go_wp2
    go_ret2
    exact ⟨rfl, (Below.refl _ _)⟩
  | true =>
    have ho : sqOk n = true := hg
    obtain ⟨n1, n2⟩ := inB_true.1 hg
    obtain ⟨N, rfl⟩ := Int.eq_ofNat_of_zero_le (Int.le_trans (by omega) n1)
    rw [koV_yes ho, ho]
    clear ho
    have N1 : 1 ≤ N := by omega
    have N9 : N ≤ 100000 := by omega
    clear n1 n2
    have Hg := Lib.hid hg
    go_enter Try.func12, Try.ntmps12
    go_wp2_with fail
    refine (sqGood_c _ _).mono ?_
    rintro e w1 ⟨rfl, rfl⟩
    go_wp2_with fail
    refine (sqKernel_c _ N N1 (by omega)).mono ?_
    rintro e w2 ⟨rfl, rfl⟩
    go_wp2
    go_ret2
    exact ⟨rfl, (Below.refl _ _)⟩

set_option maxRecDepth 100000 in
set_option maxHeartbeats 400000 in
theorem spec_FreeSign_c (w : World) (n : Int) :
    Calls Try.prog 14 #[.int .i64 n] w fun en w' => en = .returned (.tuple #[.int .i64 (fsV n), .bool (sqOk n)]) ∧ Below w.heap.size w w' := by
  cases hg : inB n 1 100000 with
  | false =>
    have ho : sqOk n = false := hg
    rw [fsV_no ho, ho]
    clear ho
    go_enter Try.func14, Try.ntmps14
    go_wp2_with fail
    refine (sqGood_c _ _).mono ?_
    rintro e w1 ⟨rfl, rfl⟩
    go_wp2
    go_ret2
    exact ⟨rfl, (Below.refl _ _)⟩
  | true =>
    have ho : sqOk n = true := hg
    obtain ⟨n1, n2⟩ := inB_true.1 hg
    obtain ⟨N, rfl⟩ := Int.eq_ofNat_of_zero_le (Int.le_trans (by omega) n1)
    rw [fsV_yes ho, ho]
    clear ho
    have N1 : 1 ≤ N := by omega
    have N9 : N ≤ 100000 := by omega
    clear n1 n2
    have Hg := Lib.hid hg
    go_enter Try.func14, Try.ntmps14
    go_wp2_with fail
    refine (sqGood_c _ _).mono ?_
    rintro e w1 ⟨rfl, rfl⟩
    go_wp2_with fail
    refine (sqSign_c _ N N1 (by omega)).mono ?_
    rintro e w2 ⟨rfl, rfl⟩
    go_wp2
    go_ret2
    exact ⟨rfl, (Below.refl _ _)⟩


set_option maxRecDepth 100000 in
set_option maxHeartbeats 400000 in
theorem sqNext_c (w : World) (N : Nat) (h9 : N ≤ 100002) :
    Calls Try.prog 48 #[.int .i64 (N : Int)] w fun e w' => e = .returned (.int .i64 (nsF (N + 1) : Int)) ∧ w = w' := by
  obtain ⟨T, hT⟩ : ∃ T, nsF (N + 1) = T := ⟨_, rfl⟩
  rw [hT]
  have HT := Lib.hid hT
  clear hT
  go_enter Try.func48, Try.ntmps48
  go_wp2
  go_loop [0] (fun i => ∃ x : Nat, i = .int .i64 (x : Int) ∧ N + 1 ≤ x ∧ x ≤ 100003 ∧ nsF x = T) (fun i => 100004 - (intOf i).toNat)
  case atStart => exact ⟨N + 1, by go_num, Nat.le_refl _, by omega, HT.out⟩
  case round =>
    obtain ⟨x, rfl, hx1, hx9, hT⟩ := hrel
    have Hs := Lib.hid (sf_beq x)
    cases hs : sfB x with
    | true =>
      have hxT : x = T := by rw [← hT, nsF_yes hs]
      subst hxT
      have Hb := Lib.hid (Hs.out.trans hs)
      clear hT hs
      go_wp2_with fail
      refine (sqPart_c _ x (by omega) (by omega)).mono ?_
      rintro e w1 ⟨rfl, rfl⟩
      have hb := Hb.out
      go_wp2
      go_ret
      exact ⟨rfl, rfl⟩
    | false =>
      obtain ⟨e1, e2⟩ := nsF_no hx9 hs
      have He := Lib.hid (e1.symm.trans hT)
      have Hb := Lib.hid (Hs.out.trans hs)
      clear hT hs e1
      go_wp2_with fail
      refine (sqPart_c _ x (by omega) (by omega)).mono ?_
      rintro e w1 ⟨rfl, rfl⟩
      have hb := Hb.out
      go_wp2
      go_round
      case rel => exact ⟨x + 1, by go_num, by omega, by omega, He.out⟩
      case measure => simp [intOf]; omega

set_option maxRecDepth 100000 in
set_option maxHeartbeats 400000 in
theorem spec_NextSquareFree_c (w : World) (n : Int) :
    Calls Try.prog 18 #[.int .i64 n] w fun en w' => en = .returned (.tuple #[.int .i64 (nqV n), .bool (sqOk n)]) ∧ Below w.heap.size w w' := by
  cases hg : inB n 1 100000 with
  | false =>
    have ho : sqOk n = false := hg
    rw [nqV_no ho, ho]
    clear ho
    go_enter Try.func18, Try.ntmps18
    go_wp2_with fail
    refine (sqGood_c _ _).mono ?_
    rintro e w1 ⟨rfl, rfl⟩
    go_wp2
    go_ret2
    exact ⟨rfl, (Below.refl _ _)⟩
  | true =>
    have ho : sqOk n = true := hg
    obtain ⟨n1, n2⟩ := inB_true.1 hg
    obtain ⟨N, rfl⟩ := Int.eq_ofNat_of_zero_le (Int.le_trans (by omega) n1)
    rw [nqV_yes ho, ho]
    clear ho
    have N1 : 1 ≤ N := by omega
    have N9 : N ≤ 100000 := by omega
    clear n1 n2
    have Hg := Lib.hid hg
    go_enter Try.func18, Try.ntmps18
    go_wp2_with fail
    refine (sqGood_c _ _).mono ?_
    rintro e w1 ⟨rfl, rfl⟩
    go_wp2_with fail
    refine (sqNext_c _ N (by omega)).mono ?_
    rintro e w2 ⟨rfl, rfl⟩
    go_wp2
    go_ret2
    exact ⟨rfl, (Below.refl _ _)⟩


/-- The sum of the signs up to k. -/
def sgS : Nat → Int
  | 0 => 0
  | k + 1 => sgS k + sgF (k + 1)
theorem sgS_bound : ∀ k : Nat, -(k : Int) ≤ sgS k ∧ sgS k ≤ k
  | 0 => by simp [sgS]
  | k + 1 => by
    have h1 := sgS_bound k
    have h2 := sgF_bound (k + 1)
    rw [sgS]
    omega
def ssOk (n : Int) : Bool := inB n 1 600
def ssV (n : Int) : Int := if ssOk n then sgS n.toNat else 0
theorem ssV_no {n : Int} (h : ssOk n = false) : ssV n = 0 := by rw [ssV, h]; rfl
theorem ssV_yes {n : Nat} (h : ssOk (n : Int) = true) : ssV (n : Int) = sgS n := by rw [ssV, h, Int.toNat_natCast]; rfl

set_option maxRecDepth 100000 in
set_option maxHeartbeats 400000 in
theorem spec_SumOfSigns_c (w : World) (n : Int) :
    Calls Try.prog 26 #[.int .i64 n] w fun en w' => en = .returned (.tuple #[.int .i64 (ssV n), .bool (ssOk n)]) ∧ Below w.heap.size w w' := by
  cases hg : inB n 1 600 with
  | false =>
    have ho : ssOk n = false := hg
    rw [ssV_no ho, ho]
    clear ho
    go_enter Try.func26, Try.ntmps26
    go_wp2_with fail
    refine (l1In_c _ _ _ _).mono ?_
    rintro e w1 ⟨rfl, rfl⟩
    go_wp2
    go_ret2
    exact ⟨rfl, (Below.refl _ _)⟩
  | true =>
    have ho : ssOk n = true := hg
    obtain ⟨n1, n2⟩ := inB_true.1 hg
    obtain ⟨N, rfl⟩ := Int.eq_ofNat_of_zero_le (Int.le_trans (by omega) n1)
    rw [ssV_yes ho, ho]
    clear ho
    have N1 : 1 ≤ N := by omega
    have N9 : N ≤ 600 := by omega
    clear n1 n2
    have Hg := Lib.hid hg
    go_enter Try.func26, Try.ntmps26
    go_wp2_with fail
    refine (l1In_c _ _ _ _).mono ?_
    rintro e w1 ⟨rfl, rfl⟩
    go_wp2
    go_loopw [4, 5] (fun v i wr => ∃ k : Nat, k ≤ N ∧ i = .int .i64 ((k : Int) + 1) ∧ v = .int .i64 (sgS k) ∧ w = wr) (fun _ i _ => 603 - (intOf i).toNat)
    case atStart => exact ⟨0, Nat.zero_le _, rfl, rfl, rfl⟩
    case round =>
      obtain ⟨k, hk, rfl, rfl, rfl⟩ := hrel
      have hb := sgS_bound k
      by_cases hlt : k < N
      · have hb2 := sgF_bound (k + 1)
        have Hc := Lib.hid (fun W => sqSign_c W (k + 1) (by omega) (by omega))
        rw [show ((k + 1 : Nat) : Int) = (k : Int) + 1 by omega] at Hc
        obtain ⟨S, hS⟩ : ∃ S, sgS k = S := ⟨_, rfl⟩
        obtain ⟨G, hG⟩ : ∃ G, sgF (k + 1) = G := ⟨_, rfl⟩
        have Hst := Lib.hid (show sgS (k + 1) = S + G by rw [sgS, hS, hG])
        rw [hS] at hb ⊢
        rw [hG] at hb2 Hc
        clear hS hG
        go_wp2_with fail
        refine (Hc.out _).mono ?_
        rintro e w1 ⟨rfl, rfl⟩
        go_wp2
        go_roundw
        case rel => exact ⟨k + 1, by omega, by go_num, by rw [Hst.out], by first | rfl | trivial⟩
        case measure => simp [intOf]; omega
      · have Hk := Lib.hid (show k = N by omega)
        go_wp2
        go_ret2
        exact ⟨by rw [← Hk.out]; rfl, (Below.refl _ _)⟩

def suqV (n : Int) : List Int := if smOk n then flF sfB 1 n.toNat else []
theorem suqV_no {n : Int} (h : smOk n = false) : suqV n = [] := by rw [suqV, h]; rfl
theorem suqV_yes {n : Nat} (h : smOk (n : Int) = true) : suqV (n : Int) = flF sfB 1 n := by rw [suqV, h, Int.toNat_natCast]; rfl
theorem suqV_len (n : Int) : (suqV n).length ≤ 1048576 := by
  cases h : smOk n with
  | false => rw [suqV_no h]; exact Nat.zero_le _
  | true =>
    rw [suqV, h, if_pos rfl]
    have := flF_len sfB 1 n.toNat
    have := inB_true.1 h
    omega

set_option maxRecDepth 100000 in
set_option maxHeartbeats 800000 in
theorem spec_SquareFreeUpTo_c (w : World) (n : Int) :
    Calls Try.prog 22 #[.int .i64 n] w fun en w' => (∃ v, en = .returned (.tuple #[v, .bool (smOk n)]) ∧ OwnI w' w.heap.size v (suqV n)) ∧ Below w.heap.size w w' := by
  cases hg : inB n 0 600 with
  | false =>
    have ho : smOk n = false := hg
    rw [suqV_no ho, ho]
    clear ho
    go_enter Try.func22, Try.ntmps22
    go_wp2_with fail
    refine (sqMost_c _ _).mono ?_
    rintro e w1 ⟨rfl, rfl⟩
    go_wp2
    go_ret2
    exact ⟨⟨_, rfl, OwnI.nil _ _⟩, (Below.refl _ _)⟩
  | true =>
    have ho : smOk n = true := hg
    obtain ⟨n1, n2⟩ := inB_true.1 hg
    obtain ⟨M, rfl⟩ := Int.eq_ofNat_of_zero_le n1
    rw [suqV_yes ho, ho]
    clear ho
    have hM : M ≤ 600 := by omega
    clear n1 n2
    have Hg := Lib.hid hg
    go_enter Try.func22, Try.ntmps22
    go_wp2_with fail
    refine (sqMost_c _ _).mono ?_
    rintro e w1 ⟨rfl, rfl⟩
    go_wp2
    go_loopw [4, 5] (fun v i wr => ∃ k : Nat, k ≤ M ∧ i = .int .i64 ((k : Int) + 1) ∧ OwnI wr w.heap.size v (flF sfB 1 k) ∧ Below w.heap.size w wr) (fun _ i _ => 603 - (intOf i).toNat)
    case atStart => exact ⟨0, Nat.zero_le _, rfl, World.ownsRow_nil _ _ _ _, Below.refl _ _⟩
    case round =>
      rename_i v
      obtain ⟨k, hk, rfl, hown, hbel⟩ := hrel
      have Hown := Lib.hid hown
      clear hown
      have hs := hbel.size
      have hul := flF_len sfB 1 k
      have Hl := Lib.hid (show (flF sfB 1 k).length ≤ 1048575 by omega)
      clear hul
      by_cases hlt : k < M
      · have hlt2 : (k : Int) + 1 ≤ (M : Int) := by omega
        have Hc := Lib.hid (fun W => sqPart_c W (1 + k) (by omega) (by omega))
        rw [show ((1 + k : Nat) : Int) = (k : Int) + 1 by omega] at Hc
        have hbq := sf_beq (1 + k)
        cases hp : sfB (1 + k) with
        | true =>
          rw [hp] at hbq
          have Hy := Lib.hid (flF_yes (p := sfB) (a := 1) (k := k) hp)
          go_wp2_with fail
          refine (Hc.out _).mono ?_
          rintro e w1 ⟨rfl, rfl⟩
          go_wp2_with (at_builtin; refine wp_app_int _ rfl _ _ rfl w.heap.size _ _ rfl Hown.out _ rfl (by have := Hl.out; omega) (by omega) ?_; intro v' w2 hown2 b2)
          go_roundw
          case rel => exact ⟨k + 1, by omega, by simp, by rw [Hy.out, Nat.add_comm 1 k]; exact hown2, hbel.trans b2⟩
          case measure => simp [intOf]; omega
        | false =>
          rw [hp] at hbq
          have Hy := Lib.hid (flF_no (p := sfB) (a := 1) (k := k) hp)
          go_wp2_with fail
          refine (Hc.out _).mono ?_
          rintro e w1 ⟨rfl, rfl⟩
          go_wp2
          go_roundw
          case rel => exact ⟨k + 1, by omega, by simp, by rw [Hy.out]; exact Hown.out, hbel⟩
          case measure => simp [intOf]; omega
      · have hlt2 : (M : Int) < (k : Int) + 1 := by omega
        have Hk := Lib.hid (show k = M by omega)
        go_wp2
        go_ret2
        exact ⟨⟨_, rfl, by rw [← Hk.out]; exact Hown.out⟩, hbel⟩

end Go.Proofs.Ytehppjdiegoeeaa
