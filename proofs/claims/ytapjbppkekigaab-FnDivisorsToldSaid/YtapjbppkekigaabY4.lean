import Derived.Test.YtapjbppkekigaabY3
namespace Go.Proofs.Ytapjbppkekigaab
open Go.RowKit
set_option linter.unusedVariables false
set_option linter.unusedSimpArgs false

theorem suK_le {n : Nat} : ∀ k, k ≤ (dvD n).length → 0 ≤ suK (dvD n) k ∧ suK (dvD n) k ≤ ((k * n : Nat) : Int)
  | 0, _ => by simp [suK]
  | k + 1, h => by
    have h1 := suK_le (n := n) k (by omega)
    obtain ⟨d, e, h2, h3, h4⟩ := dvD_mem.1 (List.getElem_mem (l := dvD n) (n := k) (by omega))
    rw [suK_succ (by omega), e, Nat.succ_mul]
    omega
theorem dvD_len2 {n : Nat} (hn : 1 ≤ n) (h9 : n ≤ 4000000000) : (dvD n).length ≤ 126490 := by
  have h1 := dvD_len hn
  have := sq_lt_of (rtF_parts n).1 (show n < 63246 * 63246 by omega)
  omega
theorem dvS_le {n : Nat} (hn : 1 ≤ n) : 0 ≤ dvS n ∧ dvS n ≤ 2 * ((rtF n * n : Nat) : Int) := by
  have h1 := suK_le (n := n) _ (Nat.le_refl _)
  have h2 := Nat.mul_le_mul (dvD_len hn) (Nat.le_refl n)
  rw [Nat.mul_assoc] at h2
  rw [dvS]
  omega
theorem iv_get {xs : List Int} {k : Nat} (h : k < xs.length) : ivL xs k = xs[k] := by simp [ivL, h]

set_option maxRecDepth 100000 in
set_option maxHeartbeats 800000 in
theorem dvSum_c (w : World) (N : Nat) (h1 : 1 ≤ N) (h9 : N ≤ 4000000000) :
    Calls Try.prog 36 #[.int .i64 (N : Int)] w fun en w' => en = .returned (.int .i64 (dvS N)) ∧ Below w.heap.size w w' := by
  have hl := dvD_len2 h1 h9
  have Hsu := Lib.hid (fun k => suK_le (n := N) k)
  have Hmem := Lib.hid (fun z => dvD_mem (n := N) (z := z))
  have HS : Hid (dvS N = suK (dvD N) (dvD N).length) := Lib.hid rfl
  go_enter Try.func36, Try.ntmps36
  go_wp2_with fail
  refine (dvList_c _ N h1 h9).mono ?_
  rintro e w2 ⟨⟨v2, rfl, o3⟩, b2⟩
  have hs2 := b2.size
  obtain ⟨A, c, rfl⟩ := o3.shape
  have R0 := Lib.hid (Il_of_own o3)
  clear o3
  obtain ⟨xs, hxs⟩ : ∃ xs, dvD N = xs := ⟨_, rfl⟩
  rw [hxs] at hl Hsu Hmem HS R0 ⊢
  clear hxs
  go_wp2_with fail
  go_loop [3, 9] (fun a i => ∃ k : Nat, k ≤ xs.length ∧ i = .int .i64 (k : Int) ∧ a = .int .i64 (suK xs k)) (fun _ i => xs.length - (intOf i).toNat)
  case atStart => exact ⟨0, Nat.zero_le _, rfl, rfl⟩
  case round =>
    obtain ⟨k, hk, rfl, rfl⟩ := hrel
    have hb := Hsu.out k hk
    have hkn : k * N ≤ 505960000000000 := by have := Nat.mul_le_mul (show k ≤ 126490 by omega) h9; omega
    obtain ⟨S, hS⟩ : ∃ S, suK xs k = S := ⟨_, rfl⟩
    rw [hS] at hb ⊢
    have HSS := Lib.hid hS
    have hb2 : 0 ≤ S ∧ S ≤ 505960000000000 := by omega
    clear hS hb hkn
    by_cases hlt : k < xs.length
    · obtain ⟨b, off, rfl, hb, hr⟩ := R0.out (by omega)
      have hc := hr k hlt
      rw [iv_get hlt] at hc
      obtain ⟨d, e, d1, d2, -⟩ := (Hmem.out _).1 (List.getElem_mem hlt)
      have Hst := Lib.hid (show suK xs (k + 1) = S + (d : Int) by rw [suK_succ hlt, HSS.out, e])
      rw [e] at hc
      clear hr e
      go_wp2
      go_round
      case rel => exact ⟨k + 1, by omega, by go_num, by rw [Hst.out]⟩
      case measure => simp [intOf]; omega
    · have Hk := Lib.hid (show dvS N = S by rw [HS.out, ← HSS.out, show k = xs.length by omega])
      go_wp2
      go_ret
      exact ⟨by rw [Hk.out]; rfl, b2⟩
theorem dvGood_c (n : Int) (w : World) :
    Calls Try.prog 31 #[.int .i64 n] w fun e w' => e = .returned (.bool (inB n 1 1000000)) ∧ w = w' := by
  go_enter Try.func31, Try.ntmps31
  go_wp2_with (go_at_call 45; refine (l1In_c _ _ _ _).mono ?_; rintro e w' ⟨rfl, rfl⟩)
  go_ret
  exact ⟨rfl, rfl⟩
def dvOk (n : Int) : Bool := inB n 1 1000000

def cdV (n : Int) : Int := if dvOk n then ((dvD n.toNat).length : Int) else 0
theorem cdV_no {n : Int} (h : dvOk n = false) : cdV n = 0 := by rw [cdV, h]; rfl
theorem cdV_yes {n : Nat} (h : dvOk (n : Int) = true) : cdV (n : Int) = ((dvD n).length : Int) := by rw [cdV, h, Int.toNat_natCast]; rfl

def sdV (n : Int) : Int := if dvOk n then dvS n.toNat else 0
theorem sdV_no {n : Int} (h : dvOk n = false) : sdV n = 0 := by rw [sdV, h]; rfl
theorem sdV_yes {n : Nat} (h : dvOk (n : Int) = true) : sdV (n : Int) = dvS n := by rw [sdV, h, Int.toNat_natCast]; rfl

def totV (n : Int) : Int := if dvOk n then (toF n.toNat : Int) else 0
theorem totV_no {n : Int} (h : dvOk n = false) : totV n = 0 := by rw [totV, h]; rfl
theorem totV_yes {n : Nat} (h : dvOk (n : Int) = true) : totV (n : Int) = (toF n : Int) := by rw [totV, h, Int.toNat_natCast]; rfl

def mobV (n : Int) : Int := if dvOk n then sgD n.toNat else 0
theorem mobV_no {n : Int} (h : dvOk n = false) : mobV n = 0 := by rw [mobV, h]; rfl
theorem mobV_yes {n : Nat} (h : dvOk (n : Int) = true) : mobV (n : Int) = sgD n := by rw [mobV, h, Int.toNat_natCast]; rfl

def stpV (n : Int) : Int := if dvOk n then dvS n.toNat - n else 0
theorem stpV_no {n : Int} (h : dvOk n = false) : stpV n = 0 := by rw [stpV, h]; rfl
theorem stpV_yes {n : Nat} (h : dvOk (n : Int) = true) : stpV (n : Int) = dvS n - (n : Int) := by rw [stpV, h, Int.toNat_natCast]; rfl
def dvA (n : Int) : List Int := if dvOk n then dvD n.toNat else []
theorem dvA_no {n : Int} (h : dvOk n = false) : dvA n = [] := by rw [dvA, h]; rfl
theorem dvA_yes {n : Nat} (h : dvOk (n : Int) = true) : dvA (n : Int) = dvD n := by rw [dvA, h, Int.toNat_natCast]; rfl
theorem dvA_len (n : Int) : (dvA n).length ≤ 1048576 := by
  cases h : dvOk n with
  | false => rw [dvA_no h]; exact Nat.zero_le _
  | true =>
    have h2 := inB_true.1 h
    obtain ⟨N, rfl⟩ := Int.eq_ofNat_of_zero_le (Int.le_trans (by omega) h2.1)
    rw [dvA_yes h]
    have := dvD_len2 (n := N) (by omega) (by omega)
    omega

set_option maxRecDepth 100000 in
set_option maxHeartbeats 400000 in
theorem spec_SumDivisors_c (w : World) (n : Int) :
    Calls Try.prog 12 #[.int .i64 n] w fun en w' => en = .returned (.tuple #[.int .i64 (sdV n), .bool (dvOk n)]) ∧ Below w.heap.size w w' := by
  cases hg : inB n 1 1000000 with
  | false =>
    have ho : dvOk n = false := hg
    rw [sdV_no ho, ho]
    clear ho
    go_enter Try.func12, Try.ntmps12
    go_wp2_with fail
    refine (dvGood_c _ _).mono ?_
    rintro e w1 ⟨rfl, rfl⟩
    go_wp2
    go_ret2
    exact ⟨rfl, (Below.refl _ _)⟩
  | true =>
    have ho : dvOk n = true := hg
    obtain ⟨n1, n2⟩ := inB_true.1 hg
    obtain ⟨N, rfl⟩ := Int.eq_ofNat_of_zero_le (Int.le_trans (by omega) n1)
    rw [sdV_yes ho, ho]
    clear ho
    have N1 : 1 ≤ N := by omega
    have N9 : N ≤ 1000000 := by omega
    clear n1 n2
    have Hg := Lib.hid hg
    go_enter Try.func12, Try.ntmps12
    go_wp2_with fail
    refine (dvGood_c _ _).mono ?_
    rintro e w1 ⟨rfl, rfl⟩
    go_wp2_with fail
    refine (dvSum_c _ N N1 (by omega)).mono ?_
    rintro e w2 ⟨rfl, b2⟩
    go_wp2
    go_ret2
    exact ⟨rfl, b2⟩

set_option maxRecDepth 100000 in
set_option maxHeartbeats 400000 in
theorem spec_TotientOf_c (w : World) (n : Int) :
    Calls Try.prog 14 #[.int .i64 n] w fun en w' => en = .returned (.tuple #[.int .i64 (totV n), .bool (dvOk n)]) ∧ Below w.heap.size w w' := by
  cases hg : inB n 1 1000000 with
  | false =>
    have ho : dvOk n = false := hg
    rw [totV_no ho, ho]
    clear ho
    go_enter Try.func14, Try.ntmps14
    go_wp2_with fail
    refine (dvGood_c _ _).mono ?_
    rintro e w1 ⟨rfl, rfl⟩
    go_wp2
    go_ret2
    exact ⟨rfl, (Below.refl _ _)⟩
  | true =>
    have ho : dvOk n = true := hg
    obtain ⟨n1, n2⟩ := inB_true.1 hg
    obtain ⟨N, rfl⟩ := Int.eq_ofNat_of_zero_le (Int.le_trans (by omega) n1)
    rw [totV_yes ho, ho]
    clear ho
    have N1 : 1 ≤ N := by omega
    have N9 : N ≤ 1000000 := by omega
    clear n1 n2
    have Hg := Lib.hid hg
    go_enter Try.func14, Try.ntmps14
    go_wp2_with fail
    refine (dvGood_c _ _).mono ?_
    rintro e w1 ⟨rfl, rfl⟩
    go_wp2_with fail
    refine (dvTotient_c _ N N1 (by omega)).mono ?_
    rintro e w2 ⟨rfl, b2⟩
    go_wp2
    go_ret2
    exact ⟨rfl, b2⟩

set_option maxRecDepth 100000 in
set_option maxHeartbeats 400000 in
theorem spec_MoebiusOf_c (w : World) (n : Int) :
    Calls Try.prog 16 #[.int .i64 n] w fun en w' => en = .returned (.tuple #[.int .i64 (mobV n), .bool (dvOk n)]) ∧ Below w.heap.size w w' := by
  cases hg : inB n 1 1000000 with
  | false =>
    have ho : dvOk n = false := hg
    rw [mobV_no ho, ho]
    clear ho
    go_enter Try.func16, Try.ntmps16
    go_wp2_with fail
    refine (dvGood_c _ _).mono ?_
    rintro e w1 ⟨rfl, rfl⟩
    go_wp2
    go_ret2
    exact ⟨rfl, (Below.refl _ _)⟩
  | true =>
    have ho : dvOk n = true := hg
    obtain ⟨n1, n2⟩ := inB_true.1 hg
    obtain ⟨N, rfl⟩ := Int.eq_ofNat_of_zero_le (Int.le_trans (by omega) n1)
    rw [mobV_yes ho, ho]
    clear ho
    have N1 : 1 ≤ N := by omega
    have N9 : N ≤ 1000000 := by omega
    clear n1 n2
    have Hg := Lib.hid hg
    go_enter Try.func16, Try.ntmps16
    go_wp2_with fail
    refine (dvGood_c _ _).mono ?_
    rintro e w1 ⟨rfl, rfl⟩
    go_wp2_with fail
    refine (dvSign_c _ N N1 (by omega)).mono ?_
    rintro e w2 ⟨rfl, b2⟩
    go_wp2
    go_ret2
    exact ⟨rfl, b2⟩

set_option maxRecDepth 100000 in
set_option maxHeartbeats 400000 in
theorem spec_SumStep_c (w : World) (n : Int) :
    Calls Try.prog 18 #[.int .i64 n] w fun en w' => en = .returned (.tuple #[.int .i64 (stpV n), .bool (dvOk n)]) ∧ Below w.heap.size w w' := by
  cases hg : inB n 1 1000000 with
  | false =>
    have ho : dvOk n = false := hg
    rw [stpV_no ho, ho]
    clear ho
    go_enter Try.func18, Try.ntmps18
    go_wp2_with fail
    refine (dvGood_c _ _).mono ?_
    rintro e w1 ⟨rfl, rfl⟩
    go_wp2
    go_ret2
    exact ⟨rfl, (Below.refl _ _)⟩
  | true =>
    have ho : dvOk n = true := hg
    obtain ⟨n1, n2⟩ := inB_true.1 hg
    obtain ⟨N, rfl⟩ := Int.eq_ofNat_of_zero_le (Int.le_trans (by omega) n1)
    rw [stpV_yes ho, ho]
    clear ho
    have N1 : 1 ≤ N := by omega
    have N9 : N ≤ 1000000 := by omega
    clear n1 n2
    have hsl := dvS_le N1
    have hrt9 := sq_lt_of (rtF_parts N).1 (show N < 1001 * 1001 by omega)
    have hmm := Nat.mul_le_mul (show rtF N ≤ 1000 by omega) N9
    have hds : 0 ≤ dvS N ∧ dvS N ≤ 2000000000 := by omega
    clear hsl hrt9 hmm
    have Hg := Lib.hid hg
    go_enter Try.func18, Try.ntmps18
    go_wp2_with fail
    refine (dvGood_c _ _).mono ?_
    rintro e w1 ⟨rfl, rfl⟩
    go_wp2_with fail
    refine (dvSum_c _ N N1 (by omega)).mono ?_
    rintro e w2 ⟨rfl, b2⟩
    go_wp2
    go_ret2
    exact ⟨rfl, b2⟩

set_option maxRecDepth 100000 in
set_option maxHeartbeats 400000 in
theorem spec_DivisorsOf_c (w : World) (n : Int) :
    Calls Try.prog 8 #[.int .i64 n] w fun en w' => (∃ v, en = .returned (.tuple #[v, .bool (dvOk n)]) ∧ OwnI w' w.heap.size v (dvA n)) ∧ Below w.heap.size w w' := by
  cases hg : inB n 1 1000000 with
  | false =>
    have ho : dvOk n = false := hg
    rw [dvA_no ho, ho]
    clear ho
    go_enter Try.func8, Try.ntmps8
    go_wp2_with fail
    refine (dvGood_c _ _).mono ?_
    rintro e w1 ⟨rfl, rfl⟩
    go_wp2
    go_ret2
    exact ⟨⟨_, rfl, OwnI.nil _ _⟩, (Below.refl _ _)⟩
  | true =>
    have ho : dvOk n = true := hg
    obtain ⟨n1, n2⟩ := inB_true.1 hg
    obtain ⟨N, rfl⟩ := Int.eq_ofNat_of_zero_le (Int.le_trans (by omega) n1)
    rw [dvA_yes ho, ho]
    clear ho
    have N1 : 1 ≤ N := by omega
    have N9 : N ≤ 1000000 := by omega
    clear n1 n2
    have Hg := Lib.hid hg
    go_enter Try.func8, Try.ntmps8
    go_wp2_with fail
    refine (dvGood_c _ _).mono ?_
    rintro e w1 ⟨rfl, rfl⟩
    go_wp2_with fail
    refine (dvList_c _ N N1 (by omega)).mono ?_
    rintro e w2 ⟨⟨v2, rfl, o2⟩, b2⟩
    go_wp2
    go_ret2
    exact ⟨⟨_, rfl, o2⟩, b2⟩

set_option maxRecDepth 100000 in
set_option maxHeartbeats 400000 in
theorem spec_CountDivisors_c (w : World) (n : Int) :
    Calls Try.prog 10 #[.int .i64 n] w fun en w' => en = .returned (.tuple #[.int .i64 (cdV n), .bool (dvOk n)]) ∧ Below w.heap.size w w' := by
  cases hg : inB n 1 1000000 with
  | false =>
    have ho : dvOk n = false := hg
    rw [cdV_no ho, ho]
    clear ho
    go_enter Try.func10, Try.ntmps10
    go_wp2_with fail
    refine (dvGood_c _ _).mono ?_
    rintro e w1 ⟨rfl, rfl⟩
    go_wp2
    go_ret2
    exact ⟨rfl, (Below.refl _ _)⟩
  | true =>
    have ho : dvOk n = true := hg
    obtain ⟨n1, n2⟩ := inB_true.1 hg
    obtain ⟨N, rfl⟩ := Int.eq_ofNat_of_zero_le (Int.le_trans (by omega) n1)
    rw [cdV_yes ho, ho]
    clear ho
    have N1 : 1 ≤ N := by omega
    have N9 : N ≤ 1000000 := by omega
    clear n1 n2
    have Hg := Lib.hid hg
    go_enter Try.func10, Try.ntmps10
    go_wp2_with fail
    refine (dvGood_c _ _).mono ?_
    rintro e w1 ⟨rfl, rfl⟩
    go_wp2_with fail
    refine (dvList_c _ N N1 (by omega)).mono ?_
    rintro e w2 ⟨⟨v2, rfl, o2⟩, b2⟩
    obtain ⟨A2, c2, rfl⟩ := o2.shape
    go_wp2
    go_ret2
    exact ⟨rfl, b2⟩

end Go.Proofs.Ytapjbppkekigaab
