import Derived.Test.YtmjjpgafecmljaaG6
namespace Go.Proofs.Ytmjjpgafecmljaa
open Go.RowKit
set_option linter.unusedVariables false
set_option linter.unusedSimpArgs false

/-- Whether p and n - p are primes. -/
def ptB (n p : Nat) : Bool := primeB p && primeB (n - p)
def ptZ (n : Nat) (x : Int) : Bool := primeB ((n : Int) - x).toNat
theorem pt_filter (n : Nat) : (prB 2 (n / 2)).filter (ptZ n) = flF (ptB n) 2 (n / 2 + 1 - 2) := flF_filterZ (q := fun p => primeB (n - p)) fun p _ _ => by
  rw [ptZ, show ((n : Int) - (p : Int)).toNat = n - p by omega]

set_option maxRecDepth 100000 in
set_option maxHeartbeats 800000 in
theorem prPairs_c (w : World) (N : Nat) (hN : N ≤ 10000) :
    Calls Try.prog 111 #[.int .i64 (N : Int)] w fun en w' => (∃ v, en = .returned v ∧ OwnI w' w.heap.size v (flF (ptB N) 2 (N / 2 + 1 - 2))) ∧ Below w.heap.size w w' := by
  obtain ⟨L, hL⟩ : ∃ L, N / 2 + 1 - 2 = L := ⟨_, rfl⟩
  rw [hL]
  have HL := Lib.hid hL
  clear hL
  go_enter Try.func111, Try.ntmps111
  go_wp2
  go_loopw [3, 4] (fun v i wr => ∃ k : Nat, k ≤ L ∧ i = .int .i64 ((k : Int) + 2) ∧ OwnI wr w.heap.size v (flF (ptB N) 2 k) ∧ Below w.heap.size w wr) (fun _ i _ => 10003 - (intOf i).toNat)
  case atStart => exact ⟨0, Nat.zero_le _, rfl, World.ownsRow_nil _ _ _ _, Below.refl _ _⟩
  case round =>
    rename_i v
    obtain ⟨k, hk, rfl, hown, hbel⟩ := hrel
    have Hown := Lib.hid hown
    clear hown
    have hs := hbel.size
    have hkN : k ≤ 10000 := by have := HL.out; omega
    have E2 := Lib.hid (show ((k : Int) + 2).toNat = 2 + k by omega)
    have E4 := Lib.hid (show ((N : Int) - ((k : Int) + 2)).toNat = N - (2 + k) by omega)
    have hul := flF_len (ptB N) 2 k
    have Hl := Lib.hid (show (flF (ptB N) 2 k).length ≤ 1048575 by have := HL.out; omega)
    clear hul
    by_cases hlt : 2 * ((k : Int) + 2) ≤ (N : Int)
    · cases hp : primeB (2 + k) with
      | true =>
        cases hq : primeB (N - (2 + k)) with
        | true =>
          have Hy := Lib.hid (flF_yes (p := ptB N) (a := 2) (k := k) (by rw [ptB, hp, hq]; rfl))
          go_wp2_with fail
          refine (prIs_c _ _ (by omega)).mono ?_
          rw [E2.out, hp]
          rintro e w1 ⟨rfl, rfl⟩
          go_wp2_with fail
          refine (prIs_c _ _ (by omega)).mono ?_
          rw [E4.out, hq]
          rintro e w1 ⟨rfl, rfl⟩
          go_wp2_with (at_builtin; refine wp_app_int _ rfl _ _ rfl w.heap.size _ _ rfl Hown.out _ rfl (by have := Hl.out; omega) (by omega) ?_; intro v' w2 hown2 b2)
          go_roundw
          case rel => exact ⟨k + 1, by have := HL.out; omega, by simp; omega, by rw [Hy.out, Nat.add_comm 2 k]; exact hown2, hbel.trans b2⟩
          case measure => simp [intOf]; omega
        | false =>
          have Hy := Lib.hid (flF_no (p := ptB N) (a := 2) (k := k) (by rw [ptB, hq, Bool.and_false]))
          go_wp2_with fail
          refine (prIs_c _ _ (by omega)).mono ?_
          rw [E2.out, hp]
          rintro e w1 ⟨rfl, rfl⟩
          go_wp2_with fail
          refine (prIs_c _ _ (by omega)).mono ?_
          rw [E4.out, hq]
          rintro e w1 ⟨rfl, rfl⟩
          go_wp2
          go_roundw
          case rel => exact ⟨k + 1, by have := HL.out; omega, by simp; omega, by rw [Hy.out]; exact Hown.out, hbel⟩
          case measure => simp [intOf]; omega
      | false =>
        have Hy := Lib.hid (flF_no (p := ptB N) (a := 2) (k := k) (by rw [ptB, hp]; rfl))
        go_wp2_with fail
        refine (prIs_c _ _ (by omega)).mono ?_
        rw [E2.out, hp]
        rintro e w1 ⟨rfl, rfl⟩
        go_wp2
        go_roundw
        case rel => exact ⟨k + 1, by have := HL.out; omega, by simp; omega, by rw [Hy.out]; exact Hown.out, hbel⟩
        case measure => simp [intOf]; omega
    · have Hk := Lib.hid (show k = L by have := HL.out; omega)
      go_wp2
      go_ret
      exact ⟨⟨_, rfl, by rw [← Hk.out]; exact Hown.out⟩, hbel⟩

set_option maxRecDepth 100000 in
set_option maxHeartbeats 800000 in
theorem lessOfTwoPrimes_c (w : World) (N : Nat) (hN : N ≤ 10000) :
    Calls Try.prog 109 #[.int .i64 (N : Int)] w fun en w' => (∃ v, en = .returned v ∧ OwnI w' w.heap.size v (flF (ptB N) 2 (N / 2 + 1 - 2))) ∧ Below w.heap.size w w' := by
  rw [← pt_filter]
  have hPl := prB_len 2 (N / 2)
  obtain ⟨xs, hxs⟩ : ∃ xs, prB 2 (N / 2) = xs := ⟨_, rfl⟩
  have hat := prB_at 2 (N / 2)
  rw [hxs] at hat hPl ⊢
  have Hat := Lib.hid hat
  have Hxs := Lib.hid (show prB (2 : Int).toNat ((N : Int) / 2).toNat = xs by rw [← hxs, show ((N : Int) / 2).toNat = N / 2 by omega]; rfl)
  clear hat hxs
  have q0 : 0 ≤ (N : Int) / 2 := by omega
  have q1 : (N : Int) / 2 ≤ 10000 := by omega
  go_enter Try.func109, Try.ntmps109
  go_wp2_with fail
  refine (primesBetween_i _ 2 _ (by omega) (by omega) q0 (by omega) (by omega)).mono ?_
  rw [Hxs.out]
  rintro e w2 ⟨⟨v2, rfl, o3⟩, b2⟩
  have hs2 := b2.size
  obtain ⟨A, c, rfl⟩ := o3.shape
  go_wp2_with fail
  go_loopw [3, 10] (fun v i wr => ∃ k : Nat, k ≤ xs.length ∧ i = .int .i64 (k : Int) ∧ OwnI wr w2.heap.size v ((xs.take k).filter (ptZ N)) ∧ Below w2.heap.size w2 wr) (fun _ i _ => xs.length - (intOf i).toNat)
  case atStart => exact ⟨0, Nat.zero_le _, rfl, World.ownsRow_nil _ _ _ _, Below.refl _ _⟩
  case round =>
    rename_i v
    obtain ⟨k, hk, rfl, hown, hbel⟩ := hrel
    have Hown := Lib.hid hown
    clear hown
    have hs := hbel.size
    have hul := filter_take_len xs (ptZ N) k
    have Hl := Lib.hid (show ((xs.take k).filter (ptZ N)).length ≤ 1048575 by omega)
    clear hul
    by_cases hlt : k < xs.length
    · obtain ⟨g, rfl, _, hg2, hc⟩ := o3.cell hlt
      obtain ⟨n, hn, n3, n4, _⟩ := Hat.out k hlt
      have hc0 := (hbel.cell (p := ⟨g, k, none⟩) hg2).trans hc
      rw [show xs.getD k 0 = (n : Int) from hn] at hc0
      clear hc
      have hn9 : n ≤ 10000 := by omega
      cases hq : ptZ N (n : Int) with
      | true =>
        have Hy := Lib.hid (filter_take_yes hlt (z := ptZ N) (by rw [hn]; exact hq))
        rw [hn] at Hy
        clear hn
        have Hq := Lib.hid (show primeB ((N : Int) - (n : Int)).toNat = true from hq)
        clear hq
        go_wp2_with fail
        refine (isPrime_c _ _ (by omega)).mono ?_
        rw [Hq.out]
        rintro e w3 ⟨rfl, rfl⟩
        go_wp2_with (at_builtin; refine wp_app_int _ rfl _ _ rfl w2.heap.size _ _ rfl Hown.out _ rfl (by have := Hl.out; omega) hs ?_; intro v' w4 hown4 b4)
        go_roundw
        case rel => exact ⟨k + 1, by omega, by go_num, by rw [Hy.out]; exact hown4, hbel.trans b4⟩
        case measure => simp [intOf]; omega
      | false =>
        have Hy := Lib.hid (filter_take_no hlt (z := ptZ N) (by rw [hn]; exact hq))
        clear hn
        have Hq := Lib.hid (show primeB ((N : Int) - (n : Int)).toNat = false from hq)
        clear hq
        go_wp2_with fail
        refine (isPrime_c _ _ (by omega)).mono ?_
        rw [Hq.out]
        rintro e w3 ⟨rfl, rfl⟩
        go_wp2
        go_roundw
        case rel => exact ⟨k + 1, by omega, by go_num, by rw [Hy.out]; exact Hown.out, hbel⟩
        case measure => simp [intOf]; omega
    · have Hk := Lib.hid (filter_take_all (z := ptZ N) hlt)
      go_wp2
      go_ret
      exact ⟨⟨_, rfl, by rw [← Hk.out]; exact OwnI.mono Hown.out hs2⟩, b2.trans (hbel.mono hs2)⟩

theorem ptB_len (N : Nat) (h : N ≤ 10000) : (flF (ptB N) 2 (N / 2 + 1 - 2)).length ≤ 10000 := by
  have := flF_len (ptB N) 2 (N / 2 + 1 - 2)
  omega
def c2Ok (n : Int) : Bool := inB n 4 10000
def c2L (n : Int) : List Int := if c2Ok n then flF (ptB n.toNat) 2 (n.toNat / 2 + 1 - 2) else []
theorem c2L_no {n : Int} (h : c2Ok n = false) : c2L n = [] := by rw [c2L, h]; rfl
theorem c2L_yes {n : Nat} (h : c2Ok (n : Int) = true) : c2L (n : Int) = flF (ptB n) 2 (n / 2 + 1 - 2) := by rw [c2L, h, Int.toNat_natCast]; rfl
def c2V (n : Int) : Int := ((c2L n).length : Int)
theorem c2V_no {n : Int} (h : c2Ok n = false) : c2V n = 0 := by rw [c2V, c2L_no h]; rfl
def f2Ok (n : Int) : Bool := decide (0 < (c2L n).length)
def f2P (n : Int) : Int := if f2Ok n then ivL (c2L n) 0 else 0
def f2Q (n : Int) : Int := if f2Ok n then n - ivL (c2L n) 0 else 0
theorem f2_no {n : Int} (h : f2Ok n = false) : f2P n = 0 ∧ f2Q n = 0 := by rw [f2P, f2Q, h]; exact ⟨rfl, rfl⟩
theorem f2_yes {n : Int} (h : f2Ok n = true) : f2P n = ivL (c2L n) 0 ∧ f2Q n = n - ivL (c2L n) 0 := by rw [f2P, f2Q, h]; exact ⟨rfl, rfl⟩
theorem f2Ok_no {n : Int} (h : c2Ok n = false) : f2Ok n = false := by rw [f2Ok, c2L_no h]; rfl
theorem isAskedForTwo_c (n : Int) (w : World) :
    Calls Try.prog 108 #[.int .i64 n] w fun e w' => e = .returned (.bool (inB n 4 10000)) ∧ w = w' := by
  by_cases h1 : 4 ≤ n
  · by_cases h2 : n ≤ 10000
    · rw [inB_true.2 ⟨h1, h2⟩]
      go_enter Try.func108, Try.ntmps108
      go_wp2
      go_ret
      exact ⟨rfl, rfl⟩
    · rw [inB_false.2 (by omega)]
      go_enter Try.func108, Try.ntmps108
      go_wp2
      go_ret
      exact ⟨rfl, rfl⟩
  · rw [inB_false.2 (by omega)]
    go_enter Try.func108, Try.ntmps108
    go_wp2
    go_ret
    exact ⟨rfl, rfl⟩

set_option maxRecDepth 100000 in
set_option maxHeartbeats 400000 in
theorem spec_CountTwoPrimes_c (w : World) (n : Int) :
    Calls Try.prog 16 #[.int .i64 n] w fun en w' => en = .returned (.tuple #[.int .i64 (c2V n), .bool (c2Ok n)]) ∧ Below w.heap.size w w' := by
  cases hg : inB n 4 10000 with
  | false =>
    have ho : c2Ok n = false := hg
    rw [c2V_no ho, ho]
    clear ho
    go_enter Try.func16, Try.ntmps16
    go_wp2_with fail
    refine (l1In_c _ _ _ _).mono ?_
    rintro e w1 ⟨rfl, rfl⟩
    go_wp2
    go_ret2
    exact ⟨rfl, (Below.refl _ _)⟩
  | true =>
    have ho : c2Ok n = true := hg
    obtain ⟨n1, n2⟩ := inB_true.1 hg
    obtain ⟨N, rfl⟩ := Int.eq_ofNat_of_zero_le (Int.le_trans (by omega) n1)
    rw [c2V, c2L_yes ho, ho]
    clear ho
    have Hg := Lib.hid hg
    go_enter Try.func16, Try.ntmps16
    go_wp2_with fail
    refine (l1In_c _ _ _ _).mono ?_
    rintro e w1 ⟨rfl, rfl⟩
    go_wp2_with fail
    refine (prPairs_c _ N (by omega)).mono ?_
    rintro e w2 ⟨⟨v2, rfl, o2⟩, b2⟩
    obtain ⟨A, c, rfl⟩ := o2.shape
    go_wp2
    go_ret2
    exact ⟨rfl, b2⟩
set_option maxRecDepth 100000 in
set_option maxHeartbeats 400000 in
theorem spec_FirstTwoPrimes_c (w : World) (n : Int) :
    Calls Try.prog 14 #[.int .i64 n] w fun en w' => en = .returned (.tuple #[.int .i64 (f2P n), .int .i64 (f2Q n), .bool (f2Ok n)]) ∧ Below w.heap.size w w' := by
  cases hg : inB n 4 10000 with
  | false =>
    have ho : f2Ok n = false := f2Ok_no hg
    rw [(f2_no ho).1, (f2_no ho).2, ho]
    clear ho
    go_enter Try.func14, Try.ntmps14
    go_wp2_with fail
    refine (l1In_c _ _ _ _).mono ?_
    rintro e w1 ⟨rfl, rfl⟩
    go_wp2
    go_ret3
    exact ⟨rfl, (Below.refl _ _)⟩
  | true =>
    have hc2 : c2Ok n = true := hg
    obtain ⟨n1, n2⟩ := inB_true.1 hg
    obtain ⟨N, rfl⟩ := Int.eq_ofNat_of_zero_le (Int.le_trans (by omega) n1)
    obtain ⟨xs, hxs⟩ : ∃ xs, flF (ptB N) 2 (N / 2 + 1 - 2) = xs := ⟨_, rfl⟩
    have hcx : c2L (N : Int) = xs := by rw [c2L_yes hc2, hxs]
    have Hxs := Lib.hid hxs
    have hxm := fun x => flF_mem (p := ptB N) (a := 2) (k := N / 2 + 1 - 2) (x := x)
    rw [hxs] at hxm
    have Hxm := Lib.hid hxm
    clear hxs hxm hc2
    by_cases hpos : 0 < xs.length
    rotate_left
    · have ho : f2Ok (N : Int) = false := by rw [f2Ok, hcx]; exact decide_eq_false hpos
      rw [(f2_no ho).1, (f2_no ho).2, ho]
      clear ho hcx
      have h0 : xs = [] := List.eq_nil_of_length_eq_zero (by omega)
      subst h0
      clear hpos Hxm
      have Hg := Lib.hid hg
      go_enter Try.func14, Try.ntmps14
      go_wp2_with fail
      refine (l1In_c _ _ _ _).mono ?_
      rintro e w1 ⟨rfl, rfl⟩
      go_wp2_with fail
      refine (prPairs_c _ N (by omega)).mono ?_
      rw [Hxs.out]
      rintro e w2 ⟨⟨v2, rfl, o2⟩, b2⟩
      obtain ⟨A, c, rfl⟩ := o2.shape
      go_wp2
      go_ret3
      exact ⟨rfl, b2⟩
    have ho : f2Ok (N : Int) = true := by rw [f2Ok, hcx]; exact decide_eq_true hpos
    rw [(f2_yes ho).1, (f2_yes ho).2, ho, hcx]
    clear ho hcx
    obtain ⟨p, hp, p1, p2, _⟩ := (Hxm.out (ivL xs 0)).1 (by rw [ivL, List.getD_eq_getElem?_getD, List.getElem?_eq_getElem hpos]; exact List.getElem_mem hpos)
    have Hp := Lib.hid hp
    clear hp
    rw [Hp.out]
    have Hg := Lib.hid hg
    go_enter Try.func14, Try.ntmps14
    go_wp2_with fail
    refine (l1In_c _ _ _ _).mono ?_
    rintro e w1 ⟨rfl, rfl⟩
    go_wp2_with fail
    refine (prPairs_c _ N (by omega)).mono ?_
    rw [Hxs.out]
    rintro e w2 ⟨⟨v2, rfl, o2⟩, b2⟩
    obtain ⟨A, c, rfl⟩ := o2.shape
    obtain ⟨g, rfl, _, _, hc⟩ := o2.cell hpos
    rw [show xs.getD 0 0 = (p : Int) from Hp.out] at hc
    have hne : ((xs.length : Int) == 0) = false := beq_eq_false_iff_ne.2 (by omega)
    have hw : IntKind.i64.wrap ((N : Int) - (p : Int)) = (N : Int) - (p : Int) := IntWalk.i64_in _ (by omega)
    have h0 : (0 : Int) ≤ 0 := Int.le_refl _
    go_wp2_with fail
    go_quiet (fail)
    clear hw
    go_wp2
    go_ret3
    exact ⟨rfl, below_drewN b2 _⟩

set_option maxRecDepth 100000 in
set_option maxHeartbeats 400000 in
theorem impl_CountTwoPrimes_c (w : World) (n : Int) :
    Calls Try.prog 15 #[.int .i64 n] w fun en w' => en = .returned (.tuple #[.int .i64 (c2V n), .bool (c2Ok n)]) ∧ Below w.heap.size w w' := by
  cases hg : inB n 4 10000 with
  | false =>
    have ho : c2Ok n = false := hg
    rw [c2V_no ho, ho]
    clear ho
    go_enter Try.func15, Try.ntmps15
    go_wp2_with fail
    refine (isAskedForTwo_c _ _).mono ?_
    rintro e w1 ⟨rfl, rfl⟩
    go_wp2
    go_ret2
    exact ⟨rfl, (Below.refl _ _)⟩
  | true =>
    have ho : c2Ok n = true := hg
    obtain ⟨n1, n2⟩ := inB_true.1 hg
    obtain ⟨N, rfl⟩ := Int.eq_ofNat_of_zero_le (Int.le_trans (by omega) n1)
    rw [c2V, c2L_yes ho, ho]
    clear ho
    have Hg := Lib.hid hg
    go_enter Try.func15, Try.ntmps15
    go_wp2_with fail
    refine (isAskedForTwo_c _ _).mono ?_
    rintro e w1 ⟨rfl, rfl⟩
    go_wp2_with fail
    refine (lessOfTwoPrimes_c _ N (by omega)).mono ?_
    rintro e w2 ⟨⟨v2, rfl, o2⟩, b2⟩
    obtain ⟨A, c, rfl⟩ := o2.shape
    go_wp2
    go_ret2
    exact ⟨rfl, b2⟩
set_option maxRecDepth 100000 in
set_option maxHeartbeats 400000 in
theorem impl_FirstTwoPrimes_c (w : World) (n : Int) :
    Calls Try.prog 13 #[.int .i64 n] w fun en w' => en = .returned (.tuple #[.int .i64 (f2P n), .int .i64 (f2Q n), .bool (f2Ok n)]) ∧ Below w.heap.size w w' := by
  cases hg : inB n 4 10000 with
  | false =>
    have ho : f2Ok n = false := f2Ok_no hg
    rw [(f2_no ho).1, (f2_no ho).2, ho]
    clear ho
    go_enter Try.func13, Try.ntmps13
    go_wp2_with fail
    refine (isAskedForTwo_c _ _).mono ?_
    rintro e w1 ⟨rfl, rfl⟩
    go_wp2
    go_ret3
    exact ⟨rfl, (Below.refl _ _)⟩
  | true =>
    have hc2 : c2Ok n = true := hg
    obtain ⟨n1, n2⟩ := inB_true.1 hg
    obtain ⟨N, rfl⟩ := Int.eq_ofNat_of_zero_le (Int.le_trans (by omega) n1)
    obtain ⟨xs, hxs⟩ : ∃ xs, flF (ptB N) 2 (N / 2 + 1 - 2) = xs := ⟨_, rfl⟩
    have hcx : c2L (N : Int) = xs := by rw [c2L_yes hc2, hxs]
    have Hxs := Lib.hid hxs
    have hxm := fun x => flF_mem (p := ptB N) (a := 2) (k := N / 2 + 1 - 2) (x := x)
    rw [hxs] at hxm
    have Hxm := Lib.hid hxm
    clear hxs hxm hc2
    by_cases hpos : 0 < xs.length
    rotate_left
    · have ho : f2Ok (N : Int) = false := by rw [f2Ok, hcx]; exact decide_eq_false hpos
      rw [(f2_no ho).1, (f2_no ho).2, ho]
      clear ho hcx
      have h0 : xs = [] := List.eq_nil_of_length_eq_zero (by omega)
      subst h0
      clear hpos Hxm
      have Hg := Lib.hid hg
      go_enter Try.func13, Try.ntmps13
      go_wp2_with fail
      refine (isAskedForTwo_c _ _).mono ?_
      rintro e w1 ⟨rfl, rfl⟩
      go_wp2_with fail
      refine (lessOfTwoPrimes_c _ N (by omega)).mono ?_
      rw [Hxs.out]
      rintro e w2 ⟨⟨v2, rfl, o2⟩, b2⟩
      obtain ⟨A, c, rfl⟩ := o2.shape
      go_wp2
      go_ret3
      exact ⟨rfl, b2⟩
    have ho : f2Ok (N : Int) = true := by rw [f2Ok, hcx]; exact decide_eq_true hpos
    rw [(f2_yes ho).1, (f2_yes ho).2, ho, hcx]
    clear ho hcx
    obtain ⟨p, hp, p1, p2, _⟩ := (Hxm.out (ivL xs 0)).1 (by rw [ivL, List.getD_eq_getElem?_getD, List.getElem?_eq_getElem hpos]; exact List.getElem_mem hpos)
    have Hp := Lib.hid hp
    clear hp
    rw [Hp.out]
    have Hg := Lib.hid hg
    go_enter Try.func13, Try.ntmps13
    go_wp2_with fail
    refine (isAskedForTwo_c _ _).mono ?_
    rintro e w1 ⟨rfl, rfl⟩
    go_wp2_with fail
    refine (lessOfTwoPrimes_c _ N (by omega)).mono ?_
    rw [Hxs.out]
    rintro e w2 ⟨⟨v2, rfl, o2⟩, b2⟩
    obtain ⟨A, c, rfl⟩ := o2.shape
    obtain ⟨g, rfl, _, _, hc⟩ := o2.cell hpos
    rw [show xs.getD 0 0 = (p : Int) from Hp.out] at hc
    have hne : ((xs.length : Int) == 0) = false := beq_eq_false_iff_ne.2 (by omega)
    have hw : IntKind.i64.wrap ((N : Int) - (p : Int)) = (N : Int) - (p : Int) := IntWalk.i64_in _ (by omega)
    have h0 : (0 : Int) ≤ 0 := Int.le_refl _
    go_wp2_with fail
    go_quiet (fail)
    clear hw
    go_wp2
    go_ret3
    exact ⟨rfl, below_drewN b2 _⟩

end Go.Proofs.Ytmjjpgafecmljaa
