import Derived.Test.YtihnlacajfakgaaE5
namespace Go.Proofs.Ytihnlacajfakgaa
open Go.RowKit
set_option linter.unusedVariables false
set_option linter.unusedSimpArgs false

theorem fall_le : ∀ (xs : List Int) (p : Int), (fallI xs p).1 ≤ xs.length
  | [], p => Nat.le_refl _
  | x :: xs, p => by
    rw [fallI]
    split
    · exact Nat.zero_le _
    · exact Nat.succ_le_succ (fall_le xs _)
theorem hit_yes {xs : List Int} {n : Int} (h : hitB xs n = true) : (fallI xs n).1 < xs.length := of_decide_eq_true h
theorem hit_no {xs : List Int} {n : Int} (h : hitB xs n = false) : (fallI xs n).1 = xs.length := by
  have h1 := of_decide_eq_false h
  have h2 := fall_le xs n
  omega

theorem fall_bound_go (xs : List Int) (h : goodS xs = true) : ∀ (d k : Nat) (p : Int), xs.length = k + d → 1 ≤ p → p ≤ 10000 → (fallI (xs.drop k) p).1 = d → 1 ≤ (fallI (xs.drop k) p).2 ∧ (fallI (xs.drop k) p).2 ≤ 10000
  | 0, k, p, hd, h1, h2, _ => by
    rw [List.drop_eq_nil_iff.2 (by omega), fallI]
    exact ⟨h1, h2⟩
  | d + 1, k, p, hd, h1, h2, he => by
    have hk : k < xs.length := by omega
    obtain ⟨x1, x2⟩ := goodS_at h hk
    obtain ⟨q1, q2, _, _⟩ := fall_lt p (ivL xs k) h1 x1
    by_cases hz : p % ivL xs k = 0
    · rw [fall_hit hk hz] at he
      simp at he
    · rw [fall_go hk hz] at he ⊢
      exact fall_bound_go xs h d (k + 1) _ (by omega) q1 (by omega) (by simpa using he)
theorem fall_bound (xs : List Int) (n : Int) (h1 : 1 ≤ n) (h2 : n ≤ 10000) (h : goodS xs = true) (he : (fallI xs n).1 = xs.length) : 1 ≤ (fallI xs n).2 ∧ (fallI xs n).2 ≤ 10000 := by
  have := fall_bound_go xs h xs.length 0 n (by omega) h1 h2
  rw [List.drop_zero] at this
  exact this he

set_option maxRecDepth 100000 in
set_option maxHeartbeats 400000 in
theorem impl_StepOfFall_c (w : World) (A : Option Addr) (m c : Nat) (xs : List Int) (hA : Il w A xs) (hm : m = xs.length) (hn : m ≤ 1048576) (n : Int) :
    Calls Try.prog 27 #[.slice A m c, .int .i64 n] w fun en w' => en = .returned (.tuple #[.int .i64 (stepV xs n), .bool (stepOk xs n)]) ∧ Below w.heap.size w w' := by
  have Hm := Lib.hid hm
  clear hm
  cases hg : goodS xs with
  | false =>
    have ho : stepOk xs n = false := by simp [stepOk, okT, *]
    rw [stepV_no ho, ho]
    clear ho
    try (have hneg : ((fallI xs n).1 == m) = true := by rw [hit_no hh, Hm.out]; simp)
    try (have hneg2 : (((fallI xs n).1 : Int) == (m : Int)) = true := by rw [hit_no hh, Hm.out]; simp)
    go_enter Try.func27, Try.ntmps27
    go_wp2_with fail
    refine (isStepList_c _ _ _ _ xs hA Hm.out hn).mono ?_
    rintro e w1 ⟨rfl, rfl⟩
    go_wp2
    go_ret2
    exact ⟨rfl, (Below.refl _ _)⟩
  | true =>
    cases hk : inB n 1 10000 with
    | false =>
      have ho : stepOk xs n = false := by simp [stepOk, okT, *]
      rw [stepV_no ho, ho]
      clear ho
      try (have hneg : ((fallI xs n).1 == m) = true := by rw [hit_no hh, Hm.out]; simp)
      try (have hneg2 : (((fallI xs n).1 : Int) == (m : Int)) = true := by rw [hit_no hh, Hm.out]; simp)
      go_enter Try.func27, Try.ntmps27
      go_wp2_with fail
      refine (isStepList_c _ _ _ _ xs hA Hm.out hn).mono ?_
      rintro e w1 ⟨rfl, rfl⟩
      go_wp2_with fail
      refine (isTraced_c _ _).mono ?_
      rintro e w2 ⟨rfl, rfl⟩
      go_wp2
      go_ret2
      exact ⟨rfl, (Below.refl _ _)⟩
    | true =>
      cases hh : hitB xs n with
      | false =>
        have ho : stepOk xs n = false := by simp [stepOk, okT, *]
        rw [stepV_no ho, ho]
        clear ho
        try (have hneg : ((fallI xs n).1 == m) = true := by rw [hit_no hh, Hm.out]; simp)
        try (have hneg2 : (((fallI xs n).1 : Int) == (m : Int)) = true := by rw [hit_no hh, Hm.out]; simp)
        go_enter Try.func27, Try.ntmps27
        go_wp2_with fail
        refine (isStepList_c _ _ _ _ xs hA Hm.out hn).mono ?_
        rintro e w1 ⟨rfl, rfl⟩
        go_wp2_with fail
        refine (isTraced_c _ _).mono ?_
        rintro e w2 ⟨rfl, rfl⟩
        go_wp2_with fail
        refine (traceSteps_c _ _ _ _ xs hA Hm.out hn (Lib.hid hg).out _ (inB_true.1 hk).1 (inB_true.1 hk).2).mono ?_
        rintro e w3 ⟨rfl, b3⟩
        have hA_3 := hA.below b3
        go_wp2
        go_ret2
        exact ⟨rfl, b3⟩
      | true =>
        have ho : stepOk xs n = true := by simp [stepOk, okT, *]
        rw [stepV_yes ho, ho]
        clear ho
        have hneg : ((fallI xs n).1 == m) = false := by have := hit_yes hh; have := Hm.out; simp; omega
        have hneg2 : (((fallI xs n).1 : Int) == (m : Int)) = false := by have := hit_yes hh; have := Hm.out; simp; omega
        have Hg := Lib.hid hg
        have Hk := Lib.hid hk
        have Hh := Lib.hid hh
        go_enter Try.func27, Try.ntmps27
        go_wp2_with fail
        refine (isStepList_c _ _ _ _ xs hA Hm.out hn).mono ?_
        rintro e w1 ⟨rfl, rfl⟩
        go_wp2_with fail
        refine (isTraced_c _ _).mono ?_
        rintro e w2 ⟨rfl, rfl⟩
        go_wp2_with fail
        refine (traceSteps_c _ _ _ _ xs hA Hm.out hn (Lib.hid hg).out _ (inB_true.1 hk).1 (inB_true.1 hk).2).mono ?_
        rintro e w3 ⟨rfl, b3⟩
        have hA_3 := hA.below b3
        go_wp2
        go_ret2
        exact ⟨rfl, b3⟩

set_option maxRecDepth 100000 in
set_option maxHeartbeats 400000 in
theorem impl_RankBehind_c (w : World) (A : Option Addr) (m c : Nat) (xs : List Int) (hA : Il w A xs) (hm : m = xs.length) (hn : m ≤ 1048576) (n : Int) :
    Calls Try.prog 29 #[.slice A m c, .int .i64 n] w fun en w' => en = .returned (.tuple #[.int .i64 (behV xs n), .bool (behOk xs n)]) ∧ Below w.heap.size w w' := by
  have Hm := Lib.hid hm
  clear hm
  cases hg : goodS xs with
  | false =>
    have ho : behOk xs n = false := by first | (simp [behOk, okT, *]; done) | (simp [behOk, Decidable.not_not.1 hh]; done)
    rw [behV_no ho, ho]
    clear ho
    try (have hneg : (fallI xs n).1 < m := by have := hit_yes (Decidable.not_not.1 hh); have := Hm.out; omega)
    try clear hh
    go_enter Try.func29, Try.ntmps29
    go_wp2_with fail
    refine (isStepList_c _ _ _ _ xs hA Hm.out hn).mono ?_
    rintro e w1 ⟨rfl, rfl⟩
    go_wp2
    go_ret2
    exact ⟨rfl, (Below.refl _ _)⟩
  | true =>
    cases hk : inB n 1 10000 with
    | false =>
      have ho : behOk xs n = false := by first | (simp [behOk, okT, *]; done) | (simp [behOk, Decidable.not_not.1 hh]; done)
      rw [behV_no ho, ho]
      clear ho
      try (have hneg : (fallI xs n).1 < m := by have := hit_yes (Decidable.not_not.1 hh); have := Hm.out; omega)
      try clear hh
      go_enter Try.func29, Try.ntmps29
      go_wp2_with fail
      refine (isStepList_c _ _ _ _ xs hA Hm.out hn).mono ?_
      rintro e w1 ⟨rfl, rfl⟩
      go_wp2_with fail
      refine (isTraced_c _ _).mono ?_
      rintro e w2 ⟨rfl, rfl⟩
      go_wp2
      go_ret2
      exact ⟨rfl, (Below.refl _ _)⟩
    | true =>
      by_cases hh : ¬ hitB xs n = true
      rotate_left
      · skip
        have ho : behOk xs n = false := by first | (simp [behOk, okT, *]; done) | (simp [behOk, Decidable.not_not.1 hh]; done)
        rw [behV_no ho, ho]
        clear ho
        try (have hneg : (fallI xs n).1 < m := by have := hit_yes (Decidable.not_not.1 hh); have := Hm.out; omega)
        try clear hh
        go_enter Try.func29, Try.ntmps29
        go_wp2_with fail
        refine (isStepList_c _ _ _ _ xs hA Hm.out hn).mono ?_
        rintro e w1 ⟨rfl, rfl⟩
        go_wp2_with fail
        refine (isTraced_c _ _).mono ?_
        rintro e w2 ⟨rfl, rfl⟩
        go_wp2_with fail
        refine (traceSteps_c _ _ _ _ xs hA Hm.out hn (Lib.hid hg).out _ (inB_true.1 hk).1 (inB_true.1 hk).2).mono ?_
        rintro e w3 ⟨rfl, b3⟩
        have hA_3 := hA.below b3
        go_wp2
        go_ret2
        exact ⟨rfl, b3⟩
      · skip
        have hh' : hitB xs n = false := by simpa using hh
        have ho : behOk xs n = true := by simp [behOk, okT, *]
        rw [behV_yes ho, ho]
        clear ho
        have hneg : ¬ (fallI xs n).1 < m := by have := hit_no hh'; have := Hm.out; omega
        have hr1 : 1 ≤ (fallI xs n).2 ∧ (fallI xs n).2 ≤ 10000 := fall_bound xs n (inB_true.1 hk).1 (inB_true.1 hk).2 hg (hit_no hh')
        clear hh
        have Hg := Lib.hid hg
        have Hk := Lib.hid hk
        go_enter Try.func29, Try.ntmps29
        go_wp2_with fail
        refine (isStepList_c _ _ _ _ xs hA Hm.out hn).mono ?_
        rintro e w1 ⟨rfl, rfl⟩
        go_wp2_with fail
        refine (isTraced_c _ _).mono ?_
        rintro e w2 ⟨rfl, rfl⟩
        go_wp2_with fail
        refine (traceSteps_c _ _ _ _ xs hA Hm.out hn (Lib.hid hg).out _ (inB_true.1 hk).1 (inB_true.1 hk).2).mono ?_
        rintro e w3 ⟨rfl, b3⟩
        have hA_3 := hA.below b3
        go_wp2
        go_ret2
        exact ⟨rfl, b3⟩

def cntOk (xs : List Int) (n : Int) : Bool := goodS xs && inB n 0 400
def cntV (xs : List Int) (n : Int) : Int := if cntOk xs n then cntI xs n else 0
theorem cntV_no {xs : List Int} {n : Int} (h : cntOk xs n = false) : cntV xs n = 0 := by rw [cntV, h]; rfl
theorem cntV_yes {xs : List Int} {n : Int} (h : cntOk xs n = true) : cntV xs n = cntI xs n := by rw [cntV, h]; rfl
set_option maxRecDepth 100000 in
set_option maxHeartbeats 400000 in
theorem spec_CountByCounting_c (w : World) (A : Option Addr) (m c : Nat) (xs : List Int) (hA : Il w A xs) (hm : m = xs.length) (hn : m ≤ 1048576) (n : Int) :
    Calls Try.prog 32 #[.slice A m c, .int .i64 n] w fun en w' => en = .returned (.tuple #[.int .i64 (cntV xs n), .bool (cntOk xs n)]) ∧ Below w.heap.size w w' := by
  have Hm := Lib.hid hm
  clear hm
  cases hg : goodS xs with
  | false =>
    have ho : cntOk xs n = false := by simp [cntOk, *]
    rw [cntV_no ho, ho]
    clear ho
    go_enter Try.func32, Try.ntmps32
    go_wp2_with fail
    refine (cnGood_c _ _ _ _ xs hA Hm.out hn).mono ?_
    rintro e w1 ⟨rfl, rfl⟩
    go_wp2
    go_ret2
    exact ⟨rfl, (Below.refl _ _)⟩
  | true =>
    cases hk : inB n 0 400 with
    | false =>
      have ho : cntOk xs n = false := by simp [cntOk, *]
      rw [cntV_no ho, ho]
      clear ho
      go_enter Try.func32, Try.ntmps32
      go_wp2_with fail
      refine (cnGood_c _ _ _ _ xs hA Hm.out hn).mono ?_
      rintro e w1 ⟨rfl, rfl⟩
      go_wp2_with fail
      refine (cnMost_c _ _).mono ?_
      rintro e w2 ⟨rfl, rfl⟩
      go_wp2
      go_ret2
      exact ⟨rfl, (Below.refl _ _)⟩
    | true =>
      have ho : cntOk xs n = true := by simp [cntOk, *]
      rw [cntV_yes ho, ho]
      clear ho
      obtain ⟨n1, n2⟩ := inB_true.1 hk
      have Hg := Lib.hid hg
      have Hk := Lib.hid hk
      go_enter Try.func32, Try.ntmps32
      go_wp2_with fail
      refine (cnGood_c _ _ _ _ xs hA Hm.out hn).mono ?_
      rintro e w1 ⟨rfl, rfl⟩
      go_wp2_with fail
      refine (cnMost_c _ _).mono ?_
      rintro e w2 ⟨rfl, rfl⟩
      go_wp2
      go_loop [6, 20] (fun q i => ∃ (k : Nat) (p : Int), k ≤ m ∧ i = .int .i64 k ∧ q = .int .i64 p ∧ 0 ≤ p ∧ p ≤ 400 ∧ cntI xs n = cntI (xs.drop k) p) (fun _ i => m - (intOf i).toNat)
      case atStart => exact ⟨0, n, Nat.zero_le _, rfl, rfl, n1, n2, rfl⟩
      case round =>
        obtain ⟨k, p, hk, rfl, rfl, p1, p2, hf⟩ := hrel
        have Hf := Lib.hid hf
        clear hf
        by_cases hlt : k < m
        · have hlt1 : k < xs.length := by have := Hm.out; omega
          obtain ⟨b, off, rfl, hb, hr⟩ := hA (by omega)
          have hc0 := hr k hlt1
          obtain ⟨x1, x2⟩ := goodS_at Hg.out hlt1
          obtain ⟨q1, q2, q3, q4⟩ := cnt_lt p (ivL xs k) p1 x1
          have hx0 : (ivL xs k == 0) = false := by simp; omega
          go_wp2
          go_round
          case rel => exact ⟨k + 1, p - p / ivL xs k, by omega, by go_num, rfl, by omega, by omega, by rw [Hf.out, cnt_go hlt1]⟩
          case measure => simp [intOf]; omega
        · have Hh := Lib.hid (Hf.out.trans (cnt_end (p := p) (by have := Hm.out; omega : xs.length ≤ k)))
          go_wp2
          go_ret2
          exact ⟨by rw [Hh.out]; rfl, (Below.refl _ _)⟩

set_option maxRecDepth 100000 in
set_option maxHeartbeats 400000 in
theorem impl_CountByCounting_c (w : World) (A : Option Addr) (m c : Nat) (xs : List Int) (hA : Il w A xs) (hm : m = xs.length) (hn : m ≤ 1048576) (n : Int) :
    Calls Try.prog 33 #[.slice A m c, .int .i64 n] w fun en w' => en = .returned (.tuple #[.int .i64 (cntV xs n), .bool (cntOk xs n)]) ∧ Below w.heap.size w w' := by
  have Hm := Lib.hid hm
  clear hm
  cases hg : goodS xs with
  | false =>
    have ho : cntOk xs n = false := by simp [cntOk, *]
    rw [cntV_no ho, ho]
    clear ho
    go_enter Try.func33, Try.ntmps33
    go_wp2_with fail
    refine (isStepList_c _ _ _ _ xs hA Hm.out hn).mono ?_
    rintro e w1 ⟨rfl, rfl⟩
    go_wp2
    go_ret2
    exact ⟨rfl, (Below.refl _ _)⟩
  | true =>
    cases hk : inB n 0 400 with
    | false =>
      have ho : cntOk xs n = false := by simp [cntOk, *]
      rw [cntV_no ho, ho]
      clear ho
      go_enter Try.func33, Try.ntmps33
      go_wp2_with fail
      refine (isStepList_c _ _ _ _ xs hA Hm.out hn).mono ?_
      rintro e w1 ⟨rfl, rfl⟩
      go_wp2_with fail
      refine (isMostAnew_c _ _).mono ?_
      rintro e w2 ⟨rfl, rfl⟩
      go_wp2
      go_ret2
      exact ⟨rfl, (Below.refl _ _)⟩
    | true =>
      have ho : cntOk xs n = true := by simp [cntOk, *]
      rw [cntV_yes ho, ho]
      clear ho
      obtain ⟨n1, n2⟩ := inB_true.1 hk
      have Hg := Lib.hid hg
      have Hk := Lib.hid hk
      go_enter Try.func33, Try.ntmps33
      go_wp2_with fail
      refine (isStepList_c _ _ _ _ xs hA Hm.out hn).mono ?_
      rintro e w1 ⟨rfl, rfl⟩
      go_wp2_with fail
      refine (isMostAnew_c _ _).mono ?_
      rintro e w2 ⟨rfl, rfl⟩
      go_wp2
      go_loop [6, 20] (fun q i => ∃ (k : Nat) (p : Int), k ≤ m ∧ i = .int .i64 k ∧ q = .int .i64 p ∧ 0 ≤ p ∧ p ≤ 400 ∧ cntI xs n = cntI (xs.drop k) p) (fun _ i => m - (intOf i).toNat)
      case atStart => exact ⟨0, n, Nat.zero_le _, rfl, rfl, n1, n2, rfl⟩
      case round =>
        obtain ⟨k, p, hk, rfl, rfl, p1, p2, hf⟩ := hrel
        have Hf := Lib.hid hf
        clear hf
        by_cases hlt : k < m
        · have hlt1 : k < xs.length := by have := Hm.out; omega
          obtain ⟨b, off, rfl, hb, hr⟩ := hA (by omega)
          have hc0 := hr k hlt1
          obtain ⟨x1, x2⟩ := goodS_at Hg.out hlt1
          obtain ⟨q1, q2, q3, q4⟩ := cnt_lt p (ivL xs k) p1 x1
          have hx0 : (ivL xs k == 0) = false := by simp; omega
          go_wp2
          go_round
          case rel => exact ⟨k + 1, p - p / ivL xs k, by omega, by go_num, rfl, by omega, by omega, by rw [Hf.out, cnt_go hlt1]⟩
          case measure => simp [intOf]; omega
        · have Hh := Lib.hid (Hf.out.trans (cnt_end (p := p) (by have := Hm.out; omega : xs.length ≤ k)))
          go_wp2
          go_ret2
          exact ⟨by rw [Hh.out]; rfl, (Below.refl _ _)⟩

end Go.Proofs.Ytihnlacajfakgaa
