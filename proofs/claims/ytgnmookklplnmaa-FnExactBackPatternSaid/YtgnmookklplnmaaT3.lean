import Derived.Test.YtgnmookklplnmaaT2
namespace Go.Proofs.Ytgnmookklplnmaa
open Go.RowKit
set_option linter.unusedVariables false
set_option linter.unusedSimpArgs false

theorem goodP_small {xs : List Int} (h : goodP xs = true) : ∀ k, k < xs.length → 0 ≤ ivL xs k ∧ ivL xs k ≤ 1000000 := fun k hk => by
  have := goodP_at h hk
  omega
def roO (xs : List Int) (p : Int) : Bool := goodP xs && reB p
def roV (xs : List Int) (p : Int) : List Int := if roO xs p then rsA xs p.toNat else []
theorem roV_no {xs : List Int} {p : Int} (h : roO xs p = false) : roV xs p = [] := by rw [roV, h]; rfl
theorem roV_yes {xs : List Int} {p : Nat} (h : roO xs (p : Int) = true) : roV xs (p : Int) = rsA xs p := by rw [roV, h, Int.toNat_natCast]; rfl
theorem roV_len (xs : List Int) (p : Int) : (roV xs p).length ≤ 13 := by
  cases h : roO xs p with
  | false => rw [roV_no h]; simp
  | true =>
    have h2 := h
    rw [roO, Bool.and_eq_true] at h2
    obtain ⟨k, hk, rfl⟩ := reB_iff.1 h2.2
    rw [roV_yes h]
    have a := rsA_len xs (rpF k)
    have b := rpF_all k hk
    omega
def opV (xs : List Int) : Bool := goodP xs && (clX xs 0 == 0)
theorem opV_no {xs : List Int} (h : goodP xs = false) : opV xs = false := by rw [opV, h]; rfl
theorem opV_yes {xs : List Int} (h : goodP xs = true) : opV xs = (clX xs 0 == 0) := by rw [opV, h]; rfl
def fcO (xs : List Int) : Bool := goodP xs && decide (¬ clX xs 0 = 0)
def fcV (xs : List Int) : Int := if goodP xs then (clX xs 0 : Int) else 0
theorem fcV_yes {xs : List Int} (h : goodP xs = true) : fcV xs = (clX xs 0 : Int) := by rw [fcV, h]; rfl
theorem fcV_no {xs : List Int} (h : fcO xs = false) : fcV xs = 0 := by
  rw [fcV]
  cases hg : goodP xs with
  | false => rfl
  | true =>
    rw [fcO, hg, Bool.true_and] at h
    have := Decidable.not_not.1 (of_decide_eq_false h)
    rw [this]
    rfl

set_option maxRecDepth 100000 in
theorem spec_IsPattern_c (w : World) (A : Option Addr) (m c : Nat) (xs : List Int) (hA : Il w A xs) (hm : m = xs.length) (hn : m ≤ 1048576) :
    Calls Try.prog 19 #[.slice A m c] w fun en w' => en = .returned (.bool (goodP xs)) ∧ Below w.heap.size w w' := by
  have Hm := Lib.hid hm
  clear hm
  go_enter Try.func19, Try.ntmps19
  go_wp2_with fail
  refine (reGood_c _ _ _ _ xs hA Hm.out hn).mono ?_
  rintro e w1 ⟨rfl, b1⟩
  go_wp2
  go_ret
  exact ⟨rfl, b1⟩

set_option maxRecDepth 100000 in
set_option maxHeartbeats 800000 in
theorem spec_RestsOf_c (w : World) (A : Option Addr) (m c : Nat) (xs : List Int) (hA : Il w A xs) (hm : m = xs.length) (hn : m ≤ 1048576) (p : Int) :
    Calls Try.prog 23 #[.slice A m c, .int .i64 p] w fun en w' => (∃ v, en = .returned (.tuple #[v, .bool (roO xs p)]) ∧ OwnI w' w.heap.size v (roV xs p)) ∧ Below w.heap.size w w' := by
  have Hm := Lib.hid hm
  clear hm
  cases hg : goodP xs with
  | false =>
    have ho : roO xs p = false := by simp [roO, *]
    rw [roV_no ho, ho]
    clear ho
    go_enter Try.func23, Try.ntmps23
    go_wp2_with fail
    refine (reGood_c _ _ _ _ xs hA Hm.out hn).mono ?_
    rintro e w1 ⟨rfl, b1⟩
    have hA_1 := hA.below b1
    go_wp2
    go_ret2
    exact ⟨⟨_, rfl, OwnI.nil _ _⟩, b1⟩
  | true =>
    cases hk : reB p with
    | false =>
      have ho : roO xs p = false := by simp [roO, *]
      rw [roV_no ho, ho]
      clear ho
      go_enter Try.func23, Try.ntmps23
      go_wp2_with fail
      refine (reGood_c _ _ _ _ xs hA Hm.out hn).mono ?_
      rintro e w1 ⟨rfl, b1⟩
      have hA_1 := hA.below b1
      go_wp2_with fail
      refine (reIs_c _ _).mono ?_
      rintro e w2 ⟨rfl, rfl⟩
      go_wp2
      go_ret2
      exact ⟨⟨_, rfl, OwnI.nil _ _⟩, b1⟩
    | true =>
      have ho : roO xs p = true := by simp [roO, *]
      obtain ⟨q, hq, rfl⟩ := reB_iff.1 hk
      rw [roV_yes ho, ho]
      clear ho
      obtain ⟨p2, p13⟩ := rpF_all q hq
      have Hx := Lib.hid (goodP_small hg)
      have Hg := Lib.hid hg
      have Hk := Lib.hid hk
      go_enter Try.func23, Try.ntmps23
      go_wp2_with fail
      refine (reGood_c _ _ _ _ xs hA Hm.out hn).mono ?_
      rintro e w1 ⟨rfl, b1⟩
      have hA_1 := hA.below b1
      go_wp2_with fail
      refine (reIs_c _ _).mono ?_
      rintro e w2 ⟨rfl, rfl⟩
      go_wp2_with fail
      refine (reRests_c _ _ _ _ xs hA_1 Hm.out hn Hx.out _ p2 p13).mono ?_
      rintro e w3 ⟨⟨v3, rfl, o3⟩, b3⟩
      have hA_3 := hA_1.below b3
      have bb3 := b1.trans (b3.mono b1.size)
      go_wp2
      go_ret2
      exact ⟨⟨_, rfl, OwnI.mono o3 (b1).size⟩, bb3⟩

set_option maxRecDepth 100000 in
set_option maxHeartbeats 800000 in
theorem spec_IsOpen_c (w : World) (A : Option Addr) (m c : Nat) (xs : List Int) (hA : Il w A xs) (hm : m = xs.length) (hn : m ≤ 1048576) :
    Calls Try.prog 27 #[.slice A m c] w fun en w' => en = .returned (.tuple #[.bool (opV xs), .bool (goodP xs)]) ∧ Below w.heap.size w w' := by
  have Hm := Lib.hid hm
  clear hm
  cases hg : goodP xs with
  | false =>
    rw [opV_no hg]
    go_enter Try.func27, Try.ntmps27
    go_wp2_with fail
    refine (reGood_c _ _ _ _ xs hA Hm.out hn).mono ?_
    rintro e w1 ⟨rfl, b1⟩
    have hA_1 := hA.below b1
    go_wp2
    go_ret2
    exact ⟨rfl, b1⟩
  | true =>
    rw [opV_yes hg]
    have Hx := Lib.hid (goodP_small hg)
    obtain ⟨C, hC⟩ : ∃ C, clX xs 0 = C := ⟨_, rfl⟩
    have HC := Lib.hid hC
    rw [hC]
    clear hC
    obtain ⟨T, hT⟩ : ∃ T, (C == 0) = T := ⟨_, rfl⟩
    rw [hT]
    have hT2 : ((C : Int) == 0) = T := by rw [← hT]; cases C <;> rfl
    clear hT
    have Hg := Lib.hid hg
    go_enter Try.func27, Try.ntmps27
    go_wp2_with fail
    refine (reGood_c _ _ _ _ xs hA Hm.out hn).mono ?_
    rintro e w1 ⟨rfl, b1⟩
    have hA_1 := hA.below b1
    go_wp2_with fail
    refine (reClosing_c _ _ _ _ xs hA_1 Hm.out hn Hx.out).mono ?_
    rw [HC.out]
    rintro e w3 ⟨rfl, b3⟩
    go_wp2
    go_ret2
    exact ⟨rfl, (b1).trans (b3.mono (b1).size)⟩

set_option maxRecDepth 100000 in
set_option maxHeartbeats 800000 in
theorem spec_FirstClosing_c (w : World) (A : Option Addr) (m c : Nat) (xs : List Int) (hA : Il w A xs) (hm : m = xs.length) (hn : m ≤ 1048576) :
    Calls Try.prog 29 #[.slice A m c] w fun en w' => en = .returned (.tuple #[.int .i64 (fcV xs), .bool (fcO xs)]) ∧ Below w.heap.size w w' := by
  have Hm := Lib.hid hm
  clear hm
  cases hg : goodP xs with
  | false =>
    have ho : fcO xs = false := by first | (simp [fcO, hg]; done) | (rw [fcO, decide_eq_false hz, Bool.and_false])
    rw [fcV_no ho, ho]
    try (have hz0 : (((clX xs 0 : Nat) : Int) == 0) = true := by rw [Decidable.not_not.1 hz]; rfl)
    clear ho
    try clear hz
    go_enter Try.func29, Try.ntmps29
    go_wp2_with fail
    refine (reGood_c _ _ _ _ xs hA Hm.out hn).mono ?_
    rintro e w1 ⟨rfl, b1⟩
    have hA_1 := hA.below b1
    go_wp2
    go_ret2
    exact ⟨rfl, b1⟩
  | true =>
    by_cases hz : ¬ clX xs 0 = 0
    rotate_left
    · skip
      have ho : fcO xs = false := by first | (simp [fcO, hg]; done) | (rw [fcO, decide_eq_false hz, Bool.and_false])
      rw [fcV_no ho, ho]
      try (have hz0 : (((clX xs 0 : Nat) : Int) == 0) = true := by rw [Decidable.not_not.1 hz]; rfl)
      clear ho
      try clear hz
      go_enter Try.func29, Try.ntmps29
      go_wp2_with fail
      refine (reGood_c _ _ _ _ xs hA Hm.out hn).mono ?_
      rintro e w1 ⟨rfl, b1⟩
      have hA_1 := hA.below b1
      go_wp2_with fail
      refine (reClosing_c _ _ _ _ xs hA_1 Hm.out hn (goodP_small (Lib.hid hg).out)).mono ?_
      rintro e w2 ⟨rfl, b2⟩
      have hA_2 := hA_1.below b2
      have bb2 := b1.trans (b2.mono b1.size)
      go_wp2
      go_ret2
      exact ⟨rfl, bb2⟩
    · skip
      have ho : fcO xs = true := by simp [fcO, *]
      rw [fcV_yes hg, ho]
      have hz0 : (((clX xs 0 : Nat) : Int) == 0) = false := beq_eq_false_iff_ne.2 (by omega)
      clear ho
      have Hg := Lib.hid hg
      go_enter Try.func29, Try.ntmps29
      go_wp2_with fail
      refine (reGood_c _ _ _ _ xs hA Hm.out hn).mono ?_
      rintro e w1 ⟨rfl, b1⟩
      have hA_1 := hA.below b1
      go_wp2_with fail
      refine (reClosing_c _ _ _ _ xs hA_1 Hm.out hn (goodP_small (Lib.hid hg).out)).mono ?_
      rintro e w2 ⟨rfl, b2⟩
      have hA_2 := hA_1.below b2
      have bb2 := b1.trans (b2.mono b1.size)
      go_wp2_with fail
      refine (reClosing_c _ _ _ _ xs hA_2 Hm.out hn (goodP_small Hg.out)).mono ?_
      rintro e w3 ⟨rfl, b3⟩
      have hA_3 := hA_2.below b3
      have bb3 := bb2.trans (b3.mono bb2.size)
      go_wp2
      go_ret2
      exact ⟨rfl, bb3⟩

end Go.Proofs.Ytgnmookklplnmaa
