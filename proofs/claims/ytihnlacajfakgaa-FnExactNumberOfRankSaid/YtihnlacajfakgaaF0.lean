import Derived.Test.YtihnlacajfakgaaE6
import Derived.Test.YtihnlacajfakgaaE4
namespace Go.Proofs.Ytihnlacajfakgaa
open Go.RowKit
set_option linter.unusedVariables false
set_option linter.unusedSimpArgs false

/-- The place, counted from 1, before the steps, of what has place p behind them. -/
def rankI : List Int → Int → Int
  | [], p => p
  | x :: xs, p => rankI xs p + (rankI xs p - 1) / (x - 1)
theorem rank_step {xs : List Int} {k : Nat} (hk : k < xs.length) (p : Int) : rankI (xs.drop k) p = rankI (xs.drop (k + 1)) p + (rankI (xs.drop (k + 1)) p - 1) / (ivL xs k - 1) := by
  rw [drop_ivL hk, rankI]
theorem rank_end {xs : List Int} (p : Int) : rankI (xs.drop xs.length) p = p := by rw [List.drop_length]; rfl
theorem rank_bound (xs : List Int) (h : goodS xs = true) (p : Int) (h1 : 1 ≤ p) : ∀ (d k : Nat), xs.length = k + d → 1 ≤ rankI (xs.drop k) p ∧ rankI (xs.drop k) p ≤ p * (2 ^ d : Nat)
  | 0, k, hd => by
    rw [List.drop_eq_nil_iff.2 (by omega), rankI]
    exact ⟨h1, by simp⟩
  | d + 1, k, hd => by
    obtain ⟨a, b⟩ := rank_bound xs h p h1 d (k + 1) (by omega)
    obtain ⟨x1, x2⟩ := goodS_at h (k := k) (by omega)
    have hs := rise_step (rankI (xs.drop (k + 1)) p) (ivL xs k - 1) a (by omega)
    rw [rank_step (by omega)]
    have e : p * ((2 ^ (d + 1) : Nat) : Int) = p * ((2 ^ d : Nat) : Int) * 2 := by rw [Nat.pow_succ, Int.natCast_mul, ← Int.mul_assoc]; rfl
    rw [e]
    omega
theorem rank_le {xs : List Int} (h : goodS xs = true) {p : Int} (h1 : 1 ≤ p) (h2 : p ≤ 1001) {k : Nat} (hk : k ≤ xs.length) : 1 ≤ rankI (xs.drop k) p ∧ rankI (xs.drop k) p ≤ 4100096 := by
  obtain ⟨a, b⟩ := rank_bound xs h p h1 (xs.length - k) k (by omega)
  have hl := goodS_len h
  have hp : (2 ^ (xs.length - k) : Nat) ≤ 2 ^ 12 := Nat.pow_le_pow_right (by omega) (by omega)
  have hp2 : ((2 ^ (xs.length - k) : Nat) : Int) ≤ 4096 := by omega
  have h3 : p * ((2 ^ (xs.length - k) : Nat) : Int) ≤ 1001 * 4096 := Int.mul_le_mul h2 hp2 (Int.natCast_nonneg _) (by omega)
  omega

def numOk (xs : List Int) (r : Int) : Bool := goodS xs && inB r 0 1000
def numV (xs : List Int) (r : Int) : Int := if numOk xs r then rankI xs (r + 1) else 0
theorem numV_no {xs : List Int} {r : Int} (h : numOk xs r = false) : numV xs r = 0 := by rw [numV, h]; rfl
theorem numV_yes {xs : List Int} {r : Int} (h : numOk xs r = true) : numV xs r = rankI xs (r + 1) := by rw [numV, h]; rfl

set_option maxRecDepth 100000 in
set_option maxHeartbeats 400000 in
theorem spec_NumberOfRank_c (w : World) (A : Option Addr) (m c : Nat) (xs : List Int) (hA : Il w A xs) (hm : m = xs.length) (hn : m ≤ 1048576) (r : Int) :
    Calls Try.prog 30 #[.slice A m c, .int .i64 r] w fun en w' => en = .returned (.tuple #[.int .i64 (numV xs r), .bool (numOk xs r)]) ∧ Below w.heap.size w w' := by
  have Hm := Lib.hid hm
  clear hm
  cases hg : goodS xs with
  | false =>
    have ho : numOk xs r = false := by simp [numOk, *]
    rw [numV_no ho, ho]
    clear ho
    go_enter Try.func30, Try.ntmps30
    go_wp2_with fail
    refine (cnGood_c _ _ _ _ xs hA Hm.out hn).mono ?_
    rintro e w1 ⟨rfl, rfl⟩
    go_wp2
    go_ret2
    exact ⟨rfl, (Below.refl _ _)⟩
  | true =>
    cases hk : inB r 0 1000 with
    | false =>
      have ho : numOk xs r = false := by simp [numOk, *]
      rw [numV_no ho, ho]
      clear ho
      go_enter Try.func30, Try.ntmps30
      go_wp2_with fail
      refine (cnGood_c _ _ _ _ xs hA Hm.out hn).mono ?_
      rintro e w1 ⟨rfl, rfl⟩
      go_wp2_with fail
      refine (l1In_c _ _ _ _).mono ?_
      rintro e w2 ⟨rfl, rfl⟩
      go_wp2
      go_ret2
      exact ⟨rfl, (Below.refl _ _)⟩
    | true =>
      have ho : numOk xs r = true := by simp [numOk, *]
      rw [numV_yes ho, ho]
      clear ho
      obtain ⟨n1, n2⟩ := inB_true.1 hk
      have Hg := Lib.hid hg
      have Hk := Lib.hid hk
      go_enter Try.func30, Try.ntmps30
      go_wp2_with fail
      refine (cnGood_c _ _ _ _ xs hA Hm.out hn).mono ?_
      rintro e w1 ⟨rfl, rfl⟩
      go_wp2_with fail
      refine (l1In_c _ _ _ _).mono ?_
      rintro e w2 ⟨rfl, rfl⟩
      go_wp2
      go_loop [6, 7] (fun q i => ∃ (k : Nat), k ≤ m ∧ i = .int .i64 ((k : Int) - 1) ∧ q = .int .i64 (rankI (xs.drop k) (r + 1))) (fun _ i => (intOf i + 1).toNat)
      case atStart => exact ⟨m, Nat.le_refl _, rfl, by rw [Hm.out, rank_end]⟩
      case round =>
        obtain ⟨k, hk, rfl, rfl⟩ := hrel
        cases k with
        | zero =>
          go_wp2
          go_ret2
          exact ⟨rfl, (Below.refl _ _)⟩
        | succ k =>
          have hlt1 : k < xs.length := by have := Hm.out; omega
          obtain ⟨b, off, rfl, hb, hr⟩ := hA (by omega)
          have hc0 := hr k hlt1
          obtain ⟨x1, x2⟩ := goodS_at Hg.out hlt1
          obtain ⟨q1, q2⟩ := rank_le Hg.out (p := r + 1) (by omega) (by omega) (k := k + 1) (by omega)
          obtain ⟨s1, s2⟩ := rise_step (rankI (xs.drop (k + 1)) (r + 1)) (ivL xs k - 1) q1 (by omega)
          have Hs := Lib.hid (rank_step hlt1 (r + 1))
          have hz : (ivL xs k - 1 == 0) = false := beq_eq_false_iff_ne.2 (by omega)
          have e1 : (((k + 1 : Nat) : Int) - 1) = (k : Int) := by omega
          have hkm : (k : Int) < (m : Int) := by omega
          go_wp2
          go_round
          case rel => exact ⟨k, by omega, by go_num, by rw [Hs.out]⟩
          case measure => simp [intOf]

end Go.Proofs.Ytihnlacajfakgaa
