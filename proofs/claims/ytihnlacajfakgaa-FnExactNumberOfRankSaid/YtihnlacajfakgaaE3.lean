import Derived.Test.YtihnlacajfakgaaE2
namespace Go.Proofs.Ytihnlacajfakgaa
open Go.RowKit
set_option linter.unusedVariables false
set_option linter.unusedSimpArgs false

theorem drop_ivL {xs : List Int} {k : Nat} (h : k < xs.length) : xs.drop k = ivL xs k :: xs.drop (k + 1) := by
  rw [List.drop_eq_getElem_cons h]
  simp [ivL, h]

/-- Through how many steps a number goes, and its place behind them (0 where one crosses it out). -/
def fallI : List Int → Int → Nat × Int
  | [], p => (0, p)
  | x :: xs, p => if p % x = 0 then (0, 0) else ((fallI xs (p - p / x)).1 + 1, (fallI xs (p - p / x)).2)
theorem fall_nil (p : Int) : fallI [] p = (0, p) := rfl
theorem fall_hit {xs : List Int} {k : Nat} {p : Int} (hk : k < xs.length) (h : p % ivL xs k = 0) : fallI (xs.drop k) p = (0, 0) := by
  rw [drop_ivL hk, fallI, if_pos h]
theorem fall_go {xs : List Int} {k : Nat} {p : Int} (hk : k < xs.length) (h : ¬ p % ivL xs k = 0) :
    fallI (xs.drop k) p = ((fallI (xs.drop (k + 1)) (p - p / ivL xs k)).1 + 1, (fallI (xs.drop (k + 1)) (p - p / ivL xs k)).2) := by
  rw [drop_ivL hk, fallI, if_neg h]
/-- Behind k steps. -/
def fallAt (xs : List Int) (n : Int) (k : Nat) (p : Int) : Prop := fallI xs n = ((fallI (xs.drop k) p).1 + k, (fallI (xs.drop k) p).2)
theorem fallAt_zero (xs : List Int) (n : Int) : fallAt xs n 0 n := by simp [fallAt]
theorem fallAt_hit {xs : List Int} {n p : Int} {k : Nat} (h : fallAt xs n k p) (hk : k < xs.length) (hp : p % ivL xs k = 0) : fallI xs n = (k, 0) := by
  rw [h, fall_hit hk hp]; simp
theorem fallAt_go {xs : List Int} {n p : Int} {k : Nat} (h : fallAt xs n k p) (hk : k < xs.length) (hp : ¬ p % ivL xs k = 0) : fallAt xs n (k + 1) (p - p / ivL xs k) := by
  rw [fallAt, h, fall_go hk hp]
  simp only [Prod.mk.injEq, and_true]
  omega
theorem fallAt_end {xs : List Int} {n p : Int} {k : Nat} (h : fallAt xs n k p) (hk : xs.length ≤ k) : fallI xs n = (k, p) := by
  rw [h, List.drop_eq_nil_iff.2 hk]; simp [fallI]
theorem fall_lt (p x : Int) (h1 : 1 ≤ p) (h2 : 2 ≤ x) : 1 ≤ p - p / x ∧ p - p / x ≤ p ∧ 0 ≤ p / x ∧ p / x ≤ p := by
  have a := Int.ediv_nonneg (a := p) (b := x) (by omega) (by omega)
  have b := Int.ediv_mul_le p (b := x) (by omega)
  have c : p / x * 2 ≤ p / x * x := Int.mul_le_mul_of_nonneg_left h2 a
  omega
theorem cnt_lt (p x : Int) (h1 : 0 ≤ p) (h2 : 2 ≤ x) : 0 ≤ p - p / x ∧ p - p / x ≤ p ∧ 0 ≤ p / x ∧ p / x ≤ p := by
  have a := Int.ediv_nonneg (a := p) (b := x) (by omega) (by omega)
  have b := Int.ediv_mul_le p (b := x) (by omega)
  have c : p / x * 2 ≤ p / x * x := Int.mul_le_mul_of_nonneg_left h2 a
  omega

def hitB (xs : List Int) (n : Int) : Bool := decide ((fallI xs n).1 < xs.length)
def fallA (xs : List Int) (n : Int) : Int := if hitB xs n then ((fallI xs n).1 : Int) else -1
def fallR (xs : List Int) (n : Int) : Int := if hitB xs n then 0 else (fallI xs n).2 - 1

/-- How many of so many numbers are left. -/
def cntI : List Int → Int → Int
  | [], p => p
  | x :: xs, p => cntI xs (p - p / x)
theorem cnt_go {xs : List Int} {k : Nat} {p : Int} (hk : k < xs.length) : cntI (xs.drop k) p = cntI (xs.drop (k + 1)) (p - p / ivL xs k) := by
  rw [drop_ivL hk, cntI]
theorem cnt_end {xs : List Int} {k : Nat} {p : Int} (hk : xs.length ≤ k) : cntI (xs.drop k) p = p := by
  rw [List.drop_eq_nil_iff.2 hk, cntI]

set_option maxRecDepth 100000 in
set_option maxHeartbeats 400000 in
theorem cnFall_c (w : World) (A : Option Addr) (m c : Nat) (xs : List Int) (hA : Il w A xs) (hm : m = xs.length) (hn : m ≤ 1048576) (hg : goodS xs = true) (n : Int) (h1 : 1 ≤ n) (h2 : n ≤ 10000) :
    Calls Try.prog 59 #[.slice A m c, .int .i64 n] w fun en w' => en = .returned (.tuple #[.int .i64 (fallA xs n), .int .i64 (fallR xs n)]) ∧ Below w.heap.size w w' := by
  have Hm := Lib.hid hm
  have Hg := Lib.hid hg
  clear hm hg
  go_enter Try.func59, Try.ntmps59
  go_wp2
  go_loop [1, 10] (fun q i => ∃ (k : Nat) (p : Int), k ≤ m ∧ i = .int .i64 k ∧ q = .int .i64 p ∧ 1 ≤ p ∧ p ≤ 10000 ∧ fallAt xs n k p) (fun _ i => m - (intOf i).toNat)
  case atStart => exact ⟨0, n, Nat.zero_le _, rfl, rfl, h1, h2, fallAt_zero _ _⟩
  case round =>
    obtain ⟨k, p, hk, rfl, rfl, p1, p2, hf⟩ := hrel
    have Hf := Lib.hid hf
    clear hf
    by_cases hlt : k < m
    · have hlt1 : k < xs.length := by have := Hm.out; omega
      obtain ⟨b, off, rfl, hb, hr⟩ := hA (by omega)
      have hc0 := hr k hlt1
      obtain ⟨x1, x2⟩ := goodS_at Hg.out hlt1
      obtain ⟨q1, q2, q3, q4⟩ := fall_lt p (ivL xs k) p1 x1
      have hx0 : (ivL xs k == 0) = false := by simp; omega
      by_cases hz : p % ivL xs k = 0
      · have hh := fallAt_hit Hf.out hlt1 hz
        have e1 : hitB xs n = true := by simp [hitB, hh, hlt1]
        have e2 : fallA xs n = (k : Int) := by simp [fallA, e1, hh]
        have e3 : fallR xs n = 0 := by simp [fallR, e1]
        have E2 := Lib.hid e2
        have E3 := Lib.hid e3
        clear hh e1 e2 e3
        go_wp2
        go_ret2
        exact ⟨by rw [E2.out, E3.out]; rfl, Below.refl _ _⟩
      · have Hz := Lib.hid hz
        clear hz
        have hzb : (p % ivL xs k == 0) = false := by have := Hz.out; simpa using this
        go_wp2
        go_round
        case rel => exact ⟨k + 1, p - p / ivL xs k, by omega, by go_num, rfl, by omega, by omega, fallAt_go Hf.out hlt1 Hz.out⟩
        case measure => simp [intOf]; omega
    · have hh := fallAt_end Hf.out (by have := Hm.out; omega : xs.length ≤ k)
      have e1 : hitB xs n = false := by have := Hm.out; simp [hitB, hh]; omega
      have e2 : fallA xs n = -1 := by simp [fallA, e1]
      have e3 : fallR xs n = p - 1 := by simp [fallR, e1, hh]
      have E2 := Lib.hid e2
      have E3 := Lib.hid e3
      clear hh e1 e2 e3
      go_wp2
      go_ret2
      exact ⟨by rw [E2.out, E3.out]; rfl, Below.refl _ _⟩

end Go.Proofs.Ytihnlacajfakgaa
