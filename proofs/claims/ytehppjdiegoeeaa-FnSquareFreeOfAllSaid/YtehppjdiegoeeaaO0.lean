import Derived.Test.YtehppjdiegoeeaaN0
import Derived.Test.YtehppjdiegoeeaaP2
namespace Go.Proofs.Ytehppjdiegoeeaa
open Go.RowKit
set_option linter.unusedVariables false
set_option linter.unusedSimpArgs false

theorem hasF_flF {p : Nat → Bool} {a k n : Nat} (h1 : a ≤ n) (h2 : n < a + k) : hasF (flF p a k) (n : Int) = p n := by
  rw [Bool.eq_iff_iff, hasF_mem, flF, List.mem_map]
  constructor
  · rintro ⟨i, hi, e⟩
    have := (List.mem_filter.1 hi).2
    rwa [show a + i = n by omega] at this
  · intro hp
    exact ⟨n - a, List.mem_filter.2 ⟨List.mem_range.2 (by omega), by rw [show a + (n - a) = n by omega]; exact hp⟩, by omega⟩


set_option maxHeartbeats 800000 in
theorem tSame_c (A B : Option Addr) (n m c d : Nat) (xs : List Int) (w : World) (hA : Il w A xs) (hB : Il w B xs) (hn : n = xs.length) (hm : m = xs.length) (hn1 : n ≤ 1048576) :
    Calls Try.prog 30 #[.slice A n c, .slice B m d] w fun en w' => en = .returned (.bool true) ∧ Below w.heap.size w w' := by
  have hnm : m = n := by rw [hn, hm]
  subst hnm
  have Hn := Lib.hid hn
  clear hn hm
  go_enter Try.func30, Try.ntmps30
  go_wp2
  go_loopw [13] (fun i wr => ∃ k : Nat, k ≤ m ∧ i = .int .i64 k ∧ Below w.heap.size w wr) (fun i _ => m - (intOf i).toNat)
  case atStart => exact ⟨0, Nat.zero_le _, rfl, Below.refl _ _⟩
  case round =>
    obtain ⟨k, hk, rfl, hbel⟩ := hrel
    by_cases hlt : k < m
    · have hlt1 : k < xs.length := by have := Hn.out; omega
      obtain ⟨b, off, rfl, hb, hr⟩ := hA (by omega)
      obtain ⟨b2, off2, rfl, hb2, hr2⟩ := hB (by omega)
      have hc0 := (hbel.cell (p := ⟨b, off + k, none⟩) hb).trans (hr k hlt1)
      have hd0 := (hbel.cell (p := ⟨b2, off2 + k, none⟩) hb2).trans (hr2 k hlt1)
      have hi1 : (k : Int) < (m : Int) := by omega
      have hne : (ivL xs k != ivL xs k) = false := by simp
      go_wp2_with fail
      go_quiet (fail)
      go_wp2
      go_roundw
      case rel => exact ⟨k + 1, by omega, by go_num, below_drewN hbel _⟩
      case measure => simp [intOf]; omega
    · go_wp2
      go_ret
      exact ⟨rfl, hbel⟩
set_option maxRecDepth 100000 in
set_option maxHeartbeats 400000 in
theorem tHas_c (w : World) (A : Option Addr) (m c : Nat) (xs : List Int) (hA : Il w A xs) (hm : m = xs.length) (hn : m ≤ 1048576) (s : Int) :
    Calls Try.prog 32 #[.slice A m c, .int .i64 s] w fun en w' => en = .returned (.bool (hasF xs s)) ∧ w = w' := by
  have Hm := Lib.hid hm
  clear hm
  go_enter Try.func32, Try.ntmps32
  go_wp2
  go_loop [9] (fun i => ∃ k : Nat, k ≤ m ∧ i = .int .i64 k ∧ (∀ j, j < k → ivL xs j ≠ s)) (fun i => m - (intOf i).toNat)
  case atStart => exact ⟨0, Nat.zero_le _, rfl, by omega⟩
  case round =>
    obtain ⟨k, hk, rfl, hall⟩ := hrel
    have Hall := Lib.hid hall
    clear hall
    by_cases hlt : k < m
    · have hlt1 : k < xs.length := by have := Hm.out; omega
      obtain ⟨b, off, rfl, hb, hr⟩ := hA (by omega)
      have hc0 := hr k hlt1
      clear hlt1
      obtain ⟨x, hx⟩ : ∃ x, ivL xs k = x := ⟨_, rfl⟩
      rw [hx] at hc0
      by_cases hs : x = s
      · have Hy := Lib.hid (hasF_yes (s := s) (by have := Hm.out; omega) (hx.trans hs))
        have hsb : (x == s) = true := beq_iff_eq.2 hs
        clear hs hx
        go_wp2
        go_ret
        exact ⟨by rw [Hy.out]; rfl, rfl⟩
      · have Hall2 := Lib.hid (fun j (hj : j < k + 1) => show ivL xs j ≠ s by
          rcases Nat.lt_succ_iff_lt_or_eq.1 hj with h | h
          · exact Hall.out j h
          · rw [h, hx]; exact hs)
        have hsb : (x == s) = false := beq_eq_false_iff_ne.2 hs
        clear hs hx
        go_wp2
        go_round
        case rel => exact ⟨k + 1, by omega, by go_num, Hall2.out⟩
        case measure => simp [intOf]; omega
    · have Hy := Lib.hid (hasF_no (xs := xs) (s := s) fun j hj => Hall.out j (by have := Hm.out; omega))
      go_wp2
      go_ret
      exact ⟨by rw [Hy.out]; rfl, rfl⟩
set_option maxHeartbeats 800000 in
theorem tCommon_c (a b : Int) (w : World) (h1 : 0 ≤ a) (h2 : a ≤ 1000000000000) (h3 : 0 ≤ b) (h4 : b ≤ 1000000000000) :
    Calls Try.prog 19 #[.int .i64 a, .int .i64 b] w fun en w' => en = .returned (.int .i64 (gcdF a b)) ∧ ∃ n, w' = w.drewN n := by
  go_enter Try.func19, Try.ntmps19
  go_wp2
  go_loopw [0, 1] (fun u v wr => ∃ x y : Int, 0 ≤ x ∧ x ≤ 1000000000000 ∧ 0 ≤ y ∧ y ≤ 1000000000000 ∧ u = .int .i64 x ∧ v = .int .i64 y ∧ gcdF x y = gcdF a b ∧ ∃ n, wr = w.drewN n) (fun _ v _ => (intOf v).toNat)
  case atStart => exact ⟨a, b, h1, h2, h3, h4, rfl, rfl, rfl, 0, rfl⟩
  case round =>
    obtain ⟨x, y, x0, x1, y0, y1, rfl, rfl, hg, n, rfl⟩ := hrel
    have Hg := Lib.hid hg
    clear hg
    by_cases hy : 0 < y
    · have hm0 := Int.emod_nonneg x (b := y) (by omega)
      have hm1 := Int.emod_lt_of_pos x hy
      have hy0 : (y == 0) = false := by simp; omega
      go_wp2_with fail
      first
      | go_quiet (fail)
        go_wp2
        go_roundw
        case rel => exact ⟨y, x % y, by omega, by omega, by omega, by omega, rfl, rfl, by rw [gcdF_step x y x0 hy]; exact Hg.out, n + nq, by rw [World.drewN_drewN]⟩
        case measure => simp only [intOf]; omega
      | refine ⟨⟨y, x % y, by omega, by omega, by omega, by omega, rfl, rfl, by rw [gcdF_step x y x0 hy]; exact Hg.out, n, rfl⟩, ?_⟩
        simp only [intOf]; omega
    · have hy0 : y = 0 := by omega
      subst hy0
      go_wp2
      go_ret
      exact ⟨by rw [← Hg.out, gcdF_zero x x0]; rfl, n, rfl⟩

end Go.Proofs.Ytehppjdiegoeeaa
