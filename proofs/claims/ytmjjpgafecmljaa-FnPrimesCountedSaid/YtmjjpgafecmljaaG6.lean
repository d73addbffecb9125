import Derived.Test.YtmjjpgafecmljaaG5
import Derived.Test.YtmjjpgafecmljaaP0
namespace Go.Proofs.Ytmjjpgafecmljaa
open Go.RowKit
set_option linter.unusedVariables false
set_option linter.unusedSimpArgs false

/-- A list of numbers filtered by a test on whole numbers. -/
theorem flF_filterZ {p q : Nat → Bool} {z : Int → Bool} {a k : Nat} (h : ∀ n : Nat, a ≤ n → n < a + k → z (n : Int) = q n) : (flF p a k).filter z = flF (fun n => p n && q n) a k := by
  rw [← flF_filter]
  apply List.filter_congr
  intro x hx
  obtain ⟨n, rfl, h1, h2, _⟩ := flF_mem.1 hx
  rw [h n h1 h2, Int.toNat_natCast]
theorem filter_take_yes {xs : List Int} {z : Int → Bool} {k : Nat} (hk : k < xs.length) (h : z (ivL xs k) = true) : (xs.take (k + 1)).filter z = (xs.take k).filter z ++ [ivL xs k] := by
  have e : ivL xs k = xs[k] := by simp [ivL, hk]
  rw [List.take_succ_eq_append_getElem hk, List.filter_append, ← e]
  simp [h]
theorem filter_take_no {xs : List Int} {z : Int → Bool} {k : Nat} (hk : k < xs.length) (h : z (ivL xs k) = false) : (xs.take (k + 1)).filter z = (xs.take k).filter z := by
  have e : ivL xs k = xs[k] := by simp [ivL, hk]
  rw [List.take_succ_eq_append_getElem hk, List.filter_append, ← e]
  simp [h]
theorem filter_take_len (xs : List Int) (z : Int → Bool) (k : Nat) : ((xs.take k).filter z).length ≤ xs.length :=
  Nat.le_trans (List.length_filter_le _ _) (List.length_take_le' _ _)
theorem filter_take_all {xs : List Int} {z : Int → Bool} {k : Nat} (h : ¬ k < xs.length) : (xs.take k).filter z = xs.filter z := by
  rw [List.take_of_length_le (by omega)]
theorem prB_at (lo hi k : Nat) (hk : k < (prB lo hi).length) : ∃ n : Nat, ivL (prB lo hi) k = (n : Int) ∧ lo ≤ n ∧ n ≤ hi ∧ primeB n = true := by
  have e : ivL (prB lo hi) k = (prB lo hi)[k] := by simp [ivL, hk]
  obtain ⟨n, h1, h2, h3, h4⟩ := flF_mem.1 (List.getElem_mem hk : (prB lo hi)[k] ∈ flF primeB lo (hi + 1 - lo))
  exact ⟨n, by rw [e, ← h1], h2, by omega, h4⟩

theorem isMostI_c (n : Int) (w : World) :
    Calls Try.prog 114 #[.int .i64 n] w fun e w' => e = .returned (.bool (inB n 0 600)) ∧ w = w' := isMost_c n w

/-- Twins: p and p + 2 are primes. -/
def twB (n : Nat) : Bool := primeB n && primeB (n + 2)
def twOk (m : Int) : Bool := inB m 0 600
def twA (m : Int) : List Int := if twOk m then flF twB 2 (m.toNat + 1 - 2) else []
theorem twA_no {m : Int} (h : twOk m = false) : twA m = [] := by rw [twA, h]; rfl
theorem twA_yes {m : Nat} (h : twOk (m : Int) = true) : twA (m : Int) = flF twB 2 (m + 1 - 2) := by rw [twA, h, Int.toNat_natCast]; rfl
theorem twA_len (m : Int) : (twA m).length ≤ 1048576 := by
  cases h : twOk m with
  | false => rw [twA_no h]; exact Nat.zero_le _
  | true =>
    rw [twA, h, if_pos rfl]
    have := flF_len twB 2 (m.toNat + 1 - 2)
    have := inB_true.1 h
    omega
def twZ (x : Int) : Bool := primeB (x + 2).toNat
theorem tw_filter (m : Nat) : (prB 2 m).filter twZ = flF twB 2 (m + 1 - 2) := flF_filterZ (q := fun n => primeB (n + 2)) fun n _ _ => rfl

set_option maxRecDepth 100000 in
set_option maxHeartbeats 800000 in
theorem spec_TwinsUpTo_c (w : World) (m : Int) :
    Calls Try.prog 20 #[.int .i64 m] w fun en w' => (∃ v, en = .returned (.tuple #[v, .bool (twOk m)]) ∧ OwnI w' w.heap.size v (twA m)) ∧ Below w.heap.size w w' := by
  cases hg : inB m 0 600 with
  | false =>
    have ho : twOk m = false := hg
    rw [twA_no ho, ho]
    clear ho
    go_enter Try.func20, Try.ntmps20
    go_wp2_with fail
    refine (l1In_c _ _ _ _).mono ?_
    rintro e w1 ⟨rfl, rfl⟩
    go_wp2
    go_ret2
    exact ⟨⟨_, rfl, OwnI.nil _ _⟩, (Below.refl _ _)⟩
  | true =>
    have ho : twOk m = true := hg
    obtain ⟨n1, n2⟩ := inB_true.1 hg
    obtain ⟨M, rfl⟩ := Int.eq_ofNat_of_zero_le n1
    rw [twA_yes ho, ho]
    clear ho
    obtain ⟨L, hL⟩ : ∃ L, M + 1 - 2 = L := ⟨_, rfl⟩
    rw [hL]
    have HL := Lib.hid hL
    clear hL
    have Hg := Lib.hid hg
    go_enter Try.func20, Try.ntmps20
    go_wp2_with fail
    refine (l1In_c _ _ _ _).mono ?_
    rintro e w1 ⟨rfl, rfl⟩
    go_wp2
    go_loopw [4, 5] (fun v i wr => ∃ k : Nat, k ≤ L ∧ i = .int .i64 ((k : Int) + 2) ∧ OwnI wr w.heap.size v (flF twB 2 k) ∧ Below w.heap.size w wr) (fun _ i _ => 603 - (intOf i).toNat)
    case atStart => exact ⟨0, Nat.zero_le _, rfl, World.ownsRow_nil _ _ _ _, Below.refl _ _⟩
    case round =>
      rename_i v
      obtain ⟨k, hk, rfl, hown, hbel⟩ := hrel
      have Hown := Lib.hid hown
      clear hown
      have hs := hbel.size
      have E2 := Lib.hid (show ((k : Int) + 2).toNat = 2 + k by omega)
      have E4 := Lib.hid (show ((k : Int) + 2 + 2).toNat = 2 + k + 2 by omega)
      have hul := flF_len twB 2 k
      have Hl := Lib.hid (show (flF twB 2 k).length ≤ 1048575 by have := HL.out; omega)
      clear hul
      by_cases hlt : (k : Int) + 2 ≤ (M : Int)
      · cases hp : primeB (2 + k) with
        | true =>
          cases hq : primeB (2 + k + 2) with
          | true =>
            have Hy := Lib.hid (flF_yes (p := twB) (a := 2) (k := k) (by rw [twB, hp, hq]; rfl))
            go_wp2_with fail
            refine (prIs_c _ _ (by omega)).mono ?_
            rw [E2.out, hp]
            rintro e w1 ⟨rfl, rfl⟩
            go_wp2_with fail
            refine (prIs_c _ _ (by omega)).mono ?_
            rw [E4.out, hq]
            rintro e w1 ⟨rfl, rfl⟩
            go_wp2_with (at_builtin; refine wp_app_int _ rfl _ _ rfl w.heap.size _ _ rfl Hown.out _ rfl (by have := Hl.out; omega) (by omega) ?_; intro v' w2 hown2 b2)
            go_roundw
            case rel => exact ⟨k + 1, by have := HL.out; omega, by simp; omega, by rw [Hy.out, Nat.add_comm 2 k]; exact hown2, hbel.trans b2⟩
            case measure => simp [intOf]; omega
          | false =>
            have Hy := Lib.hid (flF_no (p := twB) (a := 2) (k := k) (by rw [twB, hq, Bool.and_false]))
            go_wp2_with fail
            refine (prIs_c _ _ (by omega)).mono ?_
            rw [E2.out, hp]
            rintro e w1 ⟨rfl, rfl⟩
            go_wp2_with fail
            refine (prIs_c _ _ (by omega)).mono ?_
            rw [E4.out, hq]
            rintro e w1 ⟨rfl, rfl⟩
            go_wp2
            go_roundw
            case rel => exact ⟨k + 1, by have := HL.out; omega, by simp; omega, by rw [Hy.out]; exact Hown.out, hbel⟩
            case measure => simp [intOf]; omega
        | false =>
          have Hy := Lib.hid (flF_no (p := twB) (a := 2) (k := k) (by rw [twB, hp]; rfl))
          go_wp2_with fail
          refine (prIs_c _ _ (by omega)).mono ?_
          rw [E2.out, hp]
          rintro e w1 ⟨rfl, rfl⟩
          go_wp2
          go_roundw
          case rel => exact ⟨k + 1, by have := HL.out; omega, by simp; omega, by rw [Hy.out]; exact Hown.out, hbel⟩
          case measure => simp [intOf]; omega
      · have Hk := Lib.hid (show k = L by have := HL.out; omega)
        go_wp2
        go_ret2
        exact ⟨⟨_, rfl, by rw [← Hk.out]; exact Hown.out⟩, hbel⟩

set_option maxRecDepth 100000 in
set_option maxHeartbeats 800000 in
theorem impl_TwinsUpTo_c (w : World) (m : Int) :
    Calls Try.prog 19 #[.int .i64 m] w fun en w' => (∃ v, en = .returned (.tuple #[v, .bool (twOk m)]) ∧ OwnI w' w.heap.size v (twA m)) ∧ Below w.heap.size w w' := by
  cases hg : inB m 0 600 with
  | false =>
    have ho : twOk m = false := hg
    rw [twA_no ho, ho]
    clear ho
    go_enter Try.func19, Try.ntmps19
    go_wp2_with fail
    refine (isMostI_c _ _).mono ?_
    rintro e w1 ⟨rfl, rfl⟩
    go_wp2
    go_ret2
    exact ⟨⟨_, rfl, OwnI.nil _ _⟩, (Below.refl _ _)⟩
  | true =>
    have ho : twOk m = true := hg
    obtain ⟨n1, n2⟩ := inB_true.1 hg
    obtain ⟨M, rfl⟩ := Int.eq_ofNat_of_zero_le n1
    rw [twA_yes ho, ho, ← tw_filter]
    clear ho
    have hPl := prB_len 2 M
    obtain ⟨xs, hxs⟩ : ∃ xs, prB 2 M = xs := ⟨_, rfl⟩
    have hat := prB_at 2 M
    rw [hxs] at hat hPl ⊢
    have Hat := Lib.hid hat
    have Hxs := Lib.hid hxs
    clear hat hxs
    have Hg := Lib.hid hg
    go_enter Try.func19, Try.ntmps19
    go_wp2_with fail
    refine (isMostI_c _ _).mono ?_
    rintro e w1 ⟨rfl, rfl⟩
    go_wp2_with fail
    refine (primesBetween_i _ 2 _ (by omega) (by omega) n1 (by omega) (by omega)).mono ?_
    rintro e w2 ⟨⟨v2, rfl, o2⟩, b2⟩
    have o3 : OwnI w2 w.heap.size v2 (prB 2 M) := o2
    rw [Hxs.out] at o3
    clear o2
    have hs2 := b2.size
    obtain ⟨A, c, rfl⟩ := o3.shape
    go_wp2_with fail
    go_loopw [4, 13] (fun v i wr => ∃ k : Nat, k ≤ xs.length ∧ i = .int .i64 (k : Int) ∧ OwnI wr w2.heap.size v ((xs.take k).filter twZ) ∧ Below w2.heap.size w2 wr) (fun _ i _ => xs.length - (intOf i).toNat)
    case atStart => exact ⟨0, Nat.zero_le _, rfl, World.ownsRow_nil _ _ _ _, Below.refl _ _⟩
    case round =>
      rename_i v
      obtain ⟨k, hk, rfl, hown, hbel⟩ := hrel
      have Hown := Lib.hid hown
      clear hown
      have hs := hbel.size
      have hul := filter_take_len xs twZ k
      have Hl := Lib.hid (show ((xs.take k).filter twZ).length ≤ 1048575 by omega)
      clear hul
      by_cases hlt : k < xs.length
      · obtain ⟨g, rfl, _, hg2, hc⟩ := o3.cell hlt
        obtain ⟨n, hn, n3, n4, _⟩ := Hat.out k hlt
        have hc0 := (hbel.cell (p := ⟨g, k, none⟩) hg2).trans hc
        rw [show xs.getD k 0 = (n : Int) from hn] at hc0
        clear hc
        cases hq : twZ (n : Int) with
        | true =>
          have Hy := Lib.hid (filter_take_yes hlt (z := twZ) (by rw [hn]; exact hq))
          rw [hn] at Hy
          clear hn
          have Hq := Lib.hid (show primeB ((n : Int) + 2).toNat = true from hq)
          clear hq
          go_wp2_with fail
          refine (isPrime_c _ _ (by omega)).mono ?_
          rw [Hq.out]
          rintro e w3 ⟨rfl, rfl⟩
          go_wp2_with (at_builtin; refine wp_app_int _ rfl _ _ rfl w2.heap.size _ _ rfl Hown.out _ rfl (by have := Hl.out; omega) hs ?_; intro v' w4 hown4 b4)
          go_roundw
          case rel => exact ⟨k + 1, by omega, by go_num, by rw [Hy.out]; exact hown4, hbel.trans b4⟩
          case measure => simp [intOf]; omega
        | false =>
          have Hy := Lib.hid (filter_take_no hlt (z := twZ) (by rw [hn]; exact hq))
          clear hn
          have Hq := Lib.hid (show primeB ((n : Int) + 2).toNat = false from hq)
          clear hq
          go_wp2_with fail
          refine (isPrime_c _ _ (by omega)).mono ?_
          rw [Hq.out]
          rintro e w3 ⟨rfl, rfl⟩
          go_wp2
          go_roundw
          case rel => exact ⟨k + 1, by omega, by go_num, by rw [Hy.out]; exact Hown.out, hbel⟩
          case measure => simp [intOf]; omega
      · have Hk := Lib.hid (filter_take_all (z := twZ) hlt)
        go_wp2
        go_ret2
        exact ⟨⟨_, rfl, by rw [← Hk.out]; exact OwnI.mono Hown.out hs2⟩, b2.trans (hbel.mono hs2)⟩

end Go.Proofs.Ytmjjpgafecmljaa
